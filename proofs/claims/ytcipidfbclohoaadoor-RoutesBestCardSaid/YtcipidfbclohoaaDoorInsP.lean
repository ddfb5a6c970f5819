/- What is taken instead: the numbers that Instead finds, and what holds of them. -/
import Derived.Test.YtcipidfbclohoaaDoorTabF
namespace Go.Proofs.YtcipidfbclohoaaDoor
open Go.RowKit

theorem sum_setD {l : List Int} {j : Nat} (h : j < l.length) (x : Int) : (l.set j x).sum = l.sum - l.getD j 0 + x := by
  induction l generalizing j with
  | nil => simp at h
  | cons a r ih =>
    cases j with
    | zero => simp; omega
    | succ j =>
      have := ih (j := j) (by simpa using h)
      simp only [List.set_cons_succ, List.sum_cons, List.getD_cons_succ]
      rw [this]; omega
theorem getD_set {l : List Int} {j : Nat} (h : j < l.length) (x : Int) (k : Nat) : (l.set j x).getD k 0 = if k = j then x else l.getD k 0 := by
  by_cases e : k = j
  · subst e
    rw [if_pos rfl, List.getD_eq_getElem?_getD, List.getElem?_set_self h]; rfl
  · rw [if_neg e, List.getD_eq_getElem?_getD, List.getElem?_set_ne (fun h => e h.symm), ← List.getD_eq_getElem?_getD]
theorem getD_at {l : List Int} {j : Nat} (h : j < l.length) : l[j]? = some (l.getD j 0) := by
  rw [List.getElem?_eq_getElem h]; simp [List.getD, h]

def takM (left p st so : Int) : Int := if left * p / 100 ≤ st - so then left * p / 100 else st - so
def stpM (S : List Int) (left p : Int) (i j : Nat) (s : List Int × List Int) : List Int × List Int :=
  (s.1.set j (s.1.getD j 0 + takM left p (S.getD j 0) (s.1.getD j 0)), s.2.set i (s.2.getD i 0 - takM left p (S.getD j 0) (s.1.getD j 0)))
def rowM (S row : List Int) (left : Int) (i : Nat) (s : List Int × List Int) : Nat → List Int × List Int
  | 0 => s
  | j + 1 => stpM S left (row.getD j 0) i j (rowM S row left i s j)
def insM (R : List (List Int)) (S : List Int) (s : List Int × List Int) : Nat → List Int × List Int
  | 0 => s
  | i + 1 => rowM S (R.getD i []) ((insM R S s i).2.getD i 0) i (insM R S s i) (R.getD i []).length
def sold0 (W S : List Int) : List Int := (List.range W.length).map fun i => if W.getD i 0 ≤ S.getD i 0 then W.getD i 0 else S.getD i 0
def lost0 (W S : List Int) : List Int := (List.range W.length).map fun i => W.getD i 0 - if W.getD i 0 ≤ S.getD i 0 then W.getD i 0 else S.getD i 0

/-- What holds of the numbers at each time. -/
def InsI (W S : List Int) (s : List Int × List Int) : Prop :=
  s.1.length = W.length ∧ s.2.length = W.length ∧ (∀ k, k < W.length → (if W.getD k 0 ≤ S.getD k 0 then W.getD k 0 else S.getD k 0) ≤ s.1.getD k 0 ∧ s.1.getD k 0 ≤ S.getD k 0) ∧
    (∀ k, k < W.length → 0 ≤ s.2.getD k 0 ∧ s.2.getD k 0 ≤ 1000000) ∧ s.1.sum + s.2.sum = W.sum

theorem takM_rng {left p st so : Int} (h0 : 0 ≤ left) (hp : 0 ≤ p) (hs : so ≤ st) : (0 ≤ takM left p st so ∧ takM left p st so ≤ st - so) ∧ 100 * takM left p st so ≤ left * p := by
  have h : 0 ≤ left * p := Int.mul_nonneg h0 hp
  unfold takM
  generalize left * p = q at *
  split <;> omega

theorem InsI.step {W S : List Int} {s : List Int × List Int} (h : InsI W S s) {i j : Nat} (hi : i < W.length) (hj : j < W.length) {left p P : Int} (h0 : 0 ≤ left) (hp : 0 ≤ p) (hP : P + p ≤ 100)
    (hl : left * (100 - P) ≤ 100 * s.2.getD i 0) : InsI W S (stpM S left p i j s) ∧ left * (100 - (P + p)) ≤ 100 * (stpM S left p i j s).2.getD i 0 := by
  obtain ⟨a1, a2, a3, a4, a5⟩ := h
  obtain ⟨⟨k0, k1⟩, k2⟩ := takM_rng (st := S.getD j 0) h0 hp (a3 j hj).2
  unfold stpM
  generalize takM left p (S.getD j 0) (s.1.getD j 0) = k at *
  have m1 : left * (100 - (P + p)) = left * (100 - P) - left * p := by rw [show (100 : Int) - (P + p) = (100 - P) - p from by omega, Int.mul_sub]
  have m0 : 0 ≤ left * (100 - (P + p)) := Int.mul_nonneg h0 (by omega)
  have g1 := fun k' => getD_set (l := s.1) (j := j) (by omega) (s.1.getD j 0 + k) k'
  have g2 := fun k' => getD_set (l := s.2) (j := i) (by omega) (s.2.getD i 0 - k) k'
  refine ⟨⟨by simp [a1], by simp [a2], fun k' hk => ?_, fun k' hk => ?_, ?_⟩, ?_⟩
  · rw [g1]
    by_cases e : k' = j
    · subst e
      rw [if_pos rfl]
      have := a3 k' hk
      omega
    · rw [if_neg e]; exact a3 k' hk
  · rw [g2]
    by_cases e : k' = i
    · subst e
      rw [if_pos rfl]
      have := a4 k' hk
      omega
    · rw [if_neg e]; exact a4 k' hk
  · rw [sum_setD (by omega), sum_setD (by omega)]; omega
  · rw [g2, if_pos rfl]; omega

theorem take_sum_le {l : List Int} (h : ∀ x ∈ l, 0 ≤ x) (j : Nat) : (l.take j).sum ≤ l.sum := by
  have e : (l.take j).sum + (l.drop j).sum = l.sum := by rw [← List.sum_append, List.take_append_drop]
  have : 0 ≤ (l.drop j).sum := by
    have h2 : ∀ x ∈ l.drop j, 0 ≤ x := fun x hx => h x (List.mem_of_mem_drop hx)
    clear e
    generalize l.drop j = r at *
    induction r with
    | nil => simp
    | cons a r ih =>
      have h3 := ih (fun x hx => h2 x (by simp [hx]))
      have h4 := h2 a (by simp)
      simp; omega
  omega

theorem InsI.rows {W S row : List Int} {s : List Int × List Int} (h : InsI W S s) {i : Nat} (hi : i < W.length) {left : Int} (h0 : 0 ≤ left) (hle : left ≤ s.2.getD i 0) (hr : row.length = W.length) (hp : ∀ x ∈ row, 0 ≤ x) (hs : row.sum ≤ 100) :
    ∀ j, j ≤ W.length → InsI W S (rowM S row left i s j) ∧ left * (100 - (row.take j).sum) ≤ 100 * (rowM S row left i s j).2.getD i 0 := by
  intro j
  induction j with
  | zero => exact fun _ => ⟨h, by show left * (100 - 0) ≤ 100 * s.2.getD i 0; omega⟩
  | succ j ih =>
    intro hj
    obtain ⟨h1, h2⟩ := ih (by omega)
    have hx := getD_at (l := row) (j := j) (by omega)
    have ht := sum_take hx
    have hx0 := hp _ (List.mem_of_getElem? hx)
    have hle2 := take_sum_le hp (j + 1)
    rw [ht]
    rw [ht] at hle2
    exact h1.step hi (by omega) h0 hx0 (by omega) h2

theorem insM_inv {R : List (List Int)} {W S : List Int} {s : List Int × List Int} (h : InsI W S s) (hN : R.length = W.length) (hF : tabF R = 0) : ∀ i, i ≤ W.length → InsI W S (insM R S s i) := by
  obtain ⟨_, hrow⟩ := tabF_ok hF
  intro i
  induction i with
  | zero => exact fun _ => h
  | succ i ih =>
    intro hi
    have h1 := ih (by omega)
    have hl : R[i]? = some (R.getD i []) := by rw [List.getElem?_eq_getElem (by omega)]; simp [List.getD, show i < R.length from by omega]
    obtain ⟨r1, r2, _, r4⟩ := hrow i _ hl
    have hb := h1.2.2.2.1 i (by omega)
    have := (h1.rows (by omega) hb.1 (Int.le_refl _) (by omega) (fun x hx => (r2 x hx).1) r4 (R.getD i []).length (by omega)).1
    exact this

theorem ins0 {W S : List Int} (hS : S.length = W.length) (hW : allB W 0 1000000 = true) (hS2 : allB S 0 1000000 = true) : InsI W S (sold0 W S, lost0 W S) := by
  have w1 := allB_ok hW
  have s1 := allB_ok hS2
  have e1 : ∀ k, k < W.length → (sold0 W S).getD k 0 = if W.getD k 0 ≤ S.getD k 0 then W.getD k 0 else S.getD k 0 := by
    intro k hk; simp [sold0, hk]
  have e2 : ∀ k, k < W.length → (lost0 W S).getD k 0 = W.getD k 0 - if W.getD k 0 ≤ S.getD k 0 then W.getD k 0 else S.getD k 0 := by
    intro k hk; simp [lost0, hk]
  refine ⟨by simp [sold0], by simp [lost0], fun k hk => ?_, fun k hk => ?_, ?_⟩
  · show _ ≤ (sold0 W S).getD k 0 ∧ _
    rw [e1 k hk]
    refine ⟨Int.le_refl _, ?_⟩
    split <;> omega
  · show _ ≤ (lost0 W S).getD k 0 ∧ _
    rw [e2 k hk]
    have := w1 _ (List.mem_of_getElem? (getD_at hk))
    have := s1 _ (List.mem_of_getElem? (getD_at (l := S) (j := k) (by omega)))
    split <;> omega
  · have hsum : ∀ n, n ≤ W.length → ((List.range n).map fun i => if W.getD i 0 ≤ S.getD i 0 then W.getD i 0 else S.getD i 0).sum + ((List.range n).map fun i => W.getD i 0 - if W.getD i 0 ≤ S.getD i 0 then W.getD i 0 else S.getD i 0).sum = (W.take n).sum := by
      intro n
      induction n with
      | zero => simp
      | succ n ih =>
        intro hn
        have h1 := ih (by omega)
        rw [List.range_succ, List.map_append, List.map_append, List.sum_append, List.sum_append, sum_take (getD_at (l := W) (j := n) (by omega))]
        simp only [List.map_cons, List.map_nil, List.sum_cons, List.sum_nil]
        omega
    have := hsum W.length (Nat.le_refl _)
    rw [List.take_of_length_le (Nat.le_refl _)] at this
    exact this

/-- What is wrong with a table, what is wanted, and what is there. -/
def insF (R : List (List Int)) (W S : List Int) : Int := if tabF R ≠ 0 then tabF R else if W.length ≠ R.length then 3 else if S.length ≠ R.length then 3 else if allB W 0 1000000 = false then 1 else if allB S 0 1000000 = false then 1 else 0
theorem insF_ok {R : List (List Int)} {W S : List Int} (h : insF R W S = 0) : tabF R = 0 ∧ W.length = R.length ∧ S.length = R.length ∧ allB W 0 1000000 = true ∧ allB S 0 1000000 = true := by
  unfold insF at h
  by_cases h1 : tabF R ≠ 0
  · rw [if_pos h1] at h; exact absurd h h1
  · rw [if_neg h1] at h
    by_cases h2 : W.length ≠ R.length
    · rw [if_pos h2] at h; omega
    · rw [if_neg h2] at h
      by_cases h3 : S.length ≠ R.length
      · rw [if_pos h3] at h; omega
      · rw [if_neg h3] at h
        by_cases h4 : allB W 0 1000000 = false
        · rw [if_pos h4] at h; omega
        · rw [if_neg h4] at h
          by_cases h5 : allB S 0 1000000 = false
          · rw [if_pos h5] at h; omega
          · exact ⟨by omega, by omega, by omega, by simpa using h4, by simpa using h5⟩
theorem ins_all {R : List (List Int)} {W S : List Int} (h : insF R W S = 0) : ∀ i, i ≤ W.length → InsI W S (insM R S (sold0 W S, lost0 W S) i) := by
  obtain ⟨h1, h2, h3, h4, h5⟩ := insF_ok h
  exact insM_inv (ins0 (by omega) h4 h5) (by omega) h1

/-- What is still there. -/
def thrM (S so : List Int) : List Int := (List.range S.length).map fun k => S.getD k 0 - so.getD k 0
theorem thrM_len (S so : List Int) : (thrM S so).length = S.length := by simp [thrM]
theorem thrM_at {S so : List Int} {k : Nat} (h : k < S.length) : (thrM S so).getD k 0 = S.getD k 0 - so.getD k 0 := by simp [thrM, h]
theorem thrM_nil (S : List Int) : thrM S [] = S := by
  apply List.ext_getElem?
  intro k
  by_cases h : k < S.length
  · rw [getD_at (by rw [thrM_len]; exact h), getD_at h, thrM_at h]; simp
  · rw [List.getElem?_eq_none (by rw [thrM_len]; omega), List.getElem?_eq_none (by omega)]
theorem thrM_set {S so : List Int} {j : Nat} (h : j < so.length) (hj : j < S.length) (x : Int) : thrM S (so.set j x) = (thrM S so).set j (S.getD j 0 - x) := by
  apply List.ext_getElem?
  intro k
  by_cases hk : k < S.length
  · rw [getD_at (by rw [thrM_len]; exact hk), getD_at (by rw [List.length_set, thrM_len]; exact hk), thrM_at hk, getD_set h, getD_set (by rw [thrM_len]; exact hj)]
    by_cases e : k = j
    · rw [if_pos e, if_pos e, e]
    · rw [if_neg e, if_neg e, thrM_at hk]
  · rw [List.getElem?_eq_none (by rw [thrM_len]; omega), List.getElem?_eq_none (by rw [List.length_set, thrM_len]; omega)]
theorem thrM_snoc {S so : List Int} (hj : so.length < S.length) (x : Int) : thrM S (so ++ [x]) = (thrM S so).set so.length (S.getD so.length 0 - x) := by
  apply List.ext_getElem?
  intro k
  by_cases hk : k < S.length
  · rw [getD_at (by rw [thrM_len]; exact hk), getD_at (by rw [List.length_set, thrM_len]; exact hk), thrM_at hk, getD_set (by rw [thrM_len]; exact hj)]
    by_cases e : k = so.length
    · subst e; rw [if_pos rfl]; simp
    · rw [if_neg e, thrM_at hk]
      have : (so ++ [x]).getD k 0 = so.getD k 0 := by
        by_cases h1 : k < so.length
        · rw [List.getD_eq_getElem?_getD, List.getElem?_append_left h1, ← List.getD_eq_getElem?_getD]
        · rw [List.getD_eq_getElem?_getD, List.getElem?_eq_none (by simp; omega), List.getD_eq_getElem?_getD, List.getElem?_eq_none (by omega)]
      rw [this]
  · rw [List.getElem?_eq_none (by rw [thrM_len]; omega), List.getElem?_eq_none (by rw [List.length_set, thrM_len]; omega)]

end Go.Proofs.YtcipidfbclohoaaDoor
