/- Versions of layouts as lists: what their check says, the layout on a day, how long a product stays. -/
import Derived.Test.YtcaeochiippdgaaDoorSq
import Derived.Test.YtcaeochiippdgaaDoorKey
namespace Go.Proofs.YtcaeochiippdgaaDoor
open Go.RowKit

/-- A version: from which day on, and its layout. -/
structure Ver where
  f : Int
  ks : List ByteArray
deriving DecidableEq
instance : Inhabited Ver := ⟨⟨0, []⟩⟩

/-- Empty or a key. -/
def wdB (s : ByteArray) : Bool := s.toList.isEmpty || keyB s
def wordsF (l : List ByteArray) : Int := if l.all wdB = true then 0 else 5
theorem wordsF_or (l : List ByteArray) : wordsF l = 0 ∨ wordsF l = 5 := by unfold wordsF; split <;> simp
theorem wordsF_ok {l : List ByteArray} (h : l.all wdB = true) : wordsF l = 0 := by unfold wordsF; rw [if_pos h]
theorem wordsF_bad {l : List ByteArray} {j : Nat} {s : ByteArray} (hs : l[j]? = some s) (h : wdB s = false) : wordsF l = 5 := by
  unfold wordsF
  rw [if_neg]
  intro ha
  rw [List.all_eq_true] at ha
  rw [ha s (List.mem_of_getElem? hs)] at h
  cases h

/-- What CheckVersions says from here on; n0: the length of the first layout; prev: the day before. -/
def verFrom (n0 : Nat) (prev : Option Int) : List Ver → Int
  | [] => 0
  | x :: r => if btw x.f 0 4000 = false then 1 else if prev.any (fun p => decide (x.f ≤ p)) = true then 7 else if 60 < x.ks.length then 2 else if x.ks.length ≠ n0 then 3 else
      if wordsF x.ks ≠ 0 then wordsF x.ks else verFrom n0 (some x.f) r
def ver0 (l : List Ver) : Nat := match l with | [] => 0 | x :: _ => x.ks.length
def versF (l : List Ver) : Int := if 200 < l.length then 2 else verFrom (ver0 l) none l

def vPrev (l : List Ver) (j : Nat) : Option Int := if j = 0 then none else (l[j-1]?).map (·.f)
def VerInv (l : List Ver) (j : Nat) : Prop := verFrom (ver0 l) (vPrev l j) (l.drop j) = versF l
def VPrevOk (l : List Ver) (j : Nat) (t : Ver) : Prop := (vPrev l j).any (fun p => decide (t.f ≤ p)) = false
theorem VerInv.start {l : List Ver} (h : l.length ≤ 200) : VerInv l 0 := by
  unfold VerInv versF; rw [if_neg (by omega)]; simp [vPrev]
theorem VerInv.done {l : List Ver} {j : Nat} (h : VerInv l j) (hj : j = l.length) : versF l = 0 := by
  unfold VerInv at h; subst hj; rw [← h]; simp [verFrom]
theorem VerInv.step {l : List Ver} {j : Nat} {t : Ver} (h : VerInv l j) (ht : l[j]? = some t) :
    versF l = if btw t.f 0 4000 = false then 1 else if (vPrev l j).any (fun p => decide (t.f ≤ p)) = true then 7 else if 60 < t.ks.length then 2 else if t.ks.length ≠ ver0 l then 3 else
      if wordsF t.ks ≠ 0 then wordsF t.ks else verFrom (ver0 l) (some t.f) (l.drop (j + 1)) := by
  unfold VerInv at h; rw [← h, drop_at ht]; rfl
theorem VPrevOk.zero (l : List Ver) (t : Ver) : VPrevOk l 0 t := by simp [VPrevOk, vPrev]
theorem VPrevOk.succ {l : List Ver} {p : Nat} {t t' : Ver} (ht' : l[p]? = some t') (h : t'.f < t.f) : VPrevOk l (p + 1) t := by
  simp [VPrevOk, vPrev, ht']; omega
theorem VerInv.rarg {l : List Ver} {j : Nat} {t : Ver} (h : VerInv l j) (ht : l[j]? = some t) (h1 : btw t.f 0 4000 = false) : versF l = 1 := by
  rw [h.step ht, if_pos h1]
theorem VerInv.rord {l : List Ver} {p : Nat} {t t' : Ver} (h : VerInv l (p + 1)) (ht : l[p + 1]? = some t) (ht' : l[p]? = some t') (h1 : btw t.f 0 4000 = true) (h2 : t.f ≤ t'.f) : versF l = 7 := by
  rw [h.step ht, if_neg (by simp [h1]), if_pos (by simp [vPrev, ht', h2])]
/-- What is behind the order. -/
theorem VerInv.tail {l : List Ver} {j : Nat} {t : Ver} (h : VerInv l j) (ht : l[j]? = some t) (h1 : btw t.f 0 4000 = true) (hp : VPrevOk l j t) :
    (60 < t.ks.length → versF l = 2) ∧ (t.ks.length ≤ 60 → t.ks.length ≠ ver0 l → versF l = 3) ∧ (t.ks.length ≤ 60 → t.ks.length = ver0 l → wordsF t.ks ≠ 0 → versF l = wordsF t.ks) ∧
    (t.ks.length ≤ 60 → t.ks.length = ver0 l → wordsF t.ks = 0 → VerInv l (j + 1)) := by
  have hs := h.step ht
  rw [if_neg (by simp [h1]), if_neg (by rw [show (vPrev l j).any (fun p => decide (t.f ≤ p)) = false from hp]; simp)] at hs
  refine ⟨fun h2 => by rw [hs, if_pos h2], fun h2 h3 => by rw [hs, if_neg (by omega), if_pos h3], fun h2 h3 h4 => by rw [hs, if_neg (by omega), if_neg (by simp [h3]), if_pos h4], fun h2 h3 h4 => ?_⟩
  rw [if_neg (by omega), if_neg (by simp [h3]), if_neg (by simp [h4])] at hs
  have hn : vPrev l (j + 1) = some t.f := by simp [vPrev, ht]
  unfold VerInv
  rw [hn, hs]

theorem verFrom_ok (n0 : Nat) : ∀ (l : List Ver) (prev : Option Int), verFrom n0 prev l = 0 → (∀ t ∈ l, (0 ≤ t.f ∧ t.f ≤ 4000) ∧ t.ks.length = n0 ∧ t.ks.length ≤ 60 ∧ t.ks.all wdB = true) ∧ l.Pairwise (fun a b => a.f < b.f) ∧ ∀ p, prev = some p → ∀ t ∈ l, p < t.f
  | [], _, _ => ⟨by simp, List.Pairwise.nil, by simp⟩
  | a :: l, prev, h => by
    unfold verFrom at h
    by_cases h1 : btw a.f 0 4000 = true
    · rw [if_neg (by simp [h1])] at h
      by_cases h2 : prev.any (fun p => decide (a.f ≤ p)) = true
      · rw [if_pos h2] at h; cases h
      · rw [if_neg h2] at h
        by_cases h3 : 60 < a.ks.length
        · rw [if_pos h3] at h; cases h
        · rw [if_neg h3] at h
          by_cases h4 : a.ks.length = n0
          · rw [if_neg (by simp [h4])] at h
            by_cases h5 : wordsF a.ks = 0
            · rw [if_neg (by simp [h5])] at h
              obtain ⟨i1, i2, i3⟩ := verFrom_ok n0 l _ h
              have h5' : a.ks.all wdB = true := by
                by_cases ha : a.ks.all wdB = true
                · exact ha
                · unfold wordsF at h5; rw [if_neg ha] at h5; cases h5
              refine ⟨?_, List.pairwise_cons.2 ⟨fun b hb => i3 _ rfl b hb, i2⟩, ?_⟩
              · intro t ht
                rcases List.mem_cons.1 ht with rfl | ht
                · exact ⟨btw_true.1 h1, h4, by omega, h5'⟩
                · exact i1 t ht
              · intro p hp t ht
                subst hp
                have h2' : p < a.f := by simpa using h2
                rcases List.mem_cons.1 ht with rfl | ht
                · exact h2'
                · exact Int.lt_trans h2' (i3 _ rfl t ht)
            · rw [if_pos (by simpa using h5)] at h; exact absurd h h5
          · rw [if_pos (by simpa using h4)] at h; cases h
    · rw [if_pos (by simpa using h1)] at h; cases h
theorem vers_ok {l : List Ver} (h : versF l = 0) : l.length ≤ 200 ∧ (∀ t ∈ l, (0 ≤ t.f ∧ t.f ≤ 4000) ∧ t.ks.length = ver0 l ∧ t.ks.length ≤ 60 ∧ t.ks.all wdB = true) ∧ l.Pairwise (fun a b => a.f < b.f) := by
  unfold versF at h
  by_cases h1 : 200 < l.length
  · rw [if_pos h1] at h; cases h
  · rw [if_neg h1] at h
    obtain ⟨h2, h3, _⟩ := verFrom_ok _ l none h
    exact ⟨by omega, h2, h3⟩

/-! ### The layout on a day -/
/-- The number of the last version of at most this day, of the first n ones, and 1; 0: there is none. -/
def lastV (l : List Ver) (d : Int) : Nat → Nat
  | 0 => 0
  | n + 1 => if (l.getD n default).f ≤ d then n + 1 else lastV l d n
theorem lastV_le (l : List Ver) (d : Int) : ∀ n, lastV l d n ≤ n
  | 0 => Nat.le_refl _
  | n + 1 => by unfold lastV; split; · exact Nat.le_refl _
                · exact Nat.le_succ_of_le (lastV_le l d n)
/-- The layout on a day: empty where there is none. -/
def atK (l : List Ver) (d : Int) : List ByteArray := (l.getD (lastV l d l.length - 1) default).ks
def atB (l : List Ver) (d : Int) : Bool := lastV l d l.length != 0
def atL (l : List Ver) (d : Int) : List ByteArray := if lastV l d l.length = 0 then [] else atK l d
/-- The error of LayoutAt. -/
def atE (l : List Ver) (d : Int) : Int := if lastV l d l.length = 0 then 8 else 0
/-- What is in a slot on a day. -/
def atS (l : List Ver) (j : Nat) (d : Int) : ByteArray := (atL l d).getD j ByteArray.empty
theorem atS_none {l : List Ver} {d : Int} (h : lastV l d l.length = 0) (j : Nat) : atS l j d = ByteArray.empty := by unfold atS atL; rw [if_pos h]; rfl
theorem atS_some {l : List Ver} {d : Int} {i : Nat} (h : lastV l d l.length = i + 1) (j : Nat) : atS l j d = (l.getD i default).ks.getD j ByteArray.empty := by
  unfold atS atL atK; rw [if_neg (by omega), h]; rfl

/-! ### Stays -/
structure Sy where
  sl : Int
  pr : ByteArray
  fr : Int
  to : Int
deriving DecidableEq
instance : Inhabited Sy := ⟨⟨0, ByteArray.empty, 0, 0⟩⟩
/-- Whether a stay goes on with the last one. -/
def joinB (t s : Sy) : Bool := decide (t.sl = s.sl) && sEq t.pr s.pr && decide (t.to = s.fr)
theorem joinB_iff {t s : Sy} : joinB t s = true ↔ t.sl = s.sl ∧ t.pr = s.pr ∧ t.to = s.fr := by
  unfold joinB
  simp only [Bool.and_eq_true, decide_eq_true_eq, sEq_iff]
  exact ⟨fun ⟨⟨a, b⟩, c⟩ => ⟨a, b, c⟩, fun ⟨a, b, c⟩ => ⟨⟨a, b⟩, c⟩⟩
/-- The last one lasts longer. -/
def longer (l : List Sy) (to : Int) : List Sy := l.set (l.length - 1) { (l.getD (l.length - 1) default) with to := to }
def addSy (l : List Sy) (s : Sy) : List Sy :=
  if s.pr.toList.isEmpty = true ∨ s.to ≤ s.fr then l else
  if 0 < l.length ∧ joinB (l.getD (l.length - 1) default) s = true then longer l s.to else l ++ [s]

theorem longer_len (l : List Sy) (to : Int) : (longer l to).length = l.length := by simp [longer]
theorem longer_last {l : List Sy} (h : 0 < l.length) (to : Int) : (longer l to).getD ((longer l to).length - 1) default = { (l.getD (l.length - 1) default) with to := to } := by
  rw [longer_len]
  unfold longer
  simp [List.getD, show l.length - 1 < l.length from by omega]
theorem longer_twice (l : List Sy) (a b : Int) : longer (longer l a) b = longer l b := by
  rcases Nat.eq_zero_or_pos l.length with h | h
  · have : l = [] := List.eq_nil_of_length_eq_zero h
    subst this; rfl
  · rw [show longer (longer l a) b = (longer l a).set ((longer l a).length - 1) { ((longer l a).getD ((longer l a).length - 1) default) with to := b } from rfl, longer_last h, longer_len]
    unfold longer
    simp
theorem snoc_last (l : List Sy) (s : Sy) : (l ++ [s]).getD ((l ++ [s]).length - 1) default = s := by simp [List.getD]
theorem longer_snoc (l : List Sy) (s : Sy) (to : Int) : longer (l ++ [s]) to = l ++ [{ s with to := to }] := by
  unfold longer
  rw [snoc_last]
  simp

/-- A window of days is its days, one by one. -/
theorem addSy_more (l : List Sy) (j : Int) (p : ByteArray) (a b : Int) (h : a < b) : addSy (addSy l ⟨j, p, a, b⟩) ⟨j, p, b, b + 1⟩ = addSy l ⟨j, p, a, b + 1⟩ := by
  by_cases hp : p.toList.isEmpty = true
  · simp [addSy, hp]
  · have n1 : ¬ (p.toList.isEmpty = true ∨ b ≤ a) := fun h1 => h1.elim hp (fun h1 => by omega)
    have n2 : ¬ (p.toList.isEmpty = true ∨ b + 1 ≤ b) := fun h1 => h1.elim hp (fun h1 => by omega)
    have n3 : ¬ (p.toList.isEmpty = true ∨ b + 1 ≤ a) := fun h1 => h1.elim hp (fun h1 => by omega)
    have jj : ∀ t : Sy, joinB t ⟨j, p, a, b + 1⟩ = joinB t ⟨j, p, a, b⟩ := fun _ => rfl
    by_cases hj : 0 < l.length ∧ joinB (l.getD (l.length - 1) default) ⟨j, p, a, b⟩ = true
    · have e1 : addSy l ⟨j, p, a, b⟩ = longer l b := by unfold addSy; rw [if_neg n1, if_pos hj]
      have e2 : addSy l ⟨j, p, a, b + 1⟩ = longer l (b + 1) := by unfold addSy; rw [if_neg n3, jj, if_pos hj]
      rw [e1, e2]
      unfold addSy
      rw [if_neg n2, if_pos, longer_twice]
      refine ⟨by rw [longer_len]; exact hj.1, ?_⟩
      rw [longer_last hj.1]
      have h2 := hj.2
      unfold joinB at h2 ⊢
      simp only [Bool.and_eq_true, decide_eq_true_eq] at h2 ⊢
      exact ⟨h2.1, trivial⟩
    · have e1 : addSy l ⟨j, p, a, b⟩ = l ++ [⟨j, p, a, b⟩] := by unfold addSy; rw [if_neg n1, if_neg hj]
      have e2 : addSy l ⟨j, p, a, b + 1⟩ = l ++ [⟨j, p, a, b + 1⟩] := by unfold addSy; rw [if_neg n3, jj, if_neg hj]
      rw [e1, e2]
      unfold addSy
      rw [if_neg n2, if_pos, longer_snoc]
      refine ⟨by simp, ?_⟩
      rw [snoc_last]
      simp [joinB, sEq_self]

/-- Day by day, n days from a on, with products g. -/
def daysS (j : Int) (g : Int → ByteArray) (a : Int) : Nat → List Sy → List Sy
  | 0, l => l
  | n + 1, l => addSy (daysS j g a n l) ⟨j, g (a + n), a + n, a + n + 1⟩
theorem daysS_same (j : Int) (g : Int → ByteArray) (a : Int) (p : ByteArray) (l : List Sy) : ∀ n : Nat, (∀ d, a ≤ d → d < a + n → g d = p) → daysS j g a n l = addSy l ⟨j, p, a, a + n⟩
  | 0, _ => by simp [daysS, addSy]
  | n + 1, h => by
    rw [daysS, daysS_same j g a p l n (fun d h1 h2 => h d h1 (by omega)), h (a + n) (by omega) (by omega)]
    rcases Nat.eq_zero_or_pos n with h0 | h0
    · subst h0
      have : addSy l ⟨j, p, a, a + ((0 : Nat) : Int)⟩ = l := by simp [addSy]
      rw [this]
      simp
    · rw [addSy_more _ _ _ _ _ (by omega), show a + ((n + 1 : Nat) : Int) = a + n + 1 from by omega]
theorem daysS_add (j : Int) (g : Int → ByteArray) (a : Int) (l : List Sy) (n : Nat) : ∀ m : Nat, daysS j g (a + n) m (daysS j g a n l) = daysS j g a (n + m) l
  | 0 => rfl
  | m + 1 => by
    rw [daysS, daysS_add j g a l n m, ← Nat.add_assoc, daysS, show a + (n : Int) + (m : Int) = a + ((n + m : Nat) : Int) from by omega]

/-- The end of the window of version i. -/
def endV (l : List Ver) (to : Int) (i : Nat) : Int := if i + 1 < l.length then min to (l.getD (i + 1) default).f else to
def winV (l : List Ver) (fr to : Int) (j i : Nat) : Sy := ⟨j, (l.getD i default).ks.getD j ByteArray.empty, max fr (l.getD i default).f, endV l to i⟩
/-- Version by version. -/
def versS (l : List Ver) (fr to : Int) (j : Nat) : Nat → List Sy → List Sy
  | 0, o => o
  | i + 1, o => addSy (versS l fr to j i o) (winV l fr to j i)
def slotsV (l : List Ver) (fr to : Int) : Nat → List Sy
  | 0 => []
  | j + 1 => versS l fr to j l.length (slotsV l fr to j)
def slotsD (l : List Ver) (fr to : Int) : Nat → List Sy
  | 0 => []
  | j + 1 => daysS j (atS l j) fr (to - fr).toNat (slotsD l fr to j)

/-- Where version i begins, between fr and to; behind the last one: to. -/
def begV (l : List Ver) (fr to : Int) (i : Nat) : Int := if i < l.length then max fr (min to (l.getD i default).f) else to
theorem lastV_eq {l : List Ver} (hs : l.Pairwise (fun a b => a.f < b.f)) {d : Int} {i : Nat} (hi : i ≤ l.length) (h1 : ∀ k, k < i → (l.getD k default).f ≤ d) (h2 : i < l.length → d < (l.getD i default).f) : lastV l d l.length = i := by
  have hd : ∀ k, (hk : k < l.length) → l.getD k default = l[k] := fun k hk => by simp [List.getD, hk]
  suffices h : ∀ n, n ≤ l.length → lastV l d n = min n i by rw [h _ (Nat.le_refl _)]; omega
  intro n
  induction n with
  | zero => intro _; simp [lastV]
  | succ n ih =>
    intro hn
    unfold lastV
    by_cases hni : n < i
    · rw [if_pos (h1 n hni)]; omega
    · have hil : i < l.length := by omega
      have hlt : d < (l.getD n default).f := by
        have h3 := h2 hil
        rcases Nat.eq_or_lt_of_le (Nat.le_of_not_lt hni) with e | e
        · rw [← e]; exact h3
        · have := (List.pairwise_iff_getElem.1 hs) i n hil (by omega) e
          rw [hd i hil] at h3
          rw [hd n (by omega)]
          omega
      rw [if_neg (by omega), ih (by omega)]
      omega

theorem vers_days {l : List Ver} (hs : l.Pairwise (fun a b => a.f < b.f)) (fr to : Int) (hft : fr ≤ to) (j : Nat) (o : List Sy) :
    ∀ i, i ≤ l.length → versS l fr to j i o = daysS j (atS l j) fr (begV l fr to i - fr).toNat o := by
  have hd : ∀ k, (hk : k < l.length) → l.getD k default = l[k] := fun k hk => by simp [List.getD, hk]
  have hempty : ByteArray.empty.toList.isEmpty = true := by rw [toList_data]; rfl
  intro i
  induction i with
  | zero =>
    intro _
    rw [versS, daysS_same j (atS l j) fr ByteArray.empty o]
    · unfold addSy
      rw [if_pos (.inl hempty)]
    · intro d h1 h2
      have : lastV l d l.length = 0 := lastV_eq hs (by omega) (fun k hk => by omega) (fun hl => by
        unfold begV at h2
        rw [if_pos hl] at h2
        omega)
      exact atS_none this j
  | succ i ih =>
    intro hi
    rw [versS, ih (by omega)]
    have hil : i < l.length := by omega
    have hnext : i + 1 < l.length → (l.getD i default).f < (l.getD (i + 1) default).f := fun h => by
      rw [hd i hil, hd (i + 1) h]
      exact (List.pairwise_iff_getElem.1 hs) i (i + 1) hil h (by omega)
    have hprev : ∀ k, k < i + 1 → (l.getD k default).f ≤ (l.getD i default).f := fun k hk => by
      rcases Nat.eq_or_lt_of_le (Nat.le_of_lt_succ hk) with e | e
      · rw [e]; exact Int.le_refl _
      · rw [hd i hil, hd k (by omega)]
        exact Int.le_of_lt ((List.pairwise_iff_getElem.1 hs) k i (by omega) hil e)
    have b0 : begV l fr to i = max fr (min to (l.getD i default).f) := by unfold begV; rw [if_pos hil]
    have b1 : begV l fr to (i + 1) = if i + 1 < l.length then max fr (min to (l.getD (i + 1) default).f) else to := rfl
    have he : endV l to i = if i + 1 < l.length then min to (l.getD (i + 1) default).f else to := rfl
    by_cases hw : endV l to i ≤ max fr (l.getD i default).f
    · have : begV l fr to (i + 1) = begV l fr to i := by
        rw [b0, b1]
        rw [he] at hw
        by_cases h : i + 1 < l.length
        · rw [if_pos h] at hw ⊢
          have := hnext h
          omega
        · rw [if_neg h] at hw ⊢
          omega
      rw [this]
      unfold addSy winV
      rw [if_pos (.inr hw)]
    · have e0 : begV l fr to i = max fr (l.getD i default).f := by
        rw [b0]
        have : endV l to i ≤ to := by rw [he]; split <;> omega
        omega
      have e1 : begV l fr to (i + 1) = endV l to i := by
        rw [b1, he]
        by_cases h : i + 1 < l.length
        · rw [if_pos h, if_pos h]
          rw [he, if_pos h] at hw
          omega
        · rw [if_neg h, if_neg h]
      obtain ⟨n, hn⟩ := Int.eq_ofNat_of_zero_le (show 0 ≤ begV l fr to i - fr by omega)
      obtain ⟨m, hm⟩ := Int.eq_ofNat_of_zero_le (show 0 ≤ endV l to i - max fr (l.getD i default).f by omega)
      have t1 : (begV l fr to i - fr).toNat = n := by omega
      have t2 : (begV l fr to (i + 1) - fr).toNat = n + m := by omega
      rw [t1, t2, ← daysS_add, daysS_same j (atS l j) (fr + n) ((l.getD i default).ks.getD j ByteArray.empty) _ m]
      · unfold winV
        congr 2
        · omega
        · omega
      · intro d h1 h2
        have hlast : lastV l d l.length = i + 1 := lastV_eq hs hi (fun k hk => by have := hprev k hk; omega) (fun h => by
          have : endV l to i ≤ (l.getD (i + 1) default).f := by rw [he, if_pos h]; omega
          omega)
        exact atS_some hlast j

theorem slots_same {l : List Ver} (hs : l.Pairwise (fun a b => a.f < b.f)) (fr to : Int) (hft : fr ≤ to) (h0 : l ≠ []) : ∀ n, slotsV l fr to n = slotsD l fr to n
  | 0 => rfl
  | n + 1 => by
    rw [slotsV, slotsD, slots_same hs fr to hft h0 n, vers_days hs fr to hft n _ _ (Nat.le_refl _)]
    have : begV l fr to l.length = to := by unfold begV; rw [if_neg (by omega)]
    rw [this]

end Go.Proofs.YtcaeochiippdgaaDoor
