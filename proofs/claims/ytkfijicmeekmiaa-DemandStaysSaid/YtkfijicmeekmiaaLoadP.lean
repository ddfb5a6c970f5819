/- What is sold of a load, its profit, and the best load, as numbers. No model in this text. -/
import Derived.Test.YtkfijicmeekmiaaHistF
namespace Go.Proofs.Ytkfijicmeekmiaa
open Go.RowKit

/-- What is sold of a load, over the first j numbers. -/
def slAt (h : List Int) (load : Nat) : Nat → Int
  | 0 => 0
  | j + 1 => slAt h load j + h.getD j 0 * (min j load : Nat)
def slOf (h : List Int) (load : Nat) : Int := slAt h load h.length
/-- How often more than n occurs. -/
def moreN (h : List Int) (n : Nat) : Int := (h.drop (n + 1)).sum
def exAt (h : List Int) : Nat → Int
  | 0 => 0
  | j + 1 => exAt h j + moreN h j
def prAt (h : List Int) (load : Nat) (m w : Int) : Nat → Int
  | 0 => 0
  | j + 1 => prAt h load m w j + h.getD j 0 * (m * (min j load : Nat) - w * ((load : Int) - (min j load : Nat)))
def prOf (h : List Int) (load : Nat) (m w : Int) : Int := prAt h load m w h.length

theorem sl_zero (h : List Int) (j : Nat) : slAt h 0 j = 0 := by
  induction j with
  | zero => rfl
  | succ j ih => simp [slAt, ih]
theorem sum_drop_take (h : List Int) (k j : Nat) (hj : j < h.length) : ((h.take (j + 1)).drop k).sum = ((h.take j).drop k).sum + if k ≤ j then h.getD j 0 else 0 := by
  have hx : h[j]? = some (h.getD j 0) := by simp [List.getD, hj]
  rw [take_at hx, List.drop_append]
  rw [List.length_take, show min j h.length = j from by omega]
  split
  · rw [show k - j = 0 from by omega]; simp
  · rw [List.drop_of_length_le (l := [h.getD j 0]) (by simp; omega)]; simp
theorem sl_step (h : List Int) (load j : Nat) (hj : j ≤ h.length) : slAt h (load + 1) j = slAt h load j + ((h.take j).drop (load + 1)).sum := by
  induction j with
  | zero => simp [slAt]
  | succ j ih =>
    rw [sum_drop_take h _ j (by omega)]
    simp only [slAt]
    rw [ih (by omega)]
    by_cases hl : load + 1 ≤ j
    · rw [if_pos hl, show min j (load + 1) = min j load + 1 from by omega, show ((min j load + 1 : Nat) : Int) = (min j load : Nat) + 1 from by omega, Int.mul_add, Int.mul_one]
      omega
    · rw [if_neg hl, show min j (load + 1) = min j load from by omega]
      omega
theorem slOf_step (h : List Int) (load : Nat) : slOf h (load + 1) = slOf h load + moreN h load := by
  unfold slOf moreN
  rw [sl_step h load h.length (Nat.le_refl _), List.take_of_length_le (Nat.le_refl _)]
theorem slOf_exp (h : List Int) (load : Nat) : slOf h load = exAt h load := by
  induction load with
  | zero => exact sl_zero h _
  | succ n ih => rw [slOf_step, ih]; rfl
theorem ex_past (h : List Int) (n : Nat) : exAt h (h.length + n) = exAt h h.length := by
  induction n with
  | zero => rfl
  | succ n ih =>
    show exAt h (h.length + n) + moreN h (h.length + n) = _
    rw [ih]
    unfold moreN
    rw [List.drop_of_length_le (by omega)]
    simp
theorem slOf_min (h : List Int) (load : Nat) : slOf h load = exAt h (min load h.length) := by
  rw [slOf_exp]
  by_cases hl : load ≤ h.length
  · rw [Nat.min_eq_left hl]
  · rw [Nat.min_eq_right (by omega)]
    have := ex_past h (load - h.length)
    rwa [show h.length + (load - h.length) = load from by omega] at this
theorem pr_lin (h : List Int) (load : Nat) (m w : Int) (j : Nat) (hj : j ≤ h.length) : prAt h load m w j = (m + w) * slAt h load j - w * (load * (h.take j).sum) := by
  induction j with
  | zero => simp [prAt, slAt]
  | succ j ih =>
    have hx : h[j]? = some (h.getD j 0) := by simp [List.getD, show j < h.length from by omega]
    rw [sum_take hx]
    simp only [prAt, slAt]
    rw [ih (by omega)]
    generalize h.getD j 0 = x
    generalize slAt h load j = s
    generalize (h.take j).sum = z
    generalize ((min j load : Nat) : Int) = k
    generalize (load : Int) = l
    grind
theorem prOf_lin (h : List Int) (load : Nat) (m w : Int) : prOf h load m w = (m + w) * slOf h load - w * (load * h.sum) := by
  unfold prOf slOf; rw [pr_lin h load m w _ (Nat.le_refl _), List.take_of_length_le (Nat.le_refl _)]
theorem prOf_eq (h : List Int) (load : Nat) (m w : Int) : m * slOf h load - w * (load * h.sum - slOf h load) = prOf h load m w := by
  rw [prOf_lin]; grind
theorem prOf_step (h : List Int) (load : Nat) (m w : Int) : prOf h (load + 1) m w = prOf h load m w + ((m + w) * moreN h load - w * h.sum) := by
  rw [prOf_lin, prOf_lin, slOf_step, show ((load + 1 : Nat) : Int) = (load : Int) + 1 from by omega]; grind

theorem drop_sum_le {h : List Int} (hh : ∀ x ∈ h, 0 ≤ x) (k : Nat) : 0 ≤ (h.drop k).sum ∧ (h.drop (k + 1)).sum ≤ (h.drop k).sum := by
  have hn : ∀ {l : List Int}, (∀ x ∈ l, 0 ≤ x) → 0 ≤ l.sum := by
    intro l hl
    induction l with
    | nil => simp
    | cons a l ih =>
      have h1 := hl a (by simp)
      have h2 := ih fun x hx => hl x (by simp [hx])
      rw [List.sum_cons]; omega
  refine ⟨hn fun x hx => hh x (List.mem_of_mem_drop hx), ?_⟩
  rcases Nat.lt_or_ge k h.length with hk | hk
  · rw [List.drop_eq_getElem_cons hk, List.sum_cons]
    have := hh _ (List.getElem_mem hk)
    omega
  · rw [List.drop_of_length_le hk, List.drop_of_length_le (by omega)]; omega
theorem more_mono {h : List Int} (hh : ∀ x ∈ h, 0 ≤ x) {i j : Nat} (hij : i ≤ j) : moreN h j ≤ moreN h i ∧ 0 ≤ moreN h j := by
  refine ⟨?_, (drop_sum_le hh _).1⟩
  induction j with
  | zero =>
    obtain rfl : i = 0 := by omega
    exact Int.le_refl _
  | succ j ih =>
    by_cases e : i = j + 1
    · subst e; exact Int.le_refl _
    · have := ih (by omega)
      have := (drop_sum_le hh (j + 1)).2
      unfold moreN at *
      omega

/-- Whether one unit more brings something. -/
def gain (h : List Int) (m w : Int) (i : Nat) : Prop := w * h.sum < (m + w) * moreN h i
/-- The load that is chosen, of those up to most. -/
def OrdS (h : List Int) (most : Nat) (m w : Int) (n : Nat) : Prop := n ≤ most ∧ (∀ i, i < n → gain h m w i) ∧ (n < most → ¬ gain h m w n)
theorem OrdS.uniq {h : List Int} {most : Nat} {m w : Int} {n n' : Nat} (a : OrdS h most m w n) (b : OrdS h most m w n') : n = n' := by
  rcases Nat.lt_trichotomy n n' with hlt | rfl | hlt
  · exact absurd (b.2.1 n hlt) (a.2.2 (by have := b.1; omega))
  · rfl
  · exact absurd (a.2.1 n' hlt) (b.2.2 (by have := a.1; omega))
theorem gain_stop {h : List Int} {m w : Int} (hh : ∀ x ∈ h, 0 ≤ x) (hmw : 0 ≤ m + w) {i j : Nat} (hij : i ≤ j) (hs : ¬ gain h m w i) : ¬ gain h m w j := by
  unfold gain at *
  have := Int.mul_le_mul_of_nonneg_left (more_mono hh hij).1 hmw
  omega
/-- One more load is looked at. -/
theorem OrdS.next {h : List Int} {j : Nat} {m w : Int} {b : Nat} (hh : ∀ x ∈ h, 0 ≤ x) (hmw : 0 ≤ m + w) (hb : OrdS h j m w b) :
    OrdS h (j + 1) m w (if prOf h b m w < prOf h (j + 1) m w then j + 1 else b) := by
  obtain ⟨h1, h2, h3⟩ := hb
  have hflat : ¬ gain h m w b → ∀ d, prOf h (b + d) m w ≤ prOf h b m w := by
    intro hs d
    induction d with
    | zero => exact Int.le_refl _
    | succ d ih =>
      have := gain_stop hh hmw (show b ≤ b + d by omega) hs
      have e := prOf_step h (b + d) m w
      rw [show b + (d + 1) = b + d + 1 from rfl, e]
      unfold gain at this
      omega
  by_cases hbj : b < j
  · have hs := h3 hbj
    have := hflat hs (j + 1 - b)
    rw [show b + (j + 1 - b) = j + 1 from by omega] at this
    rw [if_neg (by omega)]
    exact ⟨by omega, h2, fun _ => hs⟩
  · obtain rfl : b = j := by omega
    have e := prOf_step h b m w
    by_cases hg : gain h m w b
    · rw [if_pos (by unfold gain at hg; omega)]
      refine ⟨Nat.le_refl _, fun i hi => ?_, fun hlt => absurd hlt (by omega)⟩
      rcases Nat.lt_or_ge i b with h' | h'
      · exact h2 i h'
      · obtain rfl : i = b := by omega
        exact hg
    · rw [if_neg (by unfold gain at hg; omega)]
      exact ⟨by omega, h2, fun _ => hg⟩

end Go.Proofs.Ytkfijicmeekmiaa
