/- The walks of total, CheckHistogram, of the reference's sum and HistogramFault. -/
import Derived.Test.YtcipidfbclohoaaDoorIdx
namespace Go.Proofs.YtcipidfbclohoaaDoor
open Go.RowKit

theorem sum_take {l : List Int} {j : Nat} {x : Int} (h : l[j]? = some x) : (l.take (j + 1)).sum = (l.take j).sum + x := by
  rw [take_at h, List.sum_append]; simp
theorem sum_rng {M : Int} (hM : 0 ≤ M) : ∀ {l : List Int}, (∀ x ∈ l, 0 ≤ x ∧ x ≤ M) → 0 ≤ l.sum ∧ l.sum ≤ M * l.length
  | [], _ => by simp
  | a :: l, h => by
    obtain ⟨h1, h2⟩ := sum_rng hM (l := l) fun x hx => h x (by simp [hx])
    obtain ⟨h3, h4⟩ := h a (by simp)
    have e : M * ((a :: l).length : Int) = M * (l.length : Int) + M := by
      rw [List.length_cons, show ((l.length + 1 : Nat) : Int) = (l.length : Int) + 1 from by omega, Int.mul_add, Int.mul_one]
    rw [List.sum_cons, e]; omega
theorem sum_abs {M : Int} (hM : 0 ≤ M) : ∀ {l : List Int}, (∀ x ∈ l, -M ≤ x ∧ x ≤ M) → -(M * l.length) ≤ l.sum ∧ l.sum ≤ M * l.length
  | [], _ => by simp
  | a :: l, h => by
    obtain ⟨h1, h2⟩ := sum_abs hM (l := l) fun x hx => h x (by simp [hx])
    obtain ⟨h3, h4⟩ := h a (by simp)
    have e : M * ((a :: l).length : Int) = M * (l.length : Int) + M := by
      rw [List.length_cons, show ((l.length + 1 : Nat) : Int) = (l.length : Int) + 1 from by omega, Int.mul_add, Int.mul_one]
    rw [List.sum_cons, e]; omega



































































/-- What is wrong with a histogram. -/
def histF (h : List Int) : Int := if 2001 < h.length then 2 else if allB h 0 1000000000 = false then 1 else if h.sum = 0 then 8 else if 1000000000 < h.sum then 2 else 0
theorem histF_ok {h : List Int} (hf : histF h = 0) : h.length ≤ 2001 ∧ (∀ x ∈ h, 0 ≤ x ∧ x ≤ 1000000000) ∧ 0 < h.sum ∧ h.sum ≤ 1000000000 := by
  unfold histF at hf
  by_cases h1 : 2001 < h.length
  · rw [if_pos h1] at hf; omega
  · rw [if_neg h1] at hf
    by_cases h2 : allB h 0 1000000000 = false
    · rw [if_pos h2] at hf; omega
    · rw [if_neg h2] at hf
      have h2' : ∀ x ∈ h, 0 ≤ x ∧ x ≤ 1000000000 := by
        intro x hx
        have h3 : allB h 0 1000000000 = true := by simpa using h2
        unfold allB at h3
        exact btw_true.1 (List.all_eq_true.1 h3 x hx)
      have h4 := sum_rng (M := 1000000000) (by omega) h2'
      by_cases h5 : h.sum = 0
      · rw [if_pos h5] at hf; omega
      · rw [if_neg h5] at hf
        by_cases h6 : 1000000000 < h.sum
        · rw [if_pos h6] at hf; omega
        · exact ⟨by omega, h2', by omega, by omega⟩

theorem allB_ok {h : List Int} {a b : Int} (h3 : allB h a b = true) : ∀ x ∈ h, a ≤ x ∧ x ≤ b := by
  intro x hx
  unfold allB at h3
  exact btw_true.1 (List.all_eq_true.1 h3 x hx)



























































def hfB (n : Int) : Bool := !btw n 0 1000000000












theorem any_hf (l : List Int) : l.any hfB = !allB l 0 1000000000 := by
  unfold allB hfB
  induction l with
  | nil => rfl
  | cons a r ih => simp [ih]










































































end Go.Proofs.YtcipidfbclohoaaDoor
