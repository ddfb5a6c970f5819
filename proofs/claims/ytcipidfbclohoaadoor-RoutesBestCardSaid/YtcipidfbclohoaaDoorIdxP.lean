/- slices.IndexFunc as a number. -/
import Derived.Test.YtcipidfbclohoaaDoorTerms
namespace Go.Proofs.YtcipidfbclohoaaDoor
open Go.RowKit

/-- slices.IndexFunc as a number. -/
def idxA {α : Type} (p : α → Bool) (l : List α) : Int := match l.findIdx? p with | some k => k | none => -1
def IdxA {α : Type} (p : α → Bool) (l : List α) (j : Nat) : Prop := ∀ i x, i < j → l[i]? = some x → p x = false
theorem IdxA.next {α : Type} {p : α → Bool} {l : List α} {j : Nat} {x : α} (h : IdxA p l j) (hx : l[j]? = some x) (hp : p x = false) : IdxA p l (j + 1) := by
  intro i y hi hy
  rcases Nat.lt_or_ge i j with h1 | h1
  · exact h i y h1 hy
  · obtain rfl : i = j := by omega
    rw [hx] at hy; cases hy; exact hp
theorem IdxA.found {α : Type} {p : α → Bool} {l : List α} {j : Nat} {x : α} (h : IdxA p l j) (hx : l[j]? = some x) (hp : p x = true) : idxA p l = j := by
  obtain ⟨hj, e⟩ := List.getElem?_eq_some_iff.1 hx
  unfold idxA
  have : l.findIdx? p = some j := by
    rw [List.findIdx?_eq_some_iff_getElem]
    refine ⟨hj, by rw [e]; exact hp, fun i hi => ?_⟩
    have := h i l[i] hi (List.getElem?_eq_getElem _)
    simp [this]
  rw [this]
theorem IdxA.done {α : Type} {p : α → Bool} {l : List α} (h : IdxA p l l.length) : idxA p l = -1 := by
  unfold idxA
  have : l.findIdx? p = none := by
    rw [List.findIdx?_eq_none_iff]
    intro x hx
    obtain ⟨i, hi, e⟩ := List.getElem_of_mem hx
    exact h i x hi (by rw [← e]; exact List.getElem?_eq_getElem _)
  rw [this]
theorem idxA_cases {α : Type} (p : α → Bool) (l : List α) : (idxA p l = -1 ∧ ∀ x ∈ l, p x = false) ∨ ∃ k x, idxA p l = (k : Nat) ∧ l[k]? = some x ∧ p x = true := by
  unfold idxA
  cases h : l.findIdx? p with
  | none => exact .inl ⟨rfl, List.findIdx?_eq_none_iff.1 h⟩
  | some k =>
    obtain ⟨hk, hp, _⟩ := List.findIdx?_eq_some_iff_getElem.1 h
    exact .inr ⟨k, l[k], rfl, List.getElem?_eq_getElem hk, hp⟩

theorem idxA_any {α : Type} (p : α → Bool) (l : List α) : decide (0 ≤ idxA p l) = l.any p := by
  rcases idxA_cases p l with ⟨h, h1⟩ | ⟨k, x, h, hx, hp⟩
  · rw [h]
    have : l.any p = false := by rw [List.any_eq_false]; intro x hx; simp [h1 x hx]
    rw [this]; rfl
  · rw [h]
    have : l.any p = true := List.any_eq_true.2 ⟨x, List.mem_of_getElem? hx, hp⟩
    rw [this]; simp

end Go.Proofs.YtcipidfbclohoaaDoor
