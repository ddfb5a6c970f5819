/- The walks of slices.IndexFunc, ContainsFunc over numbers. -/
import Derived.Test.YtcipidfbclohoaaDoorTerms
import Derived.Shelf.Abstract
namespace Go.Proofs.YtcipidfbclohoaaDoor
open Go.RowKit

/-- slices.IndexFunc as a number. -/
def idxI (p : Int → Bool) (l : List Int) : Int := match l.findIdx? p with | some k => k | none => -1
def IdxInv (p : Int → Bool) (l : List Int) (j : Nat) : Prop := ∀ i x, i < j → l[i]? = some x → p x = false

theorem IdxInv.next {p : Int → Bool} {l : List Int} {j : Nat} {x : Int} (h : IdxInv p l j) (hx : l[j]? = some x) (hp : p x = false) : IdxInv p l (j + 1) := by
  intro i y hi hy
  rcases Nat.lt_or_ge i j with h1 | h1
  · exact h i y h1 hy
  · obtain rfl : i = j := by omega
    rw [hx] at hy; cases hy; exact hp
theorem IdxInv.found {p : Int → Bool} {l : List Int} {j : Nat} {x : Int} (h : IdxInv p l j) (hx : l[j]? = some x) (hp : p x = true) : idxI p l = j := by
  obtain ⟨hj, e⟩ := List.getElem?_eq_some_iff.1 hx
  unfold idxI
  have : l.findIdx? p = some j := by
    rw [List.findIdx?_eq_some_iff_getElem]
    refine ⟨hj, by rw [e]; exact hp, fun i hi => ?_⟩
    have := h i l[i] hi (List.getElem?_eq_getElem _)
    simp [this]
  rw [this]
theorem IdxInv.done {p : Int → Bool} {l : List Int} (h : IdxInv p l l.length) : idxI p l = -1 := by
  unfold idxI
  have : l.findIdx? p = none := by
    rw [List.findIdx?_eq_none_iff]
    intro x hx
    obtain ⟨i, hi, e⟩ := List.getElem_of_mem hx
    exact h i x hi (by rw [← e]; exact List.getElem?_eq_getElem _)
  rw [this]








































theorem idxI_any (p : Int → Bool) (l : List Int) : decide (0 ≤ idxI p l) = l.any p := by
  unfold idxI
  cases h : l.findIdx? p with
  | none =>
    rw [List.findIdx?_eq_none_iff] at h
    have : l.any p = false := by rw [List.any_eq_false]; intro x hx; simp [h x hx]
    rw [this]; rfl
  | some k =>
    rw [List.findIdx?_eq_some_iff_getElem] at h
    obtain ⟨hk, hp, _⟩ := h
    have : l.any p = true := List.any_eq_true.2 ⟨_, List.getElem_mem hk, hp⟩
    rw [this]; simp


















/-! ### A closure that has captured one variable -/

























































end Go.Proofs.YtcipidfbclohoaaDoor
