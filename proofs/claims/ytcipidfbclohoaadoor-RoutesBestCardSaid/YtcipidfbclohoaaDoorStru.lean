/- Rows of structs, whatever their cells are. -/
import Derived.Test.YtcipidfbclohoaaDoorTerms
namespace Go.Proofs.YtcipidfbclohoaaDoor
open Go.RowKit

theorem rows_len {α : Type} {enc : α → List Value} {k : Nat} (hk : ∀ x, (enc x).length = k) : ∀ zs : List α, (zs.flatMap enc).length = zs.length * k
  | [] => by simp
  | a :: t => by rw [List.flatMap_cons, List.length_append, hk, rows_len hk t, List.length_cons, Nat.succ_mul]; omega

theorem rows_at {α : Type} {enc : α → List Value} {k : Nat} (hk : ∀ x, (enc x).length = k) : ∀ (zs : List α) (j i : Nat) (x : α), zs[j]? = some x → i < k → (zs.flatMap enc)[j * k + i]? = (enc x)[i]?
  | [], j, i, x, h, _ => by simp at h
  | z :: zs, 0, i, x, h, hi => by
    simp at h; subst h
    rw [List.flatMap_cons, Nat.zero_mul, Nat.zero_add, List.getElem?_append_left (by rw [hk]; exact hi)]
  | z :: zs, j + 1, i, x, h, hi => by
    rw [List.flatMap_cons, List.getElem?_append_right (by rw [hk, Nat.succ_mul]; omega), hk, ← rows_at hk zs j i x (by simpa using h) hi]
    congr 1
    rw [Nat.succ_mul]; omega

/-- Element j of a slice that reads as such a row. -/
theorem rows_cell {α : Type} {enc : α → List Value} {k : Nat} (hk : ∀ x, (enc x).length = k) (h0 : 0 < k) {w : World} {A : Option Addr} {n : Nat} {l : List α} (h : Rd w k A n (l.flatMap enc)) {j : Nat} (hj : j < n) :
    ∃ b off, A = some ⟨b, off, none⟩ ∧ b < w.heap.size ∧ ∃ t, l[j]? = some t ∧ ∀ i u, (enc t)[i]? = some u → w.cell? ⟨b, off + j * k + i, none⟩ = some u := by
  have hl : l.length = n := by
    have h1 := h.1
    rw [rows_len hk] at h1
    exact Nat.eq_of_mul_eq_mul_right h0 h1
  obtain ⟨b, off, e, hb, hc⟩ := h.2 (by omega)
  have hj' : j < l.length := by omega
  refine ⟨b, off, e, hb, l[j], List.getElem?_eq_getElem hj', fun i u hu => ?_⟩
  have hi : i < k := by have := (List.getElem?_eq_some_iff.1 hu).1; rw [hk] at this; exact this
  have := hc (j * k + i) u (by rw [rows_at hk l j i l[j] (List.getElem?_eq_getElem hj') hi]; exact hu)
  rw [Nat.add_assoc]; exact this

end Go.Proofs.YtcipidfbclohoaaDoor
