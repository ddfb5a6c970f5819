/- Strings: equal; at most. -/
import Derived.Test.YtcipidfbclohoaaDoorMem
import Derived.Lib.Bytes
namespace Go.Proofs.YtcipidfbclohoaaDoor
open Go.RowKit

/-- Strings: equal; at most. -/
def sEq (a b : ByteArray) : Bool := a.toList == b.toList
def sLe (a b : ByteArray) : Bool := Op.bytesLess a.toList b.toList || a.toList == b.toList
theorem toList_data (a : ByteArray) : a.toList = a.data.toList := Lib.toList_data a
theorem bLess_eq : ∀ (x y : List UInt8), Op.bytesLess x y = decide (x < y)
  | [], [] => by simp [Op.bytesLess]
  | _ :: _, [] => by simp [Op.bytesLess]
  | [], _ :: _ => by simp [Op.bytesLess]
  | a :: x, b :: y => by
    rw [Op.bytesLess, bLess_eq x y]
    simp only [List.cons_lt_cons_iff]
    by_cases h1 : a < b <;> by_cases h2 : a = b <;> by_cases h3 : x < y <;> simp [h1, h2, h3]
theorem sLe_false {a b : ByteArray} : sLe a b = false ↔ b.data.toList < a.data.toList := by
  unfold sLe
  rw [toList_data, toList_data, bLess_eq]
  simp only [Bool.or_eq_false_iff, decide_eq_false_iff_not, beq_eq_false_iff_ne]
  constructor
  · rintro ⟨h1, h2⟩
    exact List.not_le.1 (fun h => h2 (List.le_antisymm h (List.not_lt.1 h1)))
  · intro h
    exact ⟨fun h2 => List.lt_irrefl _ (List.lt_trans h h2), fun e => List.lt_irrefl _ (e ▸ h)⟩
theorem sLe_trans {a b c : ByteArray} (h1 : sLe a c = false) (h2 : sLe b a = false) : sLe b c = false :=
  sLe_false.2 (List.lt_trans (sLe_false.1 h1) (sLe_false.1 h2))
theorem sLe_ne {a b : ByteArray} (h : sLe a b = false) : a ≠ b := fun e => List.lt_irrefl _ (e ▸ sLe_false.1 h)
theorem sEq_iff {a b : ByteArray} : sEq a b = true ↔ a = b := by
  unfold sEq
  rw [toList_data, toList_data, beq_iff_eq]
  constructor
  · intro h
    cases a; cases b
    simpa using h
  · intro h; rw [h]
theorem sEq_self (a : ByteArray) : sEq a a = true := sEq_iff.2 rfl
theorem sEq_ne {a b : ByteArray} : sEq a b = false ↔ a ≠ b := by
  rw [← Bool.not_eq_true, sEq_iff]

end Go.Proofs.YtcipidfbclohoaaDoor
