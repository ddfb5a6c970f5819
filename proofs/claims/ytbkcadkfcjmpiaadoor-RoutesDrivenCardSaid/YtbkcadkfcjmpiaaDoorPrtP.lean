/- What Print writes of a tour; a builder while other memory grows. -/
import Derived.Test.YtbkcadkfcjmpiaaDoorTwoR
import Derived.Test.YtbkcadkfcjmpiaaDoorBld
import Derived.Test.YtbkcadkfcjmpiaaDoorTour
namespace Go.Proofs.YtbkcadkfcjmpiaaDoor
open Go.RowKit

def lineB (n : Nat) (k : ByteArray) : ByteArray := clkB n ++ ⟨#[32]⟩ ++ k ++ ⟨#[10]⟩
def textL : List St → List Int → List UInt8
  | s :: V, b :: bg => (lineB b.toNat s.k).data.toList ++ textL V bg
  | _, _ => []
def textTo (V : List St) (bg : List Int) (j : Nat) : List UInt8 := textL (V.take j) (bg.take j)
theorem textL_snoc : ∀ (V : List St) (bg : List Int) (s : St) (b : Int), V.length = bg.length → textL (V ++ [s]) (bg ++ [b]) = textL V bg ++ (lineB b.toNat s.k).data.toList
  | [], [], s, b, _ => by simp [textL]
  | [], _ :: _, _, _, h => by simp at h
  | _ :: _, [], _, _, h => by simp at h
  | v :: V, x :: bg, s, b, h => by
    have := textL_snoc V bg s b (by simpa using h)
    simp only [List.cons_append, textL, this, List.append_assoc]
theorem textTo_step {V : List St} {bg : List Int} {j : Nat} {s : St} {b : Int} (hs : V[j]? = some s) (hb : bg[j]? = some b) : textTo V bg (j + 1) = textTo V bg j ++ (lineB b.toNat s.k).data.toList := by
  unfold textTo
  rw [take_at hs, take_at hb, textL_snoc]
  have h1 := (List.getElem?_eq_some_iff.1 hs).1
  have h2 := (List.getElem?_eq_some_iff.1 hb).1
  rw [List.length_take, List.length_take]
  omega
theorem clkB_size {n : Nat} (h : n ≤ 14400) : (clkB n).size ≤ 9 := by
  have h1 := twoB_size (show n / 60 ≤ 240 by omega)
  have h2 := twoB_size (show n % 60 ≤ 240 by omega)
  unfold clkB
  rw [ByteArray.size_append, ByteArray.size_append]
  show (twoB (n / 60)).size + 1 + _ ≤ 9
  omega
theorem lineB_size {n : Nat} {k : ByteArray} (h : n ≤ 14400) : (lineB n k).size ≤ 11 + k.size := by
  have h1 := clkB_size h
  unfold lineB
  rw [ByteArray.size_append, ByteArray.size_append, ByteArray.size_append]
  show (clkB n).size + 1 + k.size + 1 ≤ _
  omega
abbrev Bldr (b : Nat) (l : List UInt8) (w : World) : Prop := Lib.IsBuilder 85 5 b b (Lib.byteCells l) w
theorem bldAt_grown {B b : Nat} {p : Value} {bs : List Value} {w w' : World} (h : Lib.BuilderAt 85 5 B b p bs w) (hg : w.grownBy w' none) : Lib.BuilderAt 85 5 B b p bs w' := by
  obtain ⟨hB, v, hb, hown, hne⟩ := h
  have hlt : b < w.heap.size := by
    rcases Nat.lt_or_ge b w.heap.size with h' | h'
    · exact h'
    · rw [Array.getElem?_eq_none h'] at hb; cases hb
  exact ⟨hB, v, (hg.block b hlt (by simp)).trans hb, hown.kept hg (by cases v.ownBlock with | none => exact .inl rfl | some g => exact .inr (by simp)), hne⟩
theorem Bldr.grown {b : Nat} {l : List UInt8} {w w' : World} (h : Bldr b l w) (hg : w.grownBy w' none) : Bldr b l w' := by
  rcases h with h | h
  · exact .inl (bldAt_grown h hg)
  · exact .inr (bldAt_grown h hg)
theorem bldr_new (w : World) : Bldr w.heap.size [] (w.alloc (.cells #[.pointer none, .slice none 0 0] 85)) :=
  .inl ⟨Nat.le_refl _, .slice none 0 0, Blk.new w _ _, World.ownsRow_nil _ _ _ _, by simp [Value.ownBlock]⟩
theorem below_from {w w1 w2 : World} {b : Nat} (h : w.grownBy w1 none) (hb : Below b w1 w2) (hle : w.heap.size ≤ b) : w.grownBy w2 none :=
  ⟨hb.os.trans h.os, hb.tape.trans h.tape, hb.output.trans h.output, Nat.le_trans h.size hb.size, fun k hk hn => (hb.block k (by omega)).trans (h.block k hk hn)⟩
theorem Blk.below {w w' : World} {b g T : Nat} {cs : Array Value} (h : Blk w g T cs) (hb : Below b w w') (hg : g < b) : Blk w' g T cs := (hb.block g hg).trans h
theorem bldr_write {b : Nat} {l : List UInt8} {s : ByteArray} {w : World} (h : Lib.BuilderAt 85 5 b b (.pointer (some ⟨b, 0, none⟩)) (Lib.byteCells l ++ Lib.strCells s) w) : Bldr b (l ++ s.data.toList) w := by
  refine .inr ?_
  rw [Lib.strCells_eq] at h
  simpa [Lib.byteCells] using h

end Go.Proofs.YtbkcadkfcjmpiaaDoor
