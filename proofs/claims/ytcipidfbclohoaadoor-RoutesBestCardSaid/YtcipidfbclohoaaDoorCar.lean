/- The walks of leave and visit: a car of package round. -/
import Derived.Test.YtcipidfbclohoaaDoorFar
import Derived.Test.YtcipidfbclohoaaDoorStp
import Derived.Test.YtcipidfbclohoaaDoorRes
namespace Go.Proofs.YtcipidfbclohoaaDoor
open Go.RowKit

def set6 (w : World) (g : Nat) (b0 b1 b2 b3 b4 b5 : Value) : World := (((((w.setCell ⟨g, 0, none⟩ b0).setCell ⟨g, 1, none⟩ b1).setCell ⟨g, 2, none⟩ b2).setCell ⟨g, 3, none⟩ b3).setCell ⟨g, 4, none⟩ b4).setCell ⟨g, 5, none⟩ b5
theorem set6_blk {w : World} {g T : Nat} {a0 a1 a2 a3 a4 a5 : Value} (h : Blk w g T #[a0, a1, a2, a3, a4, a5]) (b0 b1 b2 b3 b4 b5 : Value) : Blk (set6 w g b0 b1 b2 b3 b4 b5) g T #[b0, b1, b2, b3, b4, b5] :=
  (((((h.set_ 0 b0).set_ 1 b1).set_ 2 b2).set_ 3 b3).set_ 4 b4).set_ 5 b5
theorem set6_grown {a w : World} {r : Option Nat} {g : Nat} (h : a.grownBy w r) (hg : a.heap.size ≤ g) (b0 b1 b2 b3 b4 b5 : Value) : a.grownBy (set6 w g b0 b1 b2 b3 b4 b5) r :=
  grown_set (grown_set (grown_set (grown_set (grown_set (grown_set h (p := ⟨g, 0, none⟩) (.inl hg) _) (p := ⟨g, 1, none⟩) (.inl hg) _) (p := ⟨g, 2, none⟩) (.inl hg) _) (p := ⟨g, 3, none⟩) (.inl hg) _) (p := ⟨g, 4, none⟩) (.inl hg) _) (p := ⟨g, 5, none⟩) (.inl hg) _

/-- A car. -/
structure Cr where
  x : Int
  y : Int
  b : Int
  d : Int
  way : Int
  wt : Int
def crCells (c : Cr) : List Value := [.int .i64 c.x, .int .i64 c.y, .int .i64 c.b, .int .i64 c.d, .int .i64 c.way, .int .i64 c.wt]

set_option maxRecDepth 100000 in
set_option maxHeartbeats 2000000 in
theorem leave_any (hx hy : Int) (A : Option Addr) (n c : Nat) (st : Int) (w : World) :
    Calls Tryd.prog 34 #[.agg #[.int .i64 hx, .int .i64 hy, .slice A n c, .int .i64 st]] w fun e w' => e = .returned (.agg (crCells ⟨hx, hy, 0, st, 0, 0⟩).toArray) ∧ w.grownBy w' none := by
  have hR := Blk.new (w.alloc (.cells #[.int .i64 hx, .int .i64 hy, .slice A n c, .int .i64 st] 61)) 66 #[.int .i64 hx, .int .i64 hy, .int .i64 0, .int .i64 st, .int .i64 0, .int .i64 0]
  have hg := grown_alloc (grown_alloc (grown_refl w) (.cells #[.int .i64 hx, .int .i64 hy, .slice A n c, .int .i64 st] 61)) (.cells #[.int .i64 hx, .int .i64 hy, .int .i64 0, .int .i64 st, .int .i64 0, .int .i64 0] 66)
  rw [show (w.alloc (.cells #[.int .i64 hx, .int .i64 hy, .slice A n c, .int .i64 st] 61)).heap.size = w.heap.size + 1 from by simp] at hR
  have H := Lib.hid (And.intro hR hg)
  clear hR hg
  go_enter Tryd.func34, Tryd.ntmps34
  go_wp2_with fail
  refine bodyPost_ret (results_cell_row rfl _ _ (w.heap.size + 1) _ _ _ _ rfl H.out.1 Tryd.underlying66 rfl (by kernel_rfl)) rfl ?_
  exact ⟨rfl, H.out.2⟩

end Go.Proofs.YtcipidfbclohoaaDoor
