/- The walk of cmp.Or over two errors. -/
import Derived.Test.YtidfhgpjpieajaaDoorTerms
namespace Go.Proofs.YtidfhgpjpieajaaDoor
open Go.RowKit

/-- cmp.Or of two. -/
def orE (x y : Int) : Int := if x = 0 then y else x
theorem or_any (x y : Int) (w : World) :
    Calls Tryd.prog 18 #[.slice (some ⟨w.heap.size, 0, none⟩) 2 2] (w.alloc (.cells #[.int .i64 x, .int .i64 y] 31)) fun e w' => e = .returned (.int .i64 (orE x y)) ∧ w.grownBy w' none := by
  have c0 : (w.alloc (.cells #[.int .i64 x, .int .i64 y] 31)).cell? ⟨w.heap.size, 0, none⟩ = some (.int .i64 x) := by rw [World.cell?_alloc_new]; rfl
  have c1 : (w.alloc (.cells #[.int .i64 x, .int .i64 y] 31)).cell? ⟨w.heap.size, 1, none⟩ = some (.int .i64 y) := by rw [World.cell?_alloc_new]; rfl
  have hg : w.grownBy (w.alloc (.cells #[.int .i64 x, .int .i64 y] 31)) none := grown_alloc (grown_refl w) _
  generalize w.alloc (.cells #[.int .i64 x, .int .i64 y] 31) = w0 at *
  go_enter Tryd.func18, Tryd.ntmps18
  go_wp2_with fail
  go_loopg [8] 2 (fun k i wr => ∃ j : Nat, k + j = 2 ∧ i = .int .i64 j ∧ wr = w0 ∧ (1 ≤ j → x = 0) ∧ (2 ≤ j → y = 0))
  case atStart => exact ⟨0, by omega, rfl, rfl, fun h => by omega, fun h => by omega⟩
  case round =>
    obtain ⟨j, hj, rfl, rfl, h1, h2⟩ := hrel
    have hjc : j = 0 ∨ j = 1 ∨ j = 2 := by omega
    rcases hjc with rfl | rfl | rfl
    · simp only [Int.natCast_zero]
      by_cases hx : x = 0
      · have hb : (x != 0) = false := by simp [hx]
        have HX := Lib.hid hx
        clear hx h1 h2
        go_wp2_with fail
        go_roundg (gk - 1)
        case measure => omega
        case rel => exact ⟨1, by omega, by go_num, rfl, fun _ => HX.out, fun h => by omega⟩
      · have hb : (x != 0) = true := by simp [hx]
        have HX := Lib.hid hx
        clear hx h1 h2
        go_wp2_with fail
        go_ret
        exact ⟨retI (by unfold orE; rw [if_neg HX.out]), hg⟩
    · have HX := Lib.hid (h1 (by omega))
      simp only [Int.natCast_one]
      by_cases hy : y = 0
      · have hb : (y != 0) = false := by simp [hy]
        have HY := Lib.hid hy
        clear hy h1 h2
        go_wp2_with fail
        go_roundg (gk - 1)
        case measure => omega
        case rel => exact ⟨2, by omega, by go_num, rfl, fun _ => HX.out, fun _ => HY.out⟩
      · have hb : (y != 0) = true := by simp [hy]
        have HY := Lib.hid hy
        clear hy h1 h2
        go_wp2_with fail
        go_ret
        exact ⟨retI (by unfold orE; rw [if_pos HX.out]), hg⟩
    · have HX := Lib.hid (And.intro (h1 (by omega)) (h2 (by omega)))
      clear h1 h2
      go_wp2_with fail
      go_ret
      exact ⟨retI (by unfold orE; rw [if_pos HX.out.1, HX.out.2]), hg⟩

end Go.Proofs.YtidfhgpjpieajaaDoor
