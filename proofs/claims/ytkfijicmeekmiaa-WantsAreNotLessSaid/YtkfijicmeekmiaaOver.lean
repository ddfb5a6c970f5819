/- The walks of over and orNone; of the reference's part as a reader. -/
import Derived.Test.YtkfijicmeekmiaaGcd
namespace Go.Proofs.Ytkfijicmeekmiaa
open Go.RowKit

set_option maxRecDepth 100000 in
set_option maxHeartbeats 400000 in
theorem over_any (a b c d : Int) (w : World) (ha : 0 ≤ a ∧ a ≤ 1000000000) (hb : 0 < b ∧ b ≤ 1000000000) (hc : 0 < c ∧ c ≤ 1000000000) (hd : 0 < d ∧ d ≤ 1000000000) :
    Calls Try.prog 76 #[frac a b, frac c d] w fun e w' => e = .returned (frac (lowN (a * d) (b * c)) (lowD (a * d) (b * c))) ∧ w.grownBy w' none := by
  have p0 : 0 ≤ a * d := Int.mul_nonneg ha.1 (by omega)
  have p1 : a * d ≤ 1000000000 * 1000000000 := Int.mul_le_mul ha.2 hd.2 (by omega) (by omega)
  have q0 : 0 < b * c := Int.mul_pos hb.1 hc.1
  have q1 : b * c ≤ 1000000000 * 1000000000 := Int.mul_le_mul hb.2 hc.2 (by omega) (by omega)
  have hcall := fun w => lowest_any (a * d) (b * c) w (by omega) (by omega) q0 (by omega)
  generalize lowN (a * d) (b * c) = y1 at *
  generalize lowD (a * d) (b * c) = y2 at *
  have HC := Lib.hid hcall
  clear hcall ha hb hc hd
  unfold frac at *
  go_enter Try.func76, Try.ntmps76
  go_wp2_with fail
  refine (HC.out _).mono ?_
  rintro e w1 ⟨rfl, hg1⟩
  have hB := (Blk.new ((w.alloc (.cells #[.int .i64 a, .int .i64 b] 31)).alloc (.cells #[.int .i64 c, .int .i64 d] 31)) 31 #[.int .i64 0, .int .i64 0]).grown hg1 (by simp)
  have hg := (grown_alloc (grown_alloc (grown_alloc (grown_refl w) (.cells #[.int .i64 a, .int .i64 b] 31)) (.cells #[.int .i64 c, .int .i64 d] 31)) (.cells #[.int .i64 0, .int .i64 0] 31)).trans hg1
  rw [show ((w.alloc (.cells #[.int .i64 a, .int .i64 b] 31)).alloc (.cells #[.int .i64 c, .int .i64 d] 31)).heap.size = w.heap.size + 1 + 1 from by simp] at hB
  clear p0 p1 q0 q1 HC hg1
  have c0 := hB.cell 0
  have c1 := hB.cell 1
  have f0 := hB.frozen 0
  have f1 := hB.frozen 1
  simp only [List.getElem?_toArray, List.getElem?_cons_zero, List.getElem?_cons_succ] at c0 c1
  go_wp2_with fail
  refine bodyPost_ret (results_cell_row rfl _ _ (w.heap.size + 1 + 1) _ _ _ _ rfl ((hB.set_ 0 (.int .i64 y1)).set_ 1 (.int .i64 y2)) Try.underlying31 rfl (by kernel_rfl)) rfl ?_
  exact ⟨rfl, grown_set (p := ⟨w.heap.size + 1 + 1, 1, none⟩) (grown_set (p := ⟨w.heap.size + 1 + 1, 0, none⟩) hg (.inl (by simp; omega)) _) (.inl (by simp; omega)) _⟩

set_option maxRecDepth 100000 in
set_option maxHeartbeats 400000 in
theorem orNone_any (a b : Int) (ok : Bool) (w : World) (h : ok = false → a = 0 ∧ b = 0) :
    Calls Try.prog 70 #[frac a b, .bool ok] w fun e w' => e = .returned (.tuple #[frac a b, .int .i64 (if ok then 0 else 8)]) ∧ w.grownBy w' none := by
  unfold frac
  cases ok
  · obtain ⟨rfl, rfl⟩ := h rfl
    clear h
    go_enter Try.func70, Try.ntmps70
    go_wp2_with fail
    have hB := Blk.new (w.alloc (.cells #[.int .i64 0, .int .i64 0] 31)) 31 #[.int .i64 0, .int .i64 0]
    rw [show (w.alloc (.cells #[.int .i64 0, .int .i64 0] 31)).heap.size = w.heap.size + 1 from by simp] at hB
    refine bodyPost_ret (results_row_tmp rfl _ _ (w.heap.size + 1) _ _ _ _ rfl hB Try.underlying31 rfl (by kernel_rfl)) rfl ?_
    exact ⟨rfl, grown_alloc (grown_alloc (grown_refl w) _) _⟩
  · clear h
    go_enter Try.func70, Try.ntmps70
    go_wp2_with fail
    have hB := Blk.new (w.alloc (.cells #[.int .i64 a, .int .i64 b] 31)) 31 #[.int .i64 a, .int .i64 b]
    rw [show (w.alloc (.cells #[.int .i64 a, .int .i64 b] 31)).heap.size = w.heap.size + 1 from by simp] at hB
    refine bodyPost_ret (results_row_tmp rfl _ _ (w.heap.size + 1) _ _ _ _ rfl hB Try.underlying31 rfl (by kernel_rfl)) rfl ?_
    exact ⟨rfl, grown_alloc (grown_alloc (grown_refl w) _) _⟩

end Go.Proofs.Ytkfijicmeekmiaa
