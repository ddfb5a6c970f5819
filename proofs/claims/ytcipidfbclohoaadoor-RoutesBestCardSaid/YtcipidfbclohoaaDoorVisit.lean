/- The walk of visit: a car of package round drives to a stop. -/
import Derived.Test.YtcipidfbclohoaaDoorCar
import Derived.Test.YtcipidfbclohoaaDoorRes
namespace Go.Proofs.YtcipidfbclohoaaDoor
open Go.RowKit

def crBeg (c : Cr) (r : St) : Int := max (c.d + farN c.x c.y r.x r.y) r.f
def crNext (c : Cr) (r : St) : Cr := ⟨r.x, r.y, crBeg c r, crBeg c r + r.l, c.way + farN c.x c.y r.x r.y, c.wt + crBeg c r - (c.d + farN c.x c.y r.x r.y)⟩
def crZero : Cr := ⟨0, 0, 0, 0, 0, 0⟩
def crRes (c : Cr) (r : St) : Cr := if crBeg c r ≤ r.t then crNext c r else crZero
def crGo (c : Cr) (r : St) : Bool := decide (crBeg c r ≤ r.t)
theorem farN_in {a b c d : Int} (h1 : spB a b = true) (h2 : spB c d = true) : 0 ≤ farN a b c d ∧ farN a b c d ≤ 40000 := by
  have e1 : (-10000 ≤ a ∧ a ≤ 10000) ∧ (-10000 ≤ b ∧ b ≤ 10000) := by simpa [spB, btw] using h1
  have e2 : (-10000 ≤ c ∧ c ≤ 10000) ∧ (-10000 ≤ d ∧ d ≤ 10000) := by simpa [spB, btw] using h2
  unfold farN
  omega

set_option maxRecDepth 100000 in
set_option maxHeartbeats 4000000 in
theorem visit_any (c : Cr) (r : St) (w : World) (h1 : spB c.x c.y = true) (h2 : spB r.x r.y = true) (hd : 0 ≤ c.d ∧ c.d ≤ 100000000) (hw : 0 ≤ c.way ∧ c.way ≤ 100000000) (ht : 0 ≤ c.wt ∧ c.wt ≤ 100000000) (hf : 0 ≤ r.f ∧ r.f ≤ 1440) (hl : 0 ≤ r.l ∧ r.l ≤ 1440) :
    Calls Tryd.prog 61 #[.agg #[.int .i64 c.x, .int .i64 c.y, .int .i64 c.b, .int .i64 c.d, .int .i64 c.way, .int .i64 c.wt], .agg #[.string r.k, .int .i64 r.x, .int .i64 r.y, .int .i64 r.f, .int .i64 r.t, .int .i64 r.l]] w
      fun e w' => e = .returned (.tuple #[.agg (crCells (crRes c r)).toArray, .bool (crGo c r)]) ∧ w.grownBy w' none := by
  obtain ⟨cx, cy, cb, cd, cw, ct⟩ := c
  obtain ⟨rk, rx, ry, rf, rt, rl⟩ := r
  simp only at h1 h2 hd hw ht hf hl ⊢
  have hC := ((Blk.new w 66 #[.int .i64 cx, .int .i64 cy, .int .i64 cb, .int .i64 cd, .int .i64 cw, .int .i64 ct]).alloc (.cells #[.string rk, .int .i64 rx, .int .i64 ry, .int .i64 rf, .int .i64 rt, .int .i64 rl] 57)).alloc (.cells #[.int .i64 0, .int .i64 0, .int .i64 0, .int .i64 0, .int .i64 0, .int .i64 0] 66)
  have hg1 := grown_alloc (grown_refl w) (.cells #[.int .i64 cx, .int .i64 cy, .int .i64 cb, .int .i64 cd, .int .i64 cw, .int .i64 ct] 66)
  obtain ⟨g, hg⟩ : ∃ g, w.heap.size = g := ⟨_, rfl⟩
  have hz1 : (w.alloc (.cells #[.int .i64 cx, .int .i64 cy, .int .i64 cb, .int .i64 cd, .int .i64 cw, .int .i64 ct] 66)).heap.size = g + 1 := by simp [hg]
  obtain ⟨W1, hW1⟩ : ∃ W1, w.alloc (.cells #[.int .i64 cx, .int .i64 cy, .int .i64 cb, .int .i64 cd, .int .i64 cw, .int .i64 ct] 66) = W1 := ⟨_, rfl⟩
  rw [hW1] at hC hg1 hz1
  rw [hg] at hC
  have hS := (Blk.new W1 57 #[.string rk, .int .i64 rx, .int .i64 ry, .int .i64 rf, .int .i64 rt, .int .i64 rl]).alloc (.cells #[.int .i64 0, .int .i64 0, .int .i64 0, .int .i64 0, .int .i64 0, .int .i64 0] 66)
  have hg2 := grown_alloc hg1 (.cells #[.string rk, .int .i64 rx, .int .i64 ry, .int .i64 rf, .int .i64 rt, .int .i64 rl] 57)
  rw [hz1] at hS
  have hz2 : (W1.alloc (.cells #[.string rk, .int .i64 rx, .int .i64 ry, .int .i64 rf, .int .i64 rt, .int .i64 rl] 57)).heap.size = g + 1 + 1 := by simp [hz1]
  obtain ⟨W2, hW2⟩ : ∃ W2, W1.alloc (.cells #[.string rk, .int .i64 rx, .int .i64 ry, .int .i64 rf, .int .i64 rt, .int .i64 rl] 57) = W2 := ⟨_, rfl⟩
  rw [hW2] at hC hS hg2 hz2
  have hR := Blk.new W2 66 #[.int .i64 0, .int .i64 0, .int .i64 0, .int .i64 0, .int .i64 0, .int .i64 0]
  have hg3 := grown_alloc hg2 (.cells #[.int .i64 0, .int .i64 0, .int .i64 0, .int .i64 0, .int .i64 0, .int .i64 0] 66)
  rw [hz2] at hR
  obtain ⟨W3, hW3⟩ : ∃ W3, W2.alloc (.cells #[.int .i64 0, .int .i64 0, .int .i64 0, .int .i64 0, .int .i64 0, .int .i64 0] 66) = W3 := ⟨_, rfl⟩
  rw [hW3] at hC hS hg3 hR
  have hfar := fun wx => far_any cx cy rx ry wx h1 h2
  have hfi := farN_in h1 h2
  obtain ⟨q, hq⟩ : ∃ q, farN cx cy rx ry = q := ⟨_, rfl⟩
  rw [hq] at hfar hfi
  have HW := Lib.hid (And.intro hW1 (And.intro hW2 (And.intro hW3 (And.intro hg (And.intro hfar (And.intro hg3 hq))))))
  clear hW1 hW2 hW3 hg hfar hg1 hg2 hg3 hz1 hz2 h1 h2 hq
  have c0 : W3.cell? ⟨g, 0, none⟩ = some (.int .i64 cx) := hC.cell 0
  have c1 : W3.cell? ⟨g, 1, none⟩ = some (.int .i64 cy) := hC.cell 1
  have s1 : W3.cell? ⟨g + 1, 1, none⟩ = some (.int .i64 rx) := hS.cell 1
  have s2 : W3.cell? ⟨g + 1, 2, none⟩ = some (.int .i64 ry) := hS.cell 2
  go_enter Tryd.func61, Tryd.ntmps61
  go_wp2_with fail
  rw [HW.out.1, HW.out.2.1, HW.out.2.2.1, HW.out.2.2.2.1]
  refine (HW.out.2.2.2.2.1 _).mono ?_
  rintro e w1 ⟨rfl, hg1⟩
  have hC1 := hC.grown hg1 (by simp)
  have hS1 := hS.grown hg1 (by simp)
  have hR1 := hR.grown hg1 (by simp)
  have k0 : w1.cell? ⟨g, 3, none⟩ = some (.int .i64 cd) := hC1.cell 3
  have k1 : w1.cell? ⟨g, 4, none⟩ = some (.int .i64 cw) := hC1.cell 4
  have k2 : w1.cell? ⟨g, 5, none⟩ = some (.int .i64 ct) := hC1.cell 5
  have t0 : w1.cell? ⟨g + 1, 1, none⟩ = some (.int .i64 rx) := hS1.cell 1
  have t1 : w1.cell? ⟨g + 1, 2, none⟩ = some (.int .i64 ry) := hS1.cell 2
  have t2 : w1.cell? ⟨g + 1, 3, none⟩ = some (.int .i64 rf) := hS1.cell 3
  have t3 : w1.cell? ⟨g + 1, 4, none⟩ = some (.int .i64 rt) := hS1.cell 4
  have t4 : w1.cell? ⟨g + 1, 5, none⟩ = some (.int .i64 rl) := hS1.cell 5
  have r0 : w1.cell? ⟨g + 1 + 1, 0, none⟩ = some (.int .i64 0) := hR1.cell 0
  have r1 : w1.cell? ⟨g + 1 + 1, 1, none⟩ = some (.int .i64 0) := hR1.cell 1
  have r2 : w1.cell? ⟨g + 1 + 1, 2, none⟩ = some (.int .i64 0) := hR1.cell 2
  have r3 : w1.cell? ⟨g + 1 + 1, 3, none⟩ = some (.int .i64 0) := hR1.cell 3
  have r4 : w1.cell? ⟨g + 1 + 1, 4, none⟩ = some (.int .i64 0) := hR1.cell 4
  have r5 : w1.cell? ⟨g + 1 + 1, 5, none⟩ = some (.int .i64 0) := hR1.cell 5
  have f0 := hR1.frozen 0
  have f1 := hR1.frozen 1
  have f2 := hR1.frozen 2
  have f3 := hR1.frozen 3
  have f4 := hR1.frozen 4
  have f5 := hR1.frozen 5
  have hgw := HW.out.2.2.2.2.2.1.trans hg1
  have hsz : w.heap.size ≤ g + 1 + 1 := by have := HW.out.2.2.2.1; omega
  have H1 := Lib.hid (And.intro hR1 hgw)
  have hq := HW.out.2.2.2.2.2.2
  clear hC hS hR hC1 hS1 hR1 hg1 c0 c1 s1 s2 hgw
  by_cases m1 : cd + q < rf
  case' pos => have hb : crBeg ⟨cx, cy, cb, cd, cw, ct⟩ ⟨rk, rx, ry, rf, rt, rl⟩ = rf := by unfold crBeg; simp only; rw [hq]; omega
  case' neg => have hb : crBeg ⟨cx, cy, cb, cd, cw, ct⟩ ⟨rk, rx, ry, rf, rt, rl⟩ = cd + q := by unfold crBeg; simp only; rw [hq]; omega
  · have HB := Lib.hid (And.intro hb hq)
    clear hb hq
    by_cases m2 : rt < cd + q
    · go_wp2_with fail
      refine bodyPost_ret (results_row_tmp rfl _ _ (g + 1 + 1) _ _ _ _ rfl (set6_blk H1.out.1 (.int .i64 0) (.int .i64 0) (.int .i64 0) (.int .i64 0) (.int .i64 0) (.int .i64 0)) Tryd.underlying66 rfl (by kernel_rfl)) rfl ?_
      refine ⟨?_, set6_grown H1.out.2 hsz _ _ _ _ _ _⟩
      unfold crRes crGo
      rw [HB.out.1, if_neg (by first | omega | (simp only; omega)), show decide (cd + q ≤ rt) = false from decide_eq_false (by omega)]
      rfl
    · go_wp2_with fail
      refine bodyPost_ret (results_row_tmp rfl _ _ (g + 1 + 1) _ _ _ _ rfl (set6_blk H1.out.1 (.int .i64 rx) (.int .i64 ry) (.int .i64 (cd + q)) (.int .i64 (cd + q + rl)) (.int .i64 (cw + q)) (.int .i64 ct)) Tryd.underlying66 rfl (by kernel_rfl)) rfl ?_
      refine ⟨?_, set6_grown H1.out.2 hsz _ _ _ _ _ _⟩
      unfold crRes crGo
      rw [HB.out.1, if_pos (by first | omega | (simp only; omega)), show decide (cd + q ≤ rt) = true from decide_eq_true (by omega)]
      unfold crNext
      simp only
      rw [HB.out.1, HB.out.2, show ct + (cd + q) - (cd + q) = ct from by omega]
      rfl
  · have HB := Lib.hid (And.intro hb hq)
    clear hb hq
    by_cases m2 : rt < rf
    · go_wp2_with fail
      refine bodyPost_ret (results_row_tmp rfl _ _ (g + 1 + 1) _ _ _ _ rfl (set6_blk H1.out.1 (.int .i64 0) (.int .i64 0) (.int .i64 0) (.int .i64 0) (.int .i64 0) (.int .i64 0)) Tryd.underlying66 rfl (by kernel_rfl)) rfl ?_
      refine ⟨?_, set6_grown H1.out.2 hsz _ _ _ _ _ _⟩
      unfold crRes crGo
      rw [HB.out.1, if_neg (by first | omega | (simp only; omega)), show decide (rf ≤ rt) = false from decide_eq_false (by omega)]
      rfl
    · go_wp2_with fail
      refine bodyPost_ret (results_row_tmp rfl _ _ (g + 1 + 1) _ _ _ _ rfl (set6_blk H1.out.1 (.int .i64 rx) (.int .i64 ry) (.int .i64 (rf)) (.int .i64 (rf + rl)) (.int .i64 (cw + q)) (.int .i64 (ct + (rf) - (cd + q)))) Tryd.underlying66 rfl (by kernel_rfl)) rfl ?_
      refine ⟨?_, set6_grown H1.out.2 hsz _ _ _ _ _ _⟩
      unfold crRes crGo
      rw [HB.out.1, if_pos (by first | omega | (simp only; omega)), show decide (rf ≤ rt) = true from decide_eq_true (by omega)]
      unfold crNext
      simp only
      rw [HB.out.1, HB.out.2]
      rfl

end Go.Proofs.YtcipidfbclohoaaDoor
