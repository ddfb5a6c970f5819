/- The walk of nearest: the nearest stop that is not in a route and could begin in time. The walk of Nearest. The walk of the reference's closure: all orders. The walk of the reference's best route. The walk of the reference's nearest route. The walk of the law RoutesBest. -/
import Derived.Test.YtcipidfbclohoaaDoorRbA
import Derived.Test.YtcipidfbclohoaaDoorDrv
import Derived.Test.YtcipidfbclohoaaDoorTrip
import Derived.Test.YtcipidfbclohoaaDoorMade
import Derived.Test.YtcipidfbclohoaaDoorDrvO
import Derived.Deep.RegionHeld3
import Derived.Test.YtcipidfbclohoaaDoorInv
import Derived.Deep.AppendLies
import Derived.Test.YtcipidfbclohoaaDoorRtF
import Derived.Test.YtcipidfbclohoaaDoorStops
import Derived.Test.YtcipidfbclohoaaDoorSpt
import Derived.Test.YtcipidfbclohoaaDoorIn
import Derived.Test.YtcipidfbclohoaaDoorEq
import Derived.Test.YtcipidfbclohoaaDoorFar
namespace Go.Proofs.YtcipidfbclohoaaDoor
open Go.RowKit

def nrI : Option (Nat × Cr) → Int
  | none => 0
  | some p => p.1
def nrC : Option (Nat × Cr) → Cr
  | none => crZero
  | some p => p.2

theorem results_cell_mid {fn : Func} {p u v : Tmp} {ty : TypeId} (h : fn.results = #[.tmp u, .cell p ty, .tmp v]) (tmps : Array Value) (P : Program) (w : World) :
    (results fn tmps).run P w =
      ((asAddr (tmps.getD p undef)).run P w).andThen fun a w₁ => ((loadVar ty a).run P w₁).andThen fun x w₂ => .ok (.tuple #[tmps.getD u undef, x, tmps.getD v undef]) w₂ := by
  simp only [results, h]
  simp [Sem.run_bind, Result.andThen]
theorem results_tmp_row_tmp {P : Program} {fn : Func} {p u v : Tmp} {ty : TypeId} (h : fn.results = #[.tmp u, .cell p ty, .tmp v]) (tmps : Array Value) (w : World) (g : Nat) (t : TypeId) (cs : Array Value) (fr : Nat × Nat) (d : TypeDesc)
    (hp : tmps.getD p undef = .pointer (some ⟨g, 0, none⟩)) (hg : w.heap[g]? = some (.cells cs t fr))
    (hu : P.underlying ty = some d) (hd : (match d with | .struct _ | .array _ _ => true | _ => false) = true) (hi : (P.info? ty).map (·.size) = some cs.size) :
    (results fn tmps).run P w = .ok (.tuple #[tmps.getD u undef, .agg cs, tmps.getD v undef]) w := by
  have hp' : tmps[p]?.getD undef = .pointer (some ⟨g, 0, none⟩) := by simpa using hp
  rw [results_cell_mid h]
  simp [hp', asAddr, run_loadVar_row w g t ty cs fr d hg hu hd hi, Result.andThen]
theorem Blk.drw {w : World} {g T : Nat} {cs : Array Value} (h : Blk w g T cs) : Blk w.drew g T cs := h
theorem drew6_far {w : World} {b g : Nat} {T : TypeId} {cs : Array Value} {b0 b1 b2 b3 b4 b5 : Value} (h : Blk w b T cs) (hb : b ≠ g) : Blk ((((((w.setCell ⟨g, 0, none⟩ b0).setCell ⟨g, 1, none⟩ b1).setCell ⟨g, 2, none⟩ b2).setCell ⟨g, 3, none⟩ b3).setCell ⟨g, 4, none⟩ b4).setCell ⟨g, 5, none⟩ b5).drew b T cs :=
  Blk.drw (set6_far h hb b0 b1 b2 b3 b4 b5)
theorem drew6_blk {w : World} {g T : Nat} {a0 a1 a2 a3 a4 a5 b0 b1 b2 b3 b4 b5 : Value} (h : Blk w g T #[a0, a1, a2, a3, a4, a5]) : Blk ((((((w.setCell ⟨g, 0, none⟩ b0).setCell ⟨g, 1, none⟩ b1).setCell ⟨g, 2, none⟩ b2).setCell ⟨g, 3, none⟩ b3).setCell ⟨g, 4, none⟩ b4).setCell ⟨g, 5, none⟩ b5).drew g T #[b0, b1, b2, b3, b4, b5] :=
  Blk.drw (set6_blk h b0 b1 b2 b3 b4 b5)
theorem drew6_grown {a w : World} {g : Nat} {b0 b1 b2 b3 b4 b5 : Value} (h : a.grownBy w none) (hg : a.heap.size ≤ g) : a.grownBy ((((((w.setCell ⟨g, 0, none⟩ b0).setCell ⟨g, 1, none⟩ b1).setCell ⟨g, 2, none⟩ b2).setCell ⟨g, 3, none⟩ b3).setCell ⟨g, 4, none⟩ b4).setCell ⟨g, 5, none⟩ b5).drew none :=
  grown_drew (set6_grown h hg b0 b1 b2 b3 b4 b5)

set_option maxRecDepth 100000 in
set_option maxHeartbeats 8000000 in
theorem nearest_any (hx hy : Int) (A : Option Addr) (m cp : Nat) (V : List St) (st : Int) (c : Cr) (B : Option Addr) (n cb : Nat) (o : List Int) (w : World) (hr : Rd w 6 A m (stFlat V)) (hmc : m ≤ cp) (ho : Rd w 1 B n (ints o)) (hV : V.length ≤ 60 ∧ ∀ t ∈ V, spB t.x t.y = true ∧ (0 ≤ t.f ∧ t.f ≤ t.t) ∧ t.t ≤ 1440 ∧ (0 ≤ t.l ∧ t.l ≤ 1440)) (hC : CrB n c) (hn : n ≤ 60) :
    Calls Tryd.prog 35 #[.agg #[.int .i64 hx, .int .i64 hy, .slice A m cp, .int .i64 st], .agg (crCells c).toArray, .slice B n cb] w
      fun e w' => e = .returned (.tuple #[.int .i64 (nrI (nearL V c o m)), .agg (crCells (nrC (nearL V c o m))).toArray, .bool (nearL V c o m).isSome]) ∧ w.grownBy w' none := by
  have hlV : V.length = m := by have := hr.1; rw [stFlat_len] at this; omega
  obtain ⟨g, hg⟩ : ∃ g, w.heap.size = g := ⟨_, rfl⟩
  have k1 := Blk.new w 61 #[.int .i64 hx, .int .i64 hy, .slice A m cp, .int .i64 st]
  have g1 := grown_alloc (grown_refl w) (.cells #[.int .i64 hx, .int .i64 hy, .slice A m cp, .int .i64 st] 61)
  have z1 : (w.alloc (.cells #[.int .i64 hx, .int .i64 hy, .slice A m cp, .int .i64 st] 61)).heap.size = g + 1 := by simp [hg]
  rw [hg] at k1
  obtain ⟨W1, hW1⟩ : ∃ W1, w.alloc (.cells #[.int .i64 hx, .int .i64 hy, .slice A m cp, .int .i64 st] 61) = W1 := ⟨_, rfl⟩
  rw [hW1] at k1 g1 z1
  have k2 := Blk.new W1 66 (crCells c).toArray
  have k1 := k1.alloc (.cells (crCells c).toArray 66)
  have g1 := grown_alloc g1 (.cells (crCells c).toArray 66)
  have z2 : (W1.alloc (.cells (crCells c).toArray 66)).heap.size = g + 2 := by simp [z1]
  rw [z1] at k2
  obtain ⟨W2, hW2⟩ : ∃ W2, W1.alloc (.cells (crCells c).toArray 66) = W2 := ⟨_, rfl⟩
  rw [hW2] at k1 k2 g1 z2
  have k3 := Blk.new W2 66 #[.int .i64 0, .int .i64 0, .int .i64 0, .int .i64 0, .int .i64 0, .int .i64 0]
  have k1 := k1.alloc (.cells #[.int .i64 0, .int .i64 0, .int .i64 0, .int .i64 0, .int .i64 0, .int .i64 0] 66)
  have k2 := k2.alloc (.cells #[.int .i64 0, .int .i64 0, .int .i64 0, .int .i64 0, .int .i64 0, .int .i64 0] 66)
  have g1 := grown_alloc g1 (.cells #[.int .i64 0, .int .i64 0, .int .i64 0, .int .i64 0, .int .i64 0, .int .i64 0] 66)
  have z3 : (W2.alloc (.cells #[.int .i64 0, .int .i64 0, .int .i64 0, .int .i64 0, .int .i64 0, .int .i64 0] 66)).heap.size = g + 3 := by simp [z2]
  rw [z2] at k3
  obtain ⟨W3, hW3⟩ : ∃ W3, W2.alloc (.cells #[.int .i64 0, .int .i64 0, .int .i64 0, .int .i64 0, .int .i64 0, .int .i64 0] 66) = W3 := ⟨_, rfl⟩
  rw [hW3] at k1 k2 k3 g1 z3
  have k4 := Blk.new W3 66 #[.int .i64 0, .int .i64 0, .int .i64 0, .int .i64 0, .int .i64 0, .int .i64 0]
  have k1 := k1.alloc (.cells #[.int .i64 0, .int .i64 0, .int .i64 0, .int .i64 0, .int .i64 0, .int .i64 0] 66)
  have k2 := k2.alloc (.cells #[.int .i64 0, .int .i64 0, .int .i64 0, .int .i64 0, .int .i64 0, .int .i64 0] 66)
  have k3 := k3.alloc (.cells #[.int .i64 0, .int .i64 0, .int .i64 0, .int .i64 0, .int .i64 0, .int .i64 0] 66)
  have g1 := grown_alloc g1 (.cells #[.int .i64 0, .int .i64 0, .int .i64 0, .int .i64 0, .int .i64 0, .int .i64 0] 66)
  rw [z3] at k4
  obtain ⟨W4, hW4⟩ : ∃ W4, W3.alloc (.cells #[.int .i64 0, .int .i64 0, .int .i64 0, .int .i64 0, .int .i64 0, .int .i64 0] 66) = W4 := ⟨_, rfl⟩
  rw [hW4] at k1 k2 k3 k4 g1
  have t2 : W4.cell? ⟨g, 2, none⟩ = some (.slice A m cp) := k1.cell 2
  have HW := Lib.hid (And.intro hW1 (And.intro hW2 (And.intro hW3 (And.intro hW4 (And.intro hg (And.intro hC (And.intro hn (And.intro hV hlV))))))))
  have HK := Lib.hid (And.intro k1 (And.intro k2 (And.intro k3 (And.intro k4 g1))))
  clear hW1 hW2 hW3 hW4 hg hC hn hV hlV k1 k2 k3 k4 g1 z1 z2 z3
  go_enter Tryd.func35, Tryd.ntmps35
  go_wp2_with fail
  rw [HW.out.1, HW.out.2.1, HW.out.2.2.1, HW.out.2.2.2.1, HW.out.2.2.2.2.1]
  clear t2
  have hm60 : m ≤ 60 := by have := HW.out.2.2.2.2.2.2.2; omega
  go_loopg [9, 11, 20] m (fun κ vi vb i wr => ∃ j : Nat, κ + j = m ∧ i = .int .i64 j ∧ vi = .int .i64 (nrI (nearL V c o j)) ∧ vb = .bool (nearL V c o j).isSome
    ∧ Blk wr g 61 #[.int .i64 hx, .int .i64 hy, .slice A m cp, .int .i64 st] ∧ Blk wr (g + 1) 66 (crCells c).toArray ∧ Blk wr (g + 2) 66 (crCells crZero).toArray ∧ Blk wr (g + 3) 66 (crCells (nrC (nearL V c o j))).toArray ∧ w.grownBy wr none)
  case atStart => exact ⟨0, by omega, rfl, rfl, rfl, HK.out.1, HK.out.2.1, HK.out.2.2.1, HK.out.2.2.2.1, HK.out.2.2.2.2⟩
  case round =>
    obtain ⟨j, hj, rfl, rfl, rfl, k1, k2, k3, k4, hgr⟩ := hrel
    by_cases hlt2 : j < m
    · obtain ⟨b2, off2, rfl, hb2, r, hr2, y0, y1, y2, y3, y4, y5⟩ := st_cells (hr.grown hgr) hlt2
      have hr3 : stAt V j = r := by unfold stAt; rw [List.getD_eq_getElem?_getD, Int.toNat_natCast, hr2]; rfl
      have hro := HW.out.2.2.2.2.2.2.2.1.2 r (List.mem_of_getElem? hr2)
      have hA3 := grown_alloc (grown_refl wr) (.cells #[.string r.k, .int .i64 r.x, .int .i64 r.y, .int .i64 r.f, .int .i64 r.t, .int .i64 r.l] 57)
      have hS3 := Blk.new wr 57 #[.string r.k, .int .i64 r.x, .int .i64 r.y, .int .i64 r.f, .int .i64 r.t, .int .i64 r.l]
      have n1 := k1.grown hA3 (by simp)
      have n2 := k2.grown hA3 (by simp)
      have n3 := k3.grown hA3 (by simp)
      have n4 := k4.grown hA3 (by simp)
      have hg3 := hgr.trans hA3
      obtain ⟨p, hp⟩ : ∃ p, wr.heap.size = p := ⟨_, rfl⟩
      rw [hp] at hS3
      obtain ⟨W5, hW5⟩ : ∃ W5, wr.alloc (.cells #[.string r.k, .int .i64 r.x, .int .i64 r.y, .int .i64 r.f, .int .i64 r.t, .int .i64 r.l] 57) = W5 := ⟨_, rfl⟩
      rw [hW5] at hS3 n1 n2 n3 n4 hg3
      have hcon := contains_any B n cb o j W5 (ho.grown hg3) (by have := HW.out.2.2.2.2.2.2.1; omega)
      obtain ⟨N, hN⟩ : ∃ N, hasN o j = N := ⟨_, rfl⟩
      rw [show decide ((j : Int) ∈ o) = N from hN] at hcon
      have HZ := Lib.hid (And.intro hW5 (And.intro hp (And.intro hS3 (And.intro hcon (And.intro hN (And.intro hr3 (And.intro hro (And.intro hj (And.intro hg3 (And.intro n1 (And.intro n2 (And.intro n3 n4))))))))))))
      clear hW5 hp hS3 hcon hN hr3 hro hj hg3 n1 n2 n3 n4 hA3 k1 k2 k3 k4 hr2 hb2 hgr
      go_wp2_with fail
      rw [HZ.out.1, HZ.out.2.1]
      clear y0 y1 y2 y3 y4 y5
      refine HZ.out.2.2.2.1.mono ?_
      rintro e w6 ⟨rfl, hg6⟩
      obtain ⟨hW5, hp, hS, _, hN, hr3, hro, hj, hg5, n1, n2, n3, n4⟩ := HZ.out
      have m0 := hS.grown hg6 (by simp)
      have m1 := n1.grown hg6 (by simp)
      have m2 := n2.grown hg6 (by simp)
      have m3 := n3.grown hg6 (by simp)
      have m4 := n4.grown hg6 (by simp)
      have hgw6 := hg5.trans hg6
      clear hW5 hp hS hg5 n1 n2 n3 n4 hg6
      cases N
      · have q0 : w6.cell? ⟨g + 1, 0, none⟩ = some (.int .i64 c.x) := m2.cell 0
        have q1 : w6.cell? ⟨g + 1, 1, none⟩ = some (.int .i64 c.y) := m2.cell 1
        have q2 : w6.cell? ⟨g + 1, 2, none⟩ = some (.int .i64 c.b) := m2.cell 2
        have q3 : w6.cell? ⟨g + 1, 3, none⟩ = some (.int .i64 c.d) := m2.cell 3
        have q4 : w6.cell? ⟨g + 1, 4, none⟩ = some (.int .i64 c.way) := m2.cell 4
        have q5 : w6.cell? ⟨g + 1, 5, none⟩ = some (.int .i64 c.wt) := m2.cell 5
        have y0 : w6.cell? ⟨p, 0, none⟩ = some (.string r.k) := m0.cell 0
        have y1 : w6.cell? ⟨p, 1, none⟩ = some (.int .i64 r.x) := m0.cell 1
        have y2 : w6.cell? ⟨p, 2, none⟩ = some (.int .i64 r.y) := m0.cell 2
        have y3 : w6.cell? ⟨p, 3, none⟩ = some (.int .i64 r.f) := m0.cell 3
        have y4 : w6.cell? ⟨p, 4, none⟩ = some (.int .i64 r.t) := m0.cell 4
        have y5 : w6.cell? ⟨p, 5, none⟩ = some (.int .i64 r.l) := m0.cell 5
        have hn60 : (n : Int) ≤ 60 := by have := HW.out.2.2.2.2.2.2.1; omega
        obtain ⟨hc1, hc2, hc3, hc4⟩ := HW.out.2.2.2.2.2.1
        have hvis := visit_any c r w6 hc1 hro.1 (by omega) (by omega) (by omega) (by omega) (by omega)
        simp only [crCells] at hvis
        have H6 := Lib.hid (And.intro m1 (And.intro m2 (And.intro m3 (And.intro m4 (And.intro hgw6 (And.intro hN (And.intro hr3 hvis)))))))
        clear m0 m1 m2 m3 m4 hgw6 hN hr3 hvis hc1 hc2 hc3 hc4 hn60 hro
        go_wp2_with fail
        refine H6.out.2.2.2.2.2.2.2.mono ?_
        rintro e w7 ⟨rfl, hg7⟩
        clear q0 q1 q2 q3 q4 q5 y0 y1 y2 y3 y4 y5
        obtain ⟨m1, m2, m3, m4, hgw6, hN, hr3, _⟩ := H6.out
        obtain ⟨G, hG⟩ : ∃ G, crGo c r = G := ⟨_, rfl⟩
        rw [hG]
        obtain ⟨R, hR⟩ : ∃ R, crRes c r = R := ⟨_, rfl⟩
        simp only [hR]
        obtain ⟨p1, hp1⟩ : ∃ p1, w7.heap.size = p1 := ⟨_, rfl⟩
        have hA8 := grown_alloc hg7 (.cells #[.int .i64 R.x, .int .i64 R.y, .int .i64 R.b, .int .i64 R.d, .int .i64 R.way, .int .i64 R.wt] 66)
        have hR8 := Blk.new w7 66 #[.int .i64 R.x, .int .i64 R.y, .int .i64 R.b, .int .i64 R.d, .int .i64 R.way, .int .i64 R.wt]
        have m1 := m1.grown hA8 (by simp)
        have m2 := m2.grown hA8 (by simp)
        have m3 := m3.grown hA8 (by simp)
        have m4 := m4.grown hA8 (by simp)
        have hgw8 := hgw6.trans hA8
        have hp1g : g + 3 < p1 := by have h1 := H6.out.2.2.2.1.lt; have h2 := hg7.size; omega
        rw [hp1] at hR8
        obtain ⟨W8, hW8⟩ : ∃ W8, w7.alloc (.cells #[.int .i64 R.x, .int .i64 R.y, .int .i64 R.b, .int .i64 R.d, .int .i64 R.way, .int .i64 R.wt] 66) = W8 := ⟨_, rfl⟩
        rw [hW8] at hR8 m1 m2 m3 m4 hgw8
        have H8 := Lib.hid (And.intro hW8 (And.intro hp1 (And.intro hR8 (And.intro m1 (And.intro m2 (And.intro m3 (And.intro m4 (And.intro hgw8 (And.intro hG (And.intro hR (And.intro hN hr3)))))))))))
        have x4 : W8.cell? ⟨p1, 4, none⟩ = some (.int .i64 R.way) := hR8.cell 4
        clear hW8 hp1 hR8 m1 m2 m3 m4 hgw8 hG hR hN hr3 hA8 hg7 hgw6
        cases G
        · have hsame : nearL V c o (j + 1) = nearL V c o j := by
            rw [nearL_succ]
            unfold nearS
            rw [if_neg (by rw [H8.out.2.2.2.2.2.2.2.2.2.2.1]; simp), H8.out.2.2.2.2.2.2.2.2.2.2.2, if_neg (by rw [H8.out.2.2.2.2.2.2.2.2.1]; simp)]
          have HS := Lib.hid hsame
          clear hsame x4
          go_wp2_with fail
          rw [H8.out.1]
          go_roundg (gk - 1)
          case measure => omega
          case rel => exact ⟨j + 1, by omega, by go_num, by rw [HS.out], by rw [HS.out], H8.out.2.2.2.1, H8.out.2.2.2.2.1, H8.out.2.2.2.2.2.1, by rw [HS.out]; exact H8.out.2.2.2.2.2.2.1, H8.out.2.2.2.2.2.2.2.1⟩
        · have hRn : R = crNext c r := by
            have h1 := H8.out.2.2.2.2.2.2.2.2.2.1
            have h2 := H8.out.2.2.2.2.2.2.2.2.1
            unfold crGo at h2
            unfold crRes at h1
            rw [if_pos (by simpa using h2)] at h1
            exact h1.symm
          have hnS : nearL V c o (j + 1) = match nearL V c o j with | none => some (j, R) | some pr => if R.way < pr.2.way then some (j, R) else some pr := by
            rw [nearL_succ]
            unfold nearS
            rw [if_neg (by rw [H8.out.2.2.2.2.2.2.2.2.2.2.1]; simp), H8.out.2.2.2.2.2.2.2.2.2.2.2, if_pos H8.out.2.2.2.2.2.2.2.2.1, hRn]
            cases nearL V c o j <;> rfl
          have m4 := H8.out.2.2.2.2.2.2.1
          have HnS := Lib.hid (And.intro hnS hRn)
          clear hnS hRn
          obtain ⟨X, hX⟩ : ∃ X, nearL V c o j = X := ⟨_, rfl⟩
          rw [hX] at m4 HnS ⊢
          have HX := Lib.hid hX
          clear hX
          have hset := fun b0 b1 b2 b3 b4 b5 => set6_blk m4 b0 b1 b2 b3 b4 b5
          have r0 : (w7.alloc (.cells #[.int .i64 R.x, .int .i64 R.y, .int .i64 R.b, .int .i64 R.d, .int .i64 R.way, .int .i64 R.wt] 66)).cell? ⟨w7.heap.size, 4, none⟩ = some (.int .i64 R.way) := by rw [H8.out.1, H8.out.2.1]; exact x4
          rcases X with _ | pr
          · have hN1 : nearL V c o (j + 1) = some (j, R) := HnS.out.1
            have HN1 := Lib.hid hN1
            clear hN1
            simp only [nrI, Option.isSome_none]
            go_wp2_with fail
            rw [H8.out.1, H8.out.2.1]
            have p0 : W8.cell? ⟨p1, 0, none⟩ = some (.int .i64 R.x) := H8.out.2.2.1.cell 0
            have p1' : W8.cell? ⟨p1, 1, none⟩ = some (.int .i64 R.y) := H8.out.2.2.1.cell 1
            have p2 : W8.cell? ⟨p1, 2, none⟩ = some (.int .i64 R.b) := H8.out.2.2.1.cell 2
            have p3 : W8.cell? ⟨p1, 3, none⟩ = some (.int .i64 R.d) := H8.out.2.2.1.cell 3
            have p5 : W8.cell? ⟨p1, 5, none⟩ = some (.int .i64 R.wt) := H8.out.2.2.1.cell 5
            have s0 : W8.cell? ⟨g + 1 + 1 + 1, 0, none⟩ = some (.int .i64 crZero.x) := m4.cell 0
            have s1 : W8.cell? ⟨g + 1 + 1 + 1, 1, none⟩ = some (.int .i64 crZero.y) := m4.cell 1
            have s2 : W8.cell? ⟨g + 1 + 1 + 1, 2, none⟩ = some (.int .i64 crZero.b) := m4.cell 2
            have s3 : W8.cell? ⟨g + 1 + 1 + 1, 3, none⟩ = some (.int .i64 crZero.d) := m4.cell 3
            have s4 : W8.cell? ⟨g + 1 + 1 + 1, 4, none⟩ = some (.int .i64 crZero.way) := m4.cell 4
            have s5 : W8.cell? ⟨g + 1 + 1 + 1, 5, none⟩ = some (.int .i64 crZero.wt) := m4.cell 5
            have f0 : W8.frozen? ⟨g + 1 + 1 + 1, 0, none⟩ = false := m4.frozen 0
            have f1 : W8.frozen? ⟨g + 1 + 1 + 1, 1, none⟩ = false := m4.frozen 1
            have f2 : W8.frozen? ⟨g + 1 + 1 + 1, 2, none⟩ = false := m4.frozen 2
            have f3 : W8.frozen? ⟨g + 1 + 1 + 1, 3, none⟩ = false := m4.frozen 3
            have f4 : W8.frozen? ⟨g + 1 + 1 + 1, 4, none⟩ = false := m4.frozen 4
            have f5 : W8.frozen? ⟨g + 1 + 1 + 1, 5, none⟩ = false := m4.frozen 5
            have HM := Lib.hid m4
            clear m4 hset
            go_region
            go_wp2_with fail
            go_roundg (gk - 1)
            case measure => omega
            case rel =>
              refine ⟨j + 1, by omega, by go_num, by rw [HN1.out]; rfl, by rw [HN1.out]; rfl, drew6_far H8.out.2.2.2.1 (by omega), drew6_far H8.out.2.2.2.2.1 (by omega), drew6_far H8.out.2.2.2.2.2.1 (by omega), ?_, drew6_grown H8.out.2.2.2.2.2.2.2.1 (by have := HW.out.2.2.2.2.1; omega)⟩
              rw [HN1.out]
              exact drew6_blk HM.out
          · simp only [nrI, Option.isSome_some]
            have z4 : (w7.alloc (.cells #[.int .i64 R.x, .int .i64 R.y, .int .i64 R.b, .int .i64 R.d, .int .i64 R.way, .int .i64 R.wt] 66)).cell? ⟨g + 1 + 1 + 1, 4, none⟩ = some (.int .i64 pr.2.way) := by rw [H8.out.1]; exact m4.cell 4
            by_cases hw : R.way < pr.2.way
            · have hN1 : nearL V c o (j + 1) = some (j, R) := by rw [HnS.out.1]; exact if_pos hw
              have HN1 := Lib.hid hN1
              clear hN1
              go_wp2_with fail
              clear z4 r0
              rw [H8.out.1, H8.out.2.1]
              have p0 : W8.cell? ⟨p1, 0, none⟩ = some (.int .i64 R.x) := H8.out.2.2.1.cell 0
              have p1' : W8.cell? ⟨p1, 1, none⟩ = some (.int .i64 R.y) := H8.out.2.2.1.cell 1
              have p2 : W8.cell? ⟨p1, 2, none⟩ = some (.int .i64 R.b) := H8.out.2.2.1.cell 2
              have p3 : W8.cell? ⟨p1, 3, none⟩ = some (.int .i64 R.d) := H8.out.2.2.1.cell 3
              have p5 : W8.cell? ⟨p1, 5, none⟩ = some (.int .i64 R.wt) := H8.out.2.2.1.cell 5
              have s0 : W8.cell? ⟨g + 1 + 1 + 1, 0, none⟩ = some (.int .i64 pr.2.x) := m4.cell 0
              have s1 : W8.cell? ⟨g + 1 + 1 + 1, 1, none⟩ = some (.int .i64 pr.2.y) := m4.cell 1
              have s2 : W8.cell? ⟨g + 1 + 1 + 1, 2, none⟩ = some (.int .i64 pr.2.b) := m4.cell 2
              have s3 : W8.cell? ⟨g + 1 + 1 + 1, 3, none⟩ = some (.int .i64 pr.2.d) := m4.cell 3
              have s4 : W8.cell? ⟨g + 1 + 1 + 1, 4, none⟩ = some (.int .i64 pr.2.way) := m4.cell 4
              have s5 : W8.cell? ⟨g + 1 + 1 + 1, 5, none⟩ = some (.int .i64 pr.2.wt) := m4.cell 5
              have f0 : W8.frozen? ⟨g + 1 + 1 + 1, 0, none⟩ = false := m4.frozen 0
              have f1 : W8.frozen? ⟨g + 1 + 1 + 1, 1, none⟩ = false := m4.frozen 1
              have f2 : W8.frozen? ⟨g + 1 + 1 + 1, 2, none⟩ = false := m4.frozen 2
              have f3 : W8.frozen? ⟨g + 1 + 1 + 1, 3, none⟩ = false := m4.frozen 3
              have f4 : W8.frozen? ⟨g + 1 + 1 + 1, 4, none⟩ = false := m4.frozen 4
              have f5 : W8.frozen? ⟨g + 1 + 1 + 1, 5, none⟩ = false := m4.frozen 5
              have HM := Lib.hid m4
              clear m4 hset
              go_region
              go_wp2_with fail
              go_roundg (gk - 1)
              case measure => omega
              case rel =>
                refine ⟨j + 1, by omega, by go_num, by rw [HN1.out]; rfl, by rw [HN1.out]; rfl, drew6_far H8.out.2.2.2.1 (by omega), drew6_far H8.out.2.2.2.2.1 (by omega), drew6_far H8.out.2.2.2.2.2.1 (by omega), ?_, drew6_grown H8.out.2.2.2.2.2.2.2.1 (by have := HW.out.2.2.2.2.1; omega)⟩
                rw [HN1.out]
                exact drew6_blk HM.out
            · have hN1 : nearL V c o (j + 1) = some pr := by rw [HnS.out.1]; exact if_neg hw
              have HN1 := Lib.hid (And.intro hN1 m4)
              clear hN1 m4 hset
              go_wp2_with fail
              rw [H8.out.1]
              go_roundg (gk - 1)
              case measure => omega
              case rel => exact ⟨j + 1, by omega, by go_num, by rw [HN1.out.1]; rfl, by rw [HN1.out.1]; rfl, H8.out.2.2.2.1, H8.out.2.2.2.2.1, H8.out.2.2.2.2.2.1, by rw [HN1.out.1]; exact HN1.out.2, H8.out.2.2.2.2.2.2.2.1⟩
      · have hsame : nearL V c o (j + 1) = nearL V c o j := by
          rw [nearL_succ]
          unfold nearS
          rw [if_pos hN]
        have HS := Lib.hid (And.intro hsame (And.intro m1 (And.intro m2 (And.intro m3 (And.intro m4 hgw6)))))
        clear hsame m0 m1 m2 m3 m4 hgw6 hN hr3 hro
        go_wp2_with fail
        go_roundg (gk - 1)
        case measure => omega
        case rel => exact ⟨j + 1, by omega, by go_num, by rw [HS.out.1], by rw [HS.out.1], HS.out.2.1, HS.out.2.2.1, HS.out.2.2.2.1, by rw [HS.out.1]; exact HS.out.2.2.2.2.1, HS.out.2.2.2.2.2⟩
    · obtain rfl : j = m := by omega
      obtain ⟨X, hX⟩ : ∃ X, nearL V c o j = X := ⟨_, rfl⟩
      rw [hX] at k4 ⊢
      have s0 : wr.cell? ⟨g + 1 + 1 + 1, 0, none⟩ = some (.int .i64 (nrC X).x) := k4.cell 0
      have s1 : wr.cell? ⟨g + 1 + 1 + 1, 1, none⟩ = some (.int .i64 (nrC X).y) := k4.cell 1
      have s2 : wr.cell? ⟨g + 1 + 1 + 1, 2, none⟩ = some (.int .i64 (nrC X).b) := k4.cell 2
      have s3 : wr.cell? ⟨g + 1 + 1 + 1, 3, none⟩ = some (.int .i64 (nrC X).d) := k4.cell 3
      have s4 : wr.cell? ⟨g + 1 + 1 + 1, 4, none⟩ = some (.int .i64 (nrC X).way) := k4.cell 4
      have s5 : wr.cell? ⟨g + 1 + 1 + 1, 5, none⟩ = some (.int .i64 (nrC X).wt) := k4.cell 5
      have e0 : wr.cell? ⟨g + 1 + 1, 0, none⟩ = some (.int .i64 0) := k3.cell 0
      have e1 : wr.cell? ⟨g + 1 + 1, 1, none⟩ = some (.int .i64 0) := k3.cell 1
      have e2 : wr.cell? ⟨g + 1 + 1, 2, none⟩ = some (.int .i64 0) := k3.cell 2
      have e3 : wr.cell? ⟨g + 1 + 1, 3, none⟩ = some (.int .i64 0) := k3.cell 3
      have e4 : wr.cell? ⟨g + 1 + 1, 4, none⟩ = some (.int .i64 0) := k3.cell 4
      have e5 : wr.cell? ⟨g + 1 + 1, 5, none⟩ = some (.int .i64 0) := k3.cell 5
      have f0 : wr.frozen? ⟨g + 1 + 1, 0, none⟩ = false := k3.frozen 0
      have f1 : wr.frozen? ⟨g + 1 + 1, 1, none⟩ = false := k3.frozen 1
      have f2 : wr.frozen? ⟨g + 1 + 1, 2, none⟩ = false := k3.frozen 2
      have f3 : wr.frozen? ⟨g + 1 + 1, 3, none⟩ = false := k3.frozen 3
      have f4 : wr.frozen? ⟨g + 1 + 1, 4, none⟩ = false := k3.frozen 4
      have f5 : wr.frozen? ⟨g + 1 + 1, 5, none⟩ = false := k3.frozen 5
      have HX := Lib.hid (And.intro k3 (And.intro hgr hX))
      clear k1 k2 k3 k4 hgr hX
      go_wp2_with fail
      go_region
      go_wp2_with fail
      refine bodyPost_ret (results_tmp_row_tmp rfl _ _ (g + 1 + 1) _ _ _ _ rfl (drew6_blk HX.out.1) Tryd.underlying66 rfl (by kernel_rfl)) rfl ?_
      rw [HX.out.2.2]
      exact ⟨rfl, drew6_grown HX.out.2.1 (by have := HW.out.2.2.2.2.1; omega)⟩

def nrO (hx hy st : Int) (V : List St) : List Int := if routeF hx hy V st ≠ 0 then [] else nearR hx hy st V
theorem grown_ownB {a w w' : World} {base e size n : Nat} {v : Value} {xs : List Value} (h : a.grownBy w none) (ho : w.ownsRow base e size v n xs) (hb : a.heap.size ≤ base) (hg : w.grownBy w' v.ownBlock) : a.grownBy w' none :=
  ⟨hg.os.trans h.os, hg.tape.trans h.tape, hg.output.trans h.output, Nat.le_trans h.size hg.size, fun b hb' _ =>
    (hg.block b (Nat.lt_of_lt_of_le hb' h.size) (fun e => by have := (ho.lt b e.symm).1; omega)).trans (h.block b hb' (by simp))⟩
theorem own_nn (v : Value) : v.ownBlock = none ∨ v.ownBlock ≠ none := by
  cases v.ownBlock with
  | none => exact .inl rfl
  | some _ => exact .inr (by simp)
theorem ch6_far {w : World} {b g : Nat} {T : TypeId} {cs : Array Value} {b0 b1 b2 b3 b4 b5 : Value} (h : Blk w b T cs) (hb : b ≠ g) : Blk ((((((w.setCell ⟨g, 0, none⟩ b0).setCell ⟨g, 1, none⟩ b1).setCell ⟨g, 2, none⟩ b2).setCell ⟨g, 3, none⟩ b3).setCell ⟨g, 4, none⟩ b4).setCell ⟨g, 5, none⟩ b5) b T cs :=
  set6_far h hb b0 b1 b2 b3 b4 b5
theorem ch6_blk {w : World} {g T : Nat} {a0 a1 a2 a3 a4 a5 b0 b1 b2 b3 b4 b5 : Value} (h : Blk w g T #[a0, a1, a2, a3, a4, a5]) : Blk ((((((w.setCell ⟨g, 0, none⟩ b0).setCell ⟨g, 1, none⟩ b1).setCell ⟨g, 2, none⟩ b2).setCell ⟨g, 3, none⟩ b3).setCell ⟨g, 4, none⟩ b4).setCell ⟨g, 5, none⟩ b5) g T #[b0, b1, b2, b3, b4, b5] :=
  set6_blk h b0 b1 b2 b3 b4 b5
theorem ch6_grown {a w : World} {g : Nat} {b0 b1 b2 b3 b4 b5 : Value} (h : a.grownBy w none) (hg : a.heap.size ≤ g) : a.grownBy ((((((w.setCell ⟨g, 0, none⟩ b0).setCell ⟨g, 1, none⟩ b1).setCell ⟨g, 2, none⟩ b2).setCell ⟨g, 3, none⟩ b3).setCell ⟨g, 4, none⟩ b4).setCell ⟨g, 5, none⟩ b5) none :=
  set6_grown h hg b0 b1 b2 b3 b4 b5
theorem ch6_own {w : World} {g base e size n : Nat} {v : Value} {xs : List Value} {b0 b1 b2 b3 b4 b5 : Value} (h : w.ownsRow base e size v n xs) (hg : g < base) : World.ownsRow ((((((w.setCell ⟨g, 0, none⟩ b0).setCell ⟨g, 1, none⟩ b1).setCell ⟨g, 2, none⟩ b2).setCell ⟨g, 3, none⟩ b3).setCell ⟨g, 4, none⟩ b4).setCell ⟨g, 5, none⟩ b5) base e size v n xs :=
  own_setN (own_setN (own_setN (own_setN (own_setN (own_setN h (p := ⟨g, 0, none⟩) hg b0) (p := ⟨g, 1, none⟩) hg b1) (p := ⟨g, 2, none⟩) hg b2) (p := ⟨g, 3, none⟩) hg b3) (p := ⟨g, 4, none⟩) hg b4) (p := ⟨g, 5, none⟩) hg b5
/-- What is still to come of the route. -/
structure NrS (V : List St) (m : Nat) (Z : List Int) (κ : Nat) (c : Cr) (o : List Int) : Prop where
  out : outN m o = κ
  rt : RtO m o
  cr : CrB o.length c
  len : o.length + κ ≤ m
  to : ∃ k, κ < k ∧ nearM V k c o = Z
theorem NrS.done {V : List St} {m : Nat} {Z : List Int} {κ : Nat} {c : Cr} {o : List Int} (h : NrS V m Z κ c o) (hm : V.length = m) (hn : nearL V c o m = none) : Z = o := by
  obtain ⟨k, hk, hz⟩ := h.to
  obtain ⟨k', rfl⟩ : ∃ k', k = k' + 1 := ⟨k - 1, by omega⟩
  unfold nearM at hz
  rw [hm, hn] at hz
  exact hz.symm
theorem NrS.next {V : List St} {m : Nat} {Z : List Int} {κ : Nat} {c : Cr} {o : List Int} (h : NrS V m Z κ c o) (hm : V.length = m) {i : Nat} {c' : Cr} (hn : nearL V c o m = some (i, c'))
    (hV : ∀ t ∈ V, spB t.x t.y = true ∧ (0 ≤ t.f ∧ t.f ≤ t.t) ∧ t.t ≤ 1440 ∧ (0 ≤ t.l ∧ t.l ≤ 1440)) : ∃ κ', κ' < κ ∧ NrS V m Z κ' c' (o ++ [(i : Int)]) := by
  obtain ⟨hi, hno, hgo, rfl⟩ := nearL_ok V c o m i c' hn
  have hlt := outN_app hi hno
  have hro : stAt V i ∈ V := by
    unfold stAt
    rw [Int.toNat_natCast, List.getD_eq_getElem?_getD, List.getElem?_eq_getElem (by omega : i < V.length)]
    exact List.getElem_mem _
  have hr := hV _ hro
  have hc := h.cr.next (r := stAt V i) hr.1 (by omega) (by omega)
  obtain ⟨k, hk, hz⟩ := h.to
  obtain ⟨k', rfl⟩ : ∃ k', k = k' + 1 := ⟨k - 1, by omega⟩
  unfold nearM at hz
  rw [hm, hn] at hz
  have ho := h.out
  have hl := h.len
  exact ⟨_, by omega, rfl, h.rt.app hi hno, by simpa using hc, by simp; omega, k', by omega, hz⟩

set_option maxRecDepth 100000 in
set_option maxHeartbeats 8000000 in
theorem nearestR_any (hx hy : Int) (A : Option Addr) (m cp : Nat) (V : List St) (st : Int) (w : World) (hr : Rd w 6 A m (stFlat V)) (hmc : m ≤ cp) (hm : m ≤ 1000) :
    Calls Tryd.prog 10 #[.agg #[.int .i64 hx, .int .i64 hy], .slice A m cp, .int .i64 st] w
      fun e w' => (∃ v, e = .returned (.tuple #[v, .int .i64 (routeF hx hy V st)]) ∧ w'.ownsRow w.heap.size 3 1 v (nrO hx hy st V).length (ints (nrO hx hy st V))) ∧ w.grownBy w' none := by
  have hlV : V.length = m := by have := hr.1; rw [stFlat_len] at this; omega
  obtain ⟨Z, hZ⟩ : ∃ Z, nrO hx hy st V = Z := ⟨_, rfl⟩
  obtain ⟨g, hg⟩ : ∃ g, w.heap.size = g := ⟨_, rfl⟩
  have hH := Blk.new w 30 #[.int .i64 hx, .int .i64 hy]
  have hg1 := grown_alloc (grown_refl w) (.cells #[.int .i64 hx, .int .i64 hy] 30)
  rw [hg] at hH
  obtain ⟨W1, hW1⟩ : ∃ W1, w.alloc (.cells #[.int .i64 hx, .int .i64 hy] 30) = W1 := ⟨_, rfl⟩
  have hz1 : W1.heap.size = g + 1 := by rw [← hW1]; simp [hg]
  rw [hW1] at hH hg1
  have hT := Blk.new W1 61 #[.int .i64 hx, .int .i64 hy, .slice A m cp, .int .i64 st]
  have hg2 := grown_alloc hg1 (.cells #[.int .i64 hx, .int .i64 hy, .slice A m cp, .int .i64 st] 61)
  rw [hz1] at hT
  obtain ⟨W2, hW2⟩ : ∃ W2, W1.alloc (.cells #[.int .i64 hx, .int .i64 hy, .slice A m cp, .int .i64 st] 61) = W2 := ⟨_, rfl⟩
  rw [hW2] at hT hg2
  have h0 : W1.cell? ⟨g, 0, none⟩ = some (.int .i64 hx) := hH.cell 0
  have h1 : W1.cell? ⟨g, 1, none⟩ = some (.int .i64 hy) := hH.cell 1
  have t0 : W2.cell? ⟨g + 1, 0, none⟩ = some (.int .i64 hx) := hT.cell 0
  have t1 : W2.cell? ⟨g + 1, 1, none⟩ = some (.int .i64 hy) := hT.cell 1
  have t2 : W2.cell? ⟨g + 1, 2, none⟩ = some (.slice A m cp) := hT.cell 2
  have t3 : W2.cell? ⟨g + 1, 3, none⟩ = some (.int .i64 st) := hT.cell 3
  have hck := tripCheck_any hx hy A m cp V st W2 (hr.grown hg2) hmc
  obtain ⟨F, hF⟩ : ∃ F, routeF hx hy V st = F := ⟨_, rfl⟩
  rw [hF] at hck ⊢
  rw [hZ]
  unfold nrO at hZ
  rw [hF] at hZ
  have HW := Lib.hid (And.intro hW1 (And.intro hW2 (And.intro hg (And.intro hck (And.intro hF (And.intro hZ (And.intro hg2 (And.intro hT hlV))))))))
  clear hW1 hW2 hg hck hF hZ hg1 hg2 hT hH hz1 hlV
  go_enter Tryd.func10, Tryd.ntmps10
  go_wp2_with fail
  rw [HW.out.1, HW.out.2.1, HW.out.2.2.1]
  clear h0 h1 t0 t1 t2 t3
  refine HW.out.2.2.2.1.mono ?_
  rintro e w3 ⟨rfl, hg3⟩
  have hT3 := HW.out.2.2.2.2.2.2.2.1.grown hg3 (by simp)
  have hgw3 := HW.out.2.2.2.2.2.2.1.trans hg3
  by_cases hF : F = 0
  · subst hF
    have hR0 := HW.out.2.2.2.2.1
    obtain ⟨hsf, hh, hst0, hst1⟩ := routeF_ok hR0
    have hV := stopsF_ok hsf
    have hZ : Z = nearR hx hy st V := by have := HW.out.2.2.2.2.2.1; rw [if_neg (by simp)] at this; exact this.symm
    have hN0 : NrS V m Z (outN m []) ⟨hx, hy, 0, st, 0, 0⟩ [] := ⟨rfl, RtO.nil m, CrB.start hh hst0 hst1, by simpa using outN_le m [], m + 1, by have := outN_le m []; omega, by rw [hZ]; unfold nearR; rw [HW.out.2.2.2.2.2.2.2.2]⟩
    have t0 : w3.cell? ⟨g + 1, 0, none⟩ = some (.int .i64 hx) := hT3.cell 0
    have t1 : w3.cell? ⟨g + 1, 1, none⟩ = some (.int .i64 hy) := hT3.cell 1
    have t2 : w3.cell? ⟨g + 1, 2, none⟩ = some (.slice A m cp) := hT3.cell 2
    have t3 : w3.cell? ⟨g + 1, 3, none⟩ = some (.int .i64 st) := hT3.cell 3
    have H3 := Lib.hid (And.intro hgw3 (And.intro hT3 (And.intro hN0 hV)))
    clear hg3 hT3 hgw3 hN0 hV hZ hsf hh hst0 hst1 hR0
    go_wp2_with fail
    have hL := leave_any hx hy A m cp st w3
    simp only [crCells] at hL
    refine hL.mono ?_
    clear hL
    rintro e w4 ⟨rfl, hg4⟩
    clear t0 t1 t2 t3
    obtain ⟨q, hq⟩ : ∃ q, w4.heap.size = q := ⟨_, rfl⟩
    have hC5 := Blk.new w4 66 #[.int .i64 hx, .int .i64 hy, .int .i64 0, .int .i64 st, .int .i64 0, .int .i64 0]
    have hA5 := grown_alloc hg4 (.cells #[.int .i64 hx, .int .i64 hy, .int .i64 0, .int .i64 st, .int .i64 0, .int .i64 0] 66)
    have hT5 := H3.out.2.1.grown hA5 (by simp)
    have hgw5 := H3.out.1.trans hA5
    have hlt4 : g + 1 < q := by have h1 := H3.out.2.1.lt; have h2 := hg4.size; omega
    have hz5 : (w4.alloc (.cells #[.int .i64 hx, .int .i64 hy, .int .i64 0, .int .i64 st, .int .i64 0, .int .i64 0] 66)).heap.size = q + 1 := by simp [hq]
    rw [hq] at hC5
    have hN0 := H3.out.2.2.1
    go_wp2_with fail
    (try rw [hq])
    generalize w4.alloc (.cells #[.int .i64 hx, .int .i64 hy, .int .i64 0, .int .i64 st, .int .i64 0, .int .i64 0] 66) = w5 at *
    clear hA5 hg4 hq
    have hwq : w.heap.size ≤ q := by have := HW.out.2.2.1; omega
    go_loopg [10] (outN m []) (fun κ vo wr => ∃ (c : Cr) (o : List Int), NrS V m Z κ c o ∧ Blk wr (g + 1) 61 #[.int .i64 hx, .int .i64 hy, .slice A m cp, .int .i64 st] ∧ Blk wr q 66 (crCells c).toArray ∧ wr.ownsRow (q + 1) 3 1 vo o.length (ints o) ∧ w.grownBy wr none)
    case atStart => exact ⟨⟨hx, hy, 0, st, 0, 0⟩, [], hN0, hT5, hC5, World.ownsRow_nil _ _ _ _, hgw5⟩
    case round =>
      clear hN0 hT5 hC5 hgw5 hz5
      obtain ⟨c, o, hN, hT, hC, hO, hgr⟩ := hrel
      obtain ⟨B, cb, rfl, hncb⟩ := own_slice hO
      have t0 : wr.cell? ⟨g + 1, 0, none⟩ = some (.int .i64 hx) := hT.cell 0
      have t1 : wr.cell? ⟨g + 1, 1, none⟩ = some (.int .i64 hy) := hT.cell 1
      have t2 : wr.cell? ⟨g + 1, 2, none⟩ = some (.slice A m cp) := hT.cell 2
      have t3 : wr.cell? ⟨g + 1, 3, none⟩ = some (.int .i64 st) := hT.cell 3
      have q0 : wr.cell? ⟨q, 0, none⟩ = some (.int .i64 c.x) := hC.cell 0
      have q1 : wr.cell? ⟨q, 1, none⟩ = some (.int .i64 c.y) := hC.cell 1
      have q2 : wr.cell? ⟨q, 2, none⟩ = some (.int .i64 c.b) := hC.cell 2
      have q3 : wr.cell? ⟨q, 3, none⟩ = some (.int .i64 c.d) := hC.cell 3
      have q4 : wr.cell? ⟨q, 4, none⟩ = some (.int .i64 c.way) := hC.cell 4
      have q5 : wr.cell? ⟨q, 5, none⟩ = some (.int .i64 c.wt) := hC.cell 5
      have hm60 : m ≤ 60 := by have h1 := H3.out.2.2.2.1; have h2 := HW.out.2.2.2.2.2.2.2.2; omega
      have hol : o.length ≤ 60 := by have := hN.len; omega
      have hnr := nearest_any hx hy A m cp V st c B o.length cb o wr (hr.grown hgr) hmc (own_rdI hO) H3.out.2.2.2 hN.cr hol
      simp only [crCells] at hnr
      obtain ⟨X, hX⟩ : ∃ X, nearL V c o m = X := ⟨_, rfl⟩
      rw [hX] at hnr
      have HR := Lib.hid (And.intro hnr (And.intro hX (And.intro hN (And.intro hT (And.intro hC (And.intro hO hgr))))))
      clear hnr hX hN hT hC hO hgr
      go_wp2_with fail
      refine HR.out.1.mono ?_
      clear t0 t1 t2 t3 q0 q1 q2 q3 q4 q5
      rintro e w6 ⟨rfl, hg6⟩
      obtain ⟨_, hX, hN, hT, hC, hO, hgr⟩ := HR.out
      have hgw6 := hgr.trans hg6
      rcases X with _ | ⟨i, c'⟩
      · have hZo := hN.done HW.out.2.2.2.2.2.2.2.2 hX
        have hO6 := hO.kept hg6 (own_nn _)
        have HE := Lib.hid (And.intro hZo (And.intro hO6 hgw6))
        clear hX hN hT hC hO hgr hg6 hZo hO6 hgw6
        simp only [nrI, Option.isSome_none]
        go_wp2_with fail
        go_ret2
        rw [HE.out.1]
        exact ⟨⟨_, rfl, own_mono (HE.out.2.1.alloc _) (by omega)⟩, grown_alloc HE.out.2.2 _⟩
      · obtain ⟨κ', hκ, hN'⟩ := hN.next HW.out.2.2.2.2.2.2.2.2 hX H3.out.2.2.2.2
        simp only [nrI, nrC, Option.isSome_some]
        obtain ⟨p, hp⟩ : ∃ p, w6.heap.size = p := ⟨_, rfl⟩
        have hA7 := grown_alloc hg6 (.cells #[.int .i64 c'.x, .int .i64 c'.y, .int .i64 c'.b, .int .i64 c'.d, .int .i64 c'.way, .int .i64 c'.wt] 66)
        have hR7 := Blk.new w6 66 #[.int .i64 c'.x, .int .i64 c'.y, .int .i64 c'.b, .int .i64 c'.d, .int .i64 c'.way, .int .i64 c'.wt]
        have hT7 := hT.grown hA7 (by simp)
        have hC7 := hC.grown hA7 (by simp)
        have hO7 := hO.kept hA7 (own_nn _)
        have hgw7 := hgr.trans hA7
        have hqp : q < p := by have h1 := hC.lt; have h2 := hg6.size; omega
        have hz7 : (w6.alloc (.cells #[.int .i64 c'.x, .int .i64 c'.y, .int .i64 c'.b, .int .i64 c'.d, .int .i64 c'.way, .int .i64 c'.wt] 66)).heap.size = p + 1 := by simp [hp]
        rw [hp] at hR7
        obtain ⟨W7, hW7⟩ : ∃ W7, w6.alloc (.cells #[.int .i64 c'.x, .int .i64 c'.y, .int .i64 c'.b, .int .i64 c'.d, .int .i64 c'.way, .int .i64 c'.wt] 66) = W7 := ⟨_, rfl⟩
        rw [hW7] at hR7 hT7 hC7 hO7 hgw7 hz7
        have hstep : ∀ v8 w8, w8.ownsRow (q + 1) 3 1 v8 (o ++ [(i : Int)]).length (ints (o ++ [(i : Int)])) → (W7.alloc (.cells #[.int .i64 i] 3)).grownBy w8 (Value.slice B o.length cb).ownBlock →
            Blk w8 (g + 1) 61 #[.int .i64 hx, .int .i64 hy, .slice A m cp, .int .i64 st] ∧ Blk w8 q 66 (crCells c).toArray ∧ Blk w8 p 66 #[.int .i64 c'.x, .int .i64 c'.y, .int .i64 c'.b, .int .i64 c'.d, .int .i64 c'.way, .int .i64 c'.wt] ∧ w.grownBy w8 none := by
          intro v8 w8 h8 g8
          have hO8 := hO7.alloc (.cells #[.int .i64 i] 3)
          have hT8 := hT7.alloc (.cells #[.int .i64 i] 3)
          have hC8 := hC7.alloc (.cells #[.int .i64 i] 3)
          have hR8 := hR7.alloc (.cells #[.int .i64 i] 3)
          exact ⟨hT8.grown g8 (own_bxT hO8 hT8 (by decide)), hC8.grown g8 (own_bxT hO8 hC8 (by decide)), hR8.grown g8 (own_bxT hO8 hR8 (by decide)), grown_ownB (grown_alloc hgw7 _) hO8 (by omega) g8⟩
        have H7 := Lib.hid (And.intro hW7 (And.intro hp (And.intro hO7 (And.intro hz7 (And.intro hstep (And.intro hN' hκ))))))
        clear hX hN hT hC hO hgr hg6 hgw6 hA7 hR7 hT7 hC7 hO7 hgw7 hz7 hW7 hp hstep hN' hκ
        go_wp2_with (at_builtin; go_loud ((try rw [H7.out.1]); (try rw [H7.out.2.1]); refine ap_intN W7 i rfl _ _ rfl (q + 1) (.slice B o.length cb) o rfl H7.out.2.2.1 (p + 1) H7.out.2.2.2.1 rfl (by omega) (by have := H7.out.2.2.2.1; omega) ?_; intro v8 w8 h8 g8; obtain ⟨k1, k2, k3, k4⟩ := H7.out.2.2.2.2.1 v8 w8 h8 g8; obtain ⟨A8, c8, rfl, hc8⟩ := own_slice h8; have H8 := Lib.hid (And.intro k1 (And.intro k2 (And.intro k3 (And.intro k4 h8)))); (have r0 : w8.cell? ⟨p, 0, none⟩ = some (.int .i64 c'.x) := k3.cell 0); (have r1 : w8.cell? ⟨p, 1, none⟩ = some (.int .i64 c'.y) := k3.cell 1); (have r2 : w8.cell? ⟨p, 2, none⟩ = some (.int .i64 c'.b) := k3.cell 2); (have r3 : w8.cell? ⟨p, 3, none⟩ = some (.int .i64 c'.d) := k3.cell 3); (have r4 : w8.cell? ⟨p, 4, none⟩ = some (.int .i64 c'.way) := k3.cell 4); (have r5 : w8.cell? ⟨p, 5, none⟩ = some (.int .i64 c'.wt) := k3.cell 5); (have s0 : w8.cell? ⟨q, 0, none⟩ = some (.int .i64 c.x) := k2.cell 0); (have s1 : w8.cell? ⟨q, 1, none⟩ = some (.int .i64 c.y) := k2.cell 1); (have s2 : w8.cell? ⟨q, 2, none⟩ = some (.int .i64 c.b) := k2.cell 2); (have s3 : w8.cell? ⟨q, 3, none⟩ = some (.int .i64 c.d) := k2.cell 3); (have s4 : w8.cell? ⟨q, 4, none⟩ = some (.int .i64 c.way) := k2.cell 4); (have s5 : w8.cell? ⟨q, 5, none⟩ = some (.int .i64 c.wt) := k2.cell 5); have f0 := k2.frozen 0; have f1 := k2.frozen 1; have f2 := k2.frozen 2; have f3 := k2.frozen 3; have f4 := k2.frozen 4; have f5 := k2.frozen 5; clear k1 k2 k3 k4 h8 g8))
        go_roundg κ'
        case measure => exact H7.out.2.2.2.2.2.2
        case rel =>
          have e8 : (o ++ [(i : Int)]).length = o.length + 1 := by simp
          have o8 := H8.out.2.2.2.2
          refine ⟨c', o ++ [(i : Int)], H7.out.2.2.2.2.2.1, ch6_far H8.out.1 (by omega), ch6_blk H8.out.2.1, ?_, ch6_grown H8.out.2.2.2.1 (by omega)⟩
          rw [e8] at o8 ⊢
          exact ch6_own o8 (by omega)
  · have hZ : Z = [] := by have := HW.out.2.2.2.2.2.1; rw [if_pos hF] at this; exact this.symm
    subst hZ
    have H3 := Lib.hid hgw3
    clear hg3 hT3 hgw3
    go_wp2_with fail
    go_ret2
    exact ⟨⟨_, rfl, World.ownsRow_nil _ _ _ _⟩, H3.out⟩

/-- The boxes of the reference: home, the stops, the start, the best route, the route so far, the least way, the closure. -/
structure RxS (a w : World) (g : Nat) (hx hy : Int) (A : Option Addr) (m cp : Nat) (st : Int) (vb vo : Value) (o : List Int) (s : BestS) : Prop where
  home : Blk w g 30 #[.int .i64 hx, .int .i64 hy]
  lst : Blk w (g + 1) 26 #[.slice A m cp]
  start : Blk w (g + 2) 3 #[.int .i64 st]
  best : Blk w (g + 3) 22 #[vb]
  now : Blk w (g + 4) 22 #[vo]
  least : Blk w (g + 5) 3 #[.int .i64 (lf s.2)]
  tr : Blk w (g + 6) 1 #[.func (.func 39) #[] #[.pointer (some ⟨g, 0, none⟩), .pointer (some ⟨g + 1, 0, none⟩), .pointer (some ⟨g + 2, 0, none⟩), .pointer (some ⟨g + 4, 0, none⟩), .pointer (some ⟨g + 5, 0, none⟩), .pointer (some ⟨g + 3, 0, none⟩), .pointer (some ⟨g + 6, 0, none⟩)]]
  ob : w.ownsRow (g + 7) 3 1 vb s.1.length (ints s.1)
  oo : w.ownsRow (g + 7) 3 1 vo o.length (ints o)
  ap : Apart vb vo
  gr : a.grownBy w none
  lo : a.heap.size ≤ g
  ok : s.2 = bigM ∨ (0 ≤ s.2 ∧ s.2 < bigM)
/-- Blocks of other types than numbers stay, but for two boxes. -/
def KeepR (g : Nat) (w w' : World) : Prop := w.heap.size ≤ w'.heap.size ∧ ∀ b T cs, T ≠ 3 → b ≠ g + 3 → b ≠ g + 4 → Blk w b T cs → Blk w' b T cs
theorem KeepR.refl (g : Nat) (w : World) : KeepR g w w := ⟨Nat.le_refl _, fun _ _ _ _ _ _ h => h⟩
theorem KeepR.trans {g : Nat} {a b c : World} (h : KeepR g a b) (k : KeepR g b c) : KeepR g a c := ⟨Nat.le_trans h.1 k.1, fun x T cs h1 h2 h3 hb => k.2 x T cs h1 h2 h3 (h.2 x T cs h1 h2 h3 hb)⟩
theorem KeepR.grown {g : Nat} {a b c : World} (h : KeepR g a b) (k : b.grownBy c none) : KeepR g a c := h.trans ⟨k.size, fun _ _ _ _ _ _ hb => hb.grown k (by simp)⟩
theorem own_nN (v : Value) : v.ownBlock = none ∨ v.ownBlock ≠ none := by
  cases v.ownBlock with
  | none => exact .inl rfl
  | some _ => exact .inr (by simp)
section
variable {a w w' : World} {g : Nat} {hx hy st : Int} {A : Option Addr} {m cp : Nat} {vb vo : Value} {o : List Int} {s : BestS}
theorem RxS.grown (h : RxS a w g hx hy A m cp st vb vo o s) (k : w.grownBy w' none) : RxS a w' g hx hy A m cp st vb vo o s :=
  ⟨h.home.grown k (by simp), h.lst.grown k (by simp), h.start.grown k (by simp), h.best.grown k (by simp), h.now.grown k (by simp), h.least.grown k (by simp), h.tr.grown k (by simp), h.ob.kept k (own_nN _), h.oo.kept k (own_nN _), h.ap, h.gr.trans k, h.lo, h.ok⟩
/-- A stop more in the route so far. -/
theorem RxS.push {w5 : World} {v5 : Value} {y : Int} (h : RxS a w g hx hy A m cp st vb vo o s) (o5 : w5.ownsRow (g + 7) 3 1 v5 (o.length + 1) (ints (o ++ [y]))) (g5 : (w.alloc (.cells #[.int .i64 y] 3)).grownBy w5 vo.ownBlock) (k5 : v5.ownBlock = vo.ownBlock ∨ v5.ownBlock = some (w.heap.size + 1)) :
    RxS a (w5.setCell ⟨g + 4, 0, none⟩ v5) g hx hy A m cp st vb v5 (o ++ [y]) s ∧ KeepR g w (w5.setCell ⟨g + 4, 0, none⟩ v5) ∧ w5.cell? ⟨g + 4, 0, none⟩ = some vo ∧ w5.frozen? ⟨g + 4, 0, none⟩ = false
    ∧ w5.cell? ⟨g + 6, 0, none⟩ = some (.func (.func 39) #[] #[.pointer (some ⟨g, 0, none⟩), .pointer (some ⟨g + 1, 0, none⟩), .pointer (some ⟨g + 2, 0, none⟩), .pointer (some ⟨g + 4, 0, none⟩), .pointer (some ⟨g + 5, 0, none⟩), .pointer (some ⟨g + 3, 0, none⟩), .pointer (some ⟨g + 6, 0, none⟩)]) := by
  have hA := grown_alloc (grown_refl w) (.cells #[.int .i64 y] 3)
  have k := h.grown hA
  have hlt := h.tr.lt
  have hap : Apart v5 vb := h.ap.symm.next h.ob (by omega) k5
  have nb : ∀ {b : Nat}, b < g + 7 → some b ≠ vo.ownBlock := fun {b} hb e => by
    have := (h.oo.lt b e.symm).1
    omega
  refine ⟨⟨(k.home.grown g5 (nb (by omega))).far (p := ⟨g + 4, 0, none⟩) (by simp) _, (k.lst.grown g5 (nb (by omega))).far (p := ⟨g + 4, 0, none⟩) (by simp) _, (k.start.grown g5 (nb (by omega))).far (p := ⟨g + 4, 0, none⟩) (by simp) _, (k.best.grown g5 (nb (by omega))).far (p := ⟨g + 4, 0, none⟩) (by simp) _,
    (k.now.grown g5 (nb (by omega))).set_ 0 v5, (k.least.grown g5 (nb (by omega))).far (p := ⟨g + 4, 0, none⟩) (by simp) _, (k.tr.grown g5 (nb (by omega))).far (p := ⟨g + 4, 0, none⟩) (by simp) _, own_setN (k.ob.kept g5 h.ap.keep) (by simp) _, ?_, hap.symm, ?_, h.lo, h.ok⟩, ?_, (k.now.grown g5 (nb (by omega))).cell 0, (k.now.grown g5 (nb (by omega))).frozen 0, (k.tr.grown g5 (nb (by omega))).cell 0⟩
  · have := own_setN o5 (p := ⟨g + 4, 0, none⟩) (by simp) v5
    simpa using this
  · have hl := h.lo
    refine grown_set (p := ⟨g + 4, 0, none⟩) ?_ (.inl (by simp; omega)) _
    refine ⟨g5.os.trans k.gr.os, g5.tape.trans k.gr.tape, g5.output.trans k.gr.output, Nat.le_trans k.gr.size g5.size, fun b hb hne => ?_⟩
    have hb' : b < g + 7 := by omega
    exact (g5.block b (by have := k.gr.size; omega) (nb hb')).trans (k.gr.block b hb hne)
  · refine ⟨by have := g5.size; simp at this ⊢; omega, ?_⟩
    intro b T cs h1 h2 h3 hb
    have hb1 := hb.grown hA (by simp)
    exact (hb1.grown g5 (own_bxT k.oo hb1 (Ne.symm h1))).far (p := ⟨g + 4, 0, none⟩) (by simpa using h3) _
/-- The last stop goes. -/
theorem RxS.pop {n c : Nat} {B : Option Addr} {y : Int} (h : RxS a w g hx hy A m cp st vb (.slice B n c) (o ++ [y]) s) :
    RxS a (w.setCell ⟨g + 4, 0, none⟩ (.slice B o.length c)) g hx hy A m cp st vb (.slice B o.length c) o s ∧ KeepR g w (w.setCell ⟨g + 4, 0, none⟩ (.slice B o.length c)) ∧ n = o.length + 1 := by
  have hoo := h.oo
  obtain ⟨A', c', hv, hc⟩ := own_slice hoo
  injection hv with h1 h2 h3
  subst h1 h2 h3
  simp only [List.length_append, List.length_cons, List.length_nil] at hoo
  have ho : w.ownsRow (g + 7) 3 1 (.slice B o.length c) o.length (ints o) := by
    rcases hoo.2 with ⟨h0, h0'⟩ | ⟨q, cap, cur, hv, hg, hb, hn, hcap, hcs, ht⟩
    · omega
    injection hv with h1 _ h3
    subst h1 h3
    have := own_cut (m := o.length) hoo (by omega)
    have e : (ints (o ++ [y])).take o.length = ints o := by simp [ints]
    rw [e] at this
    exact this
  have hap : Apart vb (.slice B o.length c) := fun b hb hb' => h.ap b hb (by cases B <;> exact hb')
  refine ⟨⟨h.home.far (p := ⟨g + 4, 0, none⟩) (by simp) _, h.lst.far (p := ⟨g + 4, 0, none⟩) (by simp) _, h.start.far (p := ⟨g + 4, 0, none⟩) (by simp) _, h.best.far (p := ⟨g + 4, 0, none⟩) (by simp) _, h.now.set_ 0 _, h.least.far (p := ⟨g + 4, 0, none⟩) (by simp) _, h.tr.far (p := ⟨g + 4, 0, none⟩) (by simp) _, own_setN h.ob (by simp) _, own_setN ho (by simp) _, hap, ?_, h.lo, h.ok⟩, ?_, by simp⟩
  · have hl := h.lo
    exact grown_set (p := ⟨g + 4, 0, none⟩) h.gr (.inl (by simp; omega)) _
  · exact ⟨by simp, fun b T cs h1 h2 h3 hb => hb.far (p := ⟨g + 4, 0, none⟩) (by simpa using h3) _⟩
end
/-- The boxes while the best route and its way are put. -/
structure RxT (a w : World) (g : Nat) (hx hy : Int) (A : Option Addr) (m cp : Nat) (st : Int) (b vo : Value) (o : List Int) (x : Value) : Prop where
  home : Blk w g 30 #[.int .i64 hx, .int .i64 hy]
  lst : Blk w (g + 1) 26 #[.slice A m cp]
  start : Blk w (g + 2) 3 #[.int .i64 st]
  best : Blk w (g + 3) 22 #[b]
  now : Blk w (g + 4) 22 #[vo]
  least : Blk w (g + 5) 3 #[x]
  tr : Blk w (g + 6) 1 #[.func (.func 39) #[] #[.pointer (some ⟨g, 0, none⟩), .pointer (some ⟨g + 1, 0, none⟩), .pointer (some ⟨g + 2, 0, none⟩), .pointer (some ⟨g + 4, 0, none⟩), .pointer (some ⟨g + 5, 0, none⟩), .pointer (some ⟨g + 3, 0, none⟩), .pointer (some ⟨g + 6, 0, none⟩)]]
  oo : w.ownsRow (g + 7) 3 1 vo o.length (ints o)
  gr : a.grownBy w none
  lo : a.heap.size ≤ g
section
variable {a w w' : World} {g : Nat} {hx hy st : Int} {A : Option Addr} {m cp : Nat} {b vb vo x : Value} {o : List Int} {s : BestS}
theorem RxS.loose (h : RxS a w g hx hy A m cp st vb vo o s) : RxT a w g hx hy A m cp st vb vo o (.int .i64 (lf s.2)) := ⟨h.home, h.lst, h.start, h.best, h.now, h.least, h.tr, h.oo, h.gr, h.lo⟩
theorem RxT.grown (h : RxT a w g hx hy A m cp st b vo o x) (k : w.grownBy w' none) : RxT a w' g hx hy A m cp st b vo o x :=
  ⟨h.home.grown k (by simp), h.lst.grown k (by simp), h.start.grown k (by simp), h.best.grown k (by simp), h.now.grown k (by simp), h.least.grown k (by simp), h.tr.grown k (by simp), h.oo.kept k (own_nN _), h.gr.trans k, h.lo⟩
theorem RxT.putB (h : RxT a w g hx hy A m cp st b vo o x) (v : Value) : RxT a (w.setCell ⟨g + 3, 0, none⟩ v) g hx hy A m cp st v vo o x :=
  ⟨h.home.far (p := ⟨g + 3, 0, none⟩) (by simp) _, h.lst.far (p := ⟨g + 3, 0, none⟩) (by simp) _, h.start.far (p := ⟨g + 3, 0, none⟩) (by simp) _, h.best.set_ 0 v, h.now.far (p := ⟨g + 3, 0, none⟩) (by simp) _, h.least.far (p := ⟨g + 3, 0, none⟩) (by simp) _, h.tr.far (p := ⟨g + 3, 0, none⟩) (by simp) _, own_setN h.oo (by simp) _, grown_set (p := ⟨g + 3, 0, none⟩) h.gr (.inl (by have := h.lo; simp; omega)) _, h.lo⟩
theorem RxT.putL (h : RxT a w g hx hy A m cp st b vo o x) (v : Value) : RxT a (w.setCell ⟨g + 5, 0, none⟩ v) g hx hy A m cp st b vo o v :=
  ⟨h.home.far (p := ⟨g + 5, 0, none⟩) (by simp) _, h.lst.far (p := ⟨g + 5, 0, none⟩) (by simp) _, h.start.far (p := ⟨g + 5, 0, none⟩) (by simp) _, h.best.far (p := ⟨g + 5, 0, none⟩) (by simp) _, h.now.far (p := ⟨g + 5, 0, none⟩) (by simp) _, h.least.set_ 0 v, h.tr.far (p := ⟨g + 5, 0, none⟩) (by simp) _, own_setN h.oo (by simp) _, grown_set (p := ⟨g + 5, 0, none⟩) h.gr (.inl (by have := h.lo; simp; omega)) _, h.lo⟩
end
/-- What lies while the operations run. -/
def tyG (a W2 : World) (g q : Nat) (hx hy : Int) (A : Option Addr) (m cp : Nat) (st : Int) (vb vo : Value) (o : List Int) (x0 x1 : Value) (tc : Array Value) (l1 l4 l5 : Bool) (v1 : Value) (w : World) : Prop :=
  (RxT a w g hx hy A m cp st (if l4 = true then v1 else vb) vo o (if l5 = true then x1 else x0) ∧ Blk w q 50 tc) ∧ (KeepR g W2 w ∧ (l4 = true → l1 = true)) ∧ (l1 = true → w.ownsRow W2.heap.size 3 1 v1 o.length (ints o))
def tyF (q : Nat) (vo : Value) (x1 : Value) (i : Nat) (_ : World) (v : Value) : Prop :=
  match i with
  | 0 => v = vo
  | 2 => v = .pointer (some ⟨q, 2, none⟩)
  | 3 => v = x1
  | _ => True
theorem tyF_stab {q : Nat} {vo x1 : Value} : ∀ (i : Nat) (w w' : World) (v : Value), True → tyF q vo x1 i w v → tyF q vo x1 i w' v := fun _ _ _ _ _ h => h
theorem KeepR.putB {g : Nat} {a w : World} (h : KeepR g a w) (v : Value) : KeepR g a (w.setCell ⟨g + 3, 0, none⟩ v) :=
  h.trans ⟨by simp, fun b T cs h1 h2 h3 hb => hb.far (p := ⟨g + 3, 0, none⟩) (by simpa using h2) _⟩
theorem KeepR.putL {g : Nat} {a w : World} (h : KeepR g a w) {cs : Array Value} (hl : Blk w (g + 5) 3 cs) (v : Value) : KeepR g a (w.setCell ⟨g + 5, 0, none⟩ v) :=
  h.trans ⟨by simp, fun b T cs' h1 h2 h3 hb => hb.far (p := ⟨g + 5, 0, none⟩) (by
    intro e
    simp only at e
    subst e
    unfold Blk at hb hl
    rw [hl] at hb
    injection hb with hb
    injection hb with _ hb
    exact h1 hb.symm) _⟩
theorem drvF_crB {V : List St} (hV : ∀ t ∈ V, spB t.x t.y = true ∧ (0 ≤ t.f ∧ t.f ≤ t.t) ∧ t.t ≤ 1440 ∧ (0 ≤ t.l ∧ t.l ≤ 1440)) : ∀ (o : List Int) (c : Cr) (bg : List Int) (p : Cr × List Int) (j : Nat), CrB j c → (∀ k ∈ o, 0 ≤ k ∧ k < V.length) → drvF V c bg o = some p → CrB (j + o.length) p.1
  | [], c, bg, p, j, hc, _, h => by
    unfold drvF at h
    injection h with h
    subst h
    simpa using hc
  | n :: r, c, bg, p, j, hc, hm, h => by
    unfold drvF at h
    split at h
    · obtain ⟨h0, h1⟩ := hm n (by simp)
      have hro : stAt V n ∈ V := by
        unfold stAt
        rw [List.getD_eq_getElem?_getD, List.getElem?_eq_getElem (by omega : n.toNat < V.length)]
        exact List.getElem_mem _
      have hr := hV _ hro
      have hc' := hc.next (r := stAt V n) hr.1 (by omega) (by omega)
      have := drvF_crB hV r _ _ p (j + 1) hc' (fun k hk => hm k (List.mem_cons_of_mem _ hk)) h
      rw [show j + (n :: r).length = j + 1 + r.length from by simp; omega]
      exact this
    · cases h
def tryR (hx hy st : Int) (V : List St) (k : Nat) (o : List Int) (s : BestS) : BestS := match drvF V ⟨hx, hy, 0, st, 0, 0⟩ [] o with | none => s | some p => tryP hx hy V (k + 1) p.1 o s

/-- What a call of the closure leaves. -/
def TryQ (a : World) (g : Nat) (hx hy : Int) (A : Option Addr) (m cp : Nat) (st : Int) (o : List Int) (s : BestS) (w w' : World) : Prop := ∃ vb' vo', RxS a w' g hx hy A m cp st vb' vo' o s ∧ KeepR g w w'

set_option maxRecDepth 100000 in
set_option maxHeartbeats 8000000 in
theorem try_any (a : World) (g : Nat) (hx hy : Int) (A : Option Addr) (m cp : Nat) (V : List St) (st : Int) (hr : Rd a 6 A m (stFlat V)) (hmc : m ≤ cp) (hrf : routeF hx hy V st = 0) :
    ∀ (k : Nat) (o : List Int) (s : BestS) (vb vo : Value) (w : World), RxS a w g hx hy A m cp st vb vo o s → RtO m o → o.length + k = m →
      Calls Tryd.prog 39 #[.pointer (some ⟨g, 0, none⟩), .pointer (some ⟨g + 1, 0, none⟩), .pointer (some ⟨g + 2, 0, none⟩), .pointer (some ⟨g + 4, 0, none⟩), .pointer (some ⟨g + 5, 0, none⟩), .pointer (some ⟨g + 3, 0, none⟩), .pointer (some ⟨g + 6, 0, none⟩)] w
        fun e w' => e = .returned (.tuple #[]) ∧ TryQ a g hx hy A m cp st o (tryR hx hy st V k o s) w w' := by
  have hlV : V.length = m := by have := hr.1; rw [stFlat_len] at this; omega
  obtain ⟨hsf, hh, hst0, hst1⟩ := routeF_ok hrf
  have hV := stopsF_ok hsf
  intro k
  induction k using Nat.strongRecOn with
  | _ k ih =>
  intro o s vb vo w hB hO hk
  obtain ⟨B, cb, rfl, hncb⟩ := own_slice hB.oo
  have hol : o.length ≤ 60 := by have := hV.1; omega
  have hdr := driveOf_any hx hy A m cp V st B o.length cb o w (hr.grown hB.gr) (own_rdI hB.oo) hncb (by have := hV.1; omega) (by omega) hrf
  have hE : drvE hx hy V st o = if driveM hx hy V st o = none then 16 else 0 := by unfold drvE; rw [if_neg (by rw [hrf]; simp), if_neg (by rw [hlV, hO.fault]; simp)]
  have h0 : w.cell? ⟨g, 0, none⟩ = some (.int .i64 hx) := hB.home.cell 0
  have h1 : w.cell? ⟨g, 1, none⟩ = some (.int .i64 hy) := hB.home.cell 1
  have h2 : w.cell? ⟨g + 1, 0, none⟩ = some (.slice A m cp) := hB.lst.cell 0
  have h3 : w.cell? ⟨g + 2, 0, none⟩ = some (.int .i64 st) := hB.start.cell 0
  have h4 : w.cell? ⟨g + 4, 0, none⟩ = some (.slice B o.length cb) := hB.now.cell 0
  have Hih := Lib.hid ih
  have H0 := Lib.hid (And.intro hB (And.intro hO (And.intro hk (And.intro hdr (And.intro hol (And.intro hV (And.intro hlV (And.intro hncb (And.intro hh (And.intro hst0 hst1))))))))))
  clear hB hO hk hdr hol hV hlV hncb ih hh hst0 hst1 hsf
  obtain ⟨T, hT⟩ : ∃ T, drvT hx hy V st o = T := ⟨_, rfl⟩
  obtain ⟨E, hEE⟩ : ∃ E, drvE hx hy V st o = E := ⟨_, rfl⟩
  rw [hEE] at hE
  have H1 := H0
  rw [hT, hEE] at H1
  have HE := Lib.hid (And.intro hT (And.intro hEE (And.intro hE hrf)))
  clear hT hEE hE H0 hrf
  go_enter Tryd.func39, Tryd.ntmps39
  go_wp2_with fail
  refine H1.out.2.2.2.1.mono ?_
  rintro e w1 ⟨⟨v, rfl, hv⟩, hg1⟩
  clear h0 h1 h2 h3 h4
  obtain ⟨Av, cv, rfl, _⟩ := own_slice hv
  obtain ⟨q, hq⟩ : ∃ q, w1.heap.size = q := ⟨_, rfl⟩
  have hA2 := grown_alloc hg1 (.cells #[.slice Av T.bg.length cv, .int .i64 T.e, .int .i64 T.way, .int .i64 T.wt] 50)
  have hT2 := Blk.new w1 50 #[.slice Av T.bg.length cv, .int .i64 T.e, .int .i64 T.way, .int .i64 T.wt]
  have hB2 := H1.out.1.grown hA2
  have hK2 : KeepR g w _ := (KeepR.refl g w).grown hA2
  have hgq : g + 6 < q := by have h1 := H1.out.1.tr.lt; have h2 := hg1.size; omega
  have l2 : (w1.alloc (.cells #[.slice Av T.bg.length cv, .int .i64 T.e, .int .i64 T.way, .int .i64 T.wt] 50)).cell? ⟨g + 5, 0, none⟩ = some (.int .i64 (lf s.2)) := hB2.least.cell 0
  have o2 : (w1.alloc (.cells #[.slice Av T.bg.length cv, .int .i64 T.e, .int .i64 T.way, .int .i64 T.wt] 50)).cell? ⟨g + 4, 0, none⟩ = some (.slice B o.length cb) := hB2.now.cell 0
  have s2 : (w1.alloc (.cells #[.slice Av T.bg.length cv, .int .i64 T.e, .int .i64 T.way, .int .i64 T.wt] 50)).cell? ⟨g + 1, 0, none⟩ = some (.slice A m cp) := hB2.lst.cell 0
  rw [hq] at hT2
  obtain ⟨W2, hW2⟩ : ∃ W2, w1.alloc (.cells #[.slice Av T.bg.length cv, .int .i64 T.e, .int .i64 T.way, .int .i64 T.wt] 50) = W2 := ⟨_, rfl⟩
  rw [hW2] at hT2 hB2 hK2
  have H2 := Lib.hid (And.intro hW2 (And.intro hq (And.intro hT2 (And.intro hB2 hK2))))
  clear hW2 hq hT2 hB2 hK2 hA2 hv hg1
  obtain ⟨P, hP⟩ : ∃ P, drvF V ⟨hx, hy, 0, st, 0, 0⟩ [] o = P := ⟨_, rfl⟩
  rcases P with _ | ⟨c, bg⟩
  · have hM : driveM hx hy V st o = none := by unfold driveM; rw [hP]; rfl
    have hE16 : E = 16 := by rw [HE.out.2.2.1, if_pos hM]
    have hX : tryR hx hy st V k o s = s := by unfold tryR; rw [hP]
    subst hE16
    have HX := Lib.hid hX
    clear hP hM hX
    go_wp2_with fail
    refine bodyPost_ret (results_none rfl _ _ _) rfl ?_
    rw [HX.out, H2.out.1]
    exact ⟨rfl, vb, .slice B o.length cb, H2.out.2.2.2.1, H2.out.2.2.2.2⟩
  · have hM : driveM hx hy V st o = some (trOf hx hy (c, bg)) := by unfold driveM; rw [hP]; rfl
    have hE0 : E = 0 := by rw [HE.out.2.2.1, if_neg (by rw [hM]; simp)]
    have hTw : T.way = homeW hx hy c := by
      have := HE.out.1
      unfold drvT at this
      rw [HE.out.2.1, if_neg (by rw [hE0]; simp), hM] at this
      rw [← this]
      rfl
    have hX : tryR hx hy st V k o s = tryP hx hy V (k + 1) c o s := by unfold tryR; rw [hP]
    have hat : AtO hx hy st V o c := ⟨bg, hP⟩
    subst hE0
    have HX := Lib.hid (And.intro hX (And.intro hat hTw))
    clear hP hM hX hat hTw
    by_cases hm : o.length = m
    · have hb : ((o.length : Int) == (m : Int)) = true := by rw [hm]; simp
      have Hm := Lib.hid hm
      clear hm
      have hP1 : tryP hx hy V (k + 1) c o s = if homeW hx hy c < s.2 then (o, homeW hx hy c) else s := by unfold tryP; rw [if_pos (by rw [H1.out.2.2.2.2.2.2.1]; exact Hm.out)]
      have HP1 := Lib.hid hP1
      clear hP1
      have hHb : 0 ≤ homeW hx hy c ∧ homeW hx hy c ≤ 4000000 := by
        obtain ⟨bg', hat⟩ := HX.out.2.1
        have hc : CrB (0 + o.length) c := drvF_crB H1.out.2.2.2.2.2.1.2 o _ _ _ 0 (CrB.start H1.out.2.2.2.2.2.2.2.2.1 H1.out.2.2.2.2.2.2.2.2.2.1 H1.out.2.2.2.2.2.2.2.2.2.2) (by rw [H1.out.2.2.2.2.2.2.1]; exact H1.out.2.1.mem) hat
        have hf := farN_in hc.1 H1.out.2.2.2.2.2.2.2.2.1
        have h60 : (o.length : Int) ≤ 60 := by exact_mod_cast H1.out.2.2.2.2.1
        have hw := hc.2.2.1
        simp only [Nat.zero_add] at hw
        unfold homeW
        omega
      have r2 : (w1.alloc (.cells #[.slice Av T.bg.length cv, .int .i64 T.e, .int .i64 T.way, .int .i64 T.wt] 50)).cell? ⟨w1.heap.size, 2, none⟩ = some (.int .i64 T.way) := by rw [H2.out.1, H2.out.2.1]; exact H2.out.2.2.1.cell 2
      rcases H2.out.2.2.2.1.ok with hs | ⟨hs0, hs1⟩
      · have hl : lf s.2 = -1 := by unfold lf; rw [if_pos hs]
        rw [hl] at l2
        have Hs := Lib.hid hs
        clear hs hl
        go_wp2_with fail
        rw [H2.out.1, H2.out.2.1]
        rw [H2.out.1, H2.out.2.1] at r2
        rw [H2.out.1] at l2 o2 s2
        have hls : lf s.2 = -1 := by unfold lf; rw [if_pos Hs.out]
        have hlt : homeW hx hy c < s.2 := by rw [Hs.out]; unfold bigM; omega
        have hWq : W2.heap.size = q + 1 := by rw [← H2.out.1]; simp [H2.out.2.1]
        refine wp_region_any (by kernel_rfl) ?_
        refine wpAny_facts (frame := ?fr1) ?hfr1 (fun q => [undef, undef, undef, undef, undef, undef].getD q undef) ?h01 (tyF q (.slice B o.length cb) (.int .i64 T.way))
          (fun listed f w => tyG a W2 g q hx hy A m cp st vb (.slice B o.length cb) o (.int .i64 (lf s.2)) (.int .i64 T.way) #[.slice Av T.bg.length cv, .int .i64 T.e, .int .i64 T.way, .int .i64 T.wt] (listed.getD 1 false) (listed.getD 4 false) (listed.getD 5 false) (f 1) w) (fun _ _ => True) tyF_stab ?hG1 (by kernel_rfl) ?hput1 ?hs1 ?hd1
        case hfr1 =>
          intro f
          simp only [putsF, List.zipIdx_cons, List.zipIdx_nil, List.foldl_cons, List.foldl_nil, Nat.reduceAdd, Act.put, List.setIfInBounds_toArray, List.set_cons_zero, List.set_cons_succ]
          rfl
        case h01 => rfl
        case hG1 => exact ⟨⟨H2.out.2.2.2.1.loose.grown (grown_drew (grown_refl _)), H2.out.2.2.1.grown (grown_drew (grown_refl _)) (by simp)⟩, ⟨(KeepR.refl g W2).grown (grown_drew (grown_refl _)), fun h => (nomatch h)⟩, fun h => (nomatch h)⟩
        case hput1 =>
          intro i o ho f v
          match i, ho with
          | 0, ho => simp only [List.getElem?_toArray, List.getElem?_cons_zero, Option.some.injEq] at ho; subst ho; rfl
          | 1, ho => simp only [List.getElem?_toArray, List.getElem?_cons_zero, List.getElem?_cons_succ, Option.some.injEq] at ho; subst ho; rfl
          | 2, ho => simp only [List.getElem?_toArray, List.getElem?_cons_zero, List.getElem?_cons_succ, Option.some.injEq] at ho; subst ho; rfl
          | 3, ho => simp only [List.getElem?_toArray, List.getElem?_cons_zero, List.getElem?_cons_succ, Option.some.injEq] at ho; subst ho; rfl
          | 4, ho => simp only [List.getElem?_toArray, List.getElem?_cons_zero, List.getElem?_cons_succ, Option.some.injEq] at ho; subst ho; rfl
          | 5, ho => simp only [List.getElem?_toArray, List.getElem?_cons_zero, List.getElem?_cons_succ, Option.some.injEq] at ho; subst ho; rfl
          | n + 6, ho => simp at ho
        case hs1 =>
          intro i o ho listed f w2 hsz hun hG hpre K hK
          have hsz' : listed.size = 6 := by simpa using hsz
          dsimp only at hK hG ⊢
          match i, ho with
          | 0, ho =>
            simp only [List.getElem?_toArray, List.getElem?_cons_zero, Option.some.injEq] at ho
            subst ho
            have z := (hG.1.1).now.cell 0
            have z' : w2.cell? ⟨g + 4, 0, none⟩ = some (.slice B o.length cb) := z
            go_simp
            exact hK (.slice B o.length cb) _ trivial (by simpa [getD_setT (show 0 < listed.size by omega), updF] using hG) rfl
          | 1, ho =>
            simp only [List.getElem?_toArray, List.getElem?_cons_zero, List.getElem?_cons_succ, Option.some.injEq] at ho
            subst ho
            have e0 : f 0 = .slice B o.length cb := (hpre ⟨0, .data⟩ (by simp) rfl).2
            have f1 := getD_ff hun
            have f4 : listed.getD 4 false = false := by
              cases h : listed.getD 4 false with
              | false => rfl
              | true => have := hG.2.1.2 h; rw [f1] at this; cases this
            rw [f1, f4] at hG
            rw [e0] at hK ⊢
            go_simp
            refine (cloneInts_any B o.length cb o w2 (own_rdI (hG.1.1).oo) (by have := H1.out.2.2.2.2.1; omega)).mono ?_
            rintro e w5 ⟨v5, rfl, h5, g5⟩
            refine hK v5 w5 trivial ?_ trivial
            rw [getD_setT (by omega), getD_setT (by omega), getD_setT (by omega), if_pos rfl, if_neg (by decide), if_neg (by decide), f4]
            exact ⟨⟨(hG.1.1).grown g5, (hG.1.2).grown g5 (by simp)⟩, ⟨(hG.2.1.1).grown g5, fun h => (nomatch h)⟩, fun _ => by rw [show updF f 1 v5 1 = v5 from by simp [updF]]; exact own_mono h5 hG.2.1.1.1⟩
          | 2, ho =>
            simp only [List.getElem?_toArray, List.getElem?_cons_zero, List.getElem?_cons_succ, Option.some.injEq] at ho
            subst ho
            go_simp
            exact hK (.pointer (some ⟨q, 2, none⟩)) _ trivial (by simpa [getD_setT (show 2 < listed.size by omega), updF] using hG) rfl
          | 3, ho =>
            simp only [List.getElem?_toArray, List.getElem?_cons_zero, List.getElem?_cons_succ, Option.some.injEq] at ho
            subst ho
            have e2 : f 2 = .pointer (some ⟨q, 2, none⟩) := (hpre ⟨2, .data⟩ (by simp) rfl).2
            have z : w2.cell? ⟨q, 2, none⟩ = some (.int .i64 T.way) := (hG.1.2).cell 2
            rw [e2] at hK ⊢
            go_simp
            exact hK (.int .i64 T.way) _ trivial (by simpa [getD_setT (show 3 < listed.size by omega), updF] using hG) rfl
          | 4, ho =>
            simp only [List.getElem?_toArray, List.getElem?_cons_zero, List.getElem?_cons_succ, Option.some.injEq] at ho
            subst ho
            have b1 := (hpre ⟨1, .data⟩ (by simp) rfl).1
            have f4 := getD_ff hun
            rw [f4, b1] at hG
            have ho := hG.2.2 rfl
            obtain ⟨A5, c5, e5, _⟩ := own_slice ho
            have z : w2.cell? ⟨g + 3, 0, none⟩ = some vb := (hG.1.1).best.cell 0
            have fz : w2.frozen? ⟨g + 3, 0, none⟩ = false := (hG.1.1).best.frozen 0
            rw [e5] at hK hG ho ⊢
            go_simp
            refine hK undef _ trivial ?_ trivial
            rw [getD_setT (by omega), getD_setT (by omega), getD_setT (by omega), if_neg (by decide), if_pos rfl, if_neg (by decide), b1]
            rw [show updF f 4 undef 1 = .slice A5 o.length c5 from by simp [updF, e5]]
            exact ⟨⟨(hG.1.1).putB _, (hG.1.2).far (p := ⟨g + 3, 0, none⟩) (by simp; omega) _⟩, ⟨hG.2.1.1.putB _, fun _ => rfl⟩, fun _ => own_setN ho (by simp; omega) _⟩
          | 5, ho =>
            simp only [List.getElem?_toArray, List.getElem?_cons_zero, List.getElem?_cons_succ, Option.some.injEq] at ho
            subst ho
            have e3 : f 3 = .int .i64 T.way := (hpre ⟨3, .data⟩ (by simp) rfl).2
            have f5 := getD_ff hun
            rw [f5] at hG
            have z : w2.cell? ⟨g + 5, 0, none⟩ = some (.int .i64 (lf s.2)) := (hG.1.1).least.cell 0
            have fz : w2.frozen? ⟨g + 5, 0, none⟩ = false := (hG.1.1).least.frozen 0
            rw [e3] at hK ⊢
            go_simp
            refine hK undef _ trivial ?_ trivial
            rw [getD_setT (by omega), getD_setT (by omega), getD_setT (by omega), if_neg (by decide), if_neg (by decide), if_pos rfl]
            rw [show updF f 5 undef 1 = f 1 from by simp [updF]]
            exact ⟨⟨(hG.1.1).putL _, (hG.1.2).far (p := ⟨g + 5, 0, none⟩) (by simp; omega) _⟩, ⟨hG.2.1.1.putL (hG.1.1).least _, hG.2.1.2⟩, fun h => own_setN (hG.2.2 h) (by simp; omega) _⟩
          | n + 6, ho => simp at ho
        case hd1 =>
          intro listed f w2 hall hG hF
          have f1 := hall 1 (by simp)
          have f4 := hall 4 (by simp)
          have f5 := hall 5 (by simp)
          rw [f1, f4, f5] at hG
          unfold tyG at hG
          rw [if_pos rfl, if_pos rfl] at hG
          have HG := Lib.hid hG
          clear hG f1 f4 f5 hF hall
          go_wp2_with fail
          refine bodyPost_ret (results_none rfl _ _ _) rfl ?_
          have ob := HG.out.2.2 (by trivial)
          have oo := HG.out.1.1.oo
          have hnew := H2.out.2.2.2.1.oo
          have hap : Apart (f 1) (.slice B o.length cb) := fun b hb hb' => by
            have h1 := ob.lt b hb
            have h2 := hnew.lt b hb'
            omega
          rw [HX.out.1, HP1.out, if_pos hlt]
          have hT := HX.out.2.2
          have hls2 : lf (homeW hx hy c) = homeW hx hy c := by
            unfold lf
            rw [if_neg (by unfold bigM; omega)]
          have hle := HG.out.1.1.least
          rw [hT] at hle
          exact ⟨rfl, f 1, .slice B o.length cb, ⟨HG.out.1.1.home, HG.out.1.1.lst, HG.out.1.1.start, HG.out.1.1.best, HG.out.1.1.now, by simpa only [hls2] using hle, HG.out.1.1.tr, own_mono ob (by omega), oo, hap, HG.out.1.1.gr, HG.out.1.1.lo, .inr ⟨hHb.1, by unfold bigM; simp only; omega⟩⟩, H2.out.2.2.2.2.trans HG.out.2.1.1⟩
      · have hl : lf s.2 = s.2 := by unfold lf; rw [if_neg (by omega)]
        rw [hl] at l2
        have hs0' : ¬ s.2 < 0 := by omega
        have hTw := HX.out.2.2
        have Hs := Lib.hid (And.intro hs0 (And.intro hs1 hl))
        by_cases hlt : homeW hx hy c < s.2
        · have hd : T.way < s.2 := by rw [hTw]; exact hlt
          have Hlt := Lib.hid hlt
          clear hl hs1 hTw hlt
          go_wp2_with fail
          rw [H2.out.1, H2.out.2.1]
          rw [H2.out.1, H2.out.2.1] at r2
          rw [H2.out.1] at l2 o2 s2
          have hWq : W2.heap.size = q + 1 := by rw [← H2.out.1]; simp [H2.out.2.1]
          have hlt := Hlt.out
          refine wp_region_any (by kernel_rfl) ?_
          refine wpAny_facts (frame := ?fr2) ?hfr2 (fun q => [undef, undef, undef, undef, undef, undef].getD q undef) ?h02 (tyF q (.slice B o.length cb) (.int .i64 T.way))
            (fun listed f w => tyG a W2 g q hx hy A m cp st vb (.slice B o.length cb) o (.int .i64 (lf s.2)) (.int .i64 T.way) #[.slice Av T.bg.length cv, .int .i64 T.e, .int .i64 T.way, .int .i64 T.wt] (listed.getD 1 false) (listed.getD 4 false) (listed.getD 5 false) (f 1) w) (fun _ _ => True) tyF_stab ?hG2 (by kernel_rfl) ?hput2 ?hs2 ?hd2
          case hfr2 =>
            intro f
            simp only [putsF, List.zipIdx_cons, List.zipIdx_nil, List.foldl_cons, List.foldl_nil, Nat.reduceAdd, Act.put, List.setIfInBounds_toArray, List.set_cons_zero, List.set_cons_succ]
            rfl
          case h02 => rfl
          case hG2 => exact ⟨⟨H2.out.2.2.2.1.loose.grown (grown_drew (grown_refl _)), H2.out.2.2.1.grown (grown_drew (grown_refl _)) (by simp)⟩, ⟨(KeepR.refl g W2).grown (grown_drew (grown_refl _)), fun h => (nomatch h)⟩, fun h => (nomatch h)⟩
          case hput2 =>
            intro i o ho f v
            match i, ho with
            | 0, ho => simp only [List.getElem?_toArray, List.getElem?_cons_zero, Option.some.injEq] at ho; subst ho; rfl
            | 1, ho => simp only [List.getElem?_toArray, List.getElem?_cons_zero, List.getElem?_cons_succ, Option.some.injEq] at ho; subst ho; rfl
            | 2, ho => simp only [List.getElem?_toArray, List.getElem?_cons_zero, List.getElem?_cons_succ, Option.some.injEq] at ho; subst ho; rfl
            | 3, ho => simp only [List.getElem?_toArray, List.getElem?_cons_zero, List.getElem?_cons_succ, Option.some.injEq] at ho; subst ho; rfl
            | 4, ho => simp only [List.getElem?_toArray, List.getElem?_cons_zero, List.getElem?_cons_succ, Option.some.injEq] at ho; subst ho; rfl
            | 5, ho => simp only [List.getElem?_toArray, List.getElem?_cons_zero, List.getElem?_cons_succ, Option.some.injEq] at ho; subst ho; rfl
            | n + 6, ho => simp at ho
          case hs2 =>
            intro i o ho listed f w2 hsz hun hG hpre K hK
            have hsz' : listed.size = 6 := by simpa using hsz
            dsimp only at hK hG ⊢
            match i, ho with
            | 0, ho =>
              simp only [List.getElem?_toArray, List.getElem?_cons_zero, Option.some.injEq] at ho
              subst ho
              have z := (hG.1.1).now.cell 0
              have z' : w2.cell? ⟨g + 4, 0, none⟩ = some (.slice B o.length cb) := z
              go_simp
              exact hK (.slice B o.length cb) _ trivial (by simpa [getD_setT (show 0 < listed.size by omega), updF] using hG) rfl
            | 1, ho =>
              simp only [List.getElem?_toArray, List.getElem?_cons_zero, List.getElem?_cons_succ, Option.some.injEq] at ho
              subst ho
              have e0 : f 0 = .slice B o.length cb := (hpre ⟨0, .data⟩ (by simp) rfl).2
              have f1 := getD_ff hun
              have f4 : listed.getD 4 false = false := by
                cases h : listed.getD 4 false with
                | false => rfl
                | true => have := hG.2.1.2 h; rw [f1] at this; cases this
              rw [f1, f4] at hG
              rw [e0] at hK ⊢
              go_simp
              refine (cloneInts_any B o.length cb o w2 (own_rdI (hG.1.1).oo) (by have := H1.out.2.2.2.2.1; omega)).mono ?_
              rintro e w5 ⟨v5, rfl, h5, g5⟩
              refine hK v5 w5 trivial ?_ trivial
              rw [getD_setT (by omega), getD_setT (by omega), getD_setT (by omega), if_pos rfl, if_neg (by decide), if_neg (by decide), f4]
              exact ⟨⟨(hG.1.1).grown g5, (hG.1.2).grown g5 (by simp)⟩, ⟨(hG.2.1.1).grown g5, fun h => (nomatch h)⟩, fun _ => by rw [show updF f 1 v5 1 = v5 from by simp [updF]]; exact own_mono h5 hG.2.1.1.1⟩
            | 2, ho =>
              simp only [List.getElem?_toArray, List.getElem?_cons_zero, List.getElem?_cons_succ, Option.some.injEq] at ho
              subst ho
              go_simp
              exact hK (.pointer (some ⟨q, 2, none⟩)) _ trivial (by simpa [getD_setT (show 2 < listed.size by omega), updF] using hG) rfl
            | 3, ho =>
              simp only [List.getElem?_toArray, List.getElem?_cons_zero, List.getElem?_cons_succ, Option.some.injEq] at ho
              subst ho
              have e2 : f 2 = .pointer (some ⟨q, 2, none⟩) := (hpre ⟨2, .data⟩ (by simp) rfl).2
              have z : w2.cell? ⟨q, 2, none⟩ = some (.int .i64 T.way) := (hG.1.2).cell 2
              rw [e2] at hK ⊢
              go_simp
              exact hK (.int .i64 T.way) _ trivial (by simpa [getD_setT (show 3 < listed.size by omega), updF] using hG) rfl
            | 4, ho =>
              simp only [List.getElem?_toArray, List.getElem?_cons_zero, List.getElem?_cons_succ, Option.some.injEq] at ho
              subst ho
              have b1 := (hpre ⟨1, .data⟩ (by simp) rfl).1
              have f4 := getD_ff hun
              rw [f4, b1] at hG
              have ho := hG.2.2 rfl
              obtain ⟨A5, c5, e5, _⟩ := own_slice ho
              have z : w2.cell? ⟨g + 3, 0, none⟩ = some vb := (hG.1.1).best.cell 0
              have fz : w2.frozen? ⟨g + 3, 0, none⟩ = false := (hG.1.1).best.frozen 0
              rw [e5] at hK hG ho ⊢
              go_simp
              refine hK undef _ trivial ?_ trivial
              rw [getD_setT (by omega), getD_setT (by omega), getD_setT (by omega), if_neg (by decide), if_pos rfl, if_neg (by decide), b1]
              rw [show updF f 4 undef 1 = .slice A5 o.length c5 from by simp [updF, e5]]
              exact ⟨⟨(hG.1.1).putB _, (hG.1.2).far (p := ⟨g + 3, 0, none⟩) (by simp; omega) _⟩, ⟨hG.2.1.1.putB _, fun _ => rfl⟩, fun _ => own_setN ho (by simp; omega) _⟩
            | 5, ho =>
              simp only [List.getElem?_toArray, List.getElem?_cons_zero, List.getElem?_cons_succ, Option.some.injEq] at ho
              subst ho
              have e3 : f 3 = .int .i64 T.way := (hpre ⟨3, .data⟩ (by simp) rfl).2
              have f5 := getD_ff hun
              rw [f5] at hG
              have z : w2.cell? ⟨g + 5, 0, none⟩ = some (.int .i64 (lf s.2)) := (hG.1.1).least.cell 0
              have fz : w2.frozen? ⟨g + 5, 0, none⟩ = false := (hG.1.1).least.frozen 0
              rw [e3] at hK ⊢
              go_simp
              refine hK undef _ trivial ?_ trivial
              rw [getD_setT (by omega), getD_setT (by omega), getD_setT (by omega), if_neg (by decide), if_neg (by decide), if_pos rfl]
              rw [show updF f 5 undef 1 = f 1 from by simp [updF]]
              exact ⟨⟨(hG.1.1).putL _, (hG.1.2).far (p := ⟨g + 5, 0, none⟩) (by simp; omega) _⟩, ⟨hG.2.1.1.putL (hG.1.1).least _, hG.2.1.2⟩, fun h => own_setN (hG.2.2 h) (by simp; omega) _⟩
            | n + 6, ho => simp at ho
          case hd2 =>
            intro listed f w2 hall hG hF
            have f1 := hall 1 (by simp)
            have f4 := hall 4 (by simp)
            have f5 := hall 5 (by simp)
            rw [f1, f4, f5] at hG
            unfold tyG at hG
            rw [if_pos rfl, if_pos rfl] at hG
            have HG := Lib.hid hG
            clear hG f1 f4 f5 hF hall
            go_wp2_with fail
            refine bodyPost_ret (results_none rfl _ _ _) rfl ?_
            have ob := HG.out.2.2 (by trivial)
            have oo := HG.out.1.1.oo
            have hnew := H2.out.2.2.2.1.oo
            have hap : Apart (f 1) (.slice B o.length cb) := fun b hb hb' => by
              have h1 := ob.lt b hb
              have h2 := hnew.lt b hb'
              omega
            rw [HX.out.1, HP1.out, if_pos hlt]
            have hT := HX.out.2.2
            have hls2 : lf (homeW hx hy c) = homeW hx hy c := by
              unfold lf
              rw [if_neg (by unfold bigM; omega)]
            have hle := HG.out.1.1.least
            rw [hT] at hle
            exact ⟨rfl, f 1, .slice B o.length cb, ⟨HG.out.1.1.home, HG.out.1.1.lst, HG.out.1.1.start, HG.out.1.1.best, HG.out.1.1.now, by simpa only [hls2] using hle, HG.out.1.1.tr, own_mono ob (by omega), oo, hap, HG.out.1.1.gr, HG.out.1.1.lo, .inr ⟨hHb.1, by unfold bigM; simp only; omega⟩⟩, H2.out.2.2.2.2.trans HG.out.2.1.1⟩
        · have hd : ¬ T.way < s.2 := by rw [hTw]; exact hlt
          have Hlt := Lib.hid hlt
          clear hl hs1 hTw hlt
          go_wp2_with fail
          refine bodyPost_ret (results_none rfl _ _ _) rfl ?_
          rw [HX.out.1, HP1.out, if_neg (by have := Hlt.out; omega), H2.out.1]
          exact ⟨rfl, vb, .slice B o.length cb, H2.out.2.2.2.1, H2.out.2.2.2.2⟩
    · have hP1 : tryP hx hy V (k + 1) c o s = tryL V (tryP hx hy V k) c o s m := by unfold tryP; rw [if_neg (by rw [H1.out.2.2.2.2.2.2.1]; exact hm), H1.out.2.2.2.2.2.2.1]
      obtain ⟨k', hk'⟩ : ∃ k', k = k' + 1 := ⟨k - 1, by have := H1.out.2.2.1; have := H1.out.1.oo.1; omega⟩
      have hb : ((o.length : Int) == (m : Int)) = false := by simp; omega
      have HP1 := Lib.hid (And.intro hP1 (And.intro hk' hm))
      clear hP1 hk' hm l2
      go_wp2_with fail
      rw [H2.out.1, H2.out.2.1]
      clear o2 s2
      have hm60 : m ≤ 60 := by have := H1.out.2.2.2.2.2; omega
      go_loopg [39] m (fun κ i wr => ∃ (j : Nat) (vb' vo' : Value), κ + j = m ∧ i = .int .i64 j ∧ RxS a wr g hx hy A m cp st vb' vo' o (tryL V (tryP hx hy V k) c o s j) ∧ KeepR g w wr)
      case atStart => exact ⟨0, vb, .slice B o.length cb, by omega, rfl, H2.out.2.2.2.1, H2.out.2.2.2.2⟩
      case round =>
        obtain ⟨j, vb1, vo1, hj, rfl, hB, hK⟩ := hrel
        by_cases hlt2 : j < m
        · obtain ⟨B1, cb1, rfl, hncb1⟩ := own_slice hB.oo
          have o3 : wr.cell? ⟨g + 4, 0, none⟩ = some (.slice B1 o.length cb1) := hB.now.cell 0
          have hcon := contains_any B1 o.length cb1 o j wr (own_rdI hB.oo) (by have := H1.out.2.2.2.2.1; omega)
          obtain ⟨N, hN⟩ : ∃ N, hasN o j = N := ⟨_, rfl⟩
          rw [show decide ((j : Int) ∈ o) = N from hN] at hcon
          have HZ := Lib.hid (And.intro hB (And.intro hK (And.intro hN (And.intro hcon hj))))
          clear hB hK hN hcon
          go_wp2_with fail
          refine HZ.out.2.2.2.1.mono ?_
          rintro e w4 ⟨rfl, hg4⟩
          clear o3
          have hB4 := HZ.out.1.grown hg4
          have hK4 := HZ.out.2.1.grown hg4
          cases N
          · have o4 : w4.cell? ⟨g + 4, 0, none⟩ = some (.slice B1 o.length cb1) := hB4.now.cell 0
            have hol60 := H1.out.2.2.2.2.1
            have hgW : g + 7 ≤ w4.heap.size := by have := hB4.tr.lt; omega
            have H4 := Lib.hid (And.intro hB4 hK4)
            clear hB4 hK4 hg4
            go_wp2_with (at_builtin; refine ap_int_at w4 j rfl _ _ rfl (g + 7) (.slice B1 o.length cb1) o.length o rfl H4.out.1.oo _ rfl rfl (by omega) hgW ?_; intro v7 w7 o7 g7 k7; obtain ⟨A7, c7, rfl, hc7⟩ := own_slice o7; have HP := Lib.hid (H4.out.1.push o7 g7 k7); obtain ⟨_, _, f0, f1, f2⟩ := HP.out; clear o7 g7 k7 hc7)
            have hO7 := H1.out.2.1.app hlt2 HZ.out.2.2.1
            have hk7 : (o ++ [(j : Int)]).length + k' = m := by
              have h1 := HP1.out.2.1
              have h2 := H1.out.2.2.1
              simp
              omega
            have hrec := Hih.out k' (by have h1 := HP1.out.2.1; omega) (o ++ [(j : Int)]) (tryL V (tryP hx hy V k) c o s j) vb1 (.slice A7 (o.length + 1) c7) _ HP.out.1 hO7 hk7
            refine hrec.mono ?_
            clear hrec hO7 hk7
            rintro e w8 ⟨rfl, vb8, vo8, hB8, hK8⟩
            clear f0 f1 f2 o4
            have hl1 : (o ++ [(j : Int)]).length = o.length + 1 := by simp
            obtain ⟨A8, c8, rfl, hc8⟩ := own_slice hB8.oo
            rw [hl1] at hB8 hc8
            have hpop := hB8.pop
            have o8 : w8.cell? ⟨g + 4, 0, none⟩ = some (.slice A8 (o.length + 1) c8) := hB8.now.cell 0
            have f8 := hB8.now.frozen 0
            have hK9 := ((H4.out.2.trans HP.out.2.1).trans hK8).trans hpop.2.1
            have hstep : tryL V (tryP hx hy V k) c o s (j + 1) = tryR hx hy st V k' (o ++ [(j : Int)]) (tryL V (tryP hx hy V k) c o s j) := by
              rw [tryL_succ]
              unfold tryS tryR
              rw [if_neg (by rw [HZ.out.2.2.1]; simp)]
              by_cases hG : crGo c (stAt V j) = true
              · rw [if_pos hG]
                obtain ⟨bg', hat'⟩ := HX.out.2.1.next (i := j) hG
                rw [hat', HP1.out.2.1]
              · rw [if_neg hG, HX.out.2.1.late (i := j) (by simpa using hG)]
            have H9 := Lib.hid (And.intro hpop.1 (And.intro hK9 hstep))
            clear hpop hK9 hstep hB8 hK8 hl1
            go_wp2_with fail
            go_roundg (gk - 1)
            case measure => omega
            case rel => exact ⟨j + 1, vb8, .slice A8 o.length c8, by omega, by go_num, by rw [H9.out.2.2]; exact H9.out.1, H9.out.2.1⟩
          · have hsame : tryL V (tryP hx hy V k) c o s (j + 1) = tryL V (tryP hx hy V k) c o s j := by
              rw [tryL_succ]
              unfold tryS
              rw [if_pos HZ.out.2.2.1]
            have HS := Lib.hid (And.intro hsame (And.intro hB4 hK4))
            clear hsame hB4 hK4
            go_wp2_with fail
            go_roundg (gk - 1)
            case measure => omega
            case rel => exact ⟨j + 1, vb1, .slice B1 o.length cb1, by omega, by go_num, by rw [HS.out.1]; exact HS.out.2.1, HS.out.2.2⟩
        · obtain rfl : j = m := by omega
          have HE := Lib.hid (And.intro hB hK)
          clear hB hK
          go_wp2_with fail
          go_end0
          exact ⟨rfl, vb1, vo1, by rw [HX.out.1, HP1.out.1]; exact HE.out.1, HE.out.2⟩

/-- The boxes, as they are made. -/
def bx7 (w : World) (hx hy : Int) (A : Option Addr) (m cp : Nat) (st : Int) : World := ((((((w.alloc (.cells #[.int .i64 hx, .int .i64 hy] 30)).alloc (.cells #[.slice A m cp] 26)).alloc (.cells #[.int .i64 st] 3)).alloc (.cells #[.slice none 0 0] 22)).alloc (.cells #[.slice none 0 0] 22)).alloc (.cells #[.int .i64 (-1)] 3))
theorem bx7_start (w : World) (g : Nat) (hg : w.heap.size = g) (hx hy : Int) (A : Option Addr) (m cp : Nat) (st : Int) :
    RxS w ((bx7 w hx hy A m cp st).alloc (.cells #[.func (.func 39) #[] #[.pointer (some ⟨g, 0, none⟩), .pointer (some ⟨g + 1, 0, none⟩), .pointer (some ⟨g + 2, 0, none⟩), .pointer (some ⟨g + 4, 0, none⟩), .pointer (some ⟨g + 5, 0, none⟩), .pointer (some ⟨g + 3, 0, none⟩), .pointer (some ⟨g + 6, 0, none⟩)]] 1)) g hx hy A m cp st (.slice none 0 0) (.slice none 0 0) [] ([], bigM) ∧ (bx7 w hx hy A m cp st).heap.size = g + 6 := by
  unfold bx7
  have k0 := Blk.new w 30 #[.int .i64 hx, .int .i64 hy]
  have g1 := grown_alloc (grown_refl w) (.cells #[.int .i64 hx, .int .i64 hy] 30)
  have z1 : (w.alloc (.cells #[.int .i64 hx, .int .i64 hy] 30)).heap.size = g + 1 := by simp [hg]
  rw [hg] at k0
  generalize w.alloc (.cells #[.int .i64 hx, .int .i64 hy] 30) = w1 at *
  have k1 := Blk.new w1 26 #[.slice A m cp]
  have k0 := k0.alloc (.cells #[.slice A m cp] 26)
  have g1 := grown_alloc g1 (.cells #[.slice A m cp] 26)
  have z2 : (w1.alloc (.cells #[.slice A m cp] 26)).heap.size = g + 2 := by simp [z1]
  rw [z1] at k1
  clear z1
  generalize w1.alloc (.cells #[.slice A m cp] 26) = w2 at *
  have k2 := Blk.new w2 3 #[.int .i64 st]
  have k0 := k0.alloc (.cells #[.int .i64 st] 3)
  have k1 := k1.alloc (.cells #[.int .i64 st] 3)
  have g1 := grown_alloc g1 (.cells #[.int .i64 st] 3)
  have z3 : (w2.alloc (.cells #[.int .i64 st] 3)).heap.size = g + 3 := by simp [z2]
  rw [z2] at k2
  clear z2
  generalize w2.alloc (.cells #[.int .i64 st] 3) = w3 at *
  have k3 := Blk.new w3 22 #[.slice none 0 0]
  have k0 := k0.alloc (.cells #[.slice none 0 0] 22)
  have k1 := k1.alloc (.cells #[.slice none 0 0] 22)
  have k2 := k2.alloc (.cells #[.slice none 0 0] 22)
  have g1 := grown_alloc g1 (.cells #[.slice none 0 0] 22)
  have z4 : (w3.alloc (.cells #[.slice none 0 0] 22)).heap.size = g + 4 := by simp [z3]
  rw [z3] at k3
  clear z3
  generalize w3.alloc (.cells #[.slice none 0 0] 22) = w4 at *
  have k4 := Blk.new w4 22 #[.slice none 0 0]
  have k0 := k0.alloc (.cells #[.slice none 0 0] 22)
  have k1 := k1.alloc (.cells #[.slice none 0 0] 22)
  have k2 := k2.alloc (.cells #[.slice none 0 0] 22)
  have k3 := k3.alloc (.cells #[.slice none 0 0] 22)
  have g1 := grown_alloc g1 (.cells #[.slice none 0 0] 22)
  have z5 : (w4.alloc (.cells #[.slice none 0 0] 22)).heap.size = g + 5 := by simp [z4]
  rw [z4] at k4
  clear z4
  generalize w4.alloc (.cells #[.slice none 0 0] 22) = w5 at *
  have k5 := Blk.new w5 3 #[.int .i64 (-1)]
  have k0 := k0.alloc (.cells #[.int .i64 (-1)] 3)
  have k1 := k1.alloc (.cells #[.int .i64 (-1)] 3)
  have k2 := k2.alloc (.cells #[.int .i64 (-1)] 3)
  have k3 := k3.alloc (.cells #[.int .i64 (-1)] 3)
  have k4 := k4.alloc (.cells #[.int .i64 (-1)] 3)
  have g1 := grown_alloc g1 (.cells #[.int .i64 (-1)] 3)
  have z6 : (w5.alloc (.cells #[.int .i64 (-1)] 3)).heap.size = g + 6 := by simp [z5]
  rw [z5] at k5
  clear z5
  generalize w5.alloc (.cells #[.int .i64 (-1)] 3) = w6 at *
  have k6 := Blk.new w6 1 #[.func (.func 39) #[] #[.pointer (some ⟨g, 0, none⟩), .pointer (some ⟨g + 1, 0, none⟩), .pointer (some ⟨g + 2, 0, none⟩), .pointer (some ⟨g + 4, 0, none⟩), .pointer (some ⟨g + 5, 0, none⟩), .pointer (some ⟨g + 3, 0, none⟩), .pointer (some ⟨g + 6, 0, none⟩)]]
  have k0 := k0.alloc (.cells #[.func (.func 39) #[] #[.pointer (some ⟨g, 0, none⟩), .pointer (some ⟨g + 1, 0, none⟩), .pointer (some ⟨g + 2, 0, none⟩), .pointer (some ⟨g + 4, 0, none⟩), .pointer (some ⟨g + 5, 0, none⟩), .pointer (some ⟨g + 3, 0, none⟩), .pointer (some ⟨g + 6, 0, none⟩)]] 1)
  have k1 := k1.alloc (.cells #[.func (.func 39) #[] #[.pointer (some ⟨g, 0, none⟩), .pointer (some ⟨g + 1, 0, none⟩), .pointer (some ⟨g + 2, 0, none⟩), .pointer (some ⟨g + 4, 0, none⟩), .pointer (some ⟨g + 5, 0, none⟩), .pointer (some ⟨g + 3, 0, none⟩), .pointer (some ⟨g + 6, 0, none⟩)]] 1)
  have k2 := k2.alloc (.cells #[.func (.func 39) #[] #[.pointer (some ⟨g, 0, none⟩), .pointer (some ⟨g + 1, 0, none⟩), .pointer (some ⟨g + 2, 0, none⟩), .pointer (some ⟨g + 4, 0, none⟩), .pointer (some ⟨g + 5, 0, none⟩), .pointer (some ⟨g + 3, 0, none⟩), .pointer (some ⟨g + 6, 0, none⟩)]] 1)
  have k3 := k3.alloc (.cells #[.func (.func 39) #[] #[.pointer (some ⟨g, 0, none⟩), .pointer (some ⟨g + 1, 0, none⟩), .pointer (some ⟨g + 2, 0, none⟩), .pointer (some ⟨g + 4, 0, none⟩), .pointer (some ⟨g + 5, 0, none⟩), .pointer (some ⟨g + 3, 0, none⟩), .pointer (some ⟨g + 6, 0, none⟩)]] 1)
  have k4 := k4.alloc (.cells #[.func (.func 39) #[] #[.pointer (some ⟨g, 0, none⟩), .pointer (some ⟨g + 1, 0, none⟩), .pointer (some ⟨g + 2, 0, none⟩), .pointer (some ⟨g + 4, 0, none⟩), .pointer (some ⟨g + 5, 0, none⟩), .pointer (some ⟨g + 3, 0, none⟩), .pointer (some ⟨g + 6, 0, none⟩)]] 1)
  have k5 := k5.alloc (.cells #[.func (.func 39) #[] #[.pointer (some ⟨g, 0, none⟩), .pointer (some ⟨g + 1, 0, none⟩), .pointer (some ⟨g + 2, 0, none⟩), .pointer (some ⟨g + 4, 0, none⟩), .pointer (some ⟨g + 5, 0, none⟩), .pointer (some ⟨g + 3, 0, none⟩), .pointer (some ⟨g + 6, 0, none⟩)]] 1)
  have g1 := grown_alloc g1 (.cells #[.func (.func 39) #[] #[.pointer (some ⟨g, 0, none⟩), .pointer (some ⟨g + 1, 0, none⟩), .pointer (some ⟨g + 2, 0, none⟩), .pointer (some ⟨g + 4, 0, none⟩), .pointer (some ⟨g + 5, 0, none⟩), .pointer (some ⟨g + 3, 0, none⟩), .pointer (some ⟨g + 6, 0, none⟩)]] 1)
  rw [z6] at k6
  generalize w6.alloc (.cells #[.func (.func 39) #[] #[.pointer (some ⟨g, 0, none⟩), .pointer (some ⟨g + 1, 0, none⟩), .pointer (some ⟨g + 2, 0, none⟩), .pointer (some ⟨g + 4, 0, none⟩), .pointer (some ⟨g + 5, 0, none⟩), .pointer (some ⟨g + 3, 0, none⟩), .pointer (some ⟨g + 6, 0, none⟩)]] 1) = w7 at *
  exact ⟨⟨k0, k1, k2, k3, k4, k5, k6, World.ownsRow_nil _ _ _ _, World.ownsRow_nil _ _ _ _, (fun b h => by cases h), g1, by omega, .inl rfl⟩, z6⟩

set_option maxRecDepth 100000 in
set_option maxHeartbeats 4000000 in
theorem bestRoute_any (hx hy : Int) (A : Option Addr) (m cp : Nat) (V : List St) (st : Int) (w : World) (hr : Rd w 6 A m (stFlat V)) (hmc : m ≤ cp) (hrf : routeF hx hy V st = 0) :
    Calls Tryd.prog 13 #[.agg #[.int .i64 hx, .int .i64 hy], .slice A m cp, .int .i64 st] w
      fun e w' => (∃ v, e = .returned (.tuple #[v, .int .i64 (bsO hx hy st V).2, .int .i64 (bsE hx hy st V)]) ∧ w'.ownsRow w.heap.size 3 1 v (bsO hx hy st V).1.length (ints (bsO hx hy st V).1)) ∧ w.grownBy w' none := by
  have hlV : V.length = m := by have := hr.1; rw [stFlat_len] at this; omega
  obtain ⟨E, hE⟩ : ∃ E, bsE hx hy st V = E := ⟨_, rfl⟩
  obtain ⟨O, hO⟩ : ∃ O, bsO hx hy st V = O := ⟨_, rfl⟩
  rw [hE, hO]
  unfold bsO at hO
  rw [hE] at hO
  unfold bsE at hE
  rw [hlV, if_neg (by rw [hrf]; simp)] at hE
  obtain ⟨g, hg⟩ : ∃ g, w.heap.size = g := ⟨_, rfl⟩
  obtain ⟨hB, hz⟩ := bx7_start w g hg hx hy A m cp st
  have hT := try_any w g hx hy A m cp V st hr hmc hrf m [] ([], bigM) (.slice none 0 0) (.slice none 0 0)
  have hM : tryR hx hy st V m [] ([], bigM) = bestM hx hy st V := by unfold tryR bestM; rw [hlV]; rfl
  rw [hM] at hT
  generalize bestM hx hy st V = M at *
  have hst := store_newB (P := Tryd.prog) (bx7 w hx hy A m cp st) .nilFunc (.func (.func 39) #[] #[.pointer (some ⟨g, 0, none⟩), .pointer (some ⟨g + 1, 0, none⟩), .pointer (some ⟨g + 1 + 1, 0, none⟩), .pointer (some ⟨g + 1 + 1 + 1 + 1, 0, none⟩), .pointer (some ⟨g + 1 + 1 + 1 + 1 + 1, 0, none⟩), .pointer (some ⟨g + 1 + 1 + 1, 0, none⟩), .pointer (some ⟨g + 1 + 1 + 1 + 1 + 1 + 1, 0, none⟩)]) 1 rfl
  rw [hz, show g + 6 = g + 1 + 1 + 1 + 1 + 1 + 1 from rfl] at hst
  unfold bx7 at hst
  have HW := Lib.hid (And.intro hg (And.intro hB (And.intro hT (And.intro hE (And.intro hO hlV)))))
  clear hz hB hM hT hE hO hlV hrf hr
  by_cases hm8 : 8 < m
  · have hE2 : E = 2 := by have := HW.out.2.2.2.1; rw [if_pos hm8] at this; exact this.symm
    have hO2 : O = ([], 0) := by have := HW.out.2.2.2.2.1; rw [if_pos (by rw [hE2]; decide)] at this; exact this.symm
    subst hE2 hO2
    have hm8' : (8 : Int) < (m : Int) := by omega
    clear hm8 hst
    go_enter Tryd.func13, Tryd.ntmps13
    go_wp2_with fail
    go_ret3
    exact ⟨⟨_, rfl, World.ownsRow_nil _ _ _ _⟩, grown_alloc (grown_alloc (grown_alloc (grown_refl w) _) _) _⟩
  · have hm8' : (m : Int) ≤ 8 := by omega
    have Hm := Lib.hid hm8
    clear hm8
    go_enter Tryd.func13, Tryd.ntmps13
    go_wp2_with fail
    refine (HW.out.2.2.1 _ HW.out.2.1 (RtO.nil m) (by simp)).mono ?_
    rintro e w7 ⟨rfl, vb7, vo7, hB7, hK7⟩
    clear hst hK7
    obtain ⟨A7, c7, rfl, hc7⟩ := own_slice hB7.ob
    have b0 : w7.cell? ⟨g + 1 + 1 + 1, 0, none⟩ = some (.slice A7 M.1.length c7) := hB7.best.cell 0
    have l0 : w7.cell? ⟨g + 1 + 1 + 1 + 1 + 1, 0, none⟩ = some (.int .i64 (lf M.2)) := hB7.least.cell 0
    have H7 := Lib.hid (And.intro hB7.ob hB7.gr)
    rcases hB7.ok with hs | ⟨hs0, hs1⟩
    · have hl : lf M.2 = -1 := by unfold lf; rw [if_pos hs]
      have hE2 : E = 8 := by have := HW.out.2.2.2.1; rw [if_neg Hm.out, if_neg (by omega)] at this; exact this.symm
      have hO2 : O = ([], 0) := by have := HW.out.2.2.2.2.1; rw [if_pos (by rw [hE2]; decide)] at this; exact this.symm
      subst hE2 hO2
      rw [hl] at l0
      clear hs hl hB7
      go_wp2_with fail
      go_ret3
      exact ⟨⟨_, rfl, World.ownsRow_nil _ _ _ _⟩, H7.out.2⟩
    · have hl : lf M.2 = M.2 := by unfold lf; rw [if_neg (by omega)]
      have hE2 : E = 0 := by have := HW.out.2.2.2.1; rw [if_neg Hm.out, if_pos hs1] at this; exact this.symm
      have hO2 : O = M := by have := HW.out.2.2.2.2.1; rw [if_neg (by rw [hE2]; decide)] at this; exact this.symm
      subst hE2 hO2
      rw [hl] at l0
      have hs0' : ¬ O.2 < 0 := by omega
      clear hs1 hl hB7 hs0
      go_wp2_with fail
      go_region
      go_wp2_with fail
      go_ret3
      exact ⟨⟨_, rfl, own_mono H7.out.1 (by have := HW.out.1; omega)⟩, grown_drew H7.out.2⟩

/-- append(row, x) within a region that draws its order, where x lies somewhere in a block of its own. -/
theorem st_intL {ops : Array Oper} {o : Oper} {a : Act} {K : Act → World → Prop} {R : Exit → Act → World → Prop} {E : Prop} {w : World} {tm : Array Value} (hgd : o.guard = none) (s x : Operand)
    (ho : o.op = .call { callee := .builtin .append, args := #[s, x], argTypes := #[22, 22] }) (base : Nat) (v : Value) (l : List Int) (y : Int) (N : Nat)
    (hs : a.eval s = v) (hown : w.ownsRow base 3 1 v l.length (ints l)) (hx : a.eval x = .slice (some ⟨N, 0, none⟩) 1 1) (hy : w.cell? ⟨N, 0, none⟩ = some (.int .i64 y)) (hlen : l.length ≤ 1000000000) (hbase : base ≤ w.heap.size)
    (h : ∀ g cap w', w'.ownsRow base 3 1 (.slice (some ⟨g, 0, none⟩) (l.length + 1) cap) (l.length + 1) (ints (l ++ [y])) → w.grownBy w' v.ownBlock → K (a.put o.dst (.slice (some ⟨g, 0, none⟩) (l.length + 1) cap)) w') :
    if Region.wanted o (yielded ops tm) = true then Oper.wp Tryd.prog o a w K R else E := by
  have hw : Region.wanted o (yielded ops tm) = true := by simp [Region.wanted, hgd]
  rw [if_pos hw]
  obtain ⟨i0, hi, hz0, hz1, hz2⟩ := info_parts Tryd.infoInt
  refine wp_append_lies w s x 22 ho base 3 i0 (.int .i64 0) 1 8 Tryd.underlying22 hi hz0 hz1 hz2 rfl (by decide) v l.length (ints l) hs hown ⟨N, 0, none⟩ 1 1 (ints [y]) hx rfl
    (fun j u hu => ?_) (by simp [ints, Value.oneCell']) (by omega) (by unfold maxLen; omega) (by omega) hbase _ rfl ?_
  · match j, hu with
    | 0, hu => simp [ints] at hu; subst hu; exact hy
    | n + 1, hu => simp [ints] at hu
  · intro g cap w' h1 h2 h3 _
    exact h g cap w' (by simpa [ints] using h1) h2

/-- The nearest stop as the reference keeps it. -/
def nbI : Option (Nat × Cr) → Int
  | none => -1
  | some p => p.1
def nbL (c : Cr) : Option (Nat × Cr) → Int
  | none => 0
  | some p => p.2.way - c.way

/-- What lies while one stop is tried. -/
def nqG (wr : World) (o : List Int) (j : Int) (l4 l6 l7 l12 l13 : Bool) (v4 v6 v7 v12 : Value) (w : World) : Prop :=
  (wr.grownBy w none ∧ (l7 = true → l4 = true ∧ l6 = true) ∧ (l13 = true → l12 = true))
  ∧ (l4 = true → l7 = false → w.ownsRow wr.heap.size 3 1 v4 o.length (ints o))
  ∧ (l6 = true → l7 = false → ∃ N, v6 = .slice (some ⟨N, 0, none⟩) 1 1 ∧ Blk w N 3 #[.int .i64 j])
  ∧ (l7 = true → w.ownsRow wr.heap.size 3 1 v7 (o.length + 1) (ints (o ++ [j])))
  ∧ (l12 = true → l13 = false → ∃ N, v12 = .pointer (some ⟨N, 0, none⟩) ∧ wr.heap.size ≤ N ∧ Blk w N 50 #[.slice none 0 0, .int .i64 0, .int .i64 0, .int .i64 0])
theorem nqG.quiet {wr : World} {o : List Int} {j : Int} {l4 l6 l7 l12 l13 : Bool} {v4 v6 v7 v12 : Value} {w w' : World} (h : nqG wr o j l4 l6 l7 l12 l13 v4 v6 v7 v12 w) (hg : w.grownBy w' none) : nqG wr o j l4 l6 l7 l12 l13 v4 v6 v7 v12 w' :=
  ⟨⟨h.1.1.trans hg, h.1.2⟩, fun a b => (h.2.1 a b).kept hg (own_nn _), fun a b => by obtain ⟨N, e, c⟩ := h.2.2.1 a b; exact ⟨N, e, c.grown hg (by simp)⟩, fun a => (h.2.2.2.1 a).kept hg (own_nn _), fun a b => by obtain ⟨N, e, hN, hb⟩ := h.2.2.2.2 a b; exact ⟨N, e, hN, hb.grown hg (by simp)⟩⟩
section
variable {wr : World} {o : List Int} {j : Int} {l4 l6 l7 l12 l13 : Bool} {v4 v6 v7 v12 : Value} {w w' : World}
theorem nqG.clone (h : nqG wr o j false l6 false l12 l13 v4 v6 v7 v12 w) (hg : w.grownBy w' none) {v : Value} (ho : w'.ownsRow wr.heap.size 3 1 v o.length (ints o)) : nqG wr o j true l6 false l12 l13 v v6 v7 v12 w' := by
  have k := h.quiet hg
  exact ⟨⟨k.1.1, fun e => (nomatch e), k.1.2.2⟩, fun _ _ => ho, k.2.2.1, fun e => (nomatch e), k.2.2.2.2⟩
theorem nqG.lit (h : nqG wr o j l4 false false l12 l13 v4 v6 v7 v12 w) : nqG wr o j l4 true false l12 l13 v4 (.slice (some ⟨w.heap.size, 0, none⟩) 1 1) v7 v12 (w.alloc (.cells #[.int .i64 j] 3)) := by
  have k := h.quiet (grown_alloc (grown_refl w) (.cells #[.int .i64 j] 3))
  exact ⟨⟨k.1.1, fun e => (nomatch e), k.1.2.2⟩, k.2.1, fun _ _ => ⟨_, rfl, Blk.new w _ _⟩, fun e => (nomatch e), k.2.2.2.2⟩
theorem nqG.app (h : nqG wr o j true true false l12 l13 v4 v6 v7 v12 w) {v : Value} (ho : w'.ownsRow wr.heap.size 3 1 v (o.length + 1) (ints (o ++ [j]))) (hg : w.grownBy w' v4.ownBlock) : nqG wr o j true true true l12 l13 v4 v6 v v12 w' := by
  have h4 := h.2.1 rfl rfl
  refine ⟨⟨grown_ownB h.1.1 h4 (Nat.le_refl _) hg, fun _ => ⟨rfl, rfl⟩, h.1.2.2⟩, fun _ e => (nomatch e), fun _ e => (nomatch e), fun _ => ho, fun a b => ?_⟩
  obtain ⟨N, e, hN, hb⟩ := h.2.2.2.2 a b
  exact ⟨N, e, hN, hb.grown hg (own_bxT h4 hb (by decide))⟩
theorem nqG.box (h : nqG wr o j l4 l6 l7 false false v4 v6 v7 v12 w) : nqG wr o j l4 l6 l7 true false v4 v6 v7 (.pointer (some ⟨w.heap.size, 0, none⟩)) (w.alloc (.cells #[.slice none 0 0, .int .i64 0, .int .i64 0, .int .i64 0] 50)) := by
  have k := h.quiet (grown_alloc (grown_refl w) (.cells #[.slice none 0 0, .int .i64 0, .int .i64 0, .int .i64 0] 50))
  exact ⟨⟨k.1.1, k.1.2.1, fun e => (nomatch e)⟩, k.2.1, k.2.2.1, k.2.2.2.1, fun _ _ => ⟨_, rfl, h.1.1.size, Blk.new w _ _⟩⟩
theorem nqG.put (h : nqG wr o j l4 l6 l7 true false v4 v6 v7 v12 w) {N : Nat} {cs : Array Value} (hN : wr.heap.size ≤ N) (hb : Blk w N 50 cs) (hg : w.grownBy w' (some N)) : nqG wr o j l4 l6 l7 true true v4 v6 v7 v12 w' := by
  have hne : ∀ {v : Value} {n : Nat} {xs : List Value}, w.ownsRow wr.heap.size 3 1 v n xs → v.ownBlock = none ∨ v.ownBlock ≠ some N := fun ho => .inr fun e => own_bxT ho hb (by decide) e.symm
  refine ⟨⟨⟨hg.os.trans h.1.1.os, hg.tape.trans h.1.1.tape, hg.output.trans h.1.1.output, Nat.le_trans h.1.1.size hg.size, fun b hb' _ => (hg.block b (Nat.lt_of_lt_of_le hb' h.1.1.size) (fun e => by injection e with e; omega)).trans (h.1.1.block b hb' (by simp))⟩, h.1.2.1, fun _ => rfl⟩,
    fun a b => (h.2.1 a b).kept hg (hne (h.2.1 a b)), fun a b => ?_, fun a => (h.2.2.2.1 a).kept hg (hne (h.2.2.2.1 a)), fun _ e => (nomatch e)⟩
  obtain ⟨M, e, c⟩ := h.2.2.1 a b
  refine ⟨M, e, c.grown hg ?_⟩
  intro e'
  injection e' with e'
  subst e'
  unfold Blk at c hb
  rw [c] at hb
  injection hb with hb
  injection hb with _ hb
  cases hb
end
def nqF (hx hy st : Int) (A : Option Addr) (m cp : Nat) (vo : Value) (j : Int) (T : TrM) (E : Int) (i : Nat) (_ : World) (v : Value) : Prop :=
  match i with
  | 0 => v = .agg #[.int .i64 hx, .int .i64 hy]
  | 1 => v = .slice A m cp
  | 2 => v = .int .i64 st
  | 3 => v = vo
  | 5 => v = .int .i64 j
  | 8 => ∃ B n c, v = .tuple #[.agg #[.slice B n c, .int .i64 T.e, .int .i64 T.way, .int .i64 T.wt], .int .i64 E]
  | 9 => ∃ B n c, v = .tuple #[.agg #[.slice B n c, .int .i64 T.e, .int .i64 T.way, .int .i64 T.wt], .int .i64 E]
  | 10 => ∃ B n c, v = .agg #[.slice B n c, .int .i64 T.e, .int .i64 T.way, .int .i64 T.wt]
  | 11 => v = .int .i64 E
  | 14 => v = .int .i64 E
  | _ => True
theorem nqF_stab {hx hy st : Int} {A : Option Addr} {m cp : Nat} {vo : Value} {j : Int} {T : TrM} {E : Int} : ∀ (i : Nat) (w w' : World) (v : Value), True → nqF hx hy st A m cp vo j T E i w v → nqF hx hy st A m cp vo j T E i w' v := fun _ _ _ _ _ h => h

/-- What lies while the nearest stop is taken. -/
def nsG (w0 : World) (g : Nat) (hx hy : Int) (old new : Array Value) (o : List Int) (i : Int) (vo : Value) (l0 l2 l3 l9 l10 : Bool) (v2 v3 v9 : Value) (w : World) : Prop :=
  (w0.grownBy w none ∧ Blk w g 30 #[.int .i64 hx, .int .i64 hy] ∧ Blk w (g + 1) 30 (if l10 = true then new else old) ∧ (l3 = true → l0 = true ∧ l2 = true) ∧ (l9 = true → l3 = true))
  ∧ (l3 = false → w.ownsRow (g + 2) 3 1 vo o.length (ints o))
  ∧ (l2 = true → l3 = false → ∃ N, v2 = .slice (some ⟨N, 0, none⟩) 1 1 ∧ Blk w N 3 #[.int .i64 i])
  ∧ (l3 = true → w.ownsRow (g + 2) 3 1 v3 (o.length + 1) (ints (o ++ [i])))
  ∧ (l9 = false → v9 = vo) ∧ (l9 = true → v9 = v3)
section
variable {w0 : World} {g : Nat} {hx hy : Int} {old new : Array Value} {o : List Int} {i : Int} {vo : Value} {l0 l2 l3 l9 l10 : Bool} {v2 v3 v9 : Value} {w w' : World}
theorem nsG.quiet (h : nsG w0 g hx hy old new o i vo l0 l2 l3 l9 l10 v2 v3 v9 w) (hg : w.grownBy w' none) : nsG w0 g hx hy old new o i vo l0 l2 l3 l9 l10 v2 v3 v9 w' :=
  ⟨⟨h.1.1.trans hg, h.1.2.1.grown hg (by simp), h.1.2.2.1.grown hg (by simp), h.1.2.2.2⟩, fun a => (h.2.1 a).kept hg (own_nn _), fun a b => by obtain ⟨N, e, c⟩ := h.2.2.1 a b; exact ⟨N, e, c.grown hg (by simp)⟩, fun a => (h.2.2.2.1 a).kept hg (own_nn _), h.2.2.2.2⟩
theorem nsG.lit (h : nsG w0 g hx hy old new o i vo l0 false false l9 l10 v2 v3 v9 w) : nsG w0 g hx hy old new o i vo l0 true false l9 l10 (.slice (some ⟨w.heap.size, 0, none⟩) 1 1) v3 v9 (w.alloc (.cells #[.int .i64 i] 3)) := by
  have k := h.quiet (grown_alloc (grown_refl w) (.cells #[.int .i64 i] 3))
  exact ⟨⟨k.1.1, k.1.2.1, k.1.2.2.1, fun e => (nomatch e), k.1.2.2.2.2⟩, k.2.1, fun _ _ => ⟨_, rfl, Blk.new w _ _⟩, fun e => (nomatch e), k.2.2.2.2⟩
theorem nsG.first (h : nsG w0 g hx hy old new o i vo false l2 false l9 l10 v2 v3 v9 w) : nsG w0 g hx hy old new o i vo true l2 false l9 l10 v2 v3 v9 w :=
  ⟨⟨h.1.1, h.1.2.1, h.1.2.2.1, fun e => (nomatch e), h.1.2.2.2.2⟩, h.2⟩
theorem nsG.app (h : nsG w0 g hx hy old new o i vo true true false false l10 v2 v3 v9 w) (hw : w0.heap.size ≤ g) {v : Value} (ho : w'.ownsRow (g + 2) 3 1 v (o.length + 1) (ints (o ++ [i]))) (hg : w.grownBy w' vo.ownBlock) : nsG w0 g hx hy old new o i vo true true true false l10 v2 v v9 w' := by
  have h4 := h.2.1 rfl
  exact ⟨⟨grown_ownB h.1.1 h4 (by omega) hg, h.1.2.1.grown hg (own_bxT h4 h.1.2.1 (by decide)), h.1.2.2.1.grown hg (own_bxT h4 h.1.2.2.1 (by decide)), fun _ => ⟨rfl, rfl⟩, fun e => (nomatch e)⟩, fun e => (nomatch e), fun _ e => (nomatch e), fun _ => ho, h.2.2.2.2.1, fun e => (nomatch e)⟩
theorem nsG.set (h : nsG w0 g hx hy old new o i vo l0 l2 true false l10 v2 v3 v9 w) : nsG w0 g hx hy old new o i vo l0 l2 true true l10 v2 v3 v3 w :=
  ⟨⟨h.1.1, h.1.2.1, h.1.2.2.1, h.1.2.2.2.1, fun _ => rfl⟩, h.2.1, h.2.2.1, h.2.2.2.1, fun e => (nomatch e), fun _ => rfl⟩
theorem nsG.put {a b x y : Value} (h : nsG w0 g hx hy #[a, b] #[x, y] o i vo l0 l2 l3 l9 false v2 v3 v9 w) (hw : w0.heap.size ≤ g) : nsG w0 g hx hy #[a, b] #[x, y] o i vo l0 l2 l3 l9 true v2 v3 v9 ((w.setCell ⟨g + 1, 0, none⟩ x).setCell ⟨g + 1, 1, none⟩ y) := by
  refine ⟨⟨grown_set (p := ⟨g + 1, 1, none⟩) (grown_set (p := ⟨g + 1, 0, none⟩) h.1.1 (.inl (by simp; omega)) _) (.inl (by simp; omega)) _, (h.1.2.1.far (p := ⟨g + 1, 0, none⟩) (by simp) _).far (p := ⟨g + 1, 1, none⟩) (by simp) _, ?_, h.1.2.2.2⟩, fun a => own_setN (own_setN (h.2.1 a) (by simp) _) (by simp) _, fun a b => ?_, fun a => own_setN (own_setN (h.2.2.2.1 a) (by simp) _) (by simp) _, h.2.2.2.2⟩
  · exact (h.1.2.2.1.set_ 0 x).set_ 1 y
  · obtain ⟨N, e, c⟩ := h.2.2.1 a b
    have hne : N ≠ g + 1 := by
      intro e'
      subst e'
      have hb := h.1.2.2.1
      unfold Blk at c hb
      rw [c] at hb
      injection hb with hb
      injection hb with _ hb
      cases hb
    exact ⟨N, e, (c.far (p := ⟨g + 1, 0, none⟩) hne _).far (p := ⟨g + 1, 1, none⟩) hne _⟩
end
def nsF (A : Option Addr) (m cp : Nat) (vo : Value) (j : Int) (p : Nat → Addr) (r : St) (i : Nat) (_ : World) (v : Value) : Prop :=
  match i with
  | 0 => v = vo
  | 1 => v = .int .i64 j
  | 4 => v = .slice A m cp
  | 5 => v = .int .i64 j
  | 6 => v = .pointer (some (p 0))
  | 7 => v = .pointer (some (p 1))
  | 8 => v = .agg #[.int .i64 r.x, .int .i64 r.y]
  | _ => True
theorem nsF_stab {A : Option Addr} {m cp : Nat} {vo : Value} {j : Int} {p : Nat → Addr} {r : St} : ∀ (i : Nat) (w w' : World) (v : Value), True → nsF A m cp vo j p r i w v → nsF A m cp vo j p r i w' v := fun _ _ _ _ _ h => h

set_option maxRecDepth 100000 in
set_option maxHeartbeats 8000000 in
theorem nearestRoute_any (hx hy : Int) (A : Option Addr) (m cp : Nat) (V : List St) (st : Int) (w : World) (hr : Rd w 6 A m (stFlat V)) (hmc : m ≤ cp) (hrf : routeF hx hy V st = 0) :
    Calls Tryd.prog 15 #[.agg #[.int .i64 hx, .int .i64 hy], .slice A m cp, .int .i64 st] w
      fun e w' => (∃ v, e = .returned v ∧ w'.ownsRow w.heap.size 3 1 v (nearR hx hy st V).length (ints (nearR hx hy st V))) ∧ w.grownBy w' none := by
  have hlV : V.length = m := by have := hr.1; rw [stFlat_len] at this; omega
  obtain ⟨hsf, hh, hst0, hst1⟩ := routeF_ok hrf
  have hV := stopsF_ok hsf
  obtain ⟨Z, hZ⟩ : ∃ Z, nearR hx hy st V = Z := ⟨_, rfl⟩
  have hN0 : NrS V m Z (outN m []) ⟨hx, hy, 0, st, 0, 0⟩ [] := ⟨rfl, RtO.nil m, CrB.start hh hst0 hst1, by simpa using outN_le m [], m + 1, by have := outN_le m []; omega, by rw [← hZ]; unfold nearR; rw [hlV]⟩
  rw [hZ]
  obtain ⟨g, hg⟩ : ∃ g, w.heap.size = g := ⟨_, rfl⟩
  have hH := Blk.new w 30 #[.int .i64 hx, .int .i64 hy]
  have hg1 := grown_alloc (grown_refl w) (.cells #[.int .i64 hx, .int .i64 hy] 30)
  rw [hg] at hH
  obtain ⟨W1, hW1⟩ : ∃ W1, w.alloc (.cells #[.int .i64 hx, .int .i64 hy] 30) = W1 := ⟨_, rfl⟩
  have hz1 : W1.heap.size = g + 1 := by rw [← hW1]; simp [hg]
  rw [hW1] at hH hg1
  have hA := Blk.new W1 30 #[.int .i64 hx, .int .i64 hy]
  have hH2 := hH.alloc (.cells #[.int .i64 hx, .int .i64 hy] 30)
  have hg2 := grown_alloc hg1 (.cells #[.int .i64 hx, .int .i64 hy] 30)
  rw [hz1] at hA
  obtain ⟨W2, hW2⟩ : ∃ W2, W1.alloc (.cells #[.int .i64 hx, .int .i64 hy] 30) = W2 := ⟨_, rfl⟩
  rw [hW2] at hA hH2 hg2
  have h0 : W1.cell? ⟨g, 0, none⟩ = some (.int .i64 hx) := hH.cell 0
  have h1 : W1.cell? ⟨g, 1, none⟩ = some (.int .i64 hy) := hH.cell 1
  have HW := Lib.hid (And.intro hW1 (And.intro hW2 (And.intro hg (And.intro hlV (And.intro hV (And.intro hh (And.intro hst0 (And.intro hst1 (And.intro hZ hrf)))))))))
  have HS := Lib.hid (And.intro hN0 (And.intro hH2 (And.intro hA hg2)))
  clear hW1 hW2 hg hlV hV hh hst0 hst1 hZ hN0 hH hH2 hA hg1 hg2 hz1 hrf hsf
  go_enter Tryd.func15, Tryd.ntmps15
  go_wp2_with fail
  rw [HW.out.1, HW.out.2.1, HW.out.2.2.1]
  clear h0 h1
  have hm60 : m ≤ 60 := by have h1 := HW.out.2.2.2.2.1.1; have h2 := HW.out.2.2.2.1; omega
  have hwg : w.heap.size = g := HW.out.2.2.1
  go_loopg [7] (outN m []) (fun κ vo wr => ∃ (c : Cr) (o : List Int), NrS V m Z κ c o ∧ AtO hx hy st V o c ∧ Blk wr g 30 #[.int .i64 hx, .int .i64 hy] ∧ Blk wr (g + 1) 30 #[.int .i64 c.x, .int .i64 c.y] ∧ wr.ownsRow (g + 2) 3 1 vo o.length (ints o) ∧ w.grownBy wr none)
  case atStart => exact ⟨⟨hx, hy, 0, st, 0, 0⟩, [], HS.out.1, AtO.start hx hy st V, HS.out.2.1, HS.out.2.2.1, World.ownsRow_nil _ _ _ _, HS.out.2.2.2⟩
  case round =>
    obtain ⟨c, o, hN, hat, hH, hA, hO, hgr⟩ := hrel
    obtain ⟨wo, rfl⟩ : ∃ wo, wo = wr := ⟨_, rfl⟩
    obtain ⟨B, cb, rfl, hncb⟩ := own_slice hO
    have hol : o.length ≤ 60 := by have := hN.len; omega
    have HR := Lib.hid (And.intro hN (And.intro hat (And.intro hH (And.intro hA (And.intro hO (And.intro hgr (And.intro hncb hol)))))))
    have HG := Lib.hid (grown_refl wo)
    clear hN hat hH hA hO hgr hncb hol
    go_wp2_with fail
    go_loopg [9, 10, 20] m (fun κ vb vl i wx => ∃ j : Nat, κ + j = m ∧ i = .int .i64 j ∧ vb = .int .i64 (nbI (nearL V c o j)) ∧ vl = .int .i64 (nbL c (nearL V c o j)) ∧ wo.grownBy wx none)
    case atStart => exact ⟨0, by omega, rfl, rfl, rfl, HG.out⟩
    case round =>
      obtain ⟨j, hj, rfl, rfl, rfl, hgx⟩ := hrel
      by_cases hlt2 : j < m
      · obtain ⟨b2, off2, rfl, hb2, r, hr2, y0, y1, y2, y3, y4, y5⟩ := st_cells (hr.grown (HR.out.2.2.2.2.2.1.trans hgx)) hlt2
        have hr3 : stAt V j = r := by unfold stAt; rw [List.getD_eq_getElem?_getD, Int.toNat_natCast, hr2]; rfl
        have hro := HW.out.2.2.2.2.1.2 r (List.mem_of_getElem? hr2)
        have hA3 := grown_alloc hgx (.cells #[.string r.k, .int .i64 r.x, .int .i64 r.y, .int .i64 r.f, .int .i64 r.t, .int .i64 r.l] 57)
        have hS3 := Blk.new wr 57 #[.string r.k, .int .i64 r.x, .int .i64 r.y, .int .i64 r.f, .int .i64 r.t, .int .i64 r.l]
        obtain ⟨p, hp⟩ : ∃ p, wr.heap.size = p := ⟨_, rfl⟩
        rw [hp] at hS3
        obtain ⟨W5, hW5⟩ : ∃ W5, wr.alloc (.cells #[.string r.k, .int .i64 r.x, .int .i64 r.y, .int .i64 r.f, .int .i64 r.t, .int .i64 r.l] 57) = W5 := ⟨_, rfl⟩
        rw [hW5] at hS3 hA3
        have hcon := contains_any B o.length cb o j W5 (own_rdI (HR.out.2.2.2.2.1.kept hA3 (own_nn _))) (by have := HR.out.2.2.2.2.2.2.2; omega)
        obtain ⟨N, hN⟩ : ∃ N, hasN o j = N := ⟨_, rfl⟩
        rw [show decide ((j : Int) ∈ o) = N from hN] at hcon
        have HZ := Lib.hid (And.intro hW5 (And.intro hp (And.intro hS3 (And.intro hcon (And.intro hN (And.intro hr3 (And.intro hro (And.intro hj hA3))))))))
        clear hW5 hp hS3 hcon hN hr3 hro hj hA3 hr2 hb2 hgx
        go_wp2_with fail
        rw [HZ.out.1, HZ.out.2.1]
        clear y0 y1 y2 y3 y4 y5
        refine HZ.out.2.2.2.1.mono ?_
        rintro e w6 ⟨rfl, hg6⟩
        obtain ⟨_, _, hS, _, hN, hr3, hro, hj, hg5⟩ := HZ.out
        have hgw6 := hg5.trans hg6
        have m0 := hS.grown hg6 (by simp)
        clear hS hg5 hg6
        cases N
        · obtain ⟨_, _, hHb, hAb, _, hgr, _, _⟩ := HR.out
          have hA6 := hAb.grown hgw6 (by simp)
          have q0 : w6.cell? ⟨g + 1, 0, none⟩ = some (.int .i64 c.x) := hA6.cell 0
          have q1 : w6.cell? ⟨g + 1, 1, none⟩ = some (.int .i64 c.y) := hA6.cell 1
          have y1 : w6.cell? ⟨p, 1, none⟩ = some (.int .i64 r.x) := m0.cell 1
          have y2 : w6.cell? ⟨p, 2, none⟩ = some (.int .i64 r.y) := m0.cell 2
          have hfar := farOf_ok c.x c.y r.x r.y w6 HR.out.1.cr.1 hro.1
          have hfi := farN_in HR.out.1.cr.1 hro.1
          obtain ⟨n, hn⟩ : ∃ n, farN c.x c.y r.x r.y = n := ⟨_, rfl⟩
          rw [hn] at hfar hfi
          have hE : drvE hx hy V st (o ++ [(j : Int)]) = if crGo c (stAt V j) = true then 0 else 16 := by
            unfold drvE
            rw [if_neg (by rw [HW.out.2.2.2.2.2.2.2.2.2]; simp), if_neg (by rw [HW.out.2.2.2.1, (HR.out.1.rt.app hlt2 hN).fault]; simp)]
            by_cases hG : crGo c (stAt V j) = true
            · obtain ⟨bg', hat'⟩ := HR.out.2.1.next (i := j) hG
              rw [if_pos hG, if_neg (by unfold driveM; rw [hat']; simp)]
            · rw [if_neg hG, if_pos (by unfold driveM; rw [HR.out.2.1.late (i := j) (by simpa using hG)]; rfl)]
          rw [hr3] at hE
          obtain ⟨T, hT⟩ : ∃ T, drvT hx hy V st (o ++ [(j : Int)]) = T := ⟨_, rfl⟩
          obtain ⟨E, hEE⟩ : ∃ E, drvE hx hy V st (o ++ [(j : Int)]) = E := ⟨_, rfl⟩
          rw [hEE] at hE
          have H6 := Lib.hid (And.intro hgw6 (And.intro hn (And.intro hE (And.intro hT (And.intro hEE (And.intro hN (And.intro hr3 hfar)))))))
          clear hgw6 hn hE hT hEE hN hr3 hfar m0 hA6 hHb hAb hgr
          go_wp2_with fail
          refine H6.out.2.2.2.2.2.2.2.mono ?_
          rintro e w7 ⟨rfl, hg7⟩
          clear q0 q1 y1 y2
          have hgw7 := H6.out.1.trans hg7
          have hgtot := HR.out.2.2.2.2.2.1.trans hgw7
          have hdr : ∀ wq, w7.grownBy wq none → ∀ (B7 : Option Addr) (c7 : Nat), wq.ownsRow w7.heap.size 3 1 (.slice B7 (o.length + 1) c7) (o.length + 1) (ints (o ++ [(j : Int)])) → o.length + 1 ≤ c7 →
              Calls Tryd.prog 40 #[.agg #[.int .i64 hx, .int .i64 hy], .slice (some ⟨b2, off2, none⟩) m cp, .int .i64 st, .slice B7 (o.length + 1) c7] wq
                fun e w' => (∃ v, e = .returned (.tuple #[.agg #[v, .int .i64 T.e, .int .i64 T.way, .int .i64 T.wt], .int .i64 E]) ∧ w'.ownsRow wq.heap.size 3 1 v T.bg.length (ints T.bg)) ∧ wq.grownBy w' none := by
            intro wq hq B7 c7 ho hc7
            have := driveOf_any hx hy (some ⟨b2, off2, none⟩) m cp V st B7 (o.length + 1) c7 (o ++ [(j : Int)]) wq (hr.grown (hgtot.trans hq)) (own_rdI ho) hc7 (by omega) (by have := HR.out.2.2.2.2.2.2.2; omega) HW.out.2.2.2.2.2.2.2.2.2
            rw [H6.out.2.2.2.1, H6.out.2.2.2.2.1] at this
            exact this
          have HQ := Lib.hid (And.intro (HR.out.2.2.1.grown hgw7 (by simp)) (And.intro (HR.out.2.2.2.2.1.kept hgw7 (own_nn _)) (And.intro HR.out.2.2.2.2.2.2.2 hdr)))
          have H7 := Lib.hid hgw7
          clear hgw7 hgtot hdr hg7
          go_wp2_with fail
          refine wp_region_any (by kernel_rfl) ?_
          refine wpAny_facts (frame := ?fr) ?hfr (fun q => [u36, u37, u38, u39, u40, u41, u42, u43, u44, u35, u45, u46, u15, undef, u16].getD q undef) ?h0 (nqF hx hy st (some ⟨b2, off2, none⟩) m cp (.slice B o.length cb) j T E)
            (fun listed f w => nqG w7 o j (listed.getD 4 false) (listed.getD 6 false) (listed.getD 7 false) (listed.getD 12 false) (listed.getD 13 false) (f 4) (f 6) (f 7) (f 12) w) (fun _ _ => True) nqF_stab ?hG (by kernel_rfl) ?hput ?hs ?hd
          case hfr =>
            intro f
            simp only [putsF, List.zipIdx_cons, List.zipIdx_nil, List.foldl_cons, List.foldl_nil, Nat.reduceAdd, Act.put, List.setIfInBounds_toArray, List.set_cons_zero, List.set_cons_succ]
            rfl
          case h0 => rfl
          case hG => exact ⟨⟨grown_drew (grown_refl _), fun e => (nomatch e), fun e => (nomatch e)⟩, fun e => (nomatch e), fun e => (nomatch e), fun e => (nomatch e), fun e => (nomatch e)⟩
          case hput =>
            intro i o ho f v
            match i, ho with
            | 0, ho => simp only [List.getElem?_toArray, List.getElem?_cons_zero, Option.some.injEq] at ho; subst ho; rfl
            | 1, ho => simp only [List.getElem?_toArray, List.getElem?_cons_zero, List.getElem?_cons_succ, Option.some.injEq] at ho; subst ho; rfl
            | 2, ho => simp only [List.getElem?_toArray, List.getElem?_cons_zero, List.getElem?_cons_succ, Option.some.injEq] at ho; subst ho; rfl
            | 3, ho => simp only [List.getElem?_toArray, List.getElem?_cons_zero, List.getElem?_cons_succ, Option.some.injEq] at ho; subst ho; rfl
            | 4, ho => simp only [List.getElem?_toArray, List.getElem?_cons_zero, List.getElem?_cons_succ, Option.some.injEq] at ho; subst ho; rfl
            | 5, ho => simp only [List.getElem?_toArray, List.getElem?_cons_zero, List.getElem?_cons_succ, Option.some.injEq] at ho; subst ho; rfl
            | 6, ho => simp only [List.getElem?_toArray, List.getElem?_cons_zero, List.getElem?_cons_succ, Option.some.injEq] at ho; subst ho; rfl
            | 7, ho => simp only [List.getElem?_toArray, List.getElem?_cons_zero, List.getElem?_cons_succ, Option.some.injEq] at ho; subst ho; rfl
            | 8, ho => simp only [List.getElem?_toArray, List.getElem?_cons_zero, List.getElem?_cons_succ, Option.some.injEq] at ho; subst ho; rfl
            | 9, ho => simp only [List.getElem?_toArray, List.getElem?_cons_zero, List.getElem?_cons_succ, Option.some.injEq] at ho; subst ho; rfl
            | 10, ho => simp only [List.getElem?_toArray, List.getElem?_cons_zero, List.getElem?_cons_succ, Option.some.injEq] at ho; subst ho; rfl
            | 11, ho => simp only [List.getElem?_toArray, List.getElem?_cons_zero, List.getElem?_cons_succ, Option.some.injEq] at ho; subst ho; rfl
            | 12, ho => simp only [List.getElem?_toArray, List.getElem?_cons_zero, List.getElem?_cons_succ, Option.some.injEq] at ho; subst ho; rfl
            | 13, ho => simp only [List.getElem?_toArray, List.getElem?_cons_zero, List.getElem?_cons_succ, Option.some.injEq] at ho; subst ho; rfl
            | 14, ho => simp only [List.getElem?_toArray, List.getElem?_cons_zero, List.getElem?_cons_succ, Option.some.injEq] at ho; subst ho; rfl
            | n + 15, ho => simp at ho
          case hs =>
            intro i o ho listed f w2 hsz hun hG hpre K hK
            have hsz' : listed.size = 15 := by simpa using hsz
            dsimp only at hK hG ⊢
            match i, ho with
            | 0, ho =>
              simp only [List.getElem?_toArray, List.getElem?_cons_zero, Option.some.injEq] at ho
              subst ho
              have hb := HQ.out.1.grown hG.1.1 (by simp)
              have z0 : w2.cell? ⟨g, 0, none⟩ = some (.int .i64 hx) := hb.cell 0
              have z1 : w2.cell? ⟨g, 1, none⟩ = some (.int .i64 hy) := hb.cell 1
              go_simp
              exact hK (.agg #[.int .i64 hx, .int .i64 hy]) _ trivial (by simpa [getD_setT (show 0 < listed.size by omega), updF] using hG) rfl
            | 1, ho =>
              simp only [List.getElem?_toArray, List.getElem?_cons_zero, List.getElem?_cons_succ, Option.some.injEq] at ho
              subst ho
              go_simp
              exact hK (.slice (some ⟨b2, off2, none⟩) m cp) _ trivial (by simpa [getD_setT (show 1 < listed.size by omega), updF] using hG) rfl
            | 2, ho =>
              simp only [List.getElem?_toArray, List.getElem?_cons_zero, List.getElem?_cons_succ, Option.some.injEq] at ho
              subst ho
              go_simp
              exact hK (.int .i64 st) _ trivial (by simpa [getD_setT (show 2 < listed.size by omega), updF] using hG) rfl
            | 3, ho =>
              simp only [List.getElem?_toArray, List.getElem?_cons_zero, List.getElem?_cons_succ, Option.some.injEq] at ho
              subst ho
              go_simp
              exact hK (.slice B o.length cb) _ trivial (by simpa [getD_setT (show 3 < listed.size by omega), updF] using hG) rfl
            | 4, ho =>
              simp only [List.getElem?_toArray, List.getElem?_cons_zero, List.getElem?_cons_succ, Option.some.injEq] at ho
              subst ho
              have e3 : f 3 = .slice B o.length cb := (hpre ⟨3, .data⟩ (by simp) rfl).2
              have f4 := getD_ff hun
              have f7 : listed.getD 7 false = false := by
                cases h : listed.getD 7 false with
                | false => rfl
                | true => have := (hG.1.2.1 h).1; rw [f4] at this; cases this
              rw [f4, f7] at hG
              rw [e3] at hK ⊢
              go_simp
              refine (cloneInts_any B o.length cb o w2 (own_rdI (HQ.out.2.1.kept hG.1.1 (own_nn _))) (by have := HQ.out.2.2.1; omega)).mono ?_
              rintro e w5 ⟨v5, rfl, h5, g5⟩
              refine hK v5 w5 trivial ?_ trivial
              rw [getD_setT (by omega), getD_setT (by omega), getD_setT (by omega), getD_setT (by omega), getD_setT (by omega), if_pos rfl, if_neg (by decide), if_neg (by decide), if_neg (by decide), if_neg (by decide)] 
              rw [f7]
              simpa [updF] using hG.clone g5 (own_mono h5 hG.1.1.size)
            | 5, ho =>
              simp only [List.getElem?_toArray, List.getElem?_cons_zero, List.getElem?_cons_succ, Option.some.injEq] at ho
              subst ho
              go_simp
              exact hK (.int .i64 j) _ trivial (by simpa [getD_setT (show 5 < listed.size by omega), updF] using hG) rfl
            | 6, ho =>
              simp only [List.getElem?_toArray, List.getElem?_cons_zero, List.getElem?_cons_succ, Option.some.injEq] at ho
              subst ho
              have e5 : f 5 = .int .i64 j := (hpre ⟨5, .data⟩ (by simp) rfl).2
              have f6 := getD_ff hun
              have f7 : listed.getD 7 false = false := by
                cases h : listed.getD 7 false with
                | false => rfl
                | true => have := (hG.1.2.1 h).2; rw [f6] at this; cases this
              rw [f6, f7] at hG
              rw [e5] at hK ⊢
              go_simp
              refine hK (.slice (some ⟨w2.heap.size, 0, none⟩) 1 1) _ trivial ?_ trivial
              rw [getD_setT (by omega), getD_setT (by omega), getD_setT (by omega), getD_setT (by omega), getD_setT (by omega), if_neg (by decide), if_pos rfl, if_neg (by decide), if_neg (by decide), if_neg (by decide)]
              rw [f7]
              simpa [updF] using hG.lit
            | 7, ho =>
              simp only [List.getElem?_toArray, List.getElem?_cons_zero, List.getElem?_cons_succ, Option.some.injEq] at ho
              subst ho
              have b4 := (hpre ⟨4, .data⟩ (by simp) rfl).1
              have b6 := (hpre ⟨6, .data⟩ (by simp) rfl).1
              have f7 := getD_ff hun
              rw [b4, b6, f7] at hG
              have ho := hG.2.1 rfl rfl
              obtain ⟨N, e6, hb6⟩ := hG.2.2.1 rfl rfl
              refine st_intL (by rfl) _ _ (by rfl) w7.heap.size (f 4) o j N (by rfl) ho (by exact e6) (hb6.cell 0) (by have := HQ.out.2.2.1; omega) hG.1.1.size ?_
              intro g' cap w5 h5 g5
              refine hK (.slice (some ⟨g', 0, none⟩) (o.length + 1) cap) w5 trivial ?_ trivial
              rw [getD_setT (by omega), getD_setT (by omega), getD_setT (by omega), getD_setT (by omega), getD_setT (by omega), if_neg (by decide), if_neg (by decide), if_pos rfl, if_neg (by decide), if_neg (by decide)]
              rw [b4, b6]
              simpa [updF] using hG.app h5 g5
            | 8, ho =>
              simp only [List.getElem?_toArray, List.getElem?_cons_zero, List.getElem?_cons_succ, Option.some.injEq] at ho
              subst ho
              have e0 : f 0 = .agg #[.int .i64 hx, .int .i64 hy] := (hpre ⟨0, .data⟩ (by simp) rfl).2
              have e1 : f 1 = .slice (some ⟨b2, off2, none⟩) m cp := (hpre ⟨1, .data⟩ (by simp) rfl).2
              have e2 : f 2 = .int .i64 st := (hpre ⟨2, .data⟩ (by simp) rfl).2
              have b7 := (hpre ⟨7, .data⟩ (by simp) rfl).1
              have ho := hG.2.2.2.1 b7
              obtain ⟨B7, c7, e7, hc7⟩ := own_slice ho
              rw [e7] at ho
              rw [e0, e1, e2, e7] at hK ⊢
              go_simp
              refine (HQ.out.2.2.2 w2 hG.1.1 B7 c7 ho hc7).mono ?_
              rintro e w5 ⟨⟨v5, rfl, h5⟩, g5⟩
              obtain ⟨B5, c5, rfl, _⟩ := own_slice h5
              refine hK (.tuple #[.agg #[.slice B5 T.bg.length c5, .int .i64 T.e, .int .i64 T.way, .int .i64 T.wt], .int .i64 E]) w5 trivial ?_ ⟨_, _, _, rfl⟩
              have hG' := hG.quiet g5
              simpa [getD_setT (show 8 < listed.size by omega), updF] using hG'
            | 9, ho =>
              simp only [List.getElem?_toArray, List.getElem?_cons_zero, List.getElem?_cons_succ, Option.some.injEq] at ho
              subst ho
              obtain ⟨B8, n8, c8, e8⟩ := (hpre ⟨8, .data⟩ (by simp) rfl).2
              rw [e8] at hK ⊢
              go_simp
              exact hK (.tuple #[.agg #[.slice B8 n8 c8, .int .i64 T.e, .int .i64 T.way, .int .i64 T.wt], .int .i64 E]) _ trivial (by simpa [getD_setT (show 9 < listed.size by omega), updF] using hG) ⟨_, _, _, rfl⟩
            | 10, ho =>
              simp only [List.getElem?_toArray, List.getElem?_cons_zero, List.getElem?_cons_succ, Option.some.injEq] at ho
              subst ho
              obtain ⟨B8, n8, c8, e8⟩ := (hpre ⟨9, .data⟩ (by simp) rfl).2
              rw [e8] at hK ⊢
              go_simp
              exact hK (.agg #[.slice B8 n8 c8, .int .i64 T.e, .int .i64 T.way, .int .i64 T.wt]) _ trivial (by simpa [getD_setT (show 10 < listed.size by omega), updF] using hG) ⟨_, _, _, rfl⟩
            | 11, ho =>
              simp only [List.getElem?_toArray, List.getElem?_cons_zero, List.getElem?_cons_succ, Option.some.injEq] at ho
              subst ho
              obtain ⟨B8, n8, c8, e8⟩ := (hpre ⟨9, .data⟩ (by simp) rfl).2
              rw [e8] at hK ⊢
              go_simp
              exact hK (.int .i64 E) _ trivial (by simpa [getD_setT (show 11 < listed.size by omega), updF] using hG) rfl
            | 12, ho =>
              simp only [List.getElem?_toArray, List.getElem?_cons_zero, List.getElem?_cons_succ, Option.some.injEq] at ho
              subst ho
              have f12 := getD_ff hun
              have f13 : listed.getD 13 false = false := by
                cases h : listed.getD 13 false with
                | false => rfl
                | true => have := hG.1.2.2 h; rw [f12] at this; cases this
              rw [f12, f13] at hG
              go_simp
              refine hK (.pointer (some ⟨w2.heap.size, 0, none⟩)) _ trivial ?_ trivial
              rw [getD_setT (by omega), getD_setT (by omega), getD_setT (by omega), getD_setT (by omega), getD_setT (by omega), if_neg (by decide), if_neg (by decide), if_neg (by decide), if_pos rfl, if_neg (by decide)]
              rw [f13]
              simpa [updF] using hG.box
            | 13, ho =>
              simp only [List.getElem?_toArray, List.getElem?_cons_zero, List.getElem?_cons_succ, Option.some.injEq] at ho
              subst ho
              have b12 := (hpre ⟨12, .data⟩ (by simp) rfl).1
              have f13 := getD_ff hun
              obtain ⟨B8, n8, c8, e10⟩ := (hpre ⟨10, .data⟩ (by simp) rfl).2
              rw [b12, f13] at hG
              obtain ⟨N, e12, hN, hB⟩ := hG.2.2.2.2 rfl rfl
              have z0 : w2.cell? ⟨N, 0, none⟩ = some (.slice none 0 0) := hB.cell 0
              have z1 : w2.cell? ⟨N, 1, none⟩ = some (.int .i64 0) := hB.cell 1
              have z2 : w2.cell? ⟨N, 2, none⟩ = some (.int .i64 0) := hB.cell 2
              have z3 : w2.cell? ⟨N, 3, none⟩ = some (.int .i64 0) := hB.cell 3
              have y0 := hB.frozen 0
              have y1 := hB.frozen 1
              have y2 := hB.frozen 2
              have y3 := hB.frozen 3
              rw [e10, e12] at hK ⊢
              go_simp
              refine hK undef _ trivial ?_ trivial
              rw [getD_setT (by omega), getD_setT (by omega), getD_setT (by omega), getD_setT (by omega), getD_setT (by omega), if_neg (by decide), if_neg (by decide), if_neg (by decide), if_neg (by decide), if_pos rfl]
              rw [b12]
              have hput := hG.put hN hB (grown_set (p := ⟨N, 3, none⟩) (grown_set (p := ⟨N, 2, none⟩) (grown_set (p := ⟨N, 1, none⟩) (grown_set (p := ⟨N, 0, none⟩) (World.grownBy.refl w2 (some N)) (.inr rfl) (.slice B8 n8 c8)) (.inr rfl) (.int .i64 T.e)) (.inr rfl) (.int .i64 T.way)) (.inr rfl) (.int .i64 T.wt))
              simpa [updF, e12] using hput
            | 14, ho =>
              simp only [List.getElem?_toArray, List.getElem?_cons_zero, List.getElem?_cons_succ, Option.some.injEq] at ho
              subst ho
              have e11 : f 11 = .int .i64 E := (hpre ⟨11, .data⟩ (by simp) rfl).2
              rw [e11] at hK ⊢
              go_simp
              exact hK (.int .i64 E) _ trivial (by simpa [getD_setT (show 14 < listed.size by omega), updF] using hG) rfl
            | n + 15, ho => simp at ho
          case hd =>
            intro listed f w2 hall hG hF
            have e14 : f 14 = .int .i64 E := hF 14 (by simp)
            have hgf := hG.1.1
            clear hG hF hall
            obtain ⟨G, hGG⟩ : ∃ G, crGo c r = G := ⟨_, rfl⟩
            have hE := H6.out.2.2.1
            rw [hGG] at hE
            have HF := Lib.hid (And.intro hgf hGG)
            clear hgf hGG
            rw [e14]
            clear e14
            cases G
            · obtain rfl : E = 16 := by rw [hE]; rfl
              have hsame : nearL V c o (j + 1) = nearL V c o j := by
                rw [nearL_succ]
                unfold nearS
                rw [if_neg (by rw [H6.out.2.2.2.2.2.1]; simp), H6.out.2.2.2.2.2.2.1, if_neg (by rw [HF.out.2]; simp)]
              have HSm := Lib.hid hsame
              clear hsame hE
              go_wp2_with fail
              go_roundg (gk - 1)
              case measure => omega
              case rel => exact ⟨j + 1, by omega, by go_num, by rw [HSm.out], by rw [HSm.out], H7.out.trans HF.out.1⟩
            · obtain rfl : E = 0 := by rw [hE]; rfl
              have hw : (crNext c r).way = c.way + n := by unfold crNext; simp only; rw [H6.out.2.1]
              have hnS : nearL V c o (j + 1) = match nearL V c o j with | none => some (j, crNext c r) | some pr => if (crNext c r).way < pr.2.way then some (j, crNext c r) else some pr := by
                rw [nearL_succ]
                unfold nearS
                rw [if_neg (by rw [H6.out.2.2.2.2.2.1]; simp), H6.out.2.2.2.2.2.2.1, if_pos HF.out.2]
                cases nearL V c o j <;> rfl
              obtain ⟨X, hX⟩ : ∃ X, nearL V c o j = X := ⟨_, rfl⟩
              rw [hX] at hnS
              rw [hX]
              have Hn := Lib.hid (And.intro hnS hw)
              clear hnS hw hX hE
              rcases X with _ | pr
              · have hN1 : nearL V c o (j + 1) = some (j, crNext c r) := Hn.out.1
                have HN1 := Lib.hid hN1
                clear hN1
                simp only [nbI, nbL]
                go_wp2_with fail
                go_roundg (gk - 1)
                case measure => omega
                case rel => exact ⟨j + 1, by omega, by go_num, by rw [HN1.out]; rfl, by rw [HN1.out]; unfold nbL; simp only; rw [Hn.out.2]; congr 1; omega, H7.out.trans HF.out.1⟩
              · have h0 : ¬ ((pr.1 : Int) < 0) := by omega
                simp only [nbI, nbL]
                obtain ⟨ln, hln⟩ : ∃ ln, pr.2.way - c.way = ln := ⟨_, rfl⟩
                rw [hln]
                by_cases hlt : n < ln
                · have hN1 : nearL V c o (j + 1) = some (j, crNext c r) := by rw [Hn.out.1]; exact if_pos (by rw [Hn.out.2]; omega)
                  have HN1 := Lib.hid hN1
                  clear hN1 hln
                  go_wp2_with fail
                  go_roundg (gk - 1)
                  case measure => omega
                  case rel => exact ⟨j + 1, by omega, by go_num, by rw [HN1.out]; rfl, by rw [HN1.out]; unfold nbL; simp only; rw [Hn.out.2]; congr 1; omega, H7.out.trans HF.out.1⟩
                · have hN1 : nearL V c o (j + 1) = some pr := by rw [Hn.out.1]; exact if_neg (by rw [Hn.out.2]; omega)
                  have HN1 := Lib.hid (And.intro hN1 hln)
                  clear hN1 hln
                  go_wp2_with fail
                  go_roundg (gk - 1)
                  case measure => omega
                  case rel => exact ⟨j + 1, by omega, by go_num, by rw [HN1.out.1]; rfl, by rw [HN1.out.1]; unfold nbL; simp only; rw [HN1.out.2], H7.out.trans HF.out.1⟩
        · have hsame : nearL V c o (j + 1) = nearL V c o j := by
            rw [nearL_succ]
            unfold nearS
            rw [if_pos hN]
          have HSm := Lib.hid (And.intro hsame hgw6)
          clear hsame hgw6 m0 hN hr3 hro
          go_wp2_with fail
          go_roundg (gk - 1)
          case measure => omega
          case rel => exact ⟨j + 1, by omega, by go_num, by rw [HSm.out.1], by rw [HSm.out.1], HSm.out.2⟩
      · obtain rfl : j = m := by omega
        obtain ⟨hN, hat, hHb, hAb, hO, hgr, _, hol⟩ := HR.out
        have hH6 := hHb.grown hgx (by simp)
        have hA6 := hAb.grown hgx (by simp)
        have hO6 := hO.kept hgx (own_nn _)
        have hgr6 := hgr.trans hgx
        obtain ⟨X, hX⟩ : ∃ X, nearL V c o j = X := ⟨_, rfl⟩
        rw [hX]
        rcases X with _ | ⟨ii, c'⟩
        · have hZo := hN.done HW.out.2.2.2.1 hX
          have HE := Lib.hid (And.intro hZo (And.intro hO6 hgr6))
          clear hN hat hHb hAb hO hgr hH6 hA6 hO6 hgr6 hX hgx hZo
          simp only [nbI, nbL]
          go_wp2_with fail
          go_ret
          rw [HE.out.1]
          exact ⟨⟨_, rfl, own_mono HE.out.2.1 (by omega)⟩, HE.out.2.2⟩
        · obtain ⟨hij, hno, hgo, hc'⟩ := nearL_ok V c o j ii c' hX
          obtain ⟨κ', hκ, hN'⟩ := hN.next HW.out.2.2.2.1 hX HW.out.2.2.2.2.1.2
          have hat' := hat.next hgo
          rw [← hc'] at hat'
          obtain ⟨b2, off2, rfl, hb2, r, hr2, _, _, _, _, _, _⟩ := st_cells (hr.grown hgr6) hij
          have hr3 : stAt V ii = r := by unfold stAt; rw [List.getD_eq_getElem?_getD, Int.toNat_natCast, hr2]; rfl
          have hcx : c'.x = r.x ∧ c'.y = r.y := by rw [hc', hr3]; exact ⟨rfl, rfl⟩
          have hrc : ∀ wz, w.grownBy wz none → wz.cell? ⟨b2, off2 + ii * 6 + 1, none⟩ = some (.int .i64 r.x) ∧ wz.cell? ⟨b2, off2 + ii * 6 + 1 + 1, none⟩ = some (.int .i64 r.y) := by
            intro wz hz
            obtain ⟨b3, off3, e3, _, r', hr', _, q1, q2, _, _, _⟩ := st_cells (hr.grown hz) hij
            injection e3 with e3
            injection e3 with e3 e4
            subst e3 e4
            rw [hr2] at hr'
            injection hr' with hr'
            subst hr'
            exact ⟨q1, q2⟩
          have hG0 : nsG w g hx hy #[.int .i64 c.x, .int .i64 c.y] #[.int .i64 r.x, .int .i64 r.y] o ii (.slice B o.length cb) false false false false false u66 u67 (.slice B o.length cb) wr.drew :=
            ⟨⟨grown_drew hgr6, hH6.drw, by rw [if_neg (by decide)]; exact hA6.drw, fun e => (nomatch e), fun e => (nomatch e)⟩, fun _ => hO6.kept (grown_drew (grown_refl _)) (own_nn _), fun e => (nomatch e), fun e => (nomatch e), fun _ => rfl, fun e => (nomatch e)⟩
          have HX := Lib.hid (And.intro hN' (And.intro hκ (And.intro hat' (And.intro hrc hcx))))
          clear hN hat hHb hAb hO hgr hH6 hA6 hO6 hgr6 hX hgx hno hgo hc' hN' hκ hat' hr2 hr3 hrc hcx hb2
          have h0 : ¬ ((ii : Int) < 0) := by omega
          have hij' : (ii : Int) < (j : Int) := by omega
          obtain ⟨ln, hln⟩ : ∃ ln, nbL c (some (ii, c')) = ln := ⟨_, rfl⟩
          rw [hln]
          clear hln
          simp only [nbI]
          go_wp2_with fail
          refine wp_region_any (by kernel_rfl) ?_
          refine wpAny_facts (frame := ?frB) ?hfrB (fun q => [u64, u65, u66, u67, u68, u69, u70, u71, u72, .slice B o.length cb, undef].getD q undef) ?h0B (nsF (some ⟨b2, off2, none⟩) j cp (.slice B o.length cb) ii (fun q => ⟨b2, off2 + ii * 6 + q, none⟩) r)
            (fun listed f wz => nsG w g hx hy #[.int .i64 c.x, .int .i64 c.y] #[.int .i64 r.x, .int .i64 r.y] o ii (.slice B o.length cb) (listed.getD 0 false) (listed.getD 2 false) (listed.getD 3 false) (listed.getD 9 false) (listed.getD 10 false) (f 2) (f 3) (f 9) wz) (fun _ _ => True) nsF_stab ?hGB (by kernel_rfl) ?hputB ?hsB ?hdB
          case hfrB =>
            intro f
            simp only [putsF, List.zipIdx_cons, List.zipIdx_nil, List.foldl_cons, List.foldl_nil, Nat.reduceAdd, Act.put, List.setIfInBounds_toArray, List.set_cons_zero, List.set_cons_succ]
            rfl
          case h0B => rfl
          case hGB => exact hG0
          case hputB =>
            intro i o ho f v
            match i, ho with
            | 0, ho => simp only [List.getElem?_toArray, List.getElem?_cons_zero, Option.some.injEq] at ho; subst ho; rfl
            | 1, ho => simp only [List.getElem?_toArray, List.getElem?_cons_zero, List.getElem?_cons_succ, Option.some.injEq] at ho; subst ho; rfl
            | 2, ho => simp only [List.getElem?_toArray, List.getElem?_cons_zero, List.getElem?_cons_succ, Option.some.injEq] at ho; subst ho; rfl
            | 3, ho => simp only [List.getElem?_toArray, List.getElem?_cons_zero, List.getElem?_cons_succ, Option.some.injEq] at ho; subst ho; rfl
            | 4, ho => simp only [List.getElem?_toArray, List.getElem?_cons_zero, List.getElem?_cons_succ, Option.some.injEq] at ho; subst ho; rfl
            | 5, ho => simp only [List.getElem?_toArray, List.getElem?_cons_zero, List.getElem?_cons_succ, Option.some.injEq] at ho; subst ho; rfl
            | 6, ho => simp only [List.getElem?_toArray, List.getElem?_cons_zero, List.getElem?_cons_succ, Option.some.injEq] at ho; subst ho; rfl
            | 7, ho => simp only [List.getElem?_toArray, List.getElem?_cons_zero, List.getElem?_cons_succ, Option.some.injEq] at ho; subst ho; rfl
            | 8, ho => simp only [List.getElem?_toArray, List.getElem?_cons_zero, List.getElem?_cons_succ, Option.some.injEq] at ho; subst ho; rfl
            | 9, ho => simp only [List.getElem?_toArray, List.getElem?_cons_zero, List.getElem?_cons_succ, Option.some.injEq] at ho; subst ho; rfl
            | 10, ho => simp only [List.getElem?_toArray, List.getElem?_cons_zero, List.getElem?_cons_succ, Option.some.injEq] at ho; subst ho; rfl
            | n + 11, ho => simp at ho
          case hsB =>
            intro i o ho listed f w2 hsz hun hG hpre K hK
            have hsz' : listed.size = 11 := by simpa using hsz
            dsimp only at hK hG ⊢
            match i, ho with
            | 0, ho =>
              simp only [List.getElem?_toArray, List.getElem?_cons_zero, Option.some.injEq] at ho
              subst ho
              have f0 := getD_ff hun
              have f3 : listed.getD 3 false = false := by
                cases h : listed.getD 3 false with
                | false => rfl
                | true => have := (hG.1.2.2.2.1 h).1; rw [f0] at this; cases this
              have f9 : listed.getD 9 false = false := by
                cases h : listed.getD 9 false with
                | false => rfl
                | true => have := hG.1.2.2.2.2 h; rw [f3] at this; cases this
              have e9 : f 9 = .slice B o.length cb := hG.2.2.2.2.1 f9
              rw [f0, f3] at hG
              rw [e9] at hK ⊢
              go_simp
              refine hK (.slice B o.length cb) _ trivial ?_ rfl
              rw [getD_setT (by omega), getD_setT (by omega), getD_setT (by omega), getD_setT (by omega), getD_setT (by omega), if_pos rfl, if_neg (by decide), if_neg (by decide), if_neg (by decide), if_neg (by decide)]
              rw [f3]
              simpa [updF] using hG.first
            | 1, ho =>
              simp only [List.getElem?_toArray, List.getElem?_cons_zero, List.getElem?_cons_succ, Option.some.injEq] at ho
              subst ho
              go_simp
              exact hK (.int .i64 ii) _ trivial (by simpa [getD_setT (show 1 < listed.size by omega), updF] using hG) rfl
            | 2, ho =>
              simp only [List.getElem?_toArray, List.getElem?_cons_zero, List.getElem?_cons_succ, Option.some.injEq] at ho
              subst ho
              have e1 : f 1 = .int .i64 ii := (hpre ⟨1, .data⟩ (by simp) rfl).2
              have f2 := getD_ff hun
              have f3 : listed.getD 3 false = false := by
                cases h : listed.getD 3 false with
                | false => rfl
                | true => have := (hG.1.2.2.2.1 h).2; rw [f2] at this; cases this
              rw [f2, f3] at hG
              rw [e1] at hK ⊢
              go_simp
              refine hK (.slice (some ⟨w2.heap.size, 0, none⟩) 1 1) _ trivial ?_ trivial
              rw [getD_setT (by omega), getD_setT (by omega), getD_setT (by omega), getD_setT (by omega), getD_setT (by omega), if_neg (by decide), if_pos rfl, if_neg (by decide), if_neg (by decide), if_neg (by decide)]
              rw [f3]
              simpa [updF] using hG.lit
            | 3, ho =>
              simp only [List.getElem?_toArray, List.getElem?_cons_zero, List.getElem?_cons_succ, Option.some.injEq] at ho
              subst ho
              have b0 := (hpre ⟨0, .data⟩ (by simp) rfl).1
              have e0 : f 0 = .slice B o.length cb := (hpre ⟨0, .data⟩ (by simp) rfl).2
              have b2 := (hpre ⟨2, .data⟩ (by simp) rfl).1
              have f3 := getD_ff hun
              have f9 : listed.getD 9 false = false := by
                cases h : listed.getD 9 false with
                | false => rfl
                | true => have := hG.1.2.2.2.2 h; rw [f3] at this; cases this
              rw [b0, b2, f3, f9] at hG
              obtain ⟨N, e2, hb2⟩ := hG.2.2.1 rfl rfl
              refine st_intL (by rfl) _ _ (by rfl) (g + 2) (.slice B o.length cb) o ii N (by exact e0) (hG.2.1 rfl) (by exact e2) (hb2.cell 0) (by omega) (by have := hG.1.2.2.1.lt; omega) ?_
              intro g' cap w5 h5 g5
              refine hK (.slice (some ⟨g', 0, none⟩) (o.length + 1) cap) w5 trivial ?_ trivial
              rw [getD_setT (by omega), getD_setT (by omega), getD_setT (by omega), getD_setT (by omega), getD_setT (by omega), if_neg (by decide), if_neg (by decide), if_pos rfl, if_neg (by decide), if_neg (by decide)]
              rw [b0, b2, f9]
              simpa [updF] using hG.app (by omega) h5 g5
            | 4, ho =>
              simp only [List.getElem?_toArray, List.getElem?_cons_zero, List.getElem?_cons_succ, Option.some.injEq] at ho
              subst ho
              go_simp
              exact hK (.slice (some ⟨b2, off2, none⟩) j cp) _ trivial (by simpa [getD_setT (show 4 < listed.size by omega), updF] using hG) rfl
            | 5, ho =>
              simp only [List.getElem?_toArray, List.getElem?_cons_zero, List.getElem?_cons_succ, Option.some.injEq] at ho
              subst ho
              go_simp
              exact hK (.int .i64 ii) _ trivial (by simpa [getD_setT (show 5 < listed.size by omega), updF] using hG) rfl
            | 6, ho =>
              simp only [List.getElem?_toArray, List.getElem?_cons_zero, List.getElem?_cons_succ, Option.some.injEq] at ho
              subst ho
              have e4 : f 4 = .slice (some ⟨b2, off2, none⟩) j cp := (hpre ⟨4, .data⟩ (by simp) rfl).2
              have e5 : f 5 = .int .i64 ii := (hpre ⟨5, .data⟩ (by simp) rfl).2
              rw [e4, e5] at hK ⊢
              go_simp
              exact hK (.pointer (some ⟨b2, off2 + ii * 6, none⟩)) _ trivial (by simpa [getD_setT (show 6 < listed.size by omega), updF] using hG) rfl
            | 7, ho =>
              simp only [List.getElem?_toArray, List.getElem?_cons_zero, List.getElem?_cons_succ, Option.some.injEq] at ho
              subst ho
              have e6 : f 6 = .pointer (some ⟨b2, off2 + ii * 6, none⟩) := (hpre ⟨6, .data⟩ (by simp) rfl).2
              rw [e6] at hK ⊢
              go_simp
              exact hK (.pointer (some ⟨b2, off2 + ii * 6 + 1, none⟩)) _ trivial (by simpa [getD_setT (show 7 < listed.size by omega), updF] using hG) rfl
            | 8, ho =>
              simp only [List.getElem?_toArray, List.getElem?_cons_zero, List.getElem?_cons_succ, Option.some.injEq] at ho
              subst ho
              have e7 : f 7 = .pointer (some ⟨b2, off2 + ii * 6 + 1, none⟩) := (hpre ⟨7, .data⟩ (by simp) rfl).2
              have z1 := (HX.out.2.2.2.1 w2 hG.1.1).1
              have z2 := (HX.out.2.2.2.1 w2 hG.1.1).2
              rw [e7] at hK ⊢
              go_simp
              exact hK (.agg #[.int .i64 r.x, .int .i64 r.y]) _ trivial (by simpa [getD_setT (show 8 < listed.size by omega), updF] using hG) rfl
            | 9, ho =>
              simp only [List.getElem?_toArray, List.getElem?_cons_zero, List.getElem?_cons_succ, Option.some.injEq] at ho
              subst ho
              have b3 := (hpre ⟨3, .data⟩ (by simp) rfl).1
              have f9 := getD_ff hun
              rw [b3, f9] at hG
              go_simp
              refine hK (f 3) _ trivial ?_ trivial
              rw [getD_setT (by omega), getD_setT (by omega), getD_setT (by omega), getD_setT (by omega), getD_setT (by omega), if_neg (by decide), if_neg (by decide), if_neg (by decide), if_pos rfl, if_neg (by decide)]
              rw [b3]
              simpa [updF] using hG.set
            | 10, ho =>
              simp only [List.getElem?_toArray, List.getElem?_cons_zero, List.getElem?_cons_succ, Option.some.injEq] at ho
              subst ho
              have e8 : f 8 = .agg #[.int .i64 r.x, .int .i64 r.y] := (hpre ⟨8, .data⟩ (by simp) rfl).2
              have f10 := getD_ff hun
              rw [f10] at hG
              have hb := hG.1.2.2.1
              rw [if_neg (by decide)] at hb
              have z0 : w2.cell? ⟨g + 1, 0, none⟩ = some (.int .i64 c.x) := hb.cell 0
              have z1 : w2.cell? ⟨g + 1, 1, none⟩ = some (.int .i64 c.y) := hb.cell 1
              have y0 := hb.frozen 0
              have y1 := hb.frozen 1
              rw [e8] at hK ⊢
              go_simp
              refine hK undef _ trivial ?_ trivial
              rw [getD_setT (by omega), getD_setT (by omega), getD_setT (by omega), getD_setT (by omega), getD_setT (by omega), if_neg (by decide), if_neg (by decide), if_neg (by decide), if_neg (by decide), if_pos rfl]
              simpa [updF] using hG.put (by omega)
            | n + 11, ho => simp at ho
          case hdB =>
            intro listed f w2 hall hG hF
            rw [hall 0 (by simp), hall 2 (by simp), hall 3 (by simp), hall 9 (by simp), hall 10 (by simp)] at hG
            have e9 : f 9 = f 3 := hG.2.2.2.2.2 rfl
            have ho := hG.2.2.2.1 rfl
            have hb := hG.1.2.2.1
            rw [if_pos rfl] at hb
            have hl1 : (o ++ [(ii : Int)]).length = o.length + 1 := by simp
            have HF := Lib.hid (And.intro hG.1.1 (And.intro hG.1.2.1 (And.intro hb ho)))
            have Hl := Lib.hid hl1
            rw [e9]
            clear hG hF hall ho hb e9 hl1
            go_wp2_with fail
            go_roundg κ'
            case measure => exact HX.out.2.1
            case rel => exact ⟨c', o ++ [(ii : Int)], HX.out.1, HX.out.2.2.1, HF.out.2.1, by rw [HX.out.2.2.2.2.1, HX.out.2.2.2.2.2]; exact HF.out.2.2.1, by rw [Hl.out]; exact HF.out.2.2.2, HF.out.1⟩

theorem tryP_len (hx hy : Int) (V : List St) : ∀ (k : Nat) (c : Cr) (o : List Int) (s : BestS), s.1.length ≤ V.length → (tryP hx hy V k c o s).1.length ≤ V.length
  | 0, _, _, _, h => h
  | k + 1, c, o, s, h => by
    unfold tryP
    split
    · rename_i ho
      split
      · simp only; omega
      · exact h
    · have H : ∀ j, (tryL V (tryP hx hy V k) c o s j).1.length ≤ V.length := by
        intro j
        induction j with
        | zero => exact h
        | succ j ih =>
          rw [tryL_succ]
          unfold tryS
          split
          · exact ih
          · split
            · exact tryP_len hx hy V k _ _ _ ih
            · exact ih
      exact H _
theorem bsO_len (hx hy st : Int) (V : List St) : (bsO hx hy st V).1.length ≤ V.length := by
  unfold bsO
  split
  · simp
  · exact tryP_len hx hy V _ _ _ _ (by simp)
theorem nearM_len (V : List St) : ∀ (k : Nat) (c : Cr) (o : List Int), (nearM V k c o).length ≤ o.length + k
  | 0, _, o => by simp [nearM]
  | k + 1, c, o => by
    unfold nearM
    split
    · omega
    · rename_i p _
      have := nearM_len V k p.2 (o ++ [(p.1 : Int)])
      simp at this
      omega

set_option maxRecDepth 100000 in
set_option maxHeartbeats 16000000 in
theorem routesBest_walk (a0 : Option Addr) (len0 cap0 : Nat) (z0 : List Int) (w : World) (w0 : InRow w a0 len0 cap0 z0) :
    Calls Tryd.prog 3 #[.slice a0 len0 cap0] w fun e w' => e = .returned (.bool true) ∧ w.grownBy w' none := by
  obtain ⟨hlen, hs0⟩ := str_start w0
  have hg0 : w.grownBy (w.alloc (.cells #[.slice a0 len0 cap0, .int .i64 0] 25)) none := grown_alloc (grown_refl w) _
  have hz0 : (w.alloc (.cells #[.slice a0 len0 cap0, .int .i64 0] 25)).heap.size = w.heap.size + 1 := by simp
  clear hlen w0
  generalize z0.take len0 = L at *
  go_enter Tryd.func3, Tryd.ntmps3
  go_wp2_with fail
  generalize w.alloc (.cells #[.slice a0 len0 cap0, .int .i64 0] 25) = wA at *
  obtain ⟨bs, hbs⟩ : ∃ bs, bs = w.heap.size := ⟨_, rfl⟩
  rw [← hbs] at hs0 hz0 ⊢
  have HZ := Lib.hid hbs
  clear hbs
  have hbA : bs < wA.heap.size := by omega
  rw [← hz0]
  refine (pick_lit bs L 0 [3, 5, 6, 9] wA hs0 (by omega) (by simp) (by simp) 3).mono ?_
  have hpm := pk_mem L 0 [3, 5, 6, 9] (by simp)
  rintro e wP ⟨rfl, hsP, hgP⟩
  generalize pk L 0 [3, 5, 6, 9] = most at *
  have hmost : 0 ≤ most ∧ most ≤ 9 := by simp at hpm; omega
  have hggP := (hg0.but (some bs)).trans hgP
  have hbP : bs < wP.heap.size := by have := hgP.size; omega
  have HP := Lib.hid (And.intro hz0 hpm)
  clear hs0 hgP hg0 hpm hz0
  go_wp2_with fail
  refine (stops_any bs L 1 most wP hsP (by omega) hmost.1 hmost.2).mono ?_
  have hb1 := stopsM_b L 1 most hmost.1 hmost.2
  rintro e w1 ⟨v1, rfl, hV1, hs1, hg1⟩
  generalize (stopsM L 1 most).2 = V at *
  generalize (stopsM L 1 most).1 = t1 at *
  have hgg1 := hggP.trans hg1
  clear hsP hg1 hggP
  go_wp2_with fail
  refine (spot_any bs L t1 w1 hs1 (by omega)).mono ?_
  have hb2 := spotM_b L t1
  rintro e w2 ⟨rfl, hs2, hg2⟩
  have hV2 := hV1.kept hg2 (own_ne hV1 hbP)
  have hgg2 := hgg1.trans hg2
  generalize spotM L t1 = S1 at *
  obtain ⟨t2, hx, hy⟩ := S1
  simp only at hb2 hs2 ⊢
  clear hs1 hg2 hgg1 hV1
  go_wp2_with fail
  refine (pick_lit bs L t2 [0, 0, 5, 30] w2 hs2 (by omega) (by simp) (by simp) 3).mono ?_
  rintro e w4 ⟨rfl, hs4, hg4⟩
  generalize pk L t2 [0, 0, 5, 30] = st at *
  have hV4 := hV2.kept hg4 (own_ne hV2 hbP)
  have hgg4 := hgg2.trans hg4
  clear hs2 hg4 hgg2 hV2
  obtain ⟨A, cA, rfl, hcA, _, hrA, hAb⟩ := Rd.of_own hV4
  obtain ⟨g5, hg5⟩ : ∃ g5, w4.heap.size = g5 := ⟨_, rfl⟩
  have hb5 : bs < g5 := by have := hs4.lt; omega
  have hH5 := Blk.new w4 30 #[.int .i64 hx, .int .i64 hy]
  rw [hg5] at hH5
  have hgs5 := grown_alloc (grown_refl w4) (.cells #[.int .i64 hx, .int .i64 hy] 30)
  have hgg5 := hgg4.trans (hgs5.but (some bs))
  have hr5 := hrA.grown hgs5
  obtain ⟨wB, hwB⟩ : ∃ wB, w4.alloc (.cells #[.int .i64 hx, .int .i64 hy] 30) = wB := ⟨_, rfl⟩
  rw [hwB] at hH5 hgg5 hr5
  have hgf5 : w.grownBy wB none := grown_below (grown_refl w) hgg5 (fun k hk => .inl (by cases hk; have := HZ.out; omega))
  have hlV : V.length ≤ 10 := hb1.2
  have h0 : wB.cell? ⟨g5, 0, none⟩ = some (.int .i64 hx) := hH5.cell 0
  have h1 : wB.cell? ⟨g5, 1, none⟩ = some (.int .i64 hy) := hH5.cell 1
  have hbe := fun wx (h : wB.grownBy wx none) => best_any hx hy A V.length cA V st wx (hr5.grown h) hcA (by omega)
  have hne := fun wx (h : wB.grownBy wx none) => nearestR_any hx hy A V.length cA V st wx (hr5.grown h) hcA (by omega)
  have hrf := fun wx (h : wB.grownBy wx none) => routeFault_any hx hy A V.length cA V st wx (hr5.grown h) hcA
  have hbr := fun wx (h : wB.grownBy wx none) (e1 : routeF hx hy V st = 0) => bestRoute_any hx hy A V.length cA V st wx (hr5.grown h) hcA e1
  have hnr := fun wx (h : wB.grownBy wx none) (e1 : routeF hx hy V st = 0) => nearestRoute_any hx hy A V.length cA V st wx (hr5.grown h) hcA e1
  have hEr : routeF hx hy V st ≠ 0 → bsE hx hy st V = routeF hx hy V st := by intro h; unfold bsE; rw [if_pos h]
  have hnO : routeF hx hy V st = 0 → nrO hx hy st V = nearR hx hy st V := by intro h; unfold nrO; rw [if_neg (by rw [h]; simp)]
  have hlO := bsO_len hx hy st V
  have hlN : (nearR hx hy st V).length ≤ 100 := by have := nearM_len V (V.length + 1) ⟨hx, hy, 0, st, 0, 0⟩ []; unfold nearR; simp at this; omega
  generalize bsE hx hy st V = E at *
  generalize bsO hx hy st V = O at *
  generalize nrO hx hy st V = NO at *
  generalize nearR hx hy st V = NR at *
  generalize routeF hx hy V st = F at *
  have HB := Lib.hid (And.intro hwB (And.intro hg5 (And.intro hH5 (And.intro hgf5 (And.intro hbe (And.intro hne (And.intro hrf (And.intro hbr (And.intro hnr (And.intro hEr (And.intro hnO (And.intro hlO hlN))))))))))))
  clear hwB hg5 hH5 hgf5 hbe hne hrf hbr hnr hEr hnO hlO hlN hgs5 hgg5 hr5 hrA hV4 hgg4 hs4 hb1 hb2
  go_wp2_with fail
  rw [HB.out.1, HB.out.2.1]
  refine (HB.out.2.2.2.2.1 wB (grown_refl _)).mono ?_
  rintro e w5 ⟨⟨v5, rfl, h5⟩, hg5⟩
  clear h0 h1
  have hH6 := HB.out.2.2.1.grown hg5 (by simp)
  have h0 : w5.cell? ⟨g5, 0, none⟩ = some (.int .i64 hx) := hH6.cell 0
  have h1 : w5.cell? ⟨g5, 1, none⟩ = some (.int .i64 hy) := hH6.cell 1
  go_wp2_with fail
  refine (HB.out.2.2.2.2.2.1 w5 hg5).mono ?_
  rintro e w6 ⟨⟨v6, rfl, h6⟩, hg6⟩
  clear h0 h1
  have hgg6 := hg5.trans hg6
  have hH7 := hH6.grown hg6 (by simp)
  have h5' := h5.kept hg6 (own_nn _)
  have h0 : w6.cell? ⟨g5, 0, none⟩ = some (.int .i64 hx) := hH7.cell 0
  have h1 : w6.cell? ⟨g5, 1, none⟩ = some (.int .i64 hy) := hH7.cell 1
  clear h5 hg5 hg6 hH6
  go_wp2_with fail
  refine (HB.out.2.2.2.2.2.2.1 w6 hgg6).mono ?_
  rintro e w7 ⟨rfl, hg7⟩
  clear h0 h1
  have hgg7 := hgg6.trans hg7
  have hH8 := hH7.grown hg7 (by simp)
  have h5 := h5'.kept hg7 (own_nn _)
  have h6 := h6.kept hg7 (own_nn _)
  clear h5' hg7 hgg6 hH7
  by_cases hF : F = 0
  · subst hF
    obtain ⟨A5, c5, rfl, _⟩ := own_slice h5
    obtain ⟨A6, c6, rfl, _⟩ := own_slice h6
    have h0 : w7.cell? ⟨g5, 0, none⟩ = some (.int .i64 hx) := hH8.cell 0
    have h1 : w7.cell? ⟨g5, 1, none⟩ = some (.int .i64 hy) := hH8.cell 1
    have H7 := Lib.hid (And.intro hgg7 (And.intro hH8 (And.intro h5 h6)))
    clear hgg7 hH8 h5 h6
    go_wp2_with fail
    refine (HB.out.2.2.2.2.2.2.2.1 w7 H7.out.1 (by trivial)).mono ?_
    rintro e w8 ⟨⟨v8, rfl, h8⟩, hg8⟩
    clear h0 h1
    obtain ⟨A8, c8, rfl, _⟩ := own_slice h8
    go_wp2_with fail
    refine (lawRounds_any w8).mono ?_
    rintro e w9 ⟨rfl, hg9⟩
    have hg79 := hg8.trans hg9
    have heq := equalInts_any A5 A8 O.1.length c5 O.1.length c8 O.1 O.1 w9 (own_rdI (H7.out.2.2.1.kept hg79 (own_nn _))) (own_rdI (h8.kept hg9 (own_nn _))) (by have := HB.out.2.2.2.2.2.2.2.2.2.2.2.1; omega) (by have := HB.out.2.2.2.2.2.2.2.2.2.2.2.1; omega)
    rw [show decide (O.1 = O.1) = true from by simp] at heq
    have H9 := Lib.hid (And.intro hg79 heq)
    clear hg8 hg9 hg79 heq h8
    go_wp2_with fail
    refine H9.out.2.mono ?_
    rintro e w10 ⟨rfl, hg10⟩
    have hg710 := H9.out.1.trans hg10
    have hgg10 := H7.out.1.trans hg710
    have hH10 := H7.out.2.1.grown hg710 (by simp)
    have h0 : w10.cell? ⟨g5, 0, none⟩ = some (.int .i64 hx) := hH10.cell 0
    have h1 : w10.cell? ⟨g5, 1, none⟩ = some (.int .i64 hy) := hH10.cell 1
    have h6 := H7.out.2.2.2.kept hg710 (own_nn _)
    have H10 := Lib.hid (And.intro hgg10 h6)
    clear hg10 hg710 hgg10 hH10 h6
    go_wp2_with fail
    refine (HB.out.2.2.2.2.2.2.2.2.1 w10 H10.out.1 (by trivial)).mono ?_
    rintro e w11 ⟨⟨v11, rfl, h11⟩, hg11⟩
    clear h0 h1
    obtain ⟨A11, c11, rfl, _⟩ := own_slice h11
    have hNO := HB.out.2.2.2.2.2.2.2.2.2.2.1 (by trivial)
    have heq := equalInts_any A6 A11 NO.length c6 NR.length c11 NO NR w11 (own_rdI (H10.out.2.kept hg11 (own_nn _))) (own_rdI h11) (by have := HB.out.2.2.2.2.2.2.2.2.2.2.2.2; rw [hNO]; omega) (by have := HB.out.2.2.2.2.2.2.2.2.2.2.2.2; omega)
    rw [show decide (NO = NR) = true from by rw [hNO]; simp] at heq
    have H11 := Lib.hid (And.intro (H10.out.1.trans hg11) heq)
    clear hg11 heq h11 hNO
    go_wp2_with fail
    refine H11.out.2.mono ?_
    rintro e w12 ⟨rfl, hg12⟩
    go_wp2_with fail
    go_ret
    exact ⟨rfl, (HB.out.2.2.2.1.trans H11.out.1).trans hg12⟩
  · have hE := HB.out.2.2.2.2.2.2.2.2.2.1 hF
    subst hE
    have hb : (E != 0) = true := by rw [bne_iff_ne]; exact hF
    have H7 := Lib.hid hgg7
    clear hgg7 hH8 h5 h6 hF
    go_wp2_with fail
    refine (lawRounds_any w7).mono ?_
    rintro e w8 ⟨rfl, hg8⟩
    go_wp2_with fail
    go_ret
    exact ⟨rfl, (HB.out.2.2.2.1.trans H7.out).trans hg8⟩

end Go.Proofs.YtcipidfbclohoaaDoor
