/- The walk of the reference's DriveOf. -/
import Derived.Test.YtcipidfbclohoaaDoorDrive
import Derived.Test.YtcipidfbclohoaaDoorFarR
import Derived.Test.YtcipidfbclohoaaDoorRt
import Derived.BigRegion
namespace Go.Proofs.YtcipidfbclohoaaDoor
open Go.RowKit

theorem four_ {w : World} {g : Nat} {t : TypeId} {a b c d : Value} (h : Blk w g t #[a, b, c, d]) : (w.cell? ⟨g, 0, none⟩ = some a ∧ w.cell? ⟨g, 1, none⟩ = some b ∧ w.cell? ⟨g, 2, none⟩ = some c ∧ w.cell? ⟨g, 3, none⟩ = some d) ∧ w.frozen? ⟨g, 0, none⟩ = false ∧ w.frozen? ⟨g, 1, none⟩ = false ∧ w.frozen? ⟨g, 2, none⟩ = false ∧ w.frozen? ⟨g, 3, none⟩ = false :=
  ⟨⟨h.cell 0, h.cell 1, h.cell 2, h.cell 3⟩, h.frozen 0, h.frozen 1, h.frozen 2, h.frozen 3⟩

set_option maxRecDepth 100000 in
set_option maxHeartbeats 16000000 in
theorem driveOf_any (hx hy : Int) (A : Option Addr) (m cp : Nat) (V : List St) (st : Int) (B : Option Addr) (n cb : Nat) (o : List Int) (w : World) (hr : Rd w 6 A m (stFlat V)) (ho : Rd w 1 B n (ints o)) (hnc : n ≤ cb) (hm : m ≤ 1000) (hn : n ≤ 1000) (hrf : routeF hx hy V st = 0) :
    Calls Tryd.prog 40 #[.agg #[.int .i64 hx, .int .i64 hy], .slice A m cp, .int .i64 st, .slice B n cb] w
      fun e w' => (∃ v, e = .returned (.tuple #[.agg #[v, .int .i64 (drvT hx hy V st o).e, .int .i64 (drvT hx hy V st o).way, .int .i64 (drvT hx hy V st o).wt], .int .i64 (drvE hx hy V st o)])
        ∧ w'.ownsRow w.heap.size 3 1 v (drvT hx hy V st o).bg.length (ints (drvT hx hy V st o).bg)) ∧ w.grownBy w' none := by
  have hlV : V.length = m := by have := hr.1; rw [stFlat_len] at this; omega
  have hlo : o.length = n := by have := ho.1; simp [ints] at this; omega
  obtain ⟨hsf, hh, h0, h1⟩ := routeF_ok hrf
  have hV := (stopsF_ok hsf).2
  obtain ⟨E, hE⟩ : ∃ E, drvE hx hy V st o = E := ⟨_, rfl⟩
  obtain ⟨T, hT⟩ : ∃ T, drvT hx hy V st o = T := ⟨_, rfl⟩
  unfold drvT at hT
  rw [hE] at hT
  rw [hE, show drvT hx hy V st o = T from by unfold drvT; rw [hE]; exact hT]
  unfold drvE at hE
  rw [hlV, hrf, if_neg (by simp)] at hE
  clear hrf hsf
  have hH := (Blk.new w 30 #[.int .i64 hx, .int .i64 hy]).alloc (.cells #[.slice none 0 0, .int .i64 0, .int .i64 0, .int .i64 0] 50)
  have hg1 := grown_alloc (grown_refl w) (.cells #[.int .i64 hx, .int .i64 hy] 30)
  obtain ⟨g, hg⟩ : ∃ g, w.heap.size = g := ⟨_, rfl⟩
  have hz1 : (w.alloc (.cells #[.int .i64 hx, .int .i64 hy] 30)).heap.size = g + 1 := by simp [hg]
  obtain ⟨W1, hW1⟩ : ∃ W1, w.alloc (.cells #[.int .i64 hx, .int .i64 hy] 30) = W1 := ⟨_, rfl⟩
  rw [hW1, hg] at hH
  rw [hW1] at hg1 hz1
  have hR := Blk.new W1 50 #[.slice none 0 0, .int .i64 0, .int .i64 0, .int .i64 0]
  have hg2 := grown_alloc hg1 (.cells #[.slice none 0 0, .int .i64 0, .int .i64 0, .int .i64 0] 50)
  obtain ⟨W2, hW2⟩ : ∃ W2, W1.alloc (.cells #[.slice none 0 0, .int .i64 0, .int .i64 0, .int .i64 0] 50) = W2 := ⟨_, rfl⟩
  rw [hW2] at hH hR hg2
  rw [hz1] at hR
  have HW := Lib.hid (And.intro hW1 (And.intro hW2 (And.intro hg (And.intro hE (And.intro hT (And.intro hlV hlo))))))
  have HV := Lib.hid (And.intro hV (And.intro hh (And.intro h0 h1)))
  clear hW1 hW2 hg hE hT hlV hlo hg1 hz1 hV hh h0 h1
  go_enter Tryd.func40, Tryd.ntmps40
  go_wp2_with fail
  rw [HW.out.1, HW.out.2.1, HW.out.2.2.1]
  go_loopg [24] n (fun k i wr => ∃ j : Nat, k + j = n ∧ i = .int .i64 j ∧ w.grownBy wr none ∧ OrdInv m o j ∧ Blk wr g 30 #[.int .i64 hx, .int .i64 hy] ∧ Blk wr (g + 1) 50 #[.slice none 0 0, .int .i64 0, .int .i64 0, .int .i64 0])
  case atStart => exact ⟨0, by omega, rfl, hg2, OrdInv.start _ _, hH, hR⟩
  case round =>
    clear hH hR hg2
    obtain ⟨j, hj, rfl, hg, H, hH, hR⟩ := hrel
    by_cases hlt : j < n
    · have hrj := ho.grown hg
      obtain ⟨b, off, rfl, hb, x, hx', cx⟩ := int_cells hrj hlt
      obtain ⟨s1, s2, s3⟩ := H.step hx'
      have hmw : IntKind.i64.wrap ((m : Int) - 1) = (m : Int) - 1 := IntWalk.i64_in _ (by omega)
      obtain ⟨A', hsl, hrw, _⟩ := win_hb (P := Tryd.prog) (t := 22) Tryd.underlying22 Tryd.sizeOf3 hrj (q := j) (by omega) hnc
      rw [show (ints o).take (j * 1) = ints (o.take j) from by rw [Nat.mul_one]; simp [ints, List.map_take]] at hrw
      have hslw := hsl wr
      have bad : ∀ e, e ≠ 0 → orderF m o = e → E = e ∧ T = trM0 := by
        intro e he ho'
        have h1 := HW.out.2.2.2.1
        rw [ho', if_pos he] at h1
        have h2 := HW.out.2.2.2.2.1
        rw [if_pos (by rw [← h1]; exact he)] at h2
        exact ⟨h1.symm, h2.symm⟩
      have HS := Lib.hid (And.intro s1 (And.intro s2 (And.intro s3 (And.intro hj (And.intro bad (And.intro hH (And.intro hR hg)))))))
      clear s1 s2 s3 H hj hx' bad hH
      obtain ⟨⟨q0, q1, q2, q3⟩, fz0, fz1, fz2, fz3⟩ := four_ hR
      clear hR hg
      by_cases hx0 : x < 0
      · obtain ⟨hE1, hT1⟩ := HS.out.2.2.2.2.1 1 (by decide) (HS.out.1 (by cases h : btw x 0 ((m : Int) - 1) with | false => rfl | true => have := btw_true.1 h; omega))
        subst hE1 hT1
        have HE := Lib.hid (And.intro HS.out.2.2.2.2.2.2.1 HS.out.2.2.2.2.2.2.2)
        go_wp2_with fail
        have hgW := HW.out.2.2.1
        refine bodyPost_ret (results_row_tmp rfl _ _ (g + 1) _ _ _ _ rfl ((((HE.out.1.set_ 0 (.slice none 0 0)).set_ 1 (.int .i64 0)).set_ 2 (.int .i64 0)).set_ 3 (.int .i64 0)) Tryd.underlying50 rfl (by kernel_rfl)) rfl ?_
        exact ⟨⟨_, rfl, World.ownsRow_nil _ _ _ _⟩, grown_set (grown_set (grown_set (grown_set HE.out.2 (p := ⟨g + 1, 0, none⟩) (.inl (by simp; omega)) _) (p := ⟨g + 1, 1, none⟩) (.inl (by simp; omega)) _) (p := ⟨g + 1, 2, none⟩) (.inl (by simp; omega)) _) (p := ⟨g + 1, 3, none⟩) (.inl (by simp; omega)) _⟩
      by_cases hxm : (m : Int) ≤ x
      · obtain ⟨hE1, hT1⟩ := HS.out.2.2.2.2.1 1 (by decide) (HS.out.1 (by cases h : btw x 0 ((m : Int) - 1) with | false => rfl | true => have := btw_true.1 h; omega))
        subst hE1 hT1
        have HE := Lib.hid (And.intro HS.out.2.2.2.2.2.2.1 HS.out.2.2.2.2.2.2.2)
        go_wp2_with fail
        have hgW := HW.out.2.2.1
        refine bodyPost_ret (results_row_tmp rfl _ _ (g + 1) _ _ _ _ rfl ((((HE.out.1.set_ 0 (.slice none 0 0)).set_ 1 (.int .i64 0)).set_ 2 (.int .i64 0)).set_ 3 (.int .i64 0)) Tryd.underlying50 rfl (by kernel_rfl)) rfl ?_
        exact ⟨⟨_, rfl, World.ownsRow_nil _ _ _ _⟩, grown_set (grown_set (grown_set (grown_set HE.out.2 (p := ⟨g + 1, 0, none⟩) (.inl (by simp; omega)) _) (p := ⟨g + 1, 1, none⟩) (.inl (by simp; omega)) _) (p := ⟨g + 1, 2, none⟩) (.inl (by simp; omega)) _) (p := ⟨g + 1, 3, none⟩) (.inl (by simp; omega)) _⟩
      · have hx1 : btw x 0 ((m : Int) - 1) = true := btw_true.2 (by omega)
        go_wp2_with fail
        refine (contains_any A' j cb (o.take j) x wr hrw (by omega)).mono ?_
        rw [show decide (x ∈ o.take j) = hasI (o.take j) x from rfl]
        clear q0 q1 q2 q3 fz0 fz1 fz2 fz3
        rintro e w2 ⟨rfl, hg2⟩
        by_cases h2 : hasI (o.take j) x = true
        · rw [h2]
          obtain ⟨hE6, hT6⟩ := HS.out.2.2.2.2.1 6 (by decide) (HS.out.2.1 hx1 h2)
          subst hE6 hT6
          have hR := HS.out.2.2.2.2.2.2.1.grown hg2 (by simp)
          obtain ⟨⟨q0, q1, q2, q3⟩, fz0, fz1, fz2, fz3⟩ := four_ hR
          have HE := Lib.hid (And.intro hR (HS.out.2.2.2.2.2.2.2.trans hg2))
          clear hR h2 hx1 hg2
          go_wp2_with fail
          have hgW := HW.out.2.2.1
          refine bodyPost_ret (results_row_tmp rfl _ _ (g + 1) _ _ _ _ rfl ((((HE.out.1.set_ 0 (.slice none 0 0)).set_ 1 (.int .i64 0)).set_ 2 (.int .i64 0)).set_ 3 (.int .i64 0)) Tryd.underlying50 rfl (by kernel_rfl)) rfl ?_
          exact ⟨⟨_, rfl, World.ownsRow_nil _ _ _ _⟩, grown_set (grown_set (grown_set (grown_set HE.out.2 (p := ⟨g + 1, 0, none⟩) (.inl (by simp; omega)) _) (p := ⟨g + 1, 1, none⟩) (.inl (by simp; omega)) _) (p := ⟨g + 1, 2, none⟩) (.inl (by simp; omega)) _) (p := ⟨g + 1, 3, none⟩) (.inl (by simp; omega)) _⟩
        · have h2' : hasI (o.take j) x = false := by simpa using h2
          rw [h2']
          have HI := Lib.hid (HS.out.2.2.1 hx1 h2')
          have hR := HS.out.2.2.2.2.2.2.1.grown hg2 (by simp)
          have hH := HS.out.2.2.2.2.2.1.grown hg2 (by simp)
          have hgg := HS.out.2.2.2.2.2.2.2.trans hg2
          clear h2 h2' hx1 hg2
          go_wp2_with fail
          have hj := HS.out.2.2.2.1
          go_roundg (gk - 1)
          case measure => omega
          case rel => exact ⟨j + 1, by omega, by go_num, hgg, HI.out, hH, hR⟩
    · obtain rfl : j = n := by omega
      have hO := H.done HW.out.2.2.2.2.2.2.symm
      have hin := orderF_ok hO
      have hEE := HW.out.2.2.2.1
      rw [hO, if_neg (by simp)] at hEE
      have HI := Lib.hid (And.intro hin hEE)
      clear hin hEE hO H hj hlt
      obtain ⟨gT, hgT⟩ : ∃ gT, wr.heap.size = gT := ⟨_, rfl⟩
      have hgl := hR.lt
      have hT5 := (Blk.new wr 50 #[.slice none 0 0, .int .i64 st, .int .i64 0, .int .i64 0]).alloc (.cells #[.int .i64 hx, .int .i64 hy] 30)
      have hz5 : (wr.alloc (.cells #[.slice none 0 0, .int .i64 st, .int .i64 0, .int .i64 0] 50)).heap.size = gT + 1 := by simp [hgT]
      have hS5 := Blk.new (wr.alloc (.cells #[.slice none 0 0, .int .i64 st, .int .i64 0, .int .i64 0] 50)) 30 #[.int .i64 hx, .int .i64 hy]
      rw [hgT] at hT5
      rw [hz5] at hS5
      have hH4 := hH.alloc (.cells #[.slice none 0 0, .int .i64 st, .int .i64 0, .int .i64 0] 50)
      obtain ⟨y0, y1, _, _⟩ := hH4.two
      have hH5 := hH4.alloc (.cells #[.int .i64 hx, .int .i64 hy] 30)
      have hR5 := (hR.alloc (.cells #[.slice none 0 0, .int .i64 st, .int .i64 0, .int .i64 0] 50)).alloc (.cells #[.int .i64 hx, .int .i64 hy] 30)
      have hg5 := grown_alloc (grown_alloc hg (.cells #[.slice none 0 0, .int .i64 st, .int .i64 0, .int .i64 0] 50)) (.cells #[.int .i64 hx, .int .i64 hy] 30)
      have hN := Lib.hid (And.intro hgT hz5)
      rw [hgT] at hgl
      clear hH hR hg hH4 hgT hz5
      go_wp2_with fail
      (try rw [hN.out.2])
      (try rw [hN.out.1])
      generalize (wr.alloc (.cells #[.slice none 0 0, .int .i64 st, .int .i64 0, .int .i64 0] 50)).alloc (.cells #[.int .i64 hx, .int .i64 hy] 30) = wS at *
      clear y0 y1 hN
      go_loopg [50] j (fun k i wq => ∃ (q : Nat) (c : Cr) (bg : List Int) (vb : Value), k + q = j ∧ i = .int .i64 q ∧ bg.length = q ∧ drvF V c bg (o.drop q) = drvF V ⟨hx, hy, 0, st, 0, 0⟩ [] o ∧ CrB q c
        ∧ Blk wq g 30 #[.int .i64 hx, .int .i64 hy] ∧ Blk wq (g + 1) 50 #[.slice none 0 0, .int .i64 0, .int .i64 0, .int .i64 0]
        ∧ Blk wq gT 50 #[vb, .int .i64 c.d, .int .i64 c.way, .int .i64 c.wt] ∧ Blk wq (gT + 1) 30 #[.int .i64 c.x, .int .i64 c.y] ∧ wq.ownsRow (gT + 1 + 1) 3 1 vb bg.length (ints bg) ∧ w.grownBy wq none)
      case atStart => exact ⟨0, ⟨hx, hy, 0, st, 0, 0⟩, [], .slice none 0 0, by omega, rfl, rfl, by simp, CrB.start HV.out.2.1 HV.out.2.2.1 HV.out.2.2.2, hH5, hR5, hT5, hS5, World.ownsRow_nil _ _ _ _, hg5⟩
      case round =>
        clear hT5 hS5 hH5 hR5 hg5
        obtain ⟨q, c, bg, vb, hq, rfl, hlb, hdr, hcb, hH, hR, hT, hS, hO, hg⟩ := hrel
        by_cases hlt : q < j
        · obtain ⟨b1, off1, rfl, hb1, kx, hk, x0⟩ := int_cells (ho.grown hg) hlt
          have hqm := HI.out.1 kx (List.mem_of_getElem? hk)
          obtain ⟨k, rfl⟩ := Int.eq_ofNat_of_zero_le hqm.1
          have hkm : k < m := by omega
          obtain ⟨b2, off2, rfl, hb2, r, hr2, y0, y1, y2, y3, y4, y5⟩ := st_cells (hr.grown hg) hkm
          have hr3 : stAt V k = r := by unfold stAt; rw [List.getD_eq_getElem?_getD, Int.toNat_natCast, hr2]; rfl
          have hro := HV.out.1 r (List.mem_of_getElem? hr2)
          obtain ⟨qf, hqf⟩ : ∃ qf, farN c.x c.y r.x r.y = qf := ⟨_, rfl⟩
          have hfi := farN_in hcb.1 hro.1
          have hcb2 := hcb.next (r := r) hro.1 (by omega) (by omega)
          rw [hqf] at hfi
          have hfar := fun wx => farOf_ok c.x c.y r.x r.y wx hcb.1 hro.1
          rw [hqf] at hfar
          obtain ⟨gX, hgX⟩ : ∃ gX, wr.heap.size = gX := ⟨_, rfl⟩
          have hlS := hS.lt
          have hvb := hO.lt
          have hX6 := Blk.new wr 57 #[.string r.k, .int .i64 r.x, .int .i64 r.y, .int .i64 r.f, .int .i64 r.t, .int .i64 r.l]
          rw [hgX] at hX6 hlS hvb
          have hH6 := hH.alloc (.cells #[.string r.k, .int .i64 r.x, .int .i64 r.y, .int .i64 r.f, .int .i64 r.t, .int .i64 r.l] 57)
          have hR6 := hR.alloc (.cells #[.string r.k, .int .i64 r.x, .int .i64 r.y, .int .i64 r.f, .int .i64 r.t, .int .i64 r.l] 57)
          have hT6 := hT.alloc (.cells #[.string r.k, .int .i64 r.x, .int .i64 r.y, .int .i64 r.f, .int .i64 r.t, .int .i64 r.l] 57)
          have hS6 := hS.alloc (.cells #[.string r.k, .int .i64 r.x, .int .i64 r.y, .int .i64 r.f, .int .i64 r.t, .int .i64 r.l] 57)
          have hO6 := hO.alloc (.cells #[.string r.k, .int .i64 r.x, .int .i64 r.y, .int .i64 r.f, .int .i64 r.t, .int .i64 r.l] 57)
          have hg6 := grown_alloc hg (.cells #[.string r.k, .int .i64 r.x, .int .i64 r.y, .int .i64 r.f, .int .i64 r.t, .int .i64 r.l] 57)
          obtain ⟨w6, hw6⟩ : ∃ w6, wr.alloc (.cells #[.string r.k, .int .i64 r.x, .int .i64 r.y, .int .i64 r.f, .int .i64 r.t, .int .i64 r.l] 57) = w6 := ⟨_, rfl⟩
          obtain ⟨s0, s1, _, _⟩ := hS6.two
          have u1 := hX6.cell 1
          have u2 := hX6.cell 2
          have HX := Lib.hid (And.intro hw6 (And.intro hgX (And.intro hH6 (And.intro hR6 (And.intro hT6 (And.intro hS6 (And.intro hO6 (And.intro hg6 hX6))))))))
          have HQ := Lib.hid (And.intro hq (And.intro hlb (And.intro hdr (And.intro hk (And.intro hr3 (And.intro hqf (And.intro hcb2 hfar)))))))
          clear hw6 hgX hH6 hR6 hT6 hS6 hO6 hg6 hX6 hq hlb hdr hk hr3 hqf hcb2 hfar hH hR hT hS hO hg hr2 hqm
          go_wp2_with fail
          rw [HX.out.1, HX.out.2.1]
          refine (HQ.out.2.2.2.2.2.2.2 w6).mono ?_
          clear s0 s1 u1 u2
          rintro e w7 ⟨rfl, hg7⟩
          obtain ⟨hw6, hgX, hH6, hR6, hT6, hS6, hO6, hg6, hX6⟩ := HX.out
          rw [hw6] at hH6 hR6 hT6 hS6 hO6 hg6 hX6
          have hH7 := hH6.grown hg7 (by simp)
          have hR7 := hR6.grown hg7 (by simp)
          have hT7 := hT6.grown hg7 (by simp)
          have hS7 := hS6.grown hg7 (by simp)
          have hX7 := hX6.grown hg7 (by simp)
          have hO7 := hO6.kept hg7 (by cases vb.ownBlock with | none => exact .inl rfl | some g => exact .inr (by simp))
          have hgw7 := hg6.trans hg7
          have hl7 := hX7.lt
          obtain ⟨⟨t0, t1, t2, t3⟩, tf0, tf1, tf2, tf3⟩ := four_ hT7
          have x2 : w7.cell? ⟨gX, 3, none⟩ = some (.int .i64 r.f) := hX7.cell 3
          have x3 : w7.cell? ⟨gX, 4, none⟩ = some (.int .i64 r.t) := hX7.cell 4
          have hTX : gT ≠ gX := by omega
          have hTX' : gX ≠ gT := by omega
          have HY := Lib.hid (And.intro hH7 (And.intro hR7 (And.intro hT7 (And.intro hS7 (And.intro hX7 (And.intro hO7 hgw7))))))
          clear hw6 hgX hH6 hR6 hT6 hS6 hO6 hg6 hX6 hg7 hH7 hR7 hT7 hS7 hX7 hO7 hgw7
          obtain ⟨hc1, hc2, hc3, hc4⟩ := hcb
          have hbq : crBeg c r = max (c.d + qf) r.f := by unfold crBeg; rw [HQ.out.2.2.2.2.2.1]
          by_cases m2 : r.t < max (c.d + qf) r.f
          · have hgo : crGo c (stAt V k) = false := by
              rw [HQ.out.2.2.2.2.1]; unfold crGo; rw [hbq]; exact decide_eq_false (by omega)
            have hnone : driveM hx hy V st o = none := by
              unfold driveM
              rw [← HQ.out.2.2.1, drvF_no HQ.out.2.2.2.1 hgo]
              rfl
            have hE16 : E = 16 := by have := HI.out.2; rw [if_pos hnone] at this; exact this.symm
            have hT0 : T = trM0 := by have := HW.out.2.2.2.2.1; rw [if_pos (by rw [hE16]; decide)] at this; exact this.symm
            subst hE16 hT0
            obtain ⟨⟨q0, q1, q2, q3⟩, fz0, fz1, fz2, fz3⟩ := four_ HY.out.2.1
            have hTR : gT ≠ g + 1 := by omega
            have hRT : g + 1 ≠ gT := by omega
            clear hbq hgo hnone
            go_wp2_with fail
            have hgW := HW.out.2.2.1
            have hR8 := (HY.out.2.1.far (p := ⟨gT, 2, none⟩) (by simp; omega) (.int .i64 (c.way + qf))).far (p := ⟨gT, 3, none⟩) (by simp; omega) (.int .i64 (c.wt + (max (c.d + qf) r.f - c.d - qf)))
            have hg8 := grown_set (grown_set HY.out.2.2.2.2.2.2 (p := ⟨gT, 2, none⟩) (.inl (by simp; omega)) (.int .i64 (c.way + qf))) (p := ⟨gT, 3, none⟩) (.inl (by simp; omega)) (.int .i64 (c.wt + (max (c.d + qf) r.f - c.d - qf)))
            refine bodyPost_ret (results_row_tmp rfl _ _ (g + 1) _ _ _ _ rfl ((((hR8.set_ 0 (.slice none 0 0)).set_ 1 (.int .i64 0)).set_ 2 (.int .i64 0)).set_ 3 (.int .i64 0)) Tryd.underlying50 rfl (by kernel_rfl)) rfl ?_
            exact ⟨⟨_, rfl, World.ownsRow_nil _ _ _ _⟩, grown_set (grown_set (grown_set (grown_set hg8 (p := ⟨g + 1, 0, none⟩) (.inl (by simp; omega)) _) (p := ⟨g + 1, 1, none⟩) (.inl (by simp; omega)) _) (p := ⟨g + 1, 2, none⟩) (.inl (by simp; omega)) _) (p := ⟨g + 1, 3, none⟩) (.inl (by simp; omega)) _⟩
          · have hgo : crGo c (stAt V k) = true := by
              rw [HQ.out.2.2.2.2.1]; unfold crGo; rw [hbq]; exact decide_eq_true (by omega)
            have hstep := drvF_go (bg := bg) HQ.out.2.2.2.1 hgo
            rw [HQ.out.2.2.2.2.1] at hstep
            obtain ⟨X, hX⟩ : ∃ X, crNext c r = X := ⟨_, rfl⟩
            have hcb2 := HQ.out.2.2.2.2.2.2.1
            rw [hX] at hstep hcb2
            have hXf : X = ⟨r.x, r.y, max (c.d + qf) r.f, max (c.d + qf) r.f + r.l, c.way + qf, c.wt + (max (c.d + qf) r.f - c.d - qf)⟩ := by
              rw [← hX]; unfold crNext; rw [hbq, HQ.out.2.2.2.2.2.1]; congr 1; omega
            have hOK := fun u1 u2 => (HY.out.2.2.2.2.2.1.kept (grown_set (World.grownBy.refl w7 (some gT)) (p := ⟨gT, 2, none⟩) (.inr rfl) u1) (own_ne HY.out.2.2.2.2.2.1 (by omega))).kept (grown_set (World.grownBy.refl (w7.setCell ⟨gT, 2, none⟩ u1) (some gT)) (p := ⟨gT, 3, none⟩) (.inr rfl) u2) (own_ne HY.out.2.2.2.2.2.1 (by omega))
            have hvbn : ∀ q, q < gT + 1 + 1 ∨ gX ≤ q → some q ≠ vb.ownBlock := by
              intro q h e
              have := hvb q e.symm
              omega
            have hTb := fun (w8 : World) (h : (((w7.setCell ⟨gT, 2, none⟩ (.int .i64 (c.way + qf))).setCell ⟨gT, 3, none⟩ (.int .i64 (c.wt + (max (c.d + qf) r.f - c.d - qf)))).alloc (.cells #[.int .i64 (max (c.d + qf) r.f)] 3)).grownBy w8 vb.ownBlock) => ((((show Blk w7 gT _ #[vb, .int .i64 c.d, .int .i64 c.way, .int .i64 c.wt] from HY.out.2.2.1).set_ 2 (.int .i64 (c.way + qf))).set_ 3 (.int .i64 (c.wt + (max (c.d + qf) r.f - c.d - qf)))).alloc (.cells #[.int .i64 (max (c.d + qf) r.f)] 3)).grown h (hvbn gT (by omega))
            have far7 : ∀ {q t : Nat} {cs : Array Value}, Blk w7 q t cs → q ≠ gT → (q < gT + 1 + 1 ∨ gX ≤ q) → ∀ w8, (((w7.setCell ⟨gT, 2, none⟩ (.int .i64 (c.way + qf))).setCell ⟨gT, 3, none⟩ (.int .i64 (c.wt + (max (c.d + qf) r.f - c.d - qf)))).alloc (.cells #[.int .i64 (max (c.d + qf) r.f)] 3)).grownBy w8 vb.ownBlock → Blk w8 q t cs := by
              intro q t cs hb hq hv w8 h
              exact (((hb.far (p := ⟨gT, 2, none⟩) hq (.int .i64 (c.way + qf))).far (p := ⟨gT, 3, none⟩) hq (.int .i64 (c.wt + (max (c.d + qf) r.f - c.d - qf)))).alloc (.cells #[.int .i64 (max (c.d + qf) r.f)] 3)).grown h (hvbn q hv)
            have hSb := far7 HY.out.2.2.2.1 (by omega) (by omega)
            have hXb := far7 HY.out.2.2.2.2.1 (by omega) (by omega)
            have hHb := far7 HY.out.1 (by omega) (by omega)
            have hRb := far7 HY.out.2.1 (by omega) (by omega)
            have hgb := fun (w8 : World) (h : (((w7.setCell ⟨gT, 2, none⟩ (.int .i64 (c.way + qf))).setCell ⟨gT, 3, none⟩ (.int .i64 (c.wt + (max (c.d + qf) r.f - c.d - qf)))).alloc (.cells #[.int .i64 (max (c.d + qf) r.f)] 3)).grownBy w8 vb.ownBlock) => grown_below (grown_refl w) (((grown_alloc (grown_set (grown_set HY.out.2.2.2.2.2.2 (p := ⟨gT, 2, none⟩) (.inl (by simp; have := HW.out.2.2.1; omega)) (.int .i64 (c.way + qf))) (p := ⟨gT, 3, none⟩) (.inl (by simp; have := HW.out.2.2.1; omega)) (.int .i64 (c.wt + (max (c.d + qf) r.f - c.d - qf)))) (.cells #[.int .i64 (max (c.d + qf) r.f)] 3)).but vb.ownBlock).trans h) (fun k hk => .inl (by have := hvb k hk; have := HW.out.2.2.1; omega))
            have HOK := Lib.hid (And.intro hOK (And.intro hstep (And.intro hcb2 (And.intro hXf (And.intro hX (And.intro hbq (And.intro hTb (And.intro hSb (And.intro hXb (And.intro hHb (And.intro hRb hgb)))))))))))
            clear hOK hstep hcb2 hXf hX hbq hgo hTb hSb hXb hHb hRb hgb far7 hvbn
            have hTS : gT ≠ gT + 1 := by omega
            have hST : gT + 1 ≠ gT := by omega
            have hSX : gT + 1 ≠ gX := by omega
            have hXS : gX ≠ gT + 1 := by omega
            go_wp2_with (at_builtin; refine ap_intN _ (max (c.d + qf) r.f) rfl _ _ rfl (gT + 1 + 1) vb bg rfl (HOK.out.1 _ _) w7.heap.size (by simp) rfl (by have := HQ.out.2.1; omega) (by simp; omega) ?_; intro v8 w8 hown8 hg8; obtain ⟨A8, c8, rfl, _, _, _, hA8⟩ := Rd.of_own hown8; obtain ⟨⟨a0, a1, a2, a3⟩, af0, af1, af2, af3⟩ := four_ (HOK.out.2.2.2.2.2.2.1 _ hg8); obtain ⟨d0, d1, df0, df1⟩ := (HOK.out.2.2.2.2.2.2.2.1 _ hg8).two; have e1 := (HOK.out.2.2.2.2.2.2.2.2.1 _ hg8).cell 1; have e2 := (HOK.out.2.2.2.2.2.2.2.2.1 _ hg8).cell 2; have e5 := (HOK.out.2.2.2.2.2.2.2.2.1 _ hg8).cell 5)
            go_region
            go_wp2_with fail
            have hq := HQ.out.1
            go_roundg (gk - 1)
            case measure => omega
            case rel =>
              obtain ⟨_, hstep, hcb2, hXf, hX, hbq, hTb, hSb, hXb, hHb, hRb, hgb⟩ := HOK.out
              have hfar4 : ∀ {p t : Nat} {cs : Array Value}, Blk w8 p t cs → p ≠ gT → p ≠ gT + 1 → Blk ((((w8.setCell ⟨gT, 0, none⟩ (.slice A8 (bg.length + 1) c8)).setCell ⟨gT, 1, none⟩ (.int .i64 (max (c.d + qf) r.f + r.l))).setCell ⟨gT + 1, 0, none⟩ (.int .i64 r.x)).setCell ⟨gT + 1, 1, none⟩ (.int .i64 r.y)).drew p t cs := by
                intro p t cs hb h1 h2
                exact (show Blk (World.drew _) _ _ _ from (((hb.far (p := ⟨gT, 0, none⟩) h1 (.slice A8 (bg.length + 1) c8)).far (p := ⟨gT, 1, none⟩) h1 (.int .i64 (max (c.d + qf) r.f + r.l))).far (p := ⟨gT + 1, 0, none⟩) h2 (.int .i64 r.x)).far (p := ⟨gT + 1, 1, none⟩) h2 (.int .i64 r.y))
              have hT9 : Blk ((((w8.setCell ⟨gT, 0, none⟩ (.slice A8 (bg.length + 1) c8)).setCell ⟨gT, 1, none⟩ (.int .i64 (max (c.d + qf) r.f + r.l))).setCell ⟨gT + 1, 0, none⟩ (.int .i64 r.x)).setCell ⟨gT + 1, 1, none⟩ (.int .i64 r.y)).drew gT 50 #[.slice A8 (bg.length + 1) c8, .int .i64 (max (c.d + qf) r.f + r.l), .int .i64 (c.way + qf), .int .i64 (c.wt + (max (c.d + qf) r.f - c.d - qf))] :=
                (show Blk (World.drew _) _ _ _ from (((((hTb _ hg8).set_ 0 (.slice A8 (bg.length + 1) c8)).set_ 1 (.int .i64 (max (c.d + qf) r.f + r.l))).far (p := ⟨gT + 1, 0, none⟩) (by simp) (.int .i64 r.x)).far (p := ⟨gT + 1, 1, none⟩) (by simp) (.int .i64 r.y)))
              have hS9 : Blk ((((w8.setCell ⟨gT, 0, none⟩ (.slice A8 (bg.length + 1) c8)).setCell ⟨gT, 1, none⟩ (.int .i64 (max (c.d + qf) r.f + r.l))).setCell ⟨gT + 1, 0, none⟩ (.int .i64 r.x)).setCell ⟨gT + 1, 1, none⟩ (.int .i64 r.y)).drew (gT + 1) 30 #[.int .i64 r.x, .int .i64 r.y] :=
                (show Blk (World.drew _) _ _ _ from (((((hSb _ hg8).far (p := ⟨gT, 0, none⟩) (by simp) (.slice A8 (bg.length + 1) c8)).far (p := ⟨gT, 1, none⟩) (by simp) (.int .i64 (max (c.d + qf) r.f + r.l))).set_ 0 (.int .i64 r.x)).set_ 1 (.int .i64 r.y)))
              have hgs1 := grown_set (grown_set (World.grownBy.refl w8 (some gT)) (p := ⟨gT, 0, none⟩) (.inr rfl) (.slice A8 (bg.length + 1) c8)) (p := ⟨gT, 1, none⟩) (.inr rfl) (.int .i64 (max (c.d + qf) r.f + r.l))
              have hO9 := hown8.kept hgs1 (own_ne hown8 (by omega))
              have hgs2 := grown_drew (grown_set (grown_set (World.grownBy.refl ((w8.setCell ⟨gT, 0, none⟩ (.slice A8 (bg.length + 1) c8)).setCell ⟨gT, 1, none⟩ (.int .i64 (max (c.d + qf) r.f + r.l))) (some (gT + 1))) (p := ⟨gT + 1, 0, none⟩) (.inr rfl) (.int .i64 r.x)) (p := ⟨gT + 1, 1, none⟩) (.inr rfl) (.int .i64 r.y))
              have hO10 := hO9.kept hgs2 (own_ne hO9 (by omega))
              have hgW := HW.out.2.2.1
              have hg9 : w.grownBy ((((w8.setCell ⟨gT, 0, none⟩ (.slice A8 (bg.length + 1) c8)).setCell ⟨gT, 1, none⟩ (.int .i64 (max (c.d + qf) r.f + r.l))).setCell ⟨gT + 1, 0, none⟩ (.int .i64 r.x)).setCell ⟨gT + 1, 1, none⟩ (.int .i64 r.y)).drew none := grown_drew (grown_set (grown_set (grown_set (grown_set (hgb _ hg8) (p := ⟨gT, 0, none⟩) (.inl (by simp; omega)) (.slice A8 (bg.length + 1) c8)) (p := ⟨gT, 1, none⟩) (.inl (by simp; omega)) (.int .i64 (max (c.d + qf) r.f + r.l))) (p := ⟨gT + 1, 0, none⟩) (.inl (by simp; omega)) (.int .i64 r.x)) (p := ⟨gT + 1, 1, none⟩) (.inl (by simp; omega)) (.int .i64 r.y))
              refine ⟨q + 1, X, bg ++ [max (c.d + qf) r.f], .slice A8 (bg.length + 1) c8, by omega, by go_num, by rw [List.length_append, HQ.out.2.1]; rfl, ?_, hcb2, hfar4 (hHb _ hg8) (by omega) (by omega), hfar4 (hRb _ hg8) (by omega) (by omega), ?_, ?_, ?_, hg9⟩
              · rw [hbq] at hstep
                rw [← hstep]
                exact HQ.out.2.2.1
              · rw [hXf]; exact hT9
              · rw [hXf]; exact hS9
              · simpa using hO10
        · obtain rfl : q = j := by omega
          have hsome : driveM hx hy V st o = some (trOf hx hy (c, bg)) := by
            unfold driveM
            rw [← hdr, List.drop_of_length_le (by rw [HW.out.2.2.2.2.2.2]; exact Nat.le_refl _)]
            rfl
          have hE0 : E = 0 := by have := HI.out.2; rw [if_neg (by rw [hsome]; simp)] at this; exact this.symm
          have hTT : T = trOf hx hy (c, bg) := by have := HW.out.2.2.2.2.1; rw [if_neg (by rw [hE0]; decide), hsome] at this; exact this.symm
          unfold trOf at hTT
          simp only at hTT
          have hfar := fun wx => farOf_ok c.x c.y hx hy wx hcb.1 HV.out.2.1
          have hfi := farN_in hcb.1 HV.out.2.1
          obtain ⟨qf, hqf⟩ : ∃ qf, farN c.x c.y hx hy = qf := ⟨_, rfl⟩
          rw [hqf] at hfar hfi hTT
          subst hE0 hTT
          obtain ⟨i1, i2, i3, i4⟩ := hcb
          obtain ⟨s0, s1, _, _⟩ := hS.two
          obtain ⟨y0, y1, _, _⟩ := hH.two
          have HX := Lib.hid (And.intro hfar (And.intro hR (And.intro hT (And.intro hO hg))))
          have hvb := hO.lt
          clear hfar hR hT hO hg hS hH hqf hdr hsome hq i1
          go_wp2_with fail
          refine (HX.out.1 wr).mono ?_
          clear s0 s1 y0 y1
          rintro e w7 ⟨rfl, hg7⟩
          obtain ⟨_, hR, hT, hO, hg⟩ := HX.out
          have hR7 := hR.grown hg7 (by simp)
          have hT7 := hT.grown hg7 (by simp)
          have hO7 := hO.kept hg7 (by cases vb.ownBlock with | none => exact .inl rfl | some g => exact .inr (by simp))
          have hgw7 := hg.trans hg7
          obtain ⟨A8, c8, rfl, _, _, _, hA8⟩ := Rd.of_own hO7
          obtain ⟨⟨t0, t1, t2, t3⟩, tf0, tf1, tf2, tf3⟩ := four_ hT7
          obtain ⟨⟨q0, q1, q2, q3⟩, fz0, fz1, fz2, fz3⟩ := four_ hR7
          have hTR : gT ≠ g + 1 := by omega
          have hRT : g + 1 ≠ gT := by omega
          have HY := Lib.hid (And.intro hR7 (And.intro hO7 hgw7))
          clear hR hT hO hg hg7 hR7 hT7 hO7 hgw7
          go_wp2_with fail
          have hgW := HW.out.2.2.1
          have hR8 := (HY.out.1.far (p := ⟨gT, 2, none⟩) hRT (.int .i64 (c.way + qf))).far (p := ⟨gT, 1, none⟩) hRT (.int .i64 (c.d + qf))
          have hgs1 := grown_set (grown_set (World.grownBy.refl w7 (some gT)) (p := ⟨gT, 2, none⟩) (.inr rfl) (.int .i64 (c.way + qf))) (p := ⟨gT, 1, none⟩) (.inr rfl) (.int .i64 (c.d + qf))
          have hO8 := HY.out.2.1.kept hgs1 (own_ne HY.out.2.1 (by omega))
          have hgs2 := grown_set (grown_set (grown_set (grown_set (World.grownBy.refl ((w7.setCell ⟨gT, 2, none⟩ (.int .i64 (c.way + qf))).setCell ⟨gT, 1, none⟩ (.int .i64 (c.d + qf))) (some (g + 1))) (p := ⟨g + 1, 0, none⟩) (.inr rfl) (.slice A8 q c8)) (p := ⟨g + 1, 1, none⟩) (.inr rfl) (.int .i64 (c.d + qf))) (p := ⟨g + 1, 2, none⟩) (.inr rfl) (.int .i64 (c.way + qf))) (p := ⟨g + 1, 3, none⟩) (.inr rfl) (.int .i64 c.wt)
          have hO9 := hO8.kept (row := some (g + 1)) (by rw [hlb] at *; exact hgs2) (own_ne hO8 (by omega))
          refine bodyPost_ret (results_row_tmp rfl _ _ (g + 1) _ _ _ _ rfl ((((hR8.set_ 0 (.slice A8 q c8)).set_ 1 (.int .i64 (c.d + qf))).set_ 2 (.int .i64 (c.way + qf))).set_ 3 (.int .i64 c.wt)) Tryd.underlying50 rfl (by kernel_rfl)) rfl ?_
          refine ⟨⟨_, rfl, ?_⟩, grown_set (grown_set (grown_set (grown_set (grown_set (grown_set HY.out.2.2 (p := ⟨gT, 2, none⟩) (.inl (by simp; omega)) _) (p := ⟨gT, 1, none⟩) (.inl (by simp; omega)) _) (p := ⟨g + 1, 0, none⟩) (.inl (by simp; omega)) _) (p := ⟨g + 1, 1, none⟩) (.inl (by simp; omega)) _) (p := ⟨g + 1, 2, none⟩) (.inl (by simp; omega)) _) (p := ⟨g + 1, 3, none⟩) (.inl (by simp; omega)) _⟩
          have hO10 := own_mono (base' := w.heap.size) hO9 (by omega)
          simpa [hlb] using hO10

end Go.Proofs.YtcipidfbclohoaaDoor
