/- The walk of coilref.StopsFault. -/
import Derived.Test.YtcipidfbclohoaaDoorStpP
import Derived.Test.YtcipidfbclohoaaDoorStpF
import Derived.Test.YtcipidfbclohoaaDoorWin
import Derived.Test.YtcipidfbclohoaaDoorKeyR
import Derived.Test.YtcipidfbclohoaaDoorFarR
namespace Go.Proofs.YtcipidfbclohoaaDoor
open Go.RowKit

set_option maxHeartbeats 1000000 in
theorem refStopKey_any (B : Nat) (k : ByteArray) (r : St) (w : World) (hc : w.cell? ⟨B, 0, none⟩ = some (.string k)) :
    Calls Tryd.prog 64 #[.agg #[.string r.k, .int .i64 r.x, .int .i64 r.y, .int .i64 r.f, .int .i64 r.t, .int .i64 r.l], .pointer (some ⟨B, 0, none⟩)] w fun e w' => e = .returned (.bool (r.k.toList == k.toList)) ∧ w.grownBy w' none := by
  have hg := grown_alloc (grown_refl w) (.cells #[.string r.k, .int .i64 r.x, .int .i64 r.y, .int .i64 r.f, .int .i64 r.t, .int .i64 r.l] 57)
  have hc1 := hg.cell (a := ⟨B, 0, none⟩) hc (by simp)
  go_enter Tryd.func64, Tryd.ntmps64
  go_wp2_with fail
  go_ret
  exact ⟨rfl, hg⟩

set_option maxRecDepth 100000 in
set_option maxHeartbeats 8000000 in
theorem stopsFault_any (A : Option Addr) (n c : Nat) (V : List St) (w : World) (hr : Rd w 6 A n (stFlat V)) (hnc : n ≤ c) :
    Calls Tryd.prog 36 #[.slice A n c] w fun e w' => e = .returned (.int .i64 (stopsF V)) ∧ w.grownBy w' none := by
  have hn : V.length = n := by have := hr.1; rw [stFlat_len] at this; omega
  by_cases h10 : 60 < n
  · have hv : stopsF V = 2 := by unfold stopsF; rw [if_pos (by omega)]
    rw [hv]
    clear hv hn hr
    go_enter Tryd.func36, Tryd.ntmps36
    go_wp2_with fail
    go_ret
    exact ⟨rfl, grown_refl w⟩
  · have h10' : n ≤ 60 := by omega
    clear h10
    have hS : StpInv V 0 := StpInv.start (by omega)
    have he : Enters Tryd.prog 64 := enters_of Tryd.func64 (by kernel_rfl) rfl
    have HL := Lib.hid (And.intro hn he)
    have HR := Lib.hid hr
    clear hn hr he
    go_enter Tryd.func36, Tryd.ntmps36
    go_wp2_with fail
    go_loopg [10] n (fun k i wr => ∃ j : Nat, k + j = n ∧ i = .int .i64 j ∧ w.grownBy wr none ∧ StpInv V j)
    case atStart => exact ⟨0, by omega, rfl, grown_refl w, hS⟩
    case round =>
      obtain ⟨j, hj, rfl, hg, H⟩ := hrel
      clear hS
      by_cases hlt : j < n
      · obtain ⟨b, off, rfl, hb, r, ht, c0, c1, c2, c3, c4, c5⟩ := st_cells (HR.out.grown hg) hlt
        have hbk := Blk.new wr 57 #[.string r.k, .int .i64 r.x, .int .i64 r.y, .int .i64 r.f, .int .i64 r.t, .int .i64 r.l]
        have hgR := grown_alloc (grown_refl wr) (.cells #[.string r.k, .int .i64 r.x, .int .i64 r.y, .int .i64 r.f, .int .i64 r.t, .int .i64 r.l] 57)
        have HB := Lib.hid (fun e h1 h0 => H.bad (e := e) ht h1 h0)
        have HG := Lib.hid (fun h1 => H.good ht h1)
        have hltI : (j : Int) < (n : Int) := by omega
        have HO := Lib.hid (And.intro hj (And.intro hg hgR))
        clear hj H ht
        go_wp2_with fail
        obtain ⟨B, hB⟩ : ∃ B, wr.heap.size = B := ⟨_, rfl⟩
        rw [hB] at hbk ⊢
        generalize wr.alloc (.cells #[.string r.k, .int .i64 r.x, .int .i64 r.y, .int .i64 r.f, .int .i64 r.t, .int .i64 r.l] 57) = wb at *
        have HBB := Lib.hid hB
        clear hB c0 c1 c2 c3 c4 c5
        by_cases h1 : keyB r.k = true
        · have HK := Lib.hid h1
          clear h1
          refine (keyOf_any _ _).mono ?_
          rw [HK.out]
          rintro e w9 ⟨rfl, hw9⟩
          have hg9 : wb.grownBy w9 none := hw9
          have hb9 := hbk.grown hg9 (by simp)
          have z0 : w9.cell? ⟨B, 0, none⟩ = some (.string r.k) := hb9.cell 0
          have hgw : w.grownBy w9 none := HO.out.2.1.trans (HO.out.2.2.trans hg9)
          obtain ⟨Aw, hsl, hrw⟩ := win_h (P := Tryd.prog) (t := 26) Tryd.underlying26 Tryd.sizeOf57 (HR.out.grown hgw) (q := j) (by omega) hnc
          rw [show (stFlat V).take (j * 6) = stFlat (V.take j) from rows_take stCells_len V j] at hrw
          have hcf := containsFuncSt_any 64 (.pointer (some ⟨B, 0, none⟩)) (fun y => y.k.toList == r.k.toList) Aw j c (V.take j) w9 hrw (by omega) HL.out.2 (fun y w1 _ hgy => refStopKey_any B r.k y w1 (hgy.cell (a := ⟨B, 0, none⟩) z0 (by simp)))
          have HC := Lib.hid hcf
          have HW := Lib.hid hgw
          clear hcf hgw hw9 hrw z0
          have hslw := hsl w9
          go_wp2_with fail
          by_cases h2 : (V.take j).any (fun y => y.k.toList == r.k.toList) = true
          · have HV := Lib.hid (HB.out 6 (by unfold stpC; rw [if_neg (by simp [HK.out]), if_pos h2]) (by decide))
            have H2 := Lib.hid h2
            clear h2
            refine HC.out.mono ?_
            rw [H2.out]
            rintro e wC ⟨rfl, hgC⟩
            go_wp2_with fail
            go_ret
            exact ⟨retI HV.out.symm, HW.out.trans hgC⟩
          · have h2' : (V.take j).any (fun y => y.k.toList == r.k.toList) = false := by simpa using h2
            have H2 := Lib.hid h2'
            clear h2 h2'
            refine HC.out.mono ?_
            rw [H2.out]
            rintro e wC ⟨rfl, hgC⟩
            have hbC := hb9.grown hgC (by simp)
            have z0 : wC.cell? ⟨B, 0, none⟩ = some (.string r.k) := hbC.cell 0
            have z1 : wC.cell? ⟨B, 1, none⟩ = some (.int .i64 r.x) := hbC.cell 1
            have z2 : wC.cell? ⟨B, 2, none⟩ = some (.int .i64 r.y) := hbC.cell 2
            have z3 : wC.cell? ⟨B, 3, none⟩ = some (.int .i64 r.f) := hbC.cell 3
            have z4 : wC.cell? ⟨B, 4, none⟩ = some (.int .i64 r.t) := hbC.cell 4
            have z5 : wC.cell? ⟨B, 5, none⟩ = some (.int .i64 r.l) := hbC.cell 5
            have hgw := HW.out.trans hgC
            clear hb9 hbk hgC
            by_cases h3 : spB r.x r.y = true
            · have H3 := Lib.hid h3
              clear h3
              go_wp2_with fail
              refine (spotRight_any r.x r.y _).mono ?_
              rw [H3.out]
              rintro e wD ⟨rfl, hgD⟩
              have hbD := hbC.grown hgD (by simp)
              have hgw2 := hgw.trans hgD
              clear hbC hgD hgw z0 z1 z2 z3 z4 z5
              have z0 : wD.cell? ⟨B, 0, none⟩ = some (.string r.k) := hbD.cell 0
              have z1 : wD.cell? ⟨B, 1, none⟩ = some (.int .i64 r.x) := hbD.cell 1
              have z2 : wD.cell? ⟨B, 2, none⟩ = some (.int .i64 r.y) := hbD.cell 2
              have z3 : wD.cell? ⟨B, 3, none⟩ = some (.int .i64 r.f) := hbD.cell 3
              have z4 : wD.cell? ⟨B, 4, none⟩ = some (.int .i64 r.t) := hbD.cell 4
              have z5 : wD.cell? ⟨B, 5, none⟩ = some (.int .i64 r.l) := hbD.cell 5
              have hc6 : (stpC (V.take j) r = 0 ∧ (0 ≤ r.f ∧ r.f ≤ r.t) ∧ r.t ≤ 1440 ∧ (0 ≤ r.l ∧ r.l ≤ 1440)) ∨ (stpC (V.take j) r = 1 ∧ ¬ ((0 ≤ r.f ∧ r.f ≤ r.t) ∧ r.t ≤ 1440 ∧ (0 ≤ r.l ∧ r.l ≤ 1440))) := by
                unfold stpC
                rw [if_neg (by simp [HK.out]), if_neg (by rw [H2.out]; simp), if_neg (by simp [H3.out])]
                by_cases a4 : btw r.f 0 r.t = true
                · rw [if_neg (by simp [a4])]
                  by_cases a5 : 1440 < r.t
                  · rw [if_pos a5]; exact .inr ⟨rfl, by omega⟩
                  · rw [if_neg a5]
                    by_cases a6 : btw r.l 0 1440 = true
                    · rw [if_neg (by simp [a6])]; exact .inl ⟨rfl, btw_true.1 a4, by omega, btw_true.1 a6⟩
                    · rw [if_pos (by simpa using a6)]; exact .inr ⟨rfl, fun h => a6 (btw_true.2 h.2.2)⟩
                · rw [if_pos (by simpa using a4)]; exact .inr ⟨rfl, fun h => a4 (btw_true.2 h.1)⟩
              rcases hc6 with ⟨hc, h4, h5, h6⟩ | ⟨hc, hx⟩
              · have HV := Lib.hid (HG.out hc)
                have d1 : decide (r.f < 0) = false := by simp; omega
                have d2 : decide (r.t < r.f) = false := by simp; omega
                have d3 : decide ((1440 : Int) < r.t) = false := by simp; omega
                have d4 : decide (r.l < 0) = false := by simp; omega
                have d5 : decide ((1440 : Int) < r.l) = false := by simp; omega
                clear hc
                go_wp2_with fail
                have hj := HO.out.1
                go_roundg (gk - 1)
                case measure => omega
                case rel => exact ⟨j + 1, by omega, by go_num, hgw2, HV.out⟩
              · have HV := Lib.hid (HB.out 1 hc (by decide))
                clear hc
                have hor : r.f < 0 ∨ (0 ≤ r.f ∧ (r.t < r.f ∨ (r.f ≤ r.t ∧ (1440 < r.t ∨ (r.t ≤ 1440 ∧ (r.l < 0 ∨ (0 ≤ r.l ∧ 1440 < r.l))))))) := by omega
                clear hx
                rcases hor with e1 | ⟨g1, e2 | ⟨g2, e3 | ⟨g3, e4 | ⟨g4, e5⟩⟩⟩⟩
                · have d1 : decide (r.f < 0) = true := by simp; omega
                  go_wp2_with fail
                  go_ret
                  exact ⟨retI HV.out.symm, hgw2⟩
                · have d1 : decide (r.f < 0) = false := by simp; omega
                  have d2 : decide (r.t < r.f) = true := by simp; omega
                  go_wp2_with fail
                  go_ret
                  exact ⟨retI HV.out.symm, hgw2⟩
                · have d1 : decide (r.f < 0) = false := by simp; omega
                  have d2 : decide (r.t < r.f) = false := by simp; omega
                  have d3 : decide ((1440 : Int) < r.t) = true := by simp; omega
                  go_wp2_with fail
                  go_ret
                  exact ⟨retI HV.out.symm, hgw2⟩
                · have d1 : decide (r.f < 0) = false := by simp; omega
                  have d2 : decide (r.t < r.f) = false := by simp; omega
                  have d3 : decide ((1440 : Int) < r.t) = false := by simp; omega
                  have d4 : decide (r.l < 0) = true := by simp; omega
                  go_wp2_with fail
                  go_ret
                  exact ⟨retI HV.out.symm, hgw2⟩
                · have d1 : decide (r.f < 0) = false := by simp; omega
                  have d2 : decide (r.t < r.f) = false := by simp; omega
                  have d3 : decide ((1440 : Int) < r.t) = false := by simp; omega
                  have d4 : decide (r.l < 0) = false := by simp; omega
                  have d5 : decide ((1440 : Int) < r.l) = true := by simp; omega
                  go_wp2_with fail
                  go_ret
                  exact ⟨retI HV.out.symm, hgw2⟩
            · have h3' : spB r.x r.y = false := by simpa using h3
              have HV := Lib.hid (HB.out 1 (by unfold stpC; rw [if_neg (by simp [HK.out]), if_neg (by rw [H2.out]; simp), if_pos h3']) (by decide))
              have H3 := Lib.hid h3'
              clear h3 h3'
              go_wp2_with fail
              refine (spotRight_any r.x r.y _).mono ?_
              rw [H3.out]
              rintro e wD ⟨rfl, hgD⟩
              go_wp2_with fail
              go_ret
              exact ⟨retI HV.out.symm, hgw.trans hgD⟩
        · have h1' : keyB r.k = false := by simpa using h1
          have HK := Lib.hid h1'
          have HV := Lib.hid (HB.out 5 (by unfold stpC; rw [if_pos h1']) (by decide))
          clear h1 h1'
          refine (keyOf_any _ _).mono ?_
          rw [HK.out]
          rintro e w9 ⟨rfl, hw9⟩
          have hg9 : wb.grownBy w9 none := hw9
          clear hw9
          go_wp2_with fail
          go_ret
          exact ⟨retI HV.out.symm, HO.out.2.1.trans (HO.out.2.2.trans hg9)⟩
      · obtain rfl : j = n := by omega
        have HV := Lib.hid (H.done HL.out.1.symm)
        clear H
        go_wp2_with fail
        go_ret
        exact ⟨retI HV.out.symm, hg⟩

      end Go.Proofs.YtcipidfbclohoaaDoor
