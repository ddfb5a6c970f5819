/- The walk of the reference's LiftOf. -/
import Derived.Test.YtkfijicmeekmiaaLift
namespace Go.Proofs.Ytkfijicmeekmiaa
open Go.RowKit

set_option maxRecDepth 100000 in
set_option maxHeartbeats 1000000 in
theorem refLift_ok (A : Option Addr) (n c : Nat) (l : List Sal) (F T : Int) (w : World) (hr : Rd w 3 A n (salFlat l)) (hn : n ≤ 400) (hf : dayFault l = 0) :
    Calls Try.prog 33 #[.slice A n c, .agg #[.int .i64 F, .int .i64 T]] w fun e w' => e = .returned (liftV l F T) ∧ w.grownBy w' none := by
  obtain ⟨hl400, hok⟩ := days_ok hf
  obtain ⟨hBw, hBr, hg0⟩ := lift_boxes w F T
  obtain ⟨e0, e1, _, _⟩ := hBw.two
  obtain ⟨r0, r1, f0, f1⟩ := hBr.two
  obtain ⟨V, hV⟩ : ∃ V, V = liftV l F T := ⟨_, rfl⟩
  rw [← hV]
  unfold liftV at hV
  have hbt : btw F 0 T = false ↔ (F < 0 ∨ T < F) := by simp only [btw, Bool.and_eq_false_iff, decide_eq_false_iff_not]; omega
  simp only [hbt] at hV
  have HC := Lib.hid (And.intro hok hV)
  clear hok hV hf hbt
  by_cases hF0 : F < 0
  · have HE : Hid ((F < 0 ∨ T < F) ∨ 4001 < T) := Lib.hid (by omega)
    go_enter Try.func33, Try.ntmps33
    go_wp2_with fail
    refine bodyPost_ret (results_row_tmp rfl _ _ (w.heap.size + 1) _ _ _ _ rfl hBr Try.underlying31 rfl (by kernel_rfl)) rfl ?_
    refine ⟨?_, hg0⟩
    rw [HC.out.2, if_pos HE.out]
    rfl
  · by_cases hFT : T < F
    · have HE : Hid ((F < 0 ∨ T < F) ∨ 4001 < T) := Lib.hid (by omega)
      go_enter Try.func33, Try.ntmps33
      go_wp2_with fail
      refine bodyPost_ret (results_row_tmp rfl _ _ (w.heap.size + 1) _ _ _ _ rfl hBr Try.underlying31 rfl (by kernel_rfl)) rfl ?_
      refine ⟨?_, hg0⟩
      rw [HC.out.2, if_pos HE.out]
      rfl
    · by_cases hT : 4001 < T
      · have HE : Hid ((F < 0 ∨ T < F) ∨ 4001 < T) := Lib.hid (by omega)
        go_enter Try.func33, Try.ntmps33
        go_wp2_with fail
        refine bodyPost_ret (results_row_tmp rfl _ _ (w.heap.size + 1) _ _ _ _ rfl hBr Try.underlying31 rfl (by kernel_rfl)) rfl ?_
        refine ⟨?_, hg0⟩
        rw [HC.out.2, if_pos HE.out]
        rfl
      · have hV2 := HC.out.2
        rw [if_neg (by omega)] at hV2
        have HV := Lib.hid hV2
        clear hV2
        have hsf := store_new (P := Try.prog) ((w.alloc (.cells #[.int .i64 F, .int .i64 T] 47)).alloc (.cells #[.int .i64 0, .int .i64 0] 31)) .nilFunc (.func (.func 87) #[] #[.pointer (some ⟨w.heap.size, 0, none⟩)]) 90 rfl
        have hz0 : ((w.alloc (.cells #[.int .i64 F, .int .i64 T] 47)).alloc (.cells #[.int .i64 0, .int .i64 0] 31)).heap.size = w.heap.size + 1 + 1 := by simp
        rw [hz0] at hsf
        have hCn := Blk.new ((w.alloc (.cells #[.int .i64 F, .int .i64 T] 47)).alloc (.cells #[.int .i64 0, .int .i64 0] 31)) 90 #[.func (.func 87) #[] #[.pointer (some ⟨w.heap.size, 0, none⟩)]]
        rw [hz0] at hCn
        have c0 := hCn.cell 0
        simp only [List.getElem?_toArray, List.getElem?_cons_zero] at c0
        go_enter Try.func33, Try.ntmps33
        go_wp2_with fail
        have hgC := grown_alloc hg0 (.cells #[.func (.func 87) #[] #[.pointer (some ⟨w.heap.size, 0, none⟩)]] 90)
        have hg1C := grown_alloc (grown_refl ((w.alloc (.cells #[.int .i64 F, .int .i64 T] 47)).alloc (.cells #[.int .i64 0, .int .i64 0] 31))) (.cells #[.func (.func 87) #[] #[.pointer (some ⟨w.heap.size, 0, none⟩)]] 90)
        have hBwC := hBw.grown hg1C (by simp)
        have hBrC := hBr.grown hg1C (by simp)
        generalize ((w.alloc (.cells #[.int .i64 F, .int .i64 T] 47)).alloc (.cells #[.int .i64 0, .int .i64 0] 31)).alloc (.cells #[.func (.func 87) #[] #[.pointer (some ⟨w.heap.size, 0, none⟩)]] 90) = wC at *
        have hb := fun t ht => (HC.out.1 t ht).2
        have hmA := rateOf1_any 87 (.pointer (some ⟨w.heap.size, 0, none⟩)) (inB F T) A n c l wC (hr.grown hgC) hn hb
          (enters_of Try.func87 (by kernel_rfl) rfl) (fun x w9 hw9 => refLift1_any F T w.heap.size x w9 (hw9.cell (hBwC.cell 0) (by simp)) (hw9.cell (hBwC.cell 1) (by simp)))
        have hmO := fun w5 (hg5 : wC.grownBy w5 none) => rateOf1_any 88 (.pointer (some ⟨w.heap.size + 1 + 1, 0, none⟩)) (fun t => !inB F T t) A n c l w5 ((hr.grown hgC).grown hg5) hn hb
          (enters_of Try.func88 (by kernel_rfl) rfl) (fun x w9 hw9 => refLift2_any F T w.heap.size (w.heap.size + 1 + 1) x w9 ((hg5.trans hw9).cell (hBwC.cell 0) (by simp)) ((hg5.trans hw9).cell (hBwC.cell 1) (by simp)) ((hg5.trans hw9).cell (hCn.cell 0) (by simp)))
        rw [show (fun t : Sal => !t.o && inB F T t) = lfA F T from rfl] at hmA
        rw [show (fun t : Sal => !t.o && !inB F T t) = lfO F T from rfl] at hmO
        have hbA := mean_bound (p := lfA F T) hb hl400
        have hbO := mean_bound (p := lfO F T) hb hl400
        unfold meanV frac at hmA hmO
        unfold frac at HV
        generalize meanN (lfA F T) l = nA at *
        generalize meanD (lfA F T) l = dA at *
        generalize meanN (lfO F T) l = nO at *
        generalize meanD (lfO F T) l = dO at *
        generalize cntP (lfA F T) l = qA at *
        generalize cntP (lfO F T) l = qO at *
        have HM := Lib.hid (And.intro hmA (And.intro hmO (And.intro hbA hbO)))
        clear hmA hmO hbA hbO hsf hBw hBr hg1C hg0 e0 e1 r0 r1 f0 f1 c0 hz0
        refine HM.out.1.mono ?_
        rintro e w4 ⟨rfl, hg4⟩
        have hg4' := grown_alloc hg4 (.cells #[.int .i64 nA, .int .i64 dA] 31)
        have hB4 := Blk.new w4 31 #[.int .i64 nA, .int .i64 dA]
        go_wp2_with fail
        refine (HM.out.2.1 _ hg4').mono ?_
        rintro e w5 ⟨rfl, hg5⟩
        have hg5' := grown_alloc hg5 (.cells #[.int .i64 nO, .int .i64 dO] 31)
        have hB5 := Blk.new w5 31 #[.int .i64 nO, .int .i64 dO]
        have hB45 := hB4.grown hg5' (by simp)
        have hBr5 := hBrC.grown (hg4'.trans hg5') (by simp)
        have hgW := hgC.trans (hg4'.trans hg5')
        clear hg4 hg5 hB4 hg4' hg5' hBrC hBwC hCn
        obtain ⟨a0, a1, _, _⟩ := hB45.two
        obtain ⟨o0, o1, _, _⟩ := hB5.two
        obtain ⟨r0, r1, f0, f1⟩ := hBr5.two
        by_cases hA : qA = 0
        · have HE : Hid (qA = 0 ∨ qO = 0 ∨ nO = 0) := Lib.hid (.inl hA)
          have hd : decide (qA ≠ 0) = false := by simp [hA]
          go_wp2_with fail
          refine bodyPost_ret (results_row_tmp rfl _ _ (w.heap.size + 1) _ _ _ _ rfl ((hBr5.set_ 0 (.int .i64 0)).set_ 1 (.int .i64 0)) Try.underlying31 rfl (by kernel_rfl)) rfl ?_
          refine ⟨?_, grown_set (p := ⟨w.heap.size + 1, 1, none⟩) (grown_set (p := ⟨w.heap.size + 1, 0, none⟩) hgW (.inl (by simp)) _) (.inl (by simp)) _⟩
          rw [HV.out, if_pos HE.out]
          rfl
        · by_cases hO : qO = 0
          · have HE : Hid (qA = 0 ∨ qO = 0 ∨ nO = 0) := Lib.hid (.inr (.inl hO))
            go_wp2_with fail
            refine bodyPost_ret (results_row_tmp rfl _ _ (w.heap.size + 1) _ _ _ _ rfl ((hBr5.set_ 0 (.int .i64 0)).set_ 1 (.int .i64 0)) Try.underlying31 rfl (by kernel_rfl)) rfl ?_
            refine ⟨?_, grown_set (p := ⟨w.heap.size + 1, 1, none⟩) (grown_set (p := ⟨w.heap.size + 1, 0, none⟩) hgW (.inl (by simp)) _) (.inl (by simp)) _⟩
            rw [HV.out, if_pos HE.out]
            rfl
          · by_cases hn0 : nO = 0
            · have HE : Hid (qA = 0 ∨ qO = 0 ∨ nO = 0) := Lib.hid (.inr (.inr hn0))
              subst hn0
              go_wp2_with fail
              refine bodyPost_ret (results_row_tmp rfl _ _ (w.heap.size + 1) _ _ _ _ rfl ((hBr5.set_ 0 (.int .i64 0)).set_ 1 (.int .i64 0)) Try.underlying31 rfl (by kernel_rfl)) rfl ?_
              refine ⟨?_, grown_set (p := ⟨w.heap.size + 1, 1, none⟩) (grown_set (p := ⟨w.heap.size + 1, 0, none⟩) hgW (.inl (by simp)) _) (.inl (by simp)) _⟩
              rw [HV.out, if_pos HE.out]
              rfl
            · have hne : (nO == 0) = false := by rw [beq_eq_false_iff_ne]; exact hn0
              have HE : Hid (¬ (qA = 0 ∨ qO = 0 ∨ nO = 0)) := Lib.hid (by omega)
              obtain ⟨x0, x1, x2, x3⟩ := HM.out.2.2.1 hA
              obtain ⟨u0, u1, u2, u3⟩ := HM.out.2.2.2 hO
              have m0 : 0 ≤ nA * dO := Int.mul_nonneg x2 (by omega)
              have m1 : nA * dO ≤ 1000000 * 1000000 := Int.mul_le_mul x3 u1 (by omega) (by omega)
              have m2 : 0 < dA * nO := Int.mul_pos x0 (by omega)
              have m3 : dA * nO ≤ 1000000 * 1000000 := Int.mul_le_mul x1 u3 (by omega) (by omega)
              have hov := fun w => refPart_any (nA * dO) (dA * nO) w (by omega) (by omega) m2 (by omega)
              have hVV := HV.out
              rw [if_neg HE.out] at hVV
              unfold frac at hov
              generalize lowN (nA * dO) (dA * nO) = y1 at *
              generalize lowD (nA * dO) (dA * nO) = y2 at *
              have HOV := Lib.hid hov
              have HW := Lib.hid hVV
              clear hov hVV
              go_wp2_with fail
              refine (HOV.out _).mono ?_
              rintro e w6 ⟨rfl, hg6⟩
              have hBr6 := hBr5.grown hg6 (by simp)
              obtain ⟨r0, r1, f0, f1⟩ := hBr6.two
              go_wp2_with fail
              refine bodyPost_ret (results_row_tmp rfl _ _ (w.heap.size + 1) _ _ _ _ rfl ((hBr6.set_ 0 (.int .i64 y1)).set_ 1 (.int .i64 y2)) Try.underlying31 rfl (by kernel_rfl)) rfl ?_
              refine ⟨?_, grown_set (p := ⟨w.heap.size + 1, 1, none⟩) (grown_set (p := ⟨w.heap.size + 1, 0, none⟩) (hgW.trans hg6) (.inl (by simp)) _) (.inl (by simp)) _⟩
              rw [HW.out]
              rfl

end Go.Proofs.Ytkfijicmeekmiaa
