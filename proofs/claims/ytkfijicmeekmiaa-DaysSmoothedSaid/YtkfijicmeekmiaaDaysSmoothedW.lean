/- The walk of the law DaysSmoothed. -/
import Derived.Test.YtkfijicmeekmiaaSmooth
import Derived.Test.YtkfijicmeekmiaaLiftR
import Derived.Test.YtkfijicmeekmiaaGuess
import Derived.Test.YtkfijicmeekmiaaEqF
import Derived.Test.YtkfijicmeekmiaaDays
import Derived.Test.YtkfijicmeekmiaaNumbs
import Derived.Test.YtkfijicmeekmiaaIn
namespace Go.Proofs.Ytkfijicmeekmiaa
open Go.RowKit

theorem liftV_form (l : List Sal) (F T : Int) : ∃ a b c : Int, liftV l F T = .tuple #[.agg #[.int .i64 a, .int .i64 b], .int .i64 c] := by
  unfold liftV frac
  split
  · exact ⟨_, _, _, rfl⟩
  · split <;> exact ⟨_, _, _, rfl⟩
theorem errV_form (l : List Sal) (g : List Int) : ∃ a b c : Int, errV l g = .tuple #[.agg #[.int .i64 a, .int .i64 b], .int .i64 c] := by
  unfold errV frac
  split
  · exact ⟨_, _, _, rfl⟩
  · split <;> exact ⟨_, _, _, rfl⟩

set_option maxRecDepth 100000 in
set_option maxHeartbeats 1600000 in
theorem daysSmoothed_walk (a0 : Option Addr) (len0 cap0 : Nat) (z0 : List Int) (w : World) (w0 : InRow w a0 len0 cap0 z0) :
    Calls Try.prog 4 #[.slice a0 len0 cap0] w fun e w' => e = .returned (.bool true) ∧ w.grownBy w' none := by
  obtain ⟨hlen, hs0⟩ := str_start w0
  have hg0 : w.grownBy (w.alloc (.cells #[.slice a0 len0 cap0, .int .i64 0] 25)) none := grown_alloc (grown_refl w) _
  have hz0 : (w.alloc (.cells #[.slice a0 len0 cap0, .int .i64 0] 25)).heap.size = w.heap.size + 1 := by simp
  clear hlen w0
  generalize z0.take len0 = L at *
  go_enter Try.func4, Try.ntmps4
  go_wp2_with fail
  generalize w.alloc (.cells #[.slice a0 len0 cap0, .int .i64 0] 25) = wA at *
  obtain ⟨bs, hbs⟩ : ∃ bs, bs = w.heap.size := ⟨_, rfl⟩
  rw [← hbs] at hs0 hz0 ⊢
  have HZ := Lib.hid (And.intro hz0 hbs)
  clear hz0 hbs
  refine (days_any bs L 0 _ hs0 (by omega)).mono ?_
  rintro e w1 ⟨vT, rfl, hown1, hs1, hg1⟩
  obtain ⟨hT1, hT2⟩ := daysM_bound L 0
  generalize (daysM L 0).2 = T at *
  generalize (daysM L 0).1 = t1 at *
  obtain ⟨AT, cT, rfl, hnc, hcm, hrT1, hbT⟩ := Rd.of_own hown1
  have hbs1 := hs1.lt
  have hfar : ∀ a, AT = some a → some a.block ≠ some bs := fun a ha => by have := hbT a ha; have := HZ.out.1; have := HZ.out.2; simp; omega
  have hg12 := hg1
  have hn : T.length ≤ 400 := by omega
  clear hbT hs0 hown1
  go_wp2_with fail
  refine (pick_lit bs L _ [0, 1, 3, -1] _ hs1 (by omega) (by decide) (by decide) 3).mono ?_
  rintro e w2 ⟨rfl, hs2, hg2⟩
  go_wp2_with fail
  refine (pick_lit bs L _ [1, 2, 7, 0, 1001] _ hs2 (by omega) (by decide) (by decide) 3).mono ?_
  rintro e w3 ⟨rfl, hs3, hg3⟩
  go_wp2_with fail
  refine (pick_lit bs L _ [0, 2, 5, -1] _ hs3 (by omega) (by decide) (by decide) 3).mono ?_
  rintro e w4 ⟨rfl, hs4, hg4⟩
  go_wp2_with fail
  refine (pick_lit bs L _ [4, 8, 2, 4001, 4002] _ hs4 (by omega) (by decide) (by decide) 3).mono ?_
  rintro e w5 ⟨rfl, hs5, hg5⟩
  generalize pk L t1 [0, 1, 3, -1] = num at *
  generalize pk L (t1 + 1) [1, 2, 7, 0, 1001] = den at *
  generalize pk L (t1 + 1 + 1) [0, 2, 5, -1] = F at *
  generalize pk L (t1 + 1 + 1 + 1) [4, 8, 2, 4001, 4002] = To at *
  have hg15 := ((hg2.trans hg3).trans hg4).trans hg5
  have hrT5 := hrT1.grown_ hg15 hfar
  have hgA5 := hg1.trans hg15
  clear hg2 hg3 hg4 hg5 hs1 hs2 hs3 hs4 hrT1 hg12 hg1
  go_wp2_with fail
  have hBw := Blk.new w5 47 #[.int .i64 F, .int .i64 To]
  have hgw := grown_alloc (grown_refl w5) (.cells #[.int .i64 F, .int .i64 To] 47)
  have hz5 : (w5.alloc (.cells #[.int .i64 F, .int .i64 To] 47)).heap.size = w5.heap.size + 1 := by simp
  have hb5 : bs < w5.heap.size := hs5.lt
  refine (numbers_any bs L _ T.length 9 _ (hs5.grown hgw (by simp)) (by omega) (by omega) (by omega)).mono ?_
  rintro e w6 ⟨vG, rfl, hown6, hs6, hg6⟩
  obtain ⟨_, hG2⟩ := numbersM_bound L (t1 + 1 + 1 + 1 + 1) T.length 9
  generalize (numbersM L (t1 + 1 + 1 + 1 + 1) T.length 9).2 = G at *
  generalize (numbersM L (t1 + 1 + 1 + 1 + 1) T.length 9).1 = t6 at *
  obtain ⟨AG, cG, rfl, _, _, hrG6, _⟩ := Rd.of_own hown6
  have hBw6 := hBw.grown hg6 (by simp; omega)
  have hrT6 := (hrT5.grown hgw).grown_ hg6 hfar
  have hgg6 : w.grownBy w6 none := by
    have h1 := hgA5.trans ((hgw.but _).trans hg6)
    exact grown_below hg0 h1 (fun j hj => .inl (by have := HZ.out.2; cases hj; omega))
  have hGm : G.length ≤ 1000000 := by omega
  clear hs5 hs6 hown6 hg6 hBw hgw hrT5 hgA5 hg15 hg0 hfar
  obtain ⟨b0, b1, _, _⟩ := hBw6.two
  by_cases hf : dayFault T = 0
  · obtain ⟨l1, l2, l3, hL⟩ := liftV_form T F To
    obtain ⟨q1, q2, q3, hQ⟩ := errV_form T G
    have hLi := fun w1 (hr : Rd w1 3 AT T.length (salFlat T)) => lift_ok AT T.length cT T F To w1 hr hn hf
    have hLr := fun w1 (hr : Rd w1 3 AT T.length (salFlat T)) => refLift_ok AT T.length cT T F To w1 hr hn hf
    have hEr := fun w1 (hr : Rd w1 3 AT T.length (salFlat T)) (hr2 : Rd w1 1 AG G.length (ints G)) => error_ok AT AG T.length cT G.length cG T G w1 hr hn hf hr2 hGm
    have hGu := fun w1 (hr : Rd w1 3 AT T.length (salFlat T)) (hr2 : Rd w1 1 AG G.length (ints G)) => refGuess_ok AT AG T.length cT G.length cG T G w1 hr hn hf hr2 hGm
    have hDf := fun w1 (hr : Rd w1 3 AT T.length (salFlat T)) => refDaysFault_any AT T.length cT T w1 hr hn
    rw [hL] at hLi hLr
    rw [hQ] at hEr hGu
    rw [hf] at hDf
    have HC := Lib.hid (And.intro hLi (And.intro hLr (And.intro hEr (And.intro hGu (And.intro hDf hf)))))
    clear hLi hLr hEr hGu hDf hL hQ hf
    by_cases hsm : smFault T num den = 0
    · have HSM := Lib.hid hsm
      clear hsm
      go_wp2_with fail
      refine (smooth_ok AT T.length cT T num den _ hrT6 hn HC.out.2.2.2.2.2 HSM.out).mono ?_
      rintro e w7 ⟨v7, rfl, hown7, hg7⟩
      obtain ⟨A7, c7, rfl, _, _, hrd7, _⟩ := Rd.of_own hown7
      have hBw7 := hBw6.grown hg7 (by simp)
      obtain ⟨b0, b1, _, _⟩ := hBw7.two
      go_wp2_with fail
      refine (HC.out.1 _ (hrT6.grown hg7)).mono ?_
      rintro e w8 ⟨rfl, hg8⟩
      have hg8' := grown_alloc hg8 (.cells #[.int .i64 l1, .int .i64 l2] 31)
      have hB8 := Blk.new w8 31 #[.int .i64 l1, .int .i64 l2]
      have hg68 := hg7.trans hg8'
      go_wp2_with fail
      refine (HC.out.2.2.1 _ (hrT6.grown hg68) (hrG6.grown hg68)).mono ?_
      rintro e w9 ⟨rfl, hg9⟩
      have hg9' := grown_alloc hg9 (.cells #[.int .i64 q1, .int .i64 q2] 31)
      have hB9 := Blk.new w9 31 #[.int .i64 q1, .int .i64 q2]
      have hg69 := hg68.trans hg9'
      go_wp2_with fail
      refine (HC.out.2.2.2.2.1 _ (hrT6.grown hg69)).mono ?_
      rintro e w10 ⟨rfl, hg10⟩
      have hg6t := hg69.trans hg10
      go_wp2_with fail
      have hSF := fun w => refSmoothFault_any AT T.length cT T num den w rfl
      rw [HSM.out] at hSF
      refine (hSF _).mono ?_
      clear hSF
      rintro e w' ⟨rfl, rfl⟩
      go_wp2_with fail
      refine (refSmooth_ok AT T.length cT T num den _ (hrT6.grown hg6t) hnc hn HC.out.2.2.2.2.2 HSM.out).mono ?_
      rintro e w11 ⟨v11, rfl, hown11, hg11⟩
      obtain ⟨A11, c11, rfl, _, _, hrd11, _⟩ := Rd.of_own hown11
      have hn2 : T.length ≤ 1000000 := by omega
      have hg711 := ((hg8'.trans hg9').trans hg10).trans hg11
      go_wp2_with fail
      refine (equalInts_any A7 A11 T.length c7 T.length c11 (smL num den T) (smL num den T) _ (hrd7.grown hg711) hrd11 hn2 hn2).mono ?_
      rw [show decide (smL num den T = smL num den T) = true from by simp]
      rintro e w12 ⟨rfl, hg12⟩
      have hGT := (hg6t.trans hg11).trans hg12
      have hG9 := (hg10.trans hg11).trans hg12
      have hBw11 := hBw6.grown hGT (by simp)
      obtain ⟨c0, c1, _, _⟩ := hBw11.two
      go_wp2_with fail
      refine (HC.out.2.1 _ (hrT6.grown hGT)).mono ?_
      rintro e w13 ⟨rfl, hg13⟩
      have hg13' := grown_alloc hg13 (.cells #[.int .i64 l1, .int .i64 l2] 31)
      have hB13 := Blk.new w13 31 #[.int .i64 l1, .int .i64 l2]
      have hg6u := hGT.trans hg13'
      go_wp2_with fail
      refine (HC.out.2.2.2.1 _ (hrT6.grown hg6u) (hrG6.grown hg6u)).mono ?_
      rintro e w14 ⟨rfl, hg14⟩
      have hg14' := grown_alloc hg14 (.cells #[.int .i64 q1, .int .i64 q2] 31)
      have hB14 := Blk.new w14 31 #[.int .i64 q1, .int .i64 q2]
      have hg6v := hg6u.trans hg14'
      go_wp2_with fail
      refine (lawDemands_any _).mono ?_
      rintro e w15 ⟨rfl, hg15⟩
      have hg9z := (((hG9.trans hg13').trans hg14').trans hg15)
      obtain ⟨u0, u1, _, _⟩ := (hB9.grown hg9z (by simp)).two
      obtain ⟨v0, v1, _, _⟩ := (hB8.grown (hg9'.trans hg9z) (by simp)).two
      obtain ⟨x0, x1, _, _⟩ := (hB13.grown (hg14'.trans hg15) (by simp)).two
      obtain ⟨y0, y1, _, _⟩ := (hB14.grown hg15 (by simp)).two
      go_wp2_with fail
      go_ret
      exact ⟨rfl, (hgg6.trans hg6v).trans hg15⟩
    · have hSF := fun w => refSmoothFault_any AT T.length cT T num den w rfl
      have hSE := fun w1 (hr : Rd w1 3 AT T.length (salFlat T)) => smooth_err AT T.length cT T num den w1 hr hn HC.out.2.2.2.2.2 hsm
      have hs0 : (smFault T num den == 0) = false := by rw [beq_eq_false_iff_ne]; exact hsm
      generalize smFault T num den = fs at *
      have hs1 : (fs != fs) = false := by simp
      have HSF := Lib.hid (And.intro hSF hSE)
      clear hSF hSE hsm
      go_wp2_with fail
      refine (HSF.out.2 _ hrT6).mono ?_
      rintro e w7 ⟨rfl, hg7⟩
      have hBw7 := hBw6.grown hg7 (by simp)
      obtain ⟨b0, b1, _, _⟩ := hBw7.two
      go_wp2_with fail
      refine (HC.out.1 _ (hrT6.grown hg7)).mono ?_
      rintro e w8 ⟨rfl, hg8⟩
      have hg8' := grown_alloc hg8 (.cells #[.int .i64 l1, .int .i64 l2] 31)
      have hB8 := Blk.new w8 31 #[.int .i64 l1, .int .i64 l2]
      have hg68 := hg7.trans hg8'
      go_wp2_with fail
      refine (HC.out.2.2.1 _ (hrT6.grown hg68) (hrG6.grown hg68)).mono ?_
      rintro e w9 ⟨rfl, hg9⟩
      have hg9' := grown_alloc hg9 (.cells #[.int .i64 q1, .int .i64 q2] 31)
      have hB9 := Blk.new w9 31 #[.int .i64 q1, .int .i64 q2]
      have hg69 := hg68.trans hg9'
      go_wp2_with fail
      refine (HC.out.2.2.2.2.1 _ (hrT6.grown hg69)).mono ?_
      rintro e w10 ⟨rfl, hg10⟩
      have hg6t := hg69.trans hg10
      go_wp2_with fail
      refine (HSF.out.1 _).mono ?_
      rintro e w' ⟨rfl, rfl⟩
      have hBw11 := hBw6.grown hg6t (by simp)
      obtain ⟨c0, c1, _, _⟩ := hBw11.two
      go_wp2_with fail
      refine (HC.out.2.1 _ (hrT6.grown hg6t)).mono ?_
      rintro e w13 ⟨rfl, hg13⟩
      have hg13' := grown_alloc hg13 (.cells #[.int .i64 l1, .int .i64 l2] 31)
      have hB13 := Blk.new w13 31 #[.int .i64 l1, .int .i64 l2]
      have hg6u := hg6t.trans hg13'
      go_wp2_with fail
      refine (HC.out.2.2.2.1 _ (hrT6.grown hg6u) (hrG6.grown hg6u)).mono ?_
      rintro e w14 ⟨rfl, hg14⟩
      have hg14' := grown_alloc hg14 (.cells #[.int .i64 q1, .int .i64 q2] 31)
      have hB14 := Blk.new w14 31 #[.int .i64 q1, .int .i64 q2]
      have hg6v := hg6u.trans hg14'
      go_wp2_with fail
      refine (lawDemands_any _).mono ?_
      rintro e w15 ⟨rfl, hg15⟩
      have hg9z := (((hg10.trans hg13').trans hg14').trans hg15)
      obtain ⟨u0, u1, _, _⟩ := (hB9.grown hg9z (by simp)).two
      obtain ⟨v0, v1, _, _⟩ := (hB8.grown (hg9'.trans hg9z) (by simp)).two
      obtain ⟨x0, x1, _, _⟩ := (hB13.grown (hg14'.trans hg15) (by simp)).two
      obtain ⟨y0, y1, _, _⟩ := (hB14.grown hg15 (by simp)).two
      go_wp2_with fail
      go_ret
      exact ⟨rfl, (hgg6.trans hg6v).trans hg15⟩
  · have hne : (dayFault T != 0) = true := by rw [bne_iff_ne]; exact hf
    have hSb := fun w1 (hr : Rd w1 3 AT T.length (salFlat T)) => smooth_bad AT T.length cT T num den w1 hr hn hf
    have hLb := fun w1 (hr : Rd w1 3 AT T.length (salFlat T)) => lift_bad AT T.length cT T F To w1 hr hn hf
    have hEb := fun w1 (hr : Rd w1 3 AT T.length (salFlat T)) => error_bad AT AG T.length cT G.length cG T w1 hr hn hf
    have hDf := fun w1 (hr : Rd w1 3 AT T.length (salFlat T)) => refDaysFault_any AT T.length cT T w1 hr hn
    unfold frac at hLb hEb
    generalize dayFault T = f at *
    have hff : (f == f) = true := by simp
    have HC := Lib.hid (And.intro hSb (And.intro hLb (And.intro hEb hDf)))
    clear hSb hLb hEb hDf hf
    go_wp2_with fail
    refine (HC.out.1 _ hrT6).mono ?_
    rintro e w7 ⟨rfl, hg7⟩
    have hBw7 := hBw6.grown hg7 (by simp)
    obtain ⟨b0, b1, _, _⟩ := hBw7.two
    go_wp2_with fail
    refine (HC.out.2.1 _ (hrT6.grown hg7)).mono ?_
    rintro e w8 ⟨rfl, hg8⟩
    have hg8' := hg7.trans (grown_alloc hg8 (.cells #[.int .i64 0, .int .i64 0] 31))
    go_wp2_with fail
    refine (HC.out.2.2.1 _ (hrT6.grown hg8')).mono ?_
    rintro e w9 ⟨rfl, hg9⟩
    have hg9' := hg8'.trans (grown_alloc hg9 (.cells #[.int .i64 0, .int .i64 0] 31))
    go_wp2_with fail
    refine (HC.out.2.2.2 _ (hrT6.grown hg9')).mono ?_
    rintro e w10 ⟨rfl, hg10⟩
    go_wp2_with fail
    refine (lawDemands_any _).mono ?_
    rintro e w11 ⟨rfl, hg11⟩
    go_wp2_with fail
    go_ret
    exact ⟨rfl, ((hgg6.trans hg9').trans hg10).trans hg11⟩

end Go.Proofs.Ytkfijicmeekmiaa
