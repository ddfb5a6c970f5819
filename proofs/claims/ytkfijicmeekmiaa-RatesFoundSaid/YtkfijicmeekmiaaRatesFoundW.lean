/- The walk of the law RatesFound. -/
import Derived.Test.YtkfijicmeekmiaaEqF
import Derived.Test.YtkfijicmeekmiaaDays
import Derived.Test.YtkfijicmeekmiaaIn
namespace Go.Proofs.Ytkfijicmeekmiaa
open Go.RowKit

set_option maxRecDepth 100000 in
set_option maxHeartbeats 1600000 in
theorem ratesFound_walk (a0 : Option Addr) (len0 cap0 : Nat) (z0 : List Int) (w : World) (w0 : InRow w a0 len0 cap0 z0) :
    Calls Try.prog 3 #[.slice a0 len0 cap0] w fun e w' => e = .returned (.bool true) ∧ w.grownBy w' none := by
  obtain ⟨hlen, hs0⟩ := str_start w0
  have hg0 : w.grownBy (w.alloc (.cells #[.slice a0 len0 cap0, .int .i64 0] 25)) none := grown_alloc (grown_refl w) _
  have hz0 : (w.alloc (.cells #[.slice a0 len0 cap0, .int .i64 0] 25)).heap.size = w.heap.size + 1 := by simp
  clear hlen w0
  generalize z0.take len0 = L at *
  go_enter Try.func3, Try.ntmps3
  go_wp2_with fail
  generalize w.alloc (.cells #[.slice a0 len0 cap0, .int .i64 0] 25) = wA at *
  have HZ := Lib.hid hz0
  clear hz0
  refine (days_any w.heap.size L 0 _ hs0 (by omega)).mono ?_
  rintro e w1 ⟨vT, rfl, hown1, hs1, hg1⟩
  obtain ⟨hT1, hT2⟩ := daysM_bound L 0
  generalize (daysM L 0).2 = T at *
  generalize (daysM L 0).1 = t1 at *
  obtain ⟨AT, cT, rfl, hnc, hcm, hrT1, hbT⟩ := Rd.of_own hown1
  have hg12 : w.grownBy w1 none := grown_below (r := none) hg0 hg1 (fun j hj => .inl (by cases hj; omega))
  clear hbT hs0 hs1 hg1 hown1 hg0
  have hn : T.length ≤ 400 := by omega
  go_wp2_with fail
  refine (refDaysFault_any AT T.length cT T _ hrT1 hn).mono ?_
  rintro e w2 ⟨rfl, hg2⟩
  have hrT2 := hrT1.grown hg2
  have hgg2 := hg12.trans hg2
  go_wp2_with fail
  refine (checkDays_any AT T.length cT T _ hrT2 hn).mono ?_
  rintro e w3 ⟨rfl, hg3⟩
  have hrT3 := hrT2.grown hg3
  have hgg3 := hgg2.trans hg3
  have hz : (dayFault T != dayFault T) = false := by simp
  clear hrT1 hg12 hg2 hrT2 hgg2 hg3
  by_cases hf : dayFault T = 0
  · rw [hf]
    have HF := Lib.hid hf
    obtain ⟨x1, x2, x3, hx⟩ : ∃ x1 x2 x3, rateV lastB T = .tuple #[.agg #[.int .i64 x1, .int .i64 x2], .int .i64 x3] := ⟨_, _, _, by unfold rateV frac; rw [if_neg (by simp [hf])]⟩
    obtain ⟨y1, y2, y3, hy⟩ : ∃ y1 y2 y3, rateV allD T = .tuple #[.agg #[.int .i64 y1, .int .i64 y2], .int .i64 y3] := ⟨_, _, _, by unfold rateV frac; rw [if_neg (by simp [hf])]⟩
    have HV := Lib.hid (And.intro hx hy)
    clear hf hx hy
    go_wp2_with fail
    refine (rate_any AT T.length cT T _ hrT3 hn).mono ?_
    rw [HV.out.1]
    rintro e w4 ⟨rfl, hg4⟩
    have hrT4 := hrT3.grown (grown_alloc hg4 (.cells #[.int .i64 x1, .int .i64 x2] 31))
    have hgg4 := grown_alloc (hgg3.trans hg4) (.cells #[.int .i64 x1, .int .i64 x2] 31)
    have hB4 := Blk.new w4 31 #[.int .i64 x1, .int .i64 x2]
    clear hg4
    go_wp2_with fail
    refine (least_any AT T.length cT T _ hrT4 hn).mono ?_
    rw [HV.out.2]
    rintro e w5 ⟨rfl, hg5⟩
    have hg5' := grown_alloc hg5 (.cells #[.int .i64 y1, .int .i64 y2] 31)
    have hB5 := Blk.new w5 31 #[.int .i64 y1, .int .i64 y2]
    clear hg5
    go_wp2_with fail
    refine (uncover_any AT T.length cT T _ (hrT4.grown hg5') hn HF.out).mono ?_
    rintro e w6 ⟨v6, rfl, hown6, hg6⟩
    obtain ⟨A6, c6, rfl, _, _, hrd6, _⟩ := Rd.of_own hown6
    go_wp2_with fail
    refine (week_any AT T.length cT T _ ((hrT4.grown hg5').grown hg6) hn HF.out).mono ?_
    rintro e w7 ⟨B7, rfl, hB7, hg7⟩
    have hg47 := (hg5'.trans hg6).trans hg7
    go_wp2_with fail
    have hrT7 := hrT4.grown hg47
    refine (refRate_any AT T.length cT T _ hrT7 hn HF.out).mono ?_
    rw [HV.out.1]
    rintro e w8 ⟨rfl, hg8⟩
    have hg8' := grown_alloc hg8 (.cells #[.int .i64 x1, .int .i64 x2] 31)
    have hB8 := Blk.new w8 31 #[.int .i64 x1, .int .i64 x2]
    clear hg8
    go_wp2_with fail
    refine (refLeast_any AT T.length cT T _ (hrT7.grown hg8') hn HF.out).mono ?_
    rw [HV.out.2]
    rintro e w9 ⟨rfl, hg9⟩
    have hg9' := grown_alloc hg9 (.cells #[.int .i64 y1, .int .i64 y2] 31)
    have hB9 := Blk.new w9 31 #[.int .i64 y1, .int .i64 y2]
    clear hg9
    go_wp2_with fail
    refine (lawDemands_any _).mono ?_
    rintro e w10 ⟨rfl, hg10⟩
    have hg7t := (hg8'.trans hg9').trans hg10
    have hg4t := hg47.trans hg7t
    obtain ⟨p0, p1, _, _⟩ := (hB4.grown hg4t (by simp)).two
    obtain ⟨q0, q1, _, _⟩ := (hB5.grown ((hg6.trans hg7).trans hg7t) (by simp)).two
    obtain ⟨r0, r1, _, _⟩ := (hB8.grown (hg9'.trans hg10) (by simp)).two
    obtain ⟨s0, s1, _, _⟩ := (hB9.grown hg10 (by simp)).two
    have hrT10 := hrT7.grown hg7t
    have hrd10 := hrd6.grown (hg7.trans hg7t)
    have hB10 := hB7.grown hg7t (by simp)
    have hgg10 := hgg4.trans hg4t
    clear hB4 hB5 hB8 hB9 hg4t hg7t hg8' hg9' hg10 hg47 hg7 hg6 hg5' hB7 hrd6 hrT7 hrT4
    go_wp2_with fail
    refine (refUncover_any AT T.length cT T _ hrT10 hn HF.out).mono ?_
    rintro e w11 ⟨v11, rfl, hown11, hg11⟩
    obtain ⟨A11, c11, rfl, _, _, hrd11, _⟩ := Rd.of_own hown11
    have hn2 : T.length ≤ 1000000 := by omega
    go_wp2_with fail
    refine (equalInts_any A6 A11 T.length c6 T.length c11 (uncL T) (uncL T) _ (hrd10.grown hg11) hrd11 hn2 hn2).mono ?_
    rw [show decide (uncL T = uncL T) = true from by simp]
    rintro e w12 ⟨rfl, hg12⟩
    have hg1012 := hg11.trans hg12
    go_wp2_with fail
    refine (refWeek_any AT T.length cT T _ (hrT10.grown hg1012) hn HF.out).mono ?_
    rintro e w13 ⟨v13, rfl, hown13, hg13⟩
    obtain ⟨A13, c13, rfl, _, _, hrd13, _⟩ := Rd.of_own hown13
    have hg1013 := hg1012.trans hg13
    have hB13 := hB10.grown hg1013 (by simp)
    have hrdB : Rd w13 2 (some ⟨B7, 0, none⟩) 7 (ints (wkRow T 7)) := ⟨by simp [ints, wkRow_len], fun _ => ⟨B7, 0, rfl, hB13.lt, fun j u hu => by rw [Nat.zero_add, hB13.cell]; simpa using hu⟩⟩
    go_wp2_with fail
    refine (equalF_same (some ⟨B7, 0, none⟩) A13 7 7 c13 (wkRow T 7) _ hrdB hrd13 (by omega)).mono ?_
    rintro e w14 ⟨rfl, hg14⟩
    go_wp2_with fail
    go_ret
    exact ⟨rfl, (hgg10.trans hg1013).trans hg14⟩
  · have hne : (dayFault T != 0) = true := by rw [bne_iff_ne]; exact hf
    have hv : ∀ p, rateV p T = .tuple #[.agg #[.int .i64 0, .int .i64 0], .int .i64 (dayFault T)] := fun p => by
      unfold rateV frac; rw [if_pos hf]
    have hU := fun w1 (hr : Rd w1 3 AT T.length (salFlat T)) => uncover_bad AT T.length cT T w1 hr hn hf
    have hW := fun w1 (hr : Rd w1 3 AT T.length (salFlat T)) => week_bad AT T.length cT T w1 hr hn hf
    have hR := fun w1 (hr : Rd w1 3 AT T.length (salFlat T)) => rate_any AT T.length cT T w1 hr hn
    have hL := fun w1 (hr : Rd w1 3 AT T.length (salFlat T)) => least_any AT T.length cT T w1 hr hn
    rw [hv] at hR hL
    generalize dayFault T = f at *
    have hff : (f == f) = true := by simp
    have HC := Lib.hid (And.intro hR (And.intro hL (And.intro hU hW)))
    clear hR hL hU hW hf hv
    go_wp2_with fail
    refine (HC.out.1 _ hrT3).mono ?_
    rintro e w4 ⟨rfl, hg4⟩
    have hrT4 := hrT3.grown hg4
    have hgg4 := hgg3.trans hg4
    go_wp2_with fail
    refine (HC.out.2.1 _ (hrT4.grown (grown_alloc (grown_refl _) _))).mono ?_
    rintro e w5 ⟨rfl, hg5⟩
    have hg45 := (grown_alloc (grown_refl w4) (.cells #[.int .i64 0, .int .i64 0] 31)).trans hg5
    go_wp2_with fail
    refine (HC.out.2.2.1 _ ((hrT4.grown hg45).grown (grown_alloc (grown_refl _) _))).mono ?_
    rintro e w6 ⟨rfl, hg6⟩
    have hg46 := hg45.trans ((grown_alloc (grown_refl w5) (.cells #[.int .i64 0, .int .i64 0] 31)).trans hg6)
    go_wp2_with fail
    refine (HC.out.2.2.2 _ (hrT4.grown hg46)).mono ?_
    rintro e w7 ⟨rfl, hg7⟩
    have hgg7 := (hgg4.trans hg46).trans hg7
    go_wp2_with fail
    refine (lawDemands_any _).mono ?_
    rintro e w8 ⟨rfl, hg8⟩
    go_wp2_with fail
    go_ret
    exact ⟨rfl, hgg7.trans hg8⟩

end Go.Proofs.Ytkfijicmeekmiaa
