/- The walk of the law HistogramsAdded. -/
import Derived.Test.YtkfijicmeekmiaaHistU
import Derived.Test.YtkfijicmeekmiaaHist
import Derived.Test.YtkfijicmeekmiaaEqF
import Derived.Test.YtkfijicmeekmiaaDays
import Derived.Test.YtkfijicmeekmiaaEq
import Derived.Test.YtkfijicmeekmiaaIn
namespace Go.Proofs.Ytkfijicmeekmiaa
open Go.RowKit

set_option maxRecDepth 100000 in
set_option maxHeartbeats 1600000 in
theorem histogramsAdded_walk (a0 : Option Addr) (len0 cap0 : Nat) (z0 : List Int) (w : World) (w0 : InRow w a0 len0 cap0 z0) :
    Calls Try.prog 5 #[.slice a0 len0 cap0] w fun e w' => e = .returned (.bool true) ∧ w.grownBy w' none := by
  obtain ⟨hlen, hs0⟩ := str_start w0
  have hg0 : w.grownBy (w.alloc (.cells #[.slice a0 len0 cap0, .int .i64 0] 25)) none := grown_alloc (grown_refl w) _
  have hz0 : (w.alloc (.cells #[.slice a0 len0 cap0, .int .i64 0] 25)).heap.size = w.heap.size + 1 := by simp
  clear hlen w0
  generalize z0.take len0 = L at *
  go_enter Try.func5, Try.ntmps5
  go_wp2_with fail
  generalize w.alloc (.cells #[.slice a0 len0 cap0, .int .i64 0] 25) = wA at *
  obtain ⟨bs, hbs⟩ : ∃ bs, bs = w.heap.size := ⟨_, rfl⟩
  rw [← hbs] at hs0 hz0 ⊢
  have HZ := Lib.hid (And.intro hz0 hbs)
  clear hz0 hbs
  refine (days_any bs L 0 _ hs0 (by omega)).mono ?_
  rintro e w1 ⟨vT, rfl, hown1, hs1, hg1⟩
  obtain ⟨hT1, hT2⟩ := daysM_bound L 0
  generalize (daysM L 0).2 = T at *
  generalize (daysM L 0).1 = t1 at *
  obtain ⟨AT, cT, rfl, _, _, hrT1, hbT⟩ := Rd.of_own hown1
  have hfarT : ∀ a, AT = some a → some a.block ≠ some bs := fun a ha => by have := hbT a ha; have := HZ.out.1; have := HZ.out.2; simp; omega
  have hn : T.length ≤ 400 := by omega
  have hbs1 := hs1.lt
  clear hbT hs0 hown1
  go_wp2_with fail
  refine (hist_any bs L t1 _ hs1 (by omega)).mono ?_
  rintro e w2 ⟨vH, rfl, hown2, hs2, hg2⟩
  obtain ⟨hH1, hH2⟩ := histM_bound L t1
  generalize (histM L t1).2 = H at *
  generalize (histM L t1).1 = t2 at *
  obtain ⟨AH, cH, rfl, hncH, _, hrH2, hbH⟩ := Rd.of_own hown2
  have hfarH : ∀ a, AH = some a → some a.block ≠ some bs := fun a ha => by have := hbH a ha; simp; omega
  have hnH : H.length ≤ 100000 := by omega
  have hrT2 := hrT1.grown_ hg2 hfarT
  have hgg2 : w.grownBy w2 none := grown_below hg0 (hg1.trans hg2) (fun j hj => .inl (by have := HZ.out.2; cases hj; omega))
  clear hbH hs1 hown2 hrT1 hg0 hg1 hg2 hfarT
  have hDf := fun w1 (hr : Rd w1 3 AT T.length (salFlat T)) => refDaysFault_any AT T.length cT T w1 hr hn
  have hHf := fun w1 (hr : Rd w1 1 AH H.length (ints H)) => refHistF_any AH H.length cH H w1 hr hnH
  have hHc := fun w1 (hr : Rd w1 1 AH H.length (ints H)) => checkHist_any AH H.length cH H w1 hr hnH
  obtain ⟨p1, hp1⟩ : ∃ p, p = pk L t2 [1, 2, 3, 7, 0, 8] := ⟨_, rfl⟩
  obtain ⟨p2, hp2⟩ : ∃ p, p = pk L (t2 + 1) [0, 1, 3, 9, -1, 4611686018427387904] := ⟨_, rfl⟩
  obtain ⟨p3, hp3⟩ : ∃ p, p = pk L (t2 + 1 + 1) [1, 25, 50, 100, 0, 101] := ⟨_, rfl⟩
  have b1 : -100 ≤ p1 ∧ p1 ≤ 100 := by
    have h := pk_mem L t2 [1, 2, 3, 7, 0, 8] (by simp)
    simp only [List.mem_cons, List.not_mem_nil, or_false] at h
    omega
  have b2 : -100 ≤ p2 ∧ p2 ≤ 4611686018427387904 := by
    have h := pk_mem L (t2 + 1) [0, 1, 3, 9, -1, 4611686018427387904] (by simp)
    simp only [List.mem_cons, List.not_mem_nil, or_false] at h
    omega
  have hTo := fun w1 (hr : Rd w1 1 AH H.length (ints H)) => together_any AH H.length cH H p1 w1 hr hncH hnH b1
  have hCh := fun w1 (hr : Rd w1 1 AH H.length (ints H)) => chance_any AH H.length cH H p2 w1 hr hnH hncH b2
  have hex : ∃ N, quE H p3 = 0 → QuS H p3 N := by
    by_cases h : quE H p3 = 0
    · obtain ⟨hf, hpc⟩ := qu_ok h
      obtain ⟨N, hN⟩ := qu_ex (histF_ok hf).2.2.1 hpc.2
      exact ⟨N, fun _ => hN⟩
    · exact ⟨0, fun h' => absurd h' h⟩
  obtain ⟨N, hN⟩ := hex
  have hQu := fun w1 (hr : Rd w1 1 AH H.length (ints H)) => quantile_any AH H.length cH H p3 N w1 hr hnH hN
  have hX := togX_len (l := H) (days := p1)
  obtain ⟨c1, c2, c3, hC⟩ := chV_form H p2
  have HP := Lib.hid (And.intro hp1 (And.intro hp2 hp3))
  have HD := Lib.hid (And.intro hDf (And.intro hHf hHc))
  clear hp1 hp2 hp3 hDf hHf hHc
  by_cases hf : dayFault T = 0
  · have hHi := fun w1 (hr : Rd w1 3 AT T.length (salFlat T)) => histogram_ok AT T.length cT T w1 hr hn hf
    have hHo := fun w1 (hr : Rd w1 3 AT T.length (salFlat T)) => histogramOf_ok AT T.length cT T w1 hr hn hf
    have hm := (mxA_facts (fun t ht => ((days_ok hf).2 t ht).2) T.length (Nat.le_refl _)).1
    have hDf0 := HD.out.1
    rw [hf] at hDf0
    generalize mxA T T.length = M at *
    have hfl := fnL_len M (cntK T)
    generalize fnL M (cntK T) = X at *
    have HA := Lib.hid (And.intro hHi (And.intro hHo hDf0))
    have HFL := Lib.hid hfl
    clear hHi hHo hDf0 hf hfl
    go_wp2_with fail
    refine (HA.out.1 _ hrT2).mono ?_
    rintro e w3 ⟨v3, rfl, hown3, hg3⟩
    obtain ⟨A3, c3', rfl, _, _, hr3, _⟩ := Rd.of_own hown3
    go_wp2_with fail
    refine (HA.out.2.2 _ (hrT2.grown hg3)).mono ?_
    rintro e w4 ⟨rfl, hg4⟩
    go_wp2_with fail
    refine (HA.out.2.1 _ ((hrT2.grown hg3).grown hg4)).mono ?_
    rintro e w5 ⟨v5, rfl, hown5, hg5⟩
    obtain ⟨A5, c5, rfl, _, _, hr5, _⟩ := Rd.of_own hown5
    have hMM : M ≤ 1000000 := by omega
    go_wp2_with fail
    refine (equalInts_any A3 A5 M c3' M c5 X X _ ((hr3.grown hg4).grown hg5) hr5 hMM hMM).mono ?_
    rw [show decide (X = X) = true from by simp]
    rintro e wS ⟨rfl, hg6⟩
    have hgS := ((hg3.trans hg4).trans hg5).trans hg6
    clear hown3 hown5 hr3 hr5 hg3 hg4 hg5 hg6 hrT2 hMM
    have hsS := hs2.grown hgS (by simp)
    have hrHS := hrH2.grown hgS
    have hggS := hgg2.trans hgS
    clear hs2 hrH2 hgS hgg2
    go_wp2_with fail
    refine (pick_lit bs L _ [1, 2, 3, 7, 0, 8] _ hsS (by omega) (by decide) (by decide) 3).mono ?_
    rw [← HP.out.1]
    rintro e w7 ⟨rfl, hs7, hg7⟩
    go_wp2_with fail
    refine (pick_lit bs L _ [0, 1, 3, 9, -1, 4611686018427387904] _ hs7 (by omega) (by decide) (by decide) 3).mono ?_
    rw [← HP.out.2.1]
    rintro e w8 ⟨rfl, hs8, hg8⟩
    go_wp2_with fail
    refine (pick_lit bs L _ [1, 25, 50, 100, 0, 101] _ hs8 (by omega) (by decide) (by decide) 3).mono ?_
    rw [← HP.out.2.2]
    rintro e w9 ⟨rfl, hs9, hg9⟩
    have hgp := (hg7.trans hg8).trans hg9
    have hrH9 := hrHS.grown_ hgp hfarH
    have hgg9 : w.grownBy w9 none := grown_below hggS hgp (fun j hj => .inl (by have := HZ.out.2; cases hj; omega))
    clear hsS hs7 hs8 hs9 hg7 hg8 hg9 hgp hrHS hggS hfarH
    by_cases hh : histF H = 0
    · have hTr := fun w1 (hr : Rd w1 1 AH H.length (ints H)) => togetherOf_form AH H.length cH H p1 w1 hr hncH hh b1
      have hCr := fun w1 (hr : Rd w1 1 AH H.length (ints H)) => chanceOf_any AH H.length cH H p2 w1 hr hncH hh b2
      have hQr := fun w1 (hr : Rd w1 1 AH H.length (ints H)) => quantileOf_any AH H.length cH H p3 N w1 hr hncH hh hN
      have hHf := HD.out.2.1
      have hHc := HD.out.2.2
      rw [hh] at hHf hHc
      rw [hC] at hCh hCr
      generalize togX H p1 = X1 at *
      generalize togE H p1 = e1 at *
      generalize quX H p3 N = x3 at *
      generalize quE H p3 = e3 at *
      have HC := Lib.hid (And.intro hHf (And.intro hHc (And.intro hTo (And.intro hCh (And.intro hQu (And.intro hTr (And.intro hCr hQr)))))))
      clear hHf hHc hTo hCh hQu hTr hCr hQr hh hN hC
      obtain ⟨m1, hm1⟩ : ∃ m, m = X1.length := ⟨_, rfl⟩
      rw [← hm1] at hX HC
      clear hm1
      go_wp2_with fail
      refine (HC.out.1 _ hrH9).mono ?_
      rintro e w10 ⟨rfl, hg10⟩
      go_wp2_with fail
      refine (HC.out.2.1 _ (hrH9.grown hg10)).mono ?_
      rintro e w11 ⟨rfl, hg11⟩
      have hg911 := hg10.trans hg11
      go_wp2_with fail
      refine (HC.out.2.2.1 _ (hrH9.grown hg911)).mono ?_
      rintro e w12 ⟨B12, d12, rfl, hr12, hg12⟩
      have hg912 := hg911.trans hg12
      go_wp2_with fail
      refine (HC.out.2.2.2.1 _ (hrH9.grown hg912)).mono ?_
      rintro e w13 ⟨rfl, hg13⟩
      have hB13 := Blk.new w13 31 #[.int .i64 c1, .int .i64 c2]
      have hg13' := grown_alloc hg13 (.cells #[.int .i64 c1, .int .i64 c2] 31)
      have hg913 := hg912.trans hg13'
      go_wp2_with fail
      refine (HC.out.2.2.2.2.1 _ (hrH9.grown hg913)).mono ?_
      rintro e w14 ⟨rfl, hg14⟩
      have hg914 := hg913.trans hg14
      go_wp2_with fail
      refine (HC.out.2.2.2.2.2.1 _ (hrH9.grown hg914)).mono ?_
      rintro e w15 ⟨B15, d15, rfl, hr15, hg15⟩
      have hg915 := hg914.trans hg15
      go_wp2_with fail
      refine (HC.out.2.2.2.2.2.2.1 _ (hrH9.grown hg915)).mono ?_
      rintro e w16 ⟨rfl, hg16⟩
      have hB16 := Blk.new w16 31 #[.int .i64 c1, .int .i64 c2]
      have hg16' := grown_alloc hg16 (.cells #[.int .i64 c1, .int .i64 c2] 31)
      have hg916 := hg915.trans hg16'
      go_wp2_with fail
      refine (HC.out.2.2.2.2.2.2.2 _ (hrH9.grown hg916)).mono ?_
      rintro e w17 ⟨rfl, hg17⟩
      have hg917 := hg916.trans hg17
      go_wp2_with fail
      refine (lawDemands_any _).mono ?_
      rintro e w18 ⟨rfl, hg18⟩
      have hg1218 := (((((hg13'.trans hg14).trans hg15).trans hg16').trans hg17).trans hg18)
      have hg1518 := ((hg16'.trans hg17).trans hg18)
      have hm2 : m1 ≤ 1000000 := by omega
      go_wp2_with fail
      refine (equalInts_any B12 B15 m1 d12 m1 d15 X1 X1 _ (hr12.grown hg1218) (hr15.grown hg1518) hm2 hm2).mono ?_
      rw [show decide (X1 = X1) = true from by simp]
      rintro e w19 ⟨rfl, hg19⟩
      obtain ⟨u0, u1, _, _⟩ := (hB13.grown (((((hg14.trans hg15).trans hg16').trans hg17).trans hg18).trans hg19) (by simp)).two
      obtain ⟨v0, v1, _, _⟩ := (hB16.grown ((hg17.trans hg18).trans hg19) (by simp)).two
      have hgZ := ((hgg9.trans hg917).trans hg18).trans hg19
      go_wp2_with fail
      go_ret
      exact ⟨rfl, hgZ⟩
    · have hh0 : (histF H == 0) = false := by rw [beq_eq_false_iff_ne]; exact hh
      have hh1 : (histF H != 0) = true := by rw [bne_iff_ne]; exact hh
      have hTe : togE H p1 = histF H := by unfold togE; rw [if_pos hh]
      have hQe : quE H p3 = histF H := by unfold quE; rw [if_pos hh]
      have hCe : chV H p2 = .tuple #[.agg #[.int .i64 0, .int .i64 0], .int .i64 (histF H)] := by unfold chV; rw [if_pos hh]; rfl
      have hHf := HD.out.2.1
      have hHc := HD.out.2.2
      rw [hTe] at hTo
      rw [hQe] at hQu
      rw [hCe] at hCh
      generalize togX H p1 = X1 at *
      generalize quX H p3 N = x3 at *
      generalize histF H = fh at *
      have hh2 : (fh != fh) = false := by simp
      have HC := Lib.hid (And.intro hHf (And.intro hHc (And.intro hTo (And.intro hCh hQu))))
      clear hHf hHc hTo hCh hQu hTe hQe hCe hh hN hC HD
      obtain ⟨m1, hm1⟩ : ∃ m, m = X1.length := ⟨_, rfl⟩
      rw [← hm1] at hX HC
      clear hm1
      go_wp2_with fail
      refine (HC.out.1 _ hrH9).mono ?_
      rintro e w10 ⟨rfl, hg10⟩
      go_wp2_with fail
      refine (HC.out.2.1 _ (hrH9.grown hg10)).mono ?_
      rintro e w11 ⟨rfl, hg11⟩
      have hg911 := hg10.trans hg11
      go_wp2_with fail
      refine (HC.out.2.2.1 _ (hrH9.grown hg911)).mono ?_
      rintro e w12 ⟨B12, d12, rfl, hr12, hg12⟩
      have hg912 := hg911.trans hg12
      go_wp2_with fail
      refine (HC.out.2.2.2.1 _ (hrH9.grown hg912)).mono ?_
      rintro e w13 ⟨rfl, hg13⟩
      have hg13' := grown_alloc hg13 (.cells #[.int .i64 0, .int .i64 0] 31)
      have hg913 := hg912.trans hg13'
      go_wp2_with fail
      refine (HC.out.2.2.2.2 _ (hrH9.grown hg913)).mono ?_
      rintro e w14 ⟨rfl, hg14⟩
      have hg914 := hg913.trans hg14
      go_wp2_with fail
      refine (lawDemands_any _).mono ?_
      rintro e w15 ⟨rfl, hg15⟩
      go_wp2_with fail
      go_ret
      exact ⟨rfl, (hgg9.trans hg914).trans hg15⟩
  · have hHi := fun w1 (hr : Rd w1 3 AT T.length (salFlat T)) => histogram_bad AT T.length cT T w1 hr hn hf
    have hDf0 := HD.out.1
    have hf0 : (dayFault T == 0) = false := by rw [beq_eq_false_iff_ne]; exact hf
    generalize dayFault T = fd at *
    have hf1 : (fd != fd) = false := by simp
    have HA := Lib.hid (And.intro hHi hDf0)
    clear hHi hDf0 hf
    go_wp2_with fail
    refine (HA.out.1 _ hrT2).mono ?_
    rintro e w3 ⟨rfl, hg3⟩
    go_wp2_with fail
    refine (HA.out.2 _ (hrT2.grown hg3)).mono ?_
    rintro e wS ⟨rfl, hg4⟩
    have hgS := hg3.trans hg4
    clear hg3 hg4 hrT2 HA
    have hsS := hs2.grown hgS (by simp)
    have hrHS := hrH2.grown hgS
    have hggS := hgg2.trans hgS
    clear hs2 hrH2 hgS hgg2
    go_wp2_with fail
    refine (pick_lit bs L _ [1, 2, 3, 7, 0, 8] _ hsS (by omega) (by decide) (by decide) 3).mono ?_
    rw [← HP.out.1]
    rintro e w7 ⟨rfl, hs7, hg7⟩
    go_wp2_with fail
    refine (pick_lit bs L _ [0, 1, 3, 9, -1, 4611686018427387904] _ hs7 (by omega) (by decide) (by decide) 3).mono ?_
    rw [← HP.out.2.1]
    rintro e w8 ⟨rfl, hs8, hg8⟩
    go_wp2_with fail
    refine (pick_lit bs L _ [1, 25, 50, 100, 0, 101] _ hs8 (by omega) (by decide) (by decide) 3).mono ?_
    rw [← HP.out.2.2]
    rintro e w9 ⟨rfl, hs9, hg9⟩
    have hgp := (hg7.trans hg8).trans hg9
    have hrH9 := hrHS.grown_ hgp hfarH
    have hgg9 : w.grownBy w9 none := grown_below hggS hgp (fun j hj => .inl (by have := HZ.out.2; cases hj; omega))
    clear hsS hs7 hs8 hs9 hg7 hg8 hg9 hgp hrHS hggS hfarH
    by_cases hh : histF H = 0
    · have hTr := fun w1 (hr : Rd w1 1 AH H.length (ints H)) => togetherOf_form AH H.length cH H p1 w1 hr hncH hh b1
      have hCr := fun w1 (hr : Rd w1 1 AH H.length (ints H)) => chanceOf_any AH H.length cH H p2 w1 hr hncH hh b2
      have hQr := fun w1 (hr : Rd w1 1 AH H.length (ints H)) => quantileOf_any AH H.length cH H p3 N w1 hr hncH hh hN
      have hHf := HD.out.2.1
      have hHc := HD.out.2.2
      rw [hh] at hHf hHc
      rw [hC] at hCh hCr
      generalize togX H p1 = X1 at *
      generalize togE H p1 = e1 at *
      generalize quX H p3 N = x3 at *
      generalize quE H p3 = e3 at *
      have HC := Lib.hid (And.intro hHf (And.intro hHc (And.intro hTo (And.intro hCh (And.intro hQu (And.intro hTr (And.intro hCr hQr)))))))
      clear hHf hHc hTo hCh hQu hTr hCr hQr hh hN hC
      obtain ⟨m1, hm1⟩ : ∃ m, m = X1.length := ⟨_, rfl⟩
      rw [← hm1] at hX HC
      clear hm1
      go_wp2_with fail
      refine (HC.out.1 _ hrH9).mono ?_
      rintro e w10 ⟨rfl, hg10⟩
      go_wp2_with fail
      refine (HC.out.2.1 _ (hrH9.grown hg10)).mono ?_
      rintro e w11 ⟨rfl, hg11⟩
      have hg911 := hg10.trans hg11
      go_wp2_with fail
      refine (HC.out.2.2.1 _ (hrH9.grown hg911)).mono ?_
      rintro e w12 ⟨B12, d12, rfl, hr12, hg12⟩
      have hg912 := hg911.trans hg12
      go_wp2_with fail
      refine (HC.out.2.2.2.1 _ (hrH9.grown hg912)).mono ?_
      rintro e w13 ⟨rfl, hg13⟩
      have hB13 := Blk.new w13 31 #[.int .i64 c1, .int .i64 c2]
      have hg13' := grown_alloc hg13 (.cells #[.int .i64 c1, .int .i64 c2] 31)
      have hg913 := hg912.trans hg13'
      go_wp2_with fail
      refine (HC.out.2.2.2.2.1 _ (hrH9.grown hg913)).mono ?_
      rintro e w14 ⟨rfl, hg14⟩
      have hg914 := hg913.trans hg14
      go_wp2_with fail
      refine (HC.out.2.2.2.2.2.1 _ (hrH9.grown hg914)).mono ?_
      rintro e w15 ⟨B15, d15, rfl, hr15, hg15⟩
      have hg915 := hg914.trans hg15
      go_wp2_with fail
      refine (HC.out.2.2.2.2.2.2.1 _ (hrH9.grown hg915)).mono ?_
      rintro e w16 ⟨rfl, hg16⟩
      have hB16 := Blk.new w16 31 #[.int .i64 c1, .int .i64 c2]
      have hg16' := grown_alloc hg16 (.cells #[.int .i64 c1, .int .i64 c2] 31)
      have hg916 := hg915.trans hg16'
      go_wp2_with fail
      refine (HC.out.2.2.2.2.2.2.2 _ (hrH9.grown hg916)).mono ?_
      rintro e w17 ⟨rfl, hg17⟩
      have hg917 := hg916.trans hg17
      go_wp2_with fail
      refine (lawDemands_any _).mono ?_
      rintro e w18 ⟨rfl, hg18⟩
      have hg1218 := (((((hg13'.trans hg14).trans hg15).trans hg16').trans hg17).trans hg18)
      have hg1518 := ((hg16'.trans hg17).trans hg18)
      have hm2 : m1 ≤ 1000000 := by omega
      go_wp2_with fail
      refine (equalInts_any B12 B15 m1 d12 m1 d15 X1 X1 _ (hr12.grown hg1218) (hr15.grown hg1518) hm2 hm2).mono ?_
      rw [show decide (X1 = X1) = true from by simp]
      rintro e w19 ⟨rfl, hg19⟩
      obtain ⟨u0, u1, _, _⟩ := (hB13.grown (((((hg14.trans hg15).trans hg16').trans hg17).trans hg18).trans hg19) (by simp)).two
      obtain ⟨v0, v1, _, _⟩ := (hB16.grown ((hg17.trans hg18).trans hg19) (by simp)).two
      have hgZ := ((hgg9.trans hg917).trans hg18).trans hg19
      go_wp2_with fail
      go_ret
      exact ⟨rfl, hgZ⟩
    · have hh0 : (histF H == 0) = false := by rw [beq_eq_false_iff_ne]; exact hh
      have hh1 : (histF H != 0) = true := by rw [bne_iff_ne]; exact hh
      have hTe : togE H p1 = histF H := by unfold togE; rw [if_pos hh]
      have hQe : quE H p3 = histF H := by unfold quE; rw [if_pos hh]
      have hCe : chV H p2 = .tuple #[.agg #[.int .i64 0, .int .i64 0], .int .i64 (histF H)] := by unfold chV; rw [if_pos hh]; rfl
      have hHf := HD.out.2.1
      have hHc := HD.out.2.2
      rw [hTe] at hTo
      rw [hQe] at hQu
      rw [hCe] at hCh
      generalize togX H p1 = X1 at *
      generalize quX H p3 N = x3 at *
      generalize histF H = fh at *
      have hh2 : (fh != fh) = false := by simp
      have HC := Lib.hid (And.intro hHf (And.intro hHc (And.intro hTo (And.intro hCh hQu))))
      clear hHf hHc hTo hCh hQu hTe hQe hCe hh hN hC HD
      obtain ⟨m1, hm1⟩ : ∃ m, m = X1.length := ⟨_, rfl⟩
      rw [← hm1] at hX HC
      clear hm1
      go_wp2_with fail
      refine (HC.out.1 _ hrH9).mono ?_
      rintro e w10 ⟨rfl, hg10⟩
      go_wp2_with fail
      refine (HC.out.2.1 _ (hrH9.grown hg10)).mono ?_
      rintro e w11 ⟨rfl, hg11⟩
      have hg911 := hg10.trans hg11
      go_wp2_with fail
      refine (HC.out.2.2.1 _ (hrH9.grown hg911)).mono ?_
      rintro e w12 ⟨B12, d12, rfl, hr12, hg12⟩
      have hg912 := hg911.trans hg12
      go_wp2_with fail
      refine (HC.out.2.2.2.1 _ (hrH9.grown hg912)).mono ?_
      rintro e w13 ⟨rfl, hg13⟩
      have hg13' := grown_alloc hg13 (.cells #[.int .i64 0, .int .i64 0] 31)
      have hg913 := hg912.trans hg13'
      go_wp2_with fail
      refine (HC.out.2.2.2.2 _ (hrH9.grown hg913)).mono ?_
      rintro e w14 ⟨rfl, hg14⟩
      have hg914 := hg913.trans hg14
      go_wp2_with fail
      refine (lawDemands_any _).mono ?_
      rintro e w15 ⟨rfl, hg15⟩
      go_wp2_with fail
      go_ret
      exact ⟨rfl, (hgg9.trans hg914).trans hg15⟩

end Go.Proofs.Ytkfijicmeekmiaa
