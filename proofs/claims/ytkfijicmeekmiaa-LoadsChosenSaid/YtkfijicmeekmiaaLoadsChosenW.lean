/- The walk of the law LoadsChosen. -/
import Derived.Test.YtkfijicmeekmiaaLoadR
import Derived.Test.YtkfijicmeekmiaaHist
import Derived.Test.YtkfijicmeekmiaaSum
import Derived.Test.YtkfijicmeekmiaaEqF
import Derived.Test.YtkfijicmeekmiaaIn
namespace Go.Proofs.Ytkfijicmeekmiaa
open Go.RowKit

theorem addV_form (a b c d : Int) : ∃ x y z : Int, addV a b c d = .tuple #[.agg #[.int .i64 x, .int .i64 y], .int .i64 z] := by
  unfold addV frac
  split
  · exact ⟨_, _, _, rfl⟩
  · split <;> exact ⟨_, _, _, rfl⟩
theorem money0 (load : Int) : (if btw load 0 2001 then (0 : Int) else 1) = moneyF load 0 0 := by
  unfold moneyF
  rw [show btw 0 0 10000 = true from rfl]
  simp

set_option maxRecDepth 100000 in
set_option maxHeartbeats 1600000 in
theorem loadsChosen_walk (a0 : Option Addr) (len0 cap0 : Nat) (z0 : List Int) (w : World) (w0 : InRow w a0 len0 cap0 z0) :
    Calls Try.prog 6 #[.slice a0 len0 cap0] w fun e w' => e = .returned (.bool true) ∧ w.grownBy w' none := by
  obtain ⟨hlen, hs0⟩ := str_start w0
  have hg0 : w.grownBy (w.alloc (.cells #[.slice a0 len0 cap0, .int .i64 0] 25)) none := grown_alloc (grown_refl w) _
  have hz0 : (w.alloc (.cells #[.slice a0 len0 cap0, .int .i64 0] 25)).heap.size = w.heap.size + 1 := by simp
  clear hlen w0
  generalize z0.take len0 = L at *
  go_enter Try.func6, Try.ntmps6
  go_wp2_with fail
  generalize w.alloc (.cells #[.slice a0 len0 cap0, .int .i64 0] 25) = wA at *
  obtain ⟨bs, hbs⟩ : ∃ bs, bs = w.heap.size := ⟨_, rfl⟩
  rw [← hbs] at hs0 hz0 ⊢
  have HZ := Lib.hid (And.intro hz0 hbs)
  clear hz0 hbs
  refine (hist_any bs L 0 _ hs0 (by omega)).mono ?_
  rintro e w1 ⟨vT, rfl, hown1, hs1, hg1⟩
  obtain ⟨hT1, hT2⟩ := histM_bound L 0
  generalize (histM L 0).2 = T at *
  generalize (histM L 0).1 = t1 at *
  obtain ⟨AT, cT, rfl, hnc, hcm, hrT1, hbT⟩ := Rd.of_own hown1
  have hbs1 := hs1.lt
  have hfar : ∀ a, AT = some a → some a.block ≠ some bs := fun a ha => by have := hbT a ha; have := HZ.out.1; have := HZ.out.2; simp; omega
  have hn : T.length ≤ 100000 := by omega
  clear hbT hs0 hown1
  go_wp2_with fail
  refine (pick_lit bs L _ [0, 1, 3, 9, -1, 2001, 2002] _ hs1 (by omega) (by decide) (by decide) 3).mono ?_
  rintro e w2 ⟨rfl, hs2, hg2⟩
  go_wp2_with fail
  refine (pick_lit bs L _ [0, 50, 100, -1, 10001] _ hs2 (by omega) (by decide) (by decide) 3).mono ?_
  rintro e w3 ⟨rfl, hs3, hg3⟩
  go_wp2_with fail
  refine (pick_lit bs L _ [0, 10, 60, -1, 10001] _ hs3 (by omega) (by decide) (by decide) 3).mono ?_
  rintro e w4 ⟨rfl, hs4, hg4⟩
  generalize pk L t1 [0, 1, 3, 9, -1, 2001, 2002] = load at *
  generalize pk L (t1 + 1) [0, 50, 100, -1, 10001] = m at *
  generalize pk L (t1 + 1 + 1) [0, 10, 60, -1, 10001] = u at *
  have hg14 := (hg2.trans hg3).trans hg4
  have hrT4 := hrT1.grown_ hg14 hfar
  have hgg4 : w.grownBy w4 none := grown_below hg0 (hg1.trans hg14) (fun j hj => .inl (by have := HZ.out.2; cases hj; omega))
  clear hg2 hg3 hg4 hs1 hs2 hs3 hrT1 hg0 hg1 hg14 hfar
  obtain ⟨p1, hp1⟩ : ∃ p, p = pk L (t1 + 1 + 1 + 1) [0, 1, -3, 500000000, 1000000001] := ⟨_, rfl⟩
  obtain ⟨p2, hp2⟩ : ∃ p, p = pk L (t1 + 1 + 1 + 1 + 1) [1, 2, 7, 999999999, 0] := ⟨_, rfl⟩
  obtain ⟨p3, hp3⟩ : ∃ p, p = pk L (t1 + 1 + 1 + 1 + 1 + 1) [0, 5, -1, 999999999] := ⟨_, rfl⟩
  obtain ⟨p4, hp4⟩ : ∃ p, p = pk L (t1 + 1 + 1 + 1 + 1 + 1 + 1) [1, 3, 4, 1000000001] := ⟨_, rfl⟩
  have b1 : -2147483648 ≤ p1 ∧ p1 ≤ 2147483648 := by
    have h := pk_mem L (t1 + 1 + 1 + 1) [0, 1, -3, 500000000, 1000000001] (by simp)
    simp only [List.mem_cons, List.not_mem_nil, or_false] at h
    omega
  have b2 : -2147483648 ≤ p2 ∧ p2 ≤ 2147483648 := by
    have h := pk_mem L (t1 + 1 + 1 + 1 + 1) [1, 2, 7, 999999999, 0] (by simp)
    simp only [List.mem_cons, List.not_mem_nil, or_false] at h
    omega
  have b3 : -2147483648 ≤ p3 ∧ p3 ≤ 2147483648 := by
    have h := pk_mem L (t1 + 1 + 1 + 1 + 1 + 1) [0, 5, -1, 999999999] (by simp)
    simp only [List.mem_cons, List.not_mem_nil, or_false] at h
    omega
  have b4 : -2147483648 ≤ p4 ∧ p4 ≤ 2147483648 := by
    have h := pk_mem L (t1 + 1 + 1 + 1 + 1 + 1 + 1) [1, 3, 4, 1000000001] (by simp)
    simp only [List.mem_cons, List.not_mem_nil, or_false] at h
    omega
  obtain ⟨s1, s2, s3, hS⟩ := addV_form p1 p2 p3 p4
  have hAd := fun w => add_any p1 p2 p3 p4 w
  have hSu := fun w => refSumOf_any p1 p2 p3 p4 w b1 b2 b3 b4
  rw [hS] at hAd hSu
  unfold frac at hAd hSu
  have HP := Lib.hid (And.intro hp1 (And.intro hp2 (And.intro hp3 hp4)))
  have HS := Lib.hid (And.intro hAd hSu)
  clear hS hAd hSu hp1 hp2 hp3 hp4 b1 b2 b3 b4
  have hEx := fun w1 (hr : Rd w1 1 AT T.length (ints T)) => expected_any AT T.length cT T load w1 hr hn
  have hPr := fun w1 (hr : Rd w1 1 AT T.length (ints T)) => profit_any AT T.length cT T load m u w1 hr hn
  have hOr := fun w1 (hr : Rd w1 1 AT T.length (ints T)) => order_any AT T.length cT T load m u w1 hr hn
  have hHf := fun w1 (hr : Rd w1 1 AT T.length (ints T)) => refHistF_any AT T.length cT T w1 hr hn
  unfold expV at hEx
  unfold proV at hPr
  unfold ordV at hOr
  simp only [money0] at hEx
  have hM0 := fun w => moneyFault_any load 0 0 w
  have hM1 := fun w => moneyFault_any load m u w
  have hO0 := fun w => or_any (histF T) (moneyF load 0 0) w
  have hO1 := fun w => or_any (histF T) (moneyF load m u) w
  by_cases h1 : orE (histF T) (moneyF load 0 0) = 0
  · by_cases h2 : orE (histF T) (moneyF load m u) = 0
    · obtain ⟨hf, hq⟩ := orE_zero h2
      obtain ⟨⟨q1, q2⟩, hm, hu⟩ := money_ok hq
      obtain ⟨ld, rfl⟩ : ∃ k : Nat, load = k := ⟨load.toNat, by omega⟩
      have hload : ld ≤ 2001 := by omega
      have hRe := fun w1 (hr : Rd w1 1 AT T.length (ints T)) => expectedOf_any AT T.length cT T ld w1 hr hnc hf hload
      have hRp := fun w1 (hr : Rd w1 1 AT T.length (ints T)) => profitOfV_any AT T.length cT T ld m u w1 hr hf hload hm hu
      have hRo := fun w1 (hr : Rd w1 1 AT T.length (ints T)) => orderOf_any AT T.length cT T ld m u w1 hr hf hload hm hu
      rw [h1] at hEx hO0
      rw [h2] at hPr hOr hO1
      rw [if_neg (by simp)] at hEx hPr hOr
      rw [show ((ld : Int)).toNat = ld from by omega] at hEx hPr hOr
      unfold frac at hEx hPr hRe hRp
      generalize lowN (slOf T ld) T.sum = x1 at *
      generalize lowD (slOf T ld) T.sum = x2 at *
      generalize lowN (prOf T ld m u) T.sum = y1 at *
      generalize lowD (prOf T ld m u) T.sum = y2 at *
      generalize ordA T m u ld = o at *
      generalize moneyF (ld : Int) 0 0 = f0 at *
      generalize moneyF (ld : Int) m u = f1 at *
      generalize histF T = f at *
      have HC := Lib.hid (And.intro hEx (And.intro hPr (And.intro hOr (And.intro hHf (And.intro hM0 (And.intro hM1 (And.intro hO0 hO1)))))))
      have HR := Lib.hid (And.intro hRe (And.intro hRp hRo))
      clear hEx hPr hOr hHf hM0 hM1 hO0 hO1 hRe hRp hRo h1 h2 hf hq q1 q2 hm hu hload
      go_wp2_with fail
      refine (HC.out.1 _ hrT4).mono ?_
      rintro e w5 ⟨rfl, hg5⟩
      have hB5 := Blk.new w5 31 #[.int .i64 x1, .int .i64 x2]
      have hg5' := grown_alloc hg5 (.cells #[.int .i64 x1, .int .i64 x2] 31)
      go_wp2_with fail
      refine (HC.out.2.1 _ (hrT4.grown hg5')).mono ?_
      rintro e w6 ⟨rfl, hg6⟩
      have hB6 := Blk.new w6 31 #[.int .i64 y1, .int .i64 y2]
      have hg6' := grown_alloc hg6 (.cells #[.int .i64 y1, .int .i64 y2] 31)
      have hg46 := hg5'.trans hg6'
      go_wp2_with fail
      refine (HC.out.2.2.1 _ (hrT4.grown hg46)).mono ?_
      rintro e w7 ⟨rfl, hg7⟩
      have hg47 := hg46.trans hg7
      go_wp2_with fail
      refine (HC.out.2.2.2.1 _ (hrT4.grown hg47)).mono ?_
      rintro e w8 ⟨rfl, hg8⟩
      have hg48 := hg47.trans hg8
      go_wp2_with fail
      refine (HC.out.2.2.2.2.1 _).mono ?_
      rintro e w9 ⟨rfl, hg9⟩
      have hg49 := hg48.trans hg9
      go_wp2_with fail
      refine (HC.out.2.2.2.2.2.2.1 _).mono ?_
      rintro e w10 ⟨rfl, hg10⟩
      have hg410 := hg49.trans hg10
      go_wp2_with fail
      refine (HC.out.2.2.2.2.2.1 _).mono ?_
      rintro e w11 ⟨rfl, hg11⟩
      have hg411 := hg410.trans hg11
      go_wp2_with fail
      refine (HC.out.2.2.2.2.2.2.2 _).mono ?_
      rintro e w12 ⟨rfl, hg12⟩
      have hg412 := hg411.trans hg12
      have hg6c := ((((hg7.trans hg8).trans hg9).trans hg10).trans hg11).trans hg12
      obtain ⟨k0, k1, _, _⟩ := (hB5.grown (hg6'.trans hg6c) (by simp)).two
      obtain ⟨k2, k3, _, _⟩ := (hB6.grown hg6c (by simp)).two
      have hrT12d := (hrT4.grown hg412).grown (grown_drew (grown_refl w12))
      go_wp2_with fail
      clear hg5 hg6 hg5' hg6' hg46 hg7 hg8 hg47 hg48 hg9 hg49 hg10 hg410 hg11 hg411 hg12 hg6c hB5 hB6
      obtain ⟨G5, hG5⟩ : ∃ G, G = w5.heap.size := ⟨_, rfl⟩
      obtain ⟨G6, hG6⟩ : ∃ G, G = w6.heap.size := ⟨_, rfl⟩
      rw [← hG5] at k0 k1 ⊢
      rw [← hG6] at k2 k3 ⊢
      clear hG5 hG6
      go_region_held (fun w' => w'.cell? ⟨G5, 0, none⟩ = some (.int .i64 x1) ∧ w'.cell? ⟨G5, 1, none⟩ = some (.int .i64 x2) ∧ w'.cell? ⟨G6, 0, none⟩ = some (.int .i64 y1) ∧ w'.cell? ⟨G6, 1, none⟩ = some (.int .i64 y2)) (go_keep)
        (first
          | ((go_at_call 51; refine (HR.out.1 _ hrT12d).mono ?_; rintro e w13 ⟨rfl, hg13⟩; have l0 := hg13.cell (a := ⟨G5, 0, none⟩) k0 (by simp); have l1 := hg13.cell (a := ⟨G5, 1, none⟩) k1 (by simp); have l2 := hg13.cell (a := ⟨G6, 0, none⟩) k2 (by simp); have l3 := hg13.cell (a := ⟨G6, 1, none⟩) k3 (by simp)))
          | ((go_at_call 52; refine (HR.out.2.1 _ (hrT12d.grown hg13)).mono ?_; rintro e w14 ⟨rfl, hg14⟩; have m0 := hg14.cell (a := ⟨G5, 0, none⟩) l0 (by simp); have m1 := hg14.cell (a := ⟨G5, 1, none⟩) l1 (by simp); have m2 := hg14.cell (a := ⟨G6, 0, none⟩) l2 (by simp); have m3 := hg14.cell (a := ⟨G6, 1, none⟩) l3 (by simp)))
          | ((go_at_call 53; refine (HR.out.2.2 _ ((hrT12d.grown hg13).grown hg14)).mono ?_; rintro e w15 ⟨rfl, hg15⟩; have n0 := hg15.cell (a := ⟨G5, 0, none⟩) m0 (by simp); have n1 := hg15.cell (a := ⟨G5, 1, none⟩) m1 (by simp); have n2 := hg15.cell (a := ⟨G6, 0, none⟩) m2 (by simp); have n3 := hg15.cell (a := ⟨G6, 1, none⟩) m3 (by simp))))
      have hgS : w4.grownBy w15 none := (((grown_drew hg412).trans hg13).trans hg14).trans hg15
      have hgS2 := hgg4.trans hgS
      have hsS := hs4.grown hgS (by simp)
      clear hgS hs4 hgg4
      clear hrT4 hrT12d hg13 hg14 hg15 hg412
      generalize w15 = wS at *
      go_wp2_with fail
      refine (pick_lit bs L _ [0, 1, -3, 500000000, 1000000001] _ hsS (by omega) (by decide) (by decide) 3).mono ?_
      rw [← HP.out.1]
      rintro e w16 ⟨rfl, hs16, hg16⟩
      go_wp2_with fail
      refine (pick_lit bs L _ [1, 2, 7, 999999999, 0] _ hs16 (by omega) (by decide) (by decide) 3).mono ?_
      rw [← HP.out.2.1]
      rintro e w17 ⟨rfl, hs17, hg17⟩
      go_wp2_with fail
      refine (pick_lit bs L _ [0, 5, -1, 999999999] _ hs17 (by omega) (by decide) (by decide) 3).mono ?_
      rw [← HP.out.2.2.1]
      rintro e w18 ⟨rfl, hs18, hg18⟩
      go_wp2_with fail
      refine (pick_lit bs L _ [1, 3, 4, 1000000001] _ hs18 (by omega) (by decide) (by decide) 3).mono ?_
      rw [← HP.out.2.2.2]
      rintro e w19 ⟨rfl, hs19, hg19⟩
      have hgS3 : w.grownBy w19 none := grown_below hgS2 (((hg16.trans hg17).trans hg18).trans hg19) (fun j hj => .inl (by have := HZ.out.2; cases hj; omega))
      clear hs16 hs17 hs18 hs19 hg16 hg17 hg18 hg19 hgS2 hsS
      go_wp2_with fail
      have hBx := (Blk.new w19 31 #[.int .i64 p1, .int .i64 p2]).alloc (.cells #[.int .i64 p3, .int .i64 p4] 31)
      have hBy := Blk.new (w19.alloc (.cells #[.int .i64 p1, .int .i64 p2] 31)) 31 #[.int .i64 p3, .int .i64 p4]
      rw [show (w19.alloc (.cells #[.int .i64 p1, .int .i64 p2] 31)).heap.size = w19.heap.size + 1 from by simp] at hBy
      have hg19 := grown_alloc (grown_alloc hgS3 (.cells #[.int .i64 p1, .int .i64 p2] 31)) (.cells #[.int .i64 p3, .int .i64 p4] 31)
      obtain ⟨GX, hGX⟩ : ∃ G, G = w19.heap.size := ⟨_, rfl⟩
      rw [← hGX] at hBx hBy ⊢
      clear hGX hgS3
      generalize ((w19.alloc (.cells #[.int .i64 p1, .int .i64 p2] 31)).alloc (.cells #[.int .i64 p3, .int .i64 p4] 31)) = wX at *
      refine (HS.out.1 _).mono ?_
      rintro e w20 ⟨rfl, hg20⟩
      have hB20 := Blk.new w20 31 #[.int .i64 s1, .int .i64 s2]
      have hg20' := grown_alloc hg20 (.cells #[.int .i64 s1, .int .i64 s2] 31)
      obtain ⟨u0, u1, _, _⟩ := (hBx.grown hg20' (by simp)).two
      obtain ⟨v0, v1, _, _⟩ := (hBy.grown hg20' (by simp)).two
      go_wp2_with fail
      refine (HS.out.2 _).mono ?_
      rintro e w21 ⟨rfl, hg21⟩
      have hB21 := Blk.new w21 31 #[.int .i64 s1, .int .i64 s2]
      have hg21' := grown_alloc hg21 (.cells #[.int .i64 s1, .int .i64 s2] 31)
      go_wp2_with fail
      refine (lawDemands_any _).mono ?_
      rintro e w22 ⟨rfl, hg22⟩
      obtain ⟨u0, u1, _, _⟩ := (hB20.grown (hg21'.trans hg22) (by simp)).two
      obtain ⟨v0, v1, _, _⟩ := (hB21.grown hg22 (by simp)).two
      have hgZ := (((hg19.trans hg20').trans hg21').trans hg22)
      go_wp2_with fail
      go_ret
      exact ⟨rfl, hgZ⟩
    · rw [h1] at hEx hO0
      rw [if_neg (by simp)] at hEx
      rw [if_pos h2] at hPr hOr
      obtain ⟨hf, hq⟩ := orE_zero h1
      obtain ⟨⟨q1, q2⟩, _, _⟩ := money_ok hq
      obtain ⟨ld, rfl⟩ : ∃ k : Nat, load = k := ⟨load.toNat, by omega⟩
      have hload : ld ≤ 2001 := by omega
      have hRe := fun w1 (hr : Rd w1 1 AT T.length (ints T)) => expectedOf_any AT T.length cT T ld w1 hr hnc hf hload
      rw [show ((ld : Int)).toNat = ld from by omega] at hEx
      unfold frac at hEx hPr hRe
      generalize lowN (slOf T ld) T.sum = x1 at *
      generalize lowD (slOf T ld) T.sum = x2 at *
      have hc2 : orE (histF T) (moneyF ld m u) = 1 := by
        rw [hf] at h2 ⊢
        unfold orE moneyF at *
        rw [if_pos rfl] at h2 ⊢
        split at h2
        · exact absurd rfl h2
        · rename_i h; rw [if_neg h]
      rw [hc2] at hPr hOr hO1
      generalize moneyF (ld : Int) 0 0 = f0 at *
      generalize moneyF (ld : Int) m u = f1 at *
      generalize histF T = f at *
      have HC := Lib.hid (And.intro hEx (And.intro hPr (And.intro hOr (And.intro hHf (And.intro hM0 (And.intro hM1 (And.intro hO0 hO1)))))))
      have HR := Lib.hid hRe
      clear hEx hPr hOr hHf hM0 hM1 hO0 hO1 hRe h1 h2 hf hq q1 q2 hload hc2
      go_wp2_with fail
      refine (HC.out.1 _ hrT4).mono ?_
      rintro e w5 ⟨rfl, hg5⟩
      have hB5 := Blk.new w5 31 #[.int .i64 x1, .int .i64 x2]
      have hg5' := grown_alloc hg5 (.cells #[.int .i64 x1, .int .i64 x2] 31)
      go_wp2_with fail
      refine (HC.out.2.1 _ (hrT4.grown hg5')).mono ?_
      rintro e w6 ⟨rfl, hg6⟩
      have hB6 := Blk.new w6 31 #[.int .i64 0, .int .i64 0]
      have hg6' := grown_alloc hg6 (.cells #[.int .i64 0, .int .i64 0] 31)
      have hg46 := hg5'.trans hg6'
      go_wp2_with fail
      refine (HC.out.2.2.1 _ (hrT4.grown hg46)).mono ?_
      rintro e w7 ⟨rfl, hg7⟩
      have hg47 := hg46.trans hg7
      go_wp2_with fail
      refine (HC.out.2.2.2.1 _ (hrT4.grown hg47)).mono ?_
      rintro e w8 ⟨rfl, hg8⟩
      have hg48 := hg47.trans hg8
      go_wp2_with fail
      refine (HC.out.2.2.2.2.1 _).mono ?_
      rintro e w9 ⟨rfl, hg9⟩
      have hg49 := hg48.trans hg9
      go_wp2_with fail
      refine (HC.out.2.2.2.2.2.2.1 _).mono ?_
      rintro e w10 ⟨rfl, hg10⟩
      have hg410 := hg49.trans hg10
      go_wp2_with fail
      refine (HC.out.2.2.2.2.2.1 _).mono ?_
      rintro e w11 ⟨rfl, hg11⟩
      have hg411 := hg410.trans hg11
      go_wp2_with fail
      refine (HC.out.2.2.2.2.2.2.2 _).mono ?_
      rintro e w12 ⟨rfl, hg12⟩
      have hg412 := hg411.trans hg12
      have hg6c := ((((hg7.trans hg8).trans hg9).trans hg10).trans hg11).trans hg12
      obtain ⟨k0, k1, _, _⟩ := (hB5.grown (hg6'.trans hg6c) (by simp)).two
      have hrT12d := (hrT4.grown hg412).grown (grown_drew (grown_refl w12))
      go_wp2_with fail
      clear hg5 hg6 hg5' hg6' hg46 hg7 hg8 hg47 hg48 hg9 hg49 hg10 hg410 hg11 hg411 hg12 hg6c hB5 hB6
      obtain ⟨G5, hG5⟩ : ∃ G, G = w5.heap.size := ⟨_, rfl⟩
      rw [← hG5] at k0 k1 ⊢
      clear hG5
      refine wp_region_held_drew (S := fun w' => w'.cell? ⟨G5, 0, none⟩ = some (.int .i64 x1) ∧ w'.cell? ⟨G5, 1, none⟩ = some (.int .i64 x2)) (by kernel_rfl) (by (try dsimp only); go_keep) (fun hHeld => ?_)
      refine wpAnyH_take (i := 0) (v := ?_) rfl (by kernel_rfl) (by kernel_rfl) (by kernel_rfl) (fun _ _ _ h => h) (Or.inl ⟨by kernel_rfl, ?_⟩) (by assumption) ?_
      rotate_left
      · intro w hSw
        try dsimp only at hSw
        go_simp
        try with_reducible rfl
      try simp only [Act.put, List.getElem_toArray, List.getElem_cons_zero, List.setIfInBounds_toArray, List.set_cons_zero, List.set_cons_succ]
      refine wpAnyH_take (i := 1) (v := ?_) rfl (by kernel_rfl) (by kernel_rfl) (by kernel_rfl) (fun _ _ _ h => h) (Or.inl ⟨by kernel_rfl, ?_⟩) (by assumption) ?_
      rotate_left
      · intro w hSw
        try dsimp only at hSw
        go_simp
        try with_reducible rfl
      try simp only [Act.put, List.getElem_toArray, List.getElem_cons_zero, List.getElem_cons_succ, List.setIfInBounds_toArray, List.set_cons_zero, List.set_cons_succ]
      refine wpAnyH_take (i := 2) (v := ?_) rfl (by kernel_rfl) (by kernel_rfl) (by kernel_rfl) (fun _ _ _ h => h) (Or.inl ⟨by kernel_rfl, ?_⟩) (by assumption) ?_
      rotate_left
      · intro w hSw
        try dsimp only at hSw
        go_simp
        try with_reducible rfl
      try simp only [Act.put, List.getElem_toArray, List.getElem_cons_zero, List.getElem_cons_succ, List.setIfInBounds_toArray, List.set_cons_zero, List.set_cons_succ]
      refine wpAnyH_take (i := 3) (v := ?_) rfl (by kernel_rfl) (by kernel_rfl) (by kernel_rfl) (fun _ _ _ h => h) (Or.inl ⟨by kernel_rfl, ?_⟩) (by assumption) ?_
      rotate_left
      · intro w hSw
        try dsimp only at hSw
        go_simp
        try with_reducible rfl
      try simp only [Act.put, List.getElem_toArray, List.getElem_cons_zero, List.getElem_cons_succ, List.setIfInBounds_toArray, List.set_cons_zero, List.set_cons_succ]
      refine wpAnyH_take (i := 4) (v := ?_) rfl (by kernel_rfl) (by kernel_rfl) (by kernel_rfl) (fun _ _ _ h => h) (Or.inl ⟨by kernel_rfl, ?_⟩) (by assumption) ?_
      rotate_left
      · intro w hSw
        try dsimp only at hSw
        go_simp
        try with_reducible rfl
      try simp only [Act.put, List.getElem_toArray, List.getElem_cons_zero, List.getElem_cons_succ, List.setIfInBounds_toArray, List.set_cons_zero, List.set_cons_succ]
      refine wpAnyH_take (i := 5) (v := ?_) rfl (by kernel_rfl) (by kernel_rfl) (by kernel_rfl) (fun _ _ _ h => h) (Or.inl ⟨by kernel_rfl, ?_⟩) (by assumption) ?_
      rotate_left
      · intro w hSw
        try dsimp only at hSw
        go_simp
        try with_reducible rfl
      try simp only [Act.put, List.getElem_toArray, List.getElem_cons_zero, List.getElem_cons_succ, List.setIfInBounds_toArray, List.set_cons_zero, List.set_cons_succ]
      refine wpAnyH_ready (rs := [6]) (by kernel_rfl) (by simp) ?_
      refine AllReadyH.cons rfl (fun K hK => ?_) AllReadyH.nil
      go_simp
      go_at_call 51
      refine (HR.out _ hrT12d).mono ?_
      rintro e w13 ⟨rfl, hg13⟩
      have l0 := hg13.cell (a := ⟨G5, 0, none⟩) k0 (by simp)
      have l1 := hg13.cell (a := ⟨G5, 1, none⟩) k1 (by simp)
      refine hK.out _ _ ⟨l0, l1⟩ (fun hHeld => ?_)
      clear hK
      refine wpAnyH_take (i := 7) (v := ?_) rfl (by kernel_rfl) (by kernel_rfl) (by kernel_rfl) (fun _ _ _ h => h) (Or.inl ⟨by kernel_rfl, ?_⟩) (by assumption) ?_
      rotate_left
      · intro w hSw
        try dsimp only at hSw
        go_simp
        try with_reducible rfl
      try simp only [Act.put, List.getElem_toArray, List.getElem_cons_zero, List.getElem_cons_succ, List.setIfInBounds_toArray, List.set_cons_zero, List.set_cons_succ]
      refine wpAnyH_take (i := 8) (v := ?_) rfl (by kernel_rfl) (by kernel_rfl) (by kernel_rfl) (fun _ _ _ h => h) (Or.inl ⟨by kernel_rfl, ?_⟩) (by assumption) ?_
      rotate_left
      · intro w hSw
        try dsimp only at hSw
        go_simp
        try with_reducible rfl
      try simp only [Act.put, List.getElem_toArray, List.getElem_cons_zero, List.getElem_cons_succ, List.setIfInBounds_toArray, List.set_cons_zero, List.set_cons_succ]
      refine wpAnyH_take (i := 9) (v := ?_) rfl (by kernel_rfl) (by kernel_rfl) (by kernel_rfl) (fun _ _ _ h => h) (Or.inl ⟨by kernel_rfl, ?_⟩) (by assumption) ?_
      rotate_left
      · intro w hSw
        try dsimp only at hSw
        go_simp
        try with_reducible rfl
      try simp only [Act.put, List.getElem_toArray, List.getElem_cons_zero, List.getElem_cons_succ, List.setIfInBounds_toArray, List.set_cons_zero, List.set_cons_succ]
      refine wpAnyH_take (i := 10) (v := ?_) rfl (by kernel_rfl) (by kernel_rfl) (by kernel_rfl) (fun _ _ _ h => h) (Or.inl ⟨by kernel_rfl, ?_⟩) (by assumption) ?_
      rotate_left
      · intro w hSw
        try dsimp only at hSw
        go_simp
        try with_reducible rfl
      try simp only [Act.put, List.getElem_toArray, List.getElem_cons_zero, List.getElem_cons_succ, List.setIfInBounds_toArray, List.set_cons_zero, List.set_cons_succ]
      refine wpAnyH_take (i := 11) (v := ?_) rfl (by kernel_rfl) (by kernel_rfl) (by kernel_rfl) (fun _ _ _ h => h) (Or.inl ⟨by kernel_rfl, ?_⟩) (by assumption) ?_
      rotate_left
      · intro w hSw
        try dsimp only at hSw
        go_simp
        try with_reducible rfl
      try simp only [Act.put, List.getElem_toArray, List.getElem_cons_zero, List.getElem_cons_succ, List.setIfInBounds_toArray, List.set_cons_zero, List.set_cons_succ]
      refine wpAnyH_take (i := 12) (v := ?_) rfl (by kernel_rfl) (by kernel_rfl) (by kernel_rfl) (fun _ _ _ h => h) (Or.inl ⟨by kernel_rfl, ?_⟩) (by assumption) ?_
      rotate_left
      · intro w hSw
        try dsimp only at hSw
        go_simp
        try with_reducible rfl
      try simp only [Act.put, List.getElem_toArray, List.getElem_cons_zero, List.getElem_cons_succ, List.setIfInBounds_toArray, List.set_cons_zero, List.set_cons_succ]
      refine wpAnyH_take (i := 13) (v := undef) rfl (by kernel_rfl) (by kernel_rfl) (by kernel_rfl) (fun _ _ _ h => h) (Or.inr ⟨by kernel_rfl, rfl⟩) (by assumption) ?_
      try simp only [Act.put, List.getElem_toArray, List.getElem_cons_zero, List.getElem_cons_succ, List.setIfInBounds_toArray, List.set_cons_zero, List.set_cons_succ]
      refine wpAnyH_take (i := 14) (v := undef) rfl (by kernel_rfl) (by kernel_rfl) (by kernel_rfl) (fun _ _ _ h => h) (Or.inr ⟨by kernel_rfl, rfl⟩) (by assumption) ?_
      try simp only [Act.put, List.getElem_toArray, List.getElem_cons_zero, List.getElem_cons_succ, List.setIfInBounds_toArray, List.set_cons_zero, List.set_cons_succ]
      refine wpAnyH_take (i := 15) (v := undef) rfl (by kernel_rfl) (by kernel_rfl) (by kernel_rfl) (fun _ _ _ h => h) (Or.inr ⟨by kernel_rfl, rfl⟩) (by assumption) ?_
      try simp only [Act.put, List.getElem_toArray, List.getElem_cons_zero, List.getElem_cons_succ, List.setIfInBounds_toArray, List.set_cons_zero, List.set_cons_succ]
      refine wpAnyH_take (i := 16) (v := undef) rfl (by kernel_rfl) (by kernel_rfl) (by kernel_rfl) (fun _ _ _ h => h) (Or.inr ⟨by kernel_rfl, rfl⟩) (by assumption) ?_
      try simp only [Act.put, List.getElem_toArray, List.getElem_cons_zero, List.getElem_cons_succ, List.setIfInBounds_toArray, List.set_cons_zero, List.set_cons_succ]
      refine wpAnyH_take (i := 17) (v := undef) rfl (by kernel_rfl) (by kernel_rfl) (by kernel_rfl) (fun _ _ _ h => h) (Or.inr ⟨by kernel_rfl, rfl⟩) (by assumption) ?_
      try simp only [Act.put, List.getElem_toArray, List.getElem_cons_zero, List.getElem_cons_succ, List.setIfInBounds_toArray, List.set_cons_zero, List.set_cons_succ]
      refine wpAnyH_take (i := 18) (v := undef) rfl (by kernel_rfl) (by kernel_rfl) (by kernel_rfl) (fun _ _ _ h => h) (Or.inr ⟨by kernel_rfl, rfl⟩) (by assumption) ?_
      try simp only [Act.put, List.getElem_toArray, List.getElem_cons_zero, List.getElem_cons_succ, List.setIfInBounds_toArray, List.set_cons_zero, List.set_cons_succ]
      refine wpAnyH_take (i := 19) (v := undef) rfl (by kernel_rfl) (by kernel_rfl) (by kernel_rfl) (fun _ _ _ h => h) (Or.inr ⟨by kernel_rfl, rfl⟩) (by assumption) ?_
      try simp only [Act.put, List.getElem_toArray, List.getElem_cons_zero, List.getElem_cons_succ, List.setIfInBounds_toArray, List.set_cons_zero, List.set_cons_succ]
      refine wpAnyH_take (i := 20) (v := undef) rfl (by kernel_rfl) (by kernel_rfl) (by kernel_rfl) (fun _ _ _ h => h) (Or.inr ⟨by kernel_rfl, rfl⟩) (by assumption) ?_
      try simp only [Act.put, List.getElem_toArray, List.getElem_cons_zero, List.getElem_cons_succ, List.setIfInBounds_toArray, List.set_cons_zero, List.set_cons_succ]
      refine wpAnyH_take (i := 21) (v := undef) rfl (by kernel_rfl) (by kernel_rfl) (by kernel_rfl) (fun _ _ _ h => h) (Or.inr ⟨by kernel_rfl, rfl⟩) (by assumption) ?_
      try simp only [Act.put, List.getElem_toArray, List.getElem_cons_zero, List.getElem_cons_succ, List.setIfInBounds_toArray, List.set_cons_zero, List.set_cons_succ]
      refine wpAnyH_take (i := 22) (v := undef) rfl (by kernel_rfl) (by kernel_rfl) (by kernel_rfl) (fun _ _ _ h => h) (Or.inr ⟨by kernel_rfl, rfl⟩) (by assumption) ?_
      try simp only [Act.put, List.getElem_toArray, List.getElem_cons_zero, List.getElem_cons_succ, List.setIfInBounds_toArray, List.set_cons_zero, List.set_cons_succ]
      refine wpAnyH_take (i := 23) (v := undef) rfl (by kernel_rfl) (by kernel_rfl) (by kernel_rfl) (fun _ _ _ h => h) (Or.inr ⟨by kernel_rfl, rfl⟩) (by assumption) ?_
      try simp only [Act.put, List.getElem_toArray, List.getElem_cons_zero, List.getElem_cons_succ, List.setIfInBounds_toArray, List.set_cons_zero, List.set_cons_succ]
      refine wpAnyH_take (i := 24) (v := undef) rfl (by kernel_rfl) (by kernel_rfl) (by kernel_rfl) (fun _ _ _ h => h) (Or.inr ⟨by kernel_rfl, rfl⟩) (by assumption) ?_
      try simp only [Act.put, List.getElem_toArray, List.getElem_cons_zero, List.getElem_cons_succ, List.setIfInBounds_toArray, List.set_cons_zero, List.set_cons_succ]
      refine wpAnyH_take (i := 25) (v := undef) rfl (by kernel_rfl) (by kernel_rfl) (by kernel_rfl) (fun _ _ _ h => h) (Or.inr ⟨by kernel_rfl, rfl⟩) (by assumption) ?_
      try simp only [Act.put, List.getElem_toArray, List.getElem_cons_zero, List.getElem_cons_succ, List.setIfInBounds_toArray, List.set_cons_zero, List.set_cons_succ]
      refine wpAnyH_take (i := 26) (v := undef) rfl (by kernel_rfl) (by kernel_rfl) (by kernel_rfl) (fun _ _ _ h => h) (Or.inr ⟨by kernel_rfl, rfl⟩) (by assumption) ?_
      try simp only [Act.put, List.getElem_toArray, List.getElem_cons_zero, List.getElem_cons_succ, List.setIfInBounds_toArray, List.set_cons_zero, List.set_cons_succ]
      refine wpAnyH_take (i := 27) (v := undef) rfl (by kernel_rfl) (by kernel_rfl) (by kernel_rfl) (fun _ _ _ h => h) (Or.inr ⟨by kernel_rfl, rfl⟩) (by assumption) ?_
      try simp only [Act.put, List.getElem_toArray, List.getElem_cons_zero, List.getElem_cons_succ, List.setIfInBounds_toArray, List.set_cons_zero, List.set_cons_succ]
      refine wpAnyH_take (i := 28) (v := undef) rfl (by kernel_rfl) (by kernel_rfl) (by kernel_rfl) (fun _ _ _ h => h) (Or.inr ⟨by kernel_rfl, rfl⟩) (by assumption) ?_
      try simp only [Act.put, List.getElem_toArray, List.getElem_cons_zero, List.getElem_cons_succ, List.setIfInBounds_toArray, List.set_cons_zero, List.set_cons_succ]
      refine wpAnyH_take (i := 29) (v := ?_) rfl (by kernel_rfl) (by kernel_rfl) (by kernel_rfl) (fun _ _ _ h => h) (Or.inl ⟨by kernel_rfl, ?_⟩) (by assumption) ?_
      rotate_left
      · intro w hSw
        try dsimp only at hSw
        go_simp
        try with_reducible rfl
      try simp only [Act.put, List.getElem_toArray, List.getElem_cons_zero, List.getElem_cons_succ, List.setIfInBounds_toArray, List.set_cons_zero, List.set_cons_succ]
      refine wpAnyH_take (i := 30) (v := ?_) rfl (by kernel_rfl) (by kernel_rfl) (by kernel_rfl) (fun _ _ _ h => h) (Or.inl ⟨by kernel_rfl, ?_⟩) (by assumption) ?_
      rotate_left
      · intro w hSw
        try dsimp only at hSw
        go_simp
        try with_reducible rfl
      try simp only [Act.put, List.getElem_toArray, List.getElem_cons_zero, List.getElem_cons_succ, List.setIfInBounds_toArray, List.set_cons_zero, List.set_cons_succ]
      refine wpAnyH_done (by kernel_rfl) ?_ _
      have hgS : w4.grownBy w13 none := ((grown_drew hg412).trans hg13)
      have hgS2 := hgg4.trans hgS
      have hsS := hs4.grown hgS (by simp)
      clear hgS hs4 hgg4
      clear hrT4 hrT12d hg13 hg412
      generalize w13 = wS at *
      go_wp2_with fail
      refine (pick_lit bs L _ [0, 1, -3, 500000000, 1000000001] _ hsS (by omega) (by decide) (by decide) 3).mono ?_
      rw [← HP.out.1]
      rintro e w16 ⟨rfl, hs16, hg16⟩
      go_wp2_with fail
      refine (pick_lit bs L _ [1, 2, 7, 999999999, 0] _ hs16 (by omega) (by decide) (by decide) 3).mono ?_
      rw [← HP.out.2.1]
      rintro e w17 ⟨rfl, hs17, hg17⟩
      go_wp2_with fail
      refine (pick_lit bs L _ [0, 5, -1, 999999999] _ hs17 (by omega) (by decide) (by decide) 3).mono ?_
      rw [← HP.out.2.2.1]
      rintro e w18 ⟨rfl, hs18, hg18⟩
      go_wp2_with fail
      refine (pick_lit bs L _ [1, 3, 4, 1000000001] _ hs18 (by omega) (by decide) (by decide) 3).mono ?_
      rw [← HP.out.2.2.2]
      rintro e w19 ⟨rfl, hs19, hg19⟩
      have hgS3 : w.grownBy w19 none := grown_below hgS2 (((hg16.trans hg17).trans hg18).trans hg19) (fun j hj => .inl (by have := HZ.out.2; cases hj; omega))
      clear hs16 hs17 hs18 hs19 hg16 hg17 hg18 hg19 hgS2 hsS
      go_wp2_with fail
      have hBx := (Blk.new w19 31 #[.int .i64 p1, .int .i64 p2]).alloc (.cells #[.int .i64 p3, .int .i64 p4] 31)
      have hBy := Blk.new (w19.alloc (.cells #[.int .i64 p1, .int .i64 p2] 31)) 31 #[.int .i64 p3, .int .i64 p4]
      rw [show (w19.alloc (.cells #[.int .i64 p1, .int .i64 p2] 31)).heap.size = w19.heap.size + 1 from by simp] at hBy
      have hg19 := grown_alloc (grown_alloc hgS3 (.cells #[.int .i64 p1, .int .i64 p2] 31)) (.cells #[.int .i64 p3, .int .i64 p4] 31)
      obtain ⟨GX, hGX⟩ : ∃ G, G = w19.heap.size := ⟨_, rfl⟩
      rw [← hGX] at hBx hBy ⊢
      clear hGX hgS3
      generalize ((w19.alloc (.cells #[.int .i64 p1, .int .i64 p2] 31)).alloc (.cells #[.int .i64 p3, .int .i64 p4] 31)) = wX at *
      refine (HS.out.1 _).mono ?_
      rintro e w20 ⟨rfl, hg20⟩
      have hB20 := Blk.new w20 31 #[.int .i64 s1, .int .i64 s2]
      have hg20' := grown_alloc hg20 (.cells #[.int .i64 s1, .int .i64 s2] 31)
      obtain ⟨u0, u1, _, _⟩ := (hBx.grown hg20' (by simp)).two
      obtain ⟨v0, v1, _, _⟩ := (hBy.grown hg20' (by simp)).two
      go_wp2_with fail
      refine (HS.out.2 _).mono ?_
      rintro e w21 ⟨rfl, hg21⟩
      have hB21 := Blk.new w21 31 #[.int .i64 s1, .int .i64 s2]
      have hg21' := grown_alloc hg21 (.cells #[.int .i64 s1, .int .i64 s2] 31)
      go_wp2_with fail
      refine (lawDemands_any _).mono ?_
      rintro e w22 ⟨rfl, hg22⟩
      obtain ⟨u0, u1, _, _⟩ := (hB20.grown (hg21'.trans hg22) (by simp)).two
      obtain ⟨v0, v1, _, _⟩ := (hB21.grown hg22 (by simp)).two
      have hgZ := (((hg19.trans hg20').trans hg21').trans hg22)
      go_wp2_with fail
      go_ret
      exact ⟨rfl, hgZ⟩
  · have h2 : orE (histF T) (moneyF load m u) ≠ 0 := by
      intro h
      obtain ⟨hf, hq⟩ := orE_zero h
      obtain ⟨⟨q1, q2⟩, _, _⟩ := money_ok hq
      apply h1
      rw [hf, ← money0, if_pos (btw_true.2 ⟨q1, q2⟩)]
      rfl
    rw [if_pos h1] at hEx
    rw [if_pos h2] at hPr hOr
    unfold frac at hEx hPr
    generalize orE (histF T) (moneyF load m u) = c2 at *
    generalize orE (histF T) (moneyF load 0 0) = c1 at *
    generalize moneyF load 0 0 = f0 at *
    generalize moneyF load m u = f1 at *
    generalize histF T = f at *
    have hc0 : (c2 == 0) = false := by rw [beq_eq_false_iff_ne]; exact h2
    have hc1 : (c2 != c2) = false := by simp
    have hd0 : (c1 == 0) = false := by rw [beq_eq_false_iff_ne]; exact h1
    have hd1 : (c1 != c1) = false := by simp
    have hc2 : (c2 != 0) = true := by rw [bne_iff_ne]; exact h2
    have hd2 : (c1 != 0) = true := by rw [bne_iff_ne]; exact h1
    have HC := Lib.hid (And.intro hEx (And.intro hPr (And.intro hOr (And.intro hHf (And.intro hM0 (And.intro hM1 (And.intro hO0 hO1)))))))
    clear hEx hPr hOr hHf hM0 hM1 hO0 hO1 h1 h2
    go_wp2_with fail
    refine (HC.out.1 _ hrT4).mono ?_
    rintro e w5 ⟨rfl, hg5⟩
    have hB5 := Blk.new w5 31 #[.int .i64 0, .int .i64 0]
    have hg5' := grown_alloc hg5 (.cells #[.int .i64 0, .int .i64 0] 31)
    go_wp2_with fail
    refine (HC.out.2.1 _ (hrT4.grown hg5')).mono ?_
    rintro e w6 ⟨rfl, hg6⟩
    have hB6 := Blk.new w6 31 #[.int .i64 0, .int .i64 0]
    have hg6' := grown_alloc hg6 (.cells #[.int .i64 0, .int .i64 0] 31)
    have hg46 := hg5'.trans hg6'
    go_wp2_with fail
    refine (HC.out.2.2.1 _ (hrT4.grown hg46)).mono ?_
    rintro e w7 ⟨rfl, hg7⟩
    have hg47 := hg46.trans hg7
    go_wp2_with fail
    refine (HC.out.2.2.2.1 _ (hrT4.grown hg47)).mono ?_
    rintro e w8 ⟨rfl, hg8⟩
    have hg48 := hg47.trans hg8
    go_wp2_with fail
    refine (HC.out.2.2.2.2.1 _).mono ?_
    rintro e w9 ⟨rfl, hg9⟩
    have hg49 := hg48.trans hg9
    go_wp2_with fail
    refine (HC.out.2.2.2.2.2.2.1 _).mono ?_
    rintro e w10 ⟨rfl, hg10⟩
    have hg410 := hg49.trans hg10
    go_wp2_with fail
    refine (HC.out.2.2.2.2.2.1 _).mono ?_
    rintro e w11 ⟨rfl, hg11⟩
    have hg411 := hg410.trans hg11
    go_wp2_with fail
    refine (HC.out.2.2.2.2.2.2.2 _).mono ?_
    rintro e w12 ⟨rfl, hg12⟩
    have hg412 := hg411.trans hg12
    have hg6c := ((((hg7.trans hg8).trans hg9).trans hg10).trans hg11).trans hg12
    go_wp2_with fail
    go_quiet (fail)
    have hgS : w4.grownBy (w12.drewN nq) none := grown_drewN hg412 _
    have hgS2 := hgg4.trans hgS
    have hsS := hs4.grown hgS (by simp)
    clear hgS hs4 hgg4
    clear hrT4 hg412
    generalize (w12.drewN nq) = wS at *
    go_wp2_with fail
    refine (pick_lit bs L _ [0, 1, -3, 500000000, 1000000001] _ hsS (by omega) (by decide) (by decide) 3).mono ?_
    rw [← HP.out.1]
    rintro e w16 ⟨rfl, hs16, hg16⟩
    go_wp2_with fail
    refine (pick_lit bs L _ [1, 2, 7, 999999999, 0] _ hs16 (by omega) (by decide) (by decide) 3).mono ?_
    rw [← HP.out.2.1]
    rintro e w17 ⟨rfl, hs17, hg17⟩
    go_wp2_with fail
    refine (pick_lit bs L _ [0, 5, -1, 999999999] _ hs17 (by omega) (by decide) (by decide) 3).mono ?_
    rw [← HP.out.2.2.1]
    rintro e w18 ⟨rfl, hs18, hg18⟩
    go_wp2_with fail
    refine (pick_lit bs L _ [1, 3, 4, 1000000001] _ hs18 (by omega) (by decide) (by decide) 3).mono ?_
    rw [← HP.out.2.2.2]
    rintro e w19 ⟨rfl, hs19, hg19⟩
    have hgS3 : w.grownBy w19 none := grown_below hgS2 (((hg16.trans hg17).trans hg18).trans hg19) (fun j hj => .inl (by have := HZ.out.2; cases hj; omega))
    clear hs16 hs17 hs18 hs19 hg16 hg17 hg18 hg19 hgS2 hsS
    go_wp2_with fail
    have hBx := (Blk.new w19 31 #[.int .i64 p1, .int .i64 p2]).alloc (.cells #[.int .i64 p3, .int .i64 p4] 31)
    have hBy := Blk.new (w19.alloc (.cells #[.int .i64 p1, .int .i64 p2] 31)) 31 #[.int .i64 p3, .int .i64 p4]
    rw [show (w19.alloc (.cells #[.int .i64 p1, .int .i64 p2] 31)).heap.size = w19.heap.size + 1 from by simp] at hBy
    have hg19 := grown_alloc (grown_alloc hgS3 (.cells #[.int .i64 p1, .int .i64 p2] 31)) (.cells #[.int .i64 p3, .int .i64 p4] 31)
    obtain ⟨GX, hGX⟩ : ∃ G, G = w19.heap.size := ⟨_, rfl⟩
    rw [← hGX] at hBx hBy ⊢
    clear hGX hgS3
    generalize ((w19.alloc (.cells #[.int .i64 p1, .int .i64 p2] 31)).alloc (.cells #[.int .i64 p3, .int .i64 p4] 31)) = wX at *
    refine (HS.out.1 _).mono ?_
    rintro e w20 ⟨rfl, hg20⟩
    have hB20 := Blk.new w20 31 #[.int .i64 s1, .int .i64 s2]
    have hg20' := grown_alloc hg20 (.cells #[.int .i64 s1, .int .i64 s2] 31)
    obtain ⟨u0, u1, _, _⟩ := (hBx.grown hg20' (by simp)).two
    obtain ⟨v0, v1, _, _⟩ := (hBy.grown hg20' (by simp)).two
    go_wp2_with fail
    refine (HS.out.2 _).mono ?_
    rintro e w21 ⟨rfl, hg21⟩
    have hB21 := Blk.new w21 31 #[.int .i64 s1, .int .i64 s2]
    have hg21' := grown_alloc hg21 (.cells #[.int .i64 s1, .int .i64 s2] 31)
    go_wp2_with fail
    refine (lawDemands_any _).mono ?_
    rintro e w22 ⟨rfl, hg22⟩
    obtain ⟨u0, u1, _, _⟩ := (hB20.grown (hg21'.trans hg22) (by simp)).two
    obtain ⟨v0, v1, _, _⟩ := (hB21.grown hg22 (by simp)).two
    have hgZ := (((hg19.trans hg20').trans hg21').trans hg22)
    go_wp2_with fail
    go_ret
    exact ⟨rfl, hgZ⟩

end Go.Proofs.Ytkfijicmeekmiaa
