/- The walk of the law CoinsStay. -/
import Derived.Test.YtoaeflegcfecaaaCoinsP
import Derived.Test.YtoaeflegcfecaaaIn
namespace Go.Proofs.Ytoaeflegcfecaaa
open Go.RowKit

theorem coins_len (L : List Int) (t n : Nat) : (coins L t n).2.length ≤ n + 1 := by
  unfold coins; split
  · simp only [List.length_set]; exact coinMid_len L t n
  · exact coinMid_len L t n

set_option maxRecDepth 100000 in
set_option maxHeartbeats 800000 in
theorem coinsStay_walk (a0 : Option Addr) (len0 cap0 : Nat) (z0 : List Int) (w : World) (w0 : InRow w a0 len0 cap0 z0) :
    Calls Try.prog 7 #[.slice a0 len0 cap0] w fun e w' => e = .returned (.bool true) ∧ w.grownBy w' none := by
  obtain ⟨hlen, hs0⟩ := str_start w0
  have hg0 : w.grownBy (w.alloc (.cells #[.slice a0 len0 cap0, .int .i64 0] 25)) none := grown_alloc (grown_refl w) _
  have hz0 : (w.alloc (.cells #[.slice a0 len0 cap0, .int .i64 0] 25)).heap.size = w.heap.size + 1 := by simp
  clear hlen w0
  generalize z0.take len0 = L at *
  go_enter Try.func7, Try.ntmps7
  go_wp2_with fail
  generalize w.alloc (.cells #[.slice a0 len0 cap0, .int .i64 0] 25) = wA at *
  have HZ := Lib.hid hz0
  clear hz0
  refine (rightTubes_any w.heap.size L 0 _ hs0 (by omega)).mono ?_
  rintro e w1 ⟨vT, rfl, hown1, hs1, hg1⟩
  obtain ⟨hT1, hT2, hT3, hT4⟩ := rightTubes_right L 0
  have hTf := rightTubes_fault L 0
  generalize (rightTubes L 0).2 = T at *
  generalize (rightTubes L 0).1 = t1 at *
  have HT := Lib.hid (And.intro hT2 (And.intro hT3 hTf))
  clear hT2 hT3 hTf
  obtain ⟨AT, cT, rfl, hnc, hcm, hrT1, hbT⟩ := Rd.of_own hown1
  have HB := Lib.hid hbT
  clear hbT
  go_wp2_with fail
  refine (next_any w.heap.size L _ 3000 _ hs1 (by omega) (by omega)).mono ?_
  rintro e w2 ⟨rfl, hs2, hg2⟩
  obtain ⟨hw0, hw1⟩ := nx_rng L t1 3000 (by omega)
  generalize nx L t1 3000 = want at *
  have hrT2 : Rd w2 3 AT T.length (tubFlat T) := hrT1.grown_ hg2 (fun a ha => by have := HB.out a ha; have := HZ.out; simp; omega)
  go_wp2_with fail
  refine (coins_any w.heap.size L _ T.length _ hs2 (by omega) (by omega)).mono ?_
  rintro e w3 ⟨vC, rfl, hown3, hs3, hg3⟩
  have hCl := coins_len L (t1 + 1) T.length
  generalize (coins L (t1 + 1) T.length).2 = C at *
  generalize (coins L (t1 + 1) T.length).1 = t3 at *
  have hz2 : w.heap.size + 1 ≤ w2.heap.size := by have := hg2.size; have := hg1.size; have := HZ.out; omega
  have hrT3 : Rd w3 3 AT T.length (tubFlat T) := hrT2.grown_ hg3 (fun a ha => by have := HB.out a ha; have := HZ.out; simp; omega)
  obtain ⟨AC, cC, rfl, hnc3, hcm3, hrC3, hbC⟩ := Rd.of_own hown3
  clear hbC hcm hcm3
  go_wp2_with fail
  have hff : floatFault T want = 0 := by
    unfold floatFault; rw [if_neg (by simp [HT.out.2.2]), show btw want 0 1000000000 = true from btw_true.2 ⟨hw0, by omega⟩]; rfl
  refine (float_ok AT T.length cT T want _ hrT3 hff).mono ?_
  rintro e w4 ⟨vF, k, hE, rfl, hown4, hg4⟩
  have hFI := (FInv.start T want hw0 (fun t ht => by have := HT.out.1 t ht; unfold RightT at this; omega)).iter k
  have hFl : (fSub T (fIter T want k).g T.length).length = T.length := by rw [fSub_len, hFI.len]
  have hFd : ∀ j, j < T.length → (fSub T (fIter T want k).g T.length).getD j 0 = (fIter T want k).g.getD j 0 - (tubD T j).c := fun j hj => fSub_done T _ _ j hj (by rw [hFI.len]; exact hj)
  have hsum := hFI.sum
  have hpos := hFI.pos
  have hrng := hFI.rng
  clear hE hFI hff
  generalize fSub T (fIter T want k).g T.length = F at *
  generalize (fIter T want k).g = G at *
  generalize (fIter T want k).left = lf at *
  have HF := Lib.hid (And.intro hFl (And.intro hFd (And.intro hsum hrng)))
  clear hFl hFd hsum hrng
  obtain ⟨AF, cF, rfl, hncF, hcmF, hrF4, hbF⟩ := Rd.of_own hown4
  clear hbF hcmF
  have hrT4 := hrT3.grown hg4
  have hrC4 := hrC3.grown hg4
  go_wp2_with fail
  go_loopg [9, 48] T.length (fun k v i wr => ∃ j : Nat, k + j = T.length ∧ i = .int .i64 j ∧ v = .int .i64 (worthOf T G j) ∧ w4.grownBy wr none ∧ (0 ≤ worthOf T G j ∧ worthOf T G j ≤ j * 10000000))
  case atStart => exact ⟨0, by omega, rfl, rfl, grown_refl _, by simp [worthOf]⟩
  case round =>
    obtain ⟨j, hj, rfl, rfl, hg5, hwb0, hwb1⟩ := hrel
    by_cases hlt : j < T.length
    · obtain ⟨b, off, rfl, hb, t, ht, c0, c1, c2⟩ := tub_cells (hrT4.grown hg5) hlt
      obtain ⟨b', off', rfl, hb', x, hx, d0⟩ := int_cells (hrF4.grown hg5) hlt
      have hd := HF.out.2.1 j hlt
      have hr := HF.out.2.2.2 j hlt
      rw [tubD_at ht] at hd hr
      have hxg : x = G.getD j 0 - t.c := by rw [← hd]; simp [List.getD, hx]
      obtain ⟨r1, r2, r3, r4, r5⟩ := HT.out.1 t (List.mem_of_getElem? ht)
      have hW : worthOf T G (j + 1) = worthOf T G j + (t.c + x) * t.v := by
        simp only [worthOf]
        rw [show (T.getD j ⟨0, 0, 0⟩).v = t.v from by simp [List.getD, ht], hxg, show t.c + (G.getD j 0 - t.c) = G.getD j 0 from by omega]
      obtain ⟨q, hq⟩ : ∃ q, q = G.getD j 0 := ⟨_, rfl⟩
      rw [← hq] at hxg hr
      have hx0 : 0 ≤ t.c + x := by omega
      have hx1 : t.c + x ≤ t.m := by omega
      have p0 : 0 ≤ (t.c + x) * t.v := Int.mul_nonneg hx0 (by omega)
      have p1 : (t.c + x) * t.v ≤ 1000 * 10000 := Int.mul_le_mul (by omega) (by omega) (by omega) (by omega)
      have hxl : -1000 ≤ x ∧ x ≤ 1000 := by omega
      generalize worthOf T G j = s at *
      have HW := Lib.hid hW
      have HJ := Lib.hid hj
      clear hW hj ht hx hd hr hxg hq
      have w1 : IntKind.i64.wrap (t.c + x) = t.c + x := IntWalk.i64_in _ (by omega)
      have w2 : IntKind.i64.wrap ((t.c + x) * t.v) = (t.c + x) * t.v := IntWalk.i64_in _ (by omega)
      have w3 : IntKind.i64.wrap (s + (t.c + x) * t.v) = s + (t.c + x) * t.v := IntWalk.i64_in _ (by omega)
      have hlt' : (j : Int) < (T.length : Int) := by omega
      go_wp2_with fail
      go_quiet (fail)
      go_wp2_with fail
      have hj := HJ.out
      go_roundg (gk - 1)
      case measure => omega
      case rel => exact ⟨j + 1, by omega, by go_num, by rw [HW.out], grown_drewN hg5 _, by rw [HW.out]; omega⟩
    · obtain rfl : j = T.length := by omega
      have hsum := HF.out.2.2.1
      have hle : worthOf T G T.length ≤ want := by omega
      generalize worthOf T G T.length = s at *
      have HS := Lib.hid hsum
      clear hsum hj
      have hrT5 := hrT4.grown hg5
      have hrC5 := hrC4.grown hg5
      have hgA : w.grownBy wr none := by
        have h1 := grown_below (r := none) hg0 hg1 (fun j hj => .inl (by cases hj; omega))
        have h2 := grown_below h1 hg2 (fun j hj => .inl (by cases hj; omega))
        have h3 := grown_below h2 hg3 (fun j hj => .inl (by cases hj; omega))
        exact (h3.trans hg4).trans hg5
      clear hg1 hg2 hg3 hg4 hg5 hrT1 hrT2 hrT3 hrT4 hrC3 hrC4 hrF4 hs0 hs1 hs2 hs3 hown1 hown3 hown4
      have hR := refSettleFault_any AT AC T.length cT C.length cC T C wr hrT5 hrC5 (by omega) (by omega)
      by_cases hsf : refSettleFault T C = 0
      · have hC1 : C.length = T.length := by
          by_cases h : C.length = T.length
          · exact h
          · simp [refSettleFault, h] at hsf
        have hC2 : allB C 0 10000 = true := by
          by_cases h : allB C 0 10000 = true
          · exact h
          · simp [refSettleFault, hC1, h] at hsf
        have hC3 := allB_mem hC2
        have hS : settleFault T C = 0 := by simp [settleFault, HT.out.2.2, hC1, hC2]
        have hX := setT_fault T C HT.out.2.2 (fun x hx => (hC3 x hx).1) hC1.symm T.length (Nat.le_refl _)
        have hsum2 := settle_sum T C T.length (Nat.le_refl _) hC1.symm
        have hb1 := totalOf_bound T HT.out.1
        have hb2 := totalOf_bound (setT T C T.length) (setT_right T C HT.out.1 (fun x hx => (hC3 x hx).1) T.length (Nat.le_refl _) hC1.symm).1
        rw [setT_len] at hb2
        have hb3 := overT_bound T C HT.out.1 (fun x hx => by have := hC3 x hx; omega) T.length (Nat.le_refl _) hC1.symm
        rw [hsf] at hR
        have HR := Lib.hid hR
        have HC := Lib.hid (And.intro hC1 (And.intro hC3 (And.intro hS hX)))
        clear hR hC1 hC2 hC3 hS hX hsf
        go_wp2_with fail
        refine HR.out.mono ?_
        rintro e w5 ⟨rfl, hg5⟩
        go_wp2_with fail
        refine (total_ok AT T.length cT T _ (hrT5.grown hg5) HT.out.2.2).mono ?_
        rintro e w6 ⟨rfl, hg6⟩
        go_wp2_with fail
        refine (settle_ok AT AC T.length cT C.length cC T C _ ((hrT5.grown hg5).grown hg6) ((hrC5.grown hg5).grown hg6) HC.out.2.2.1).mono ?_
        rintro e w7 ⟨vX, rfl, hown7, hg7⟩
        obtain ⟨AX, cX, rfl, _, _, hrX7, _⟩ := Rd.of_own hown7
        go_wp2_with fail
        refine (total_ok AX T.length cX (setT T C T.length) _ hrX7 HC.out.2.2.2).mono ?_
        rintro e w8 ⟨rfl, hg8⟩
        go_wp2_with fail
        refine (keepVends_any _).mono ?_
        rintro e w9 ⟨rfl, hg9⟩
        go_wp2_with fail
        refine (worth_any AT AC T.length cT C.length cC T C _ (((((hrT5.grown hg5).grown hg6).grown hg7).grown hg8).grown hg9) (((((hrC5.grown hg5).grown hg6).grown hg7).grown hg8).grown hg9)
          (by rw [HC.out.1]; exact Nat.le_refl _) (by omega) (fun t ht => by have := HT.out.1 t ht; unfold RightT at this; omega) (fun x hx => by have := HC.out.2.1 x hx; omega)).mono ?_
        rw [HC.out.1]
        rintro e w10 ⟨rfl, hg10⟩
        generalize totalOf (setT T C T.length) = z1 at *
        generalize overT T C T.length = z2 at *
        generalize totalOf T = z3 at *
        generalize worthOf T C T.length = z4 at *
        have hz4 : (z3 + z4 == z1 + z2) = true := by rw [beq_iff_eq]; omega
        have hq0 : 0 ≤ z3 + z4 := by omega
        have hq1 : z3 + z4 ≤ 10000000000 := by omega
        have HQ := Lib.hid hsum2
        clear hsum2
        go_wp2_with fail
        go_ret
        exact ⟨retB rfl, (((((hgA.trans hg5).trans hg6).trans hg7).trans hg8).trans hg9).trans hg10⟩
      · have hb : (refSettleFault T C != 0) = true := by rw [bne_iff_ne]; exact hsf
        generalize refSettleFault T C = f at *
        have HR := Lib.hid hR
        clear hR hsf
        go_wp2_with fail
        refine HR.out.mono ?_
        rintro e w5 ⟨rfl, hg5⟩
        go_wp2_with fail
        refine (keepVends_any _).mono ?_
        rintro e w6 ⟨rfl, hg6⟩
        go_wp2_with fail
        go_ret
        exact ⟨rfl, (hgA.trans hg5).trans hg6⟩

end Go.Proofs.Ytoaeflegcfecaaa
