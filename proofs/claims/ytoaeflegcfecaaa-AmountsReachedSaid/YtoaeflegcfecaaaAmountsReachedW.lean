/- The walk of the law AmountsReached. -/
import Derived.Test.YtoaeflegcfecaaaLack
import Derived.Test.YtoaeflegcfecaaaGen
import Derived.Test.YtoaeflegcfecaaaRefB
import Derived.Test.YtoaeflegcfecaaaIn
namespace Go.Proofs.Ytoaeflegcfecaaa
open Go.RowKit

theorem orE_amt (l : List Tub) (x : Int) : orE (tubFault l) (amtF x) = amtFault l x := by
  unfold orE amtFault amtF
  by_cases h : tubFault l = 0
  · rw [if_pos h, if_neg (show ¬ tubFault l ≠ 0 by simp [h])]
  · rw [if_neg h, if_pos h]

set_option maxRecDepth 100000 in
set_option maxHeartbeats 1600000 in
theorem amountsReached_walk (a0 : Option Addr) (len0 cap0 : Nat) (z0 : List Int) (w : World) (w0 : InRow w a0 len0 cap0 z0) :
    Calls Try.prog 4 #[.slice a0 len0 cap0] w fun e w' => e = .returned (.bool true) ∧ w.grownBy w' none := by
  obtain ⟨hlen, hs0⟩ := str_start w0
  have hg0 : w.grownBy (w.alloc (.cells #[.slice a0 len0 cap0, .int .i64 0] 25)) none := grown_alloc (grown_refl w) _
  have hz0 : (w.alloc (.cells #[.slice a0 len0 cap0, .int .i64 0] 25)).heap.size = w.heap.size + 1 := by simp
  clear hlen w0
  generalize z0.take len0 = L at *
  go_enter Try.func4, Try.ntmps4
  go_wp2_with fail
  generalize w.alloc (.cells #[.slice a0 len0 cap0, .int .i64 0] 25) = wA at *
  have HZ := Lib.hid hz0
  clear hz0
  refine (tubes_any w.heap.size L 0 _ hs0 (by omega)).mono ?_
  rintro e w1 ⟨vT, rfl, hown1, hs1, hg1⟩
  obtain ⟨hT1, hT2⟩ := tubesM_bound L 0
  generalize (tubesM L 0).2 = T at *
  generalize (tubesM L 0).1 = t1 at *
  obtain ⟨AT, cT, rfl, hnc, hcm, hrT1, hbT⟩ := Rd.of_own hown1
  have HB := Lib.hid hbT
  clear hbT
  go_wp2_with fail
  refine (amount_any w.heap.size L _ _ hs1 (by omega)).mono ?_
  rintro e w2 ⟨rfl, hs2, hg2⟩
  generalize amountM L t1 = x at *
  have hrT2 : Rd w2 3 AT T.length (tubFlat T) := hrT1.grown_ hg2 (fun a ha => by have := HB.out a ha; have := HZ.out; simp; omega)
  go_wp2_with fail
  refine (pick_lit w.heap.size L _ [1, 5, 10, 25, 0, 20000, 20001] _ hs2 (by omega) (by decide) (by decide) 3).mono ?_
  rintro e w3 ⟨rfl, hs3, hg3⟩
  generalize pk L (t1 + 4) [1, 5, 10, 25, 0, 20000, 20001] = s at *
  have hrT3 : Rd w3 3 AT T.length (tubFlat T) := hrT2.grown_ hg3 (fun a ha => by have := HB.out a ha; have := HZ.out; simp; omega)
  have hg13 : w.grownBy w3 none := by
    have h1 := grown_below (r := none) hg0 hg1 (fun j hj => .inl (by cases hj; omega))
    have h2 := grown_below h1 hg2 (fun j hj => .inl (by cases hj; omega))
    exact grown_below h2 hg3 (fun j hj => .inl (by cases hj; omega))
  clear hs0 hs1 hs2 hs3 hg1 hown1 hg0 hg2 hg3 hrT1 hrT2
  have hOr := orE_amt T x
  by_cases hf : amtFault T x = 0
  · by_cases hs : btw s 1 20000 = true
    · have hT0 : tubFault T = 0 := by
        by_cases h : tubFault T = 0
        · exact h
        · rw [amtFault, if_pos h] at hf; exact absurd hf h
      have hbx : btw x 0 20000 = true := by
        by_cases h : btw x 0 20000 = true
        · exact h
        · simp [amtFault, hT0, h] at hf
      obtain ⟨hx0, hx1⟩ := btw_true.1 hbx
      obtain ⟨most, rfl⟩ := Int.eq_ofNat_of_zero_le hx0
      obtain ⟨hs0, hs1⟩ := btw_true.1 hs
      obtain ⟨step, rfl⟩ := Int.eq_ofNat_of_zero_le (show 0 ≤ s by omega)
      rw [hf] at hOr
      have HF := Lib.hid (And.intro hf (And.intro hT0 hOr))
      clear hf hT0 hbx hs hOr
      go_wp2_with fail
      refine (reach_ok AT T.length cT T most _ hrT3 HF.out.1).mono ?_
      rintro e w4 ⟨vW, m, rfl, hWl, hm, hownW, hg4⟩
      obtain ⟨AW, cW, rfl, hncW, hcmW, hrW, hbW⟩ := Rd.of_own hownW
      have hrT4 := hrT3.grown hg4
      clear hownW hbW hncW hcmW
      go_wp2_with fail
      refine (lacking_ok AT T.length cT T most step _ hrT4 HF.out.1 (by omega) (by omega)).mono ?_
      rintro e w5 ⟨rfl, hg5⟩
      have hrT5 := hrT4.grown hg5
      obtain ⟨lo, hlo⟩ : ∃ lo, lo = lackG (paysB T) most step (most + 1) step := ⟨_, rfl⟩
      rw [← hlo]
      have HLO := Lib.hid hlo
      clear hlo
      go_wp2_with fail
      refine (refTubesFault_any AT T.length cT T _ hrT5).mono ?_
      rintro e w6 ⟨rfl, hg6⟩
      go_wp2_with fail
      refine (amountFault_any _ _).mono ?_
      rintro e w7 ⟨rfl, rfl⟩
      go_wp2_with fail
      refine (or_any _ _ _).mono ?_
      rw [HF.out.2.2]
      rintro e w7 ⟨rfl, hg7⟩
      have hrT7 := (hrT5.grown hg6).grown hg7
      have hst1 : decide ((step : Int) < 1) = false := by simp; omega
      have hst2 : decide ((20000 : Int) < (step : Int)) = false := by simp; omega
      go_wp2_with fail
      refine (reachOf_any AT T.length cT T most _ hrT7 HF.out.2.1 (by omega)).mono ?_
      rintro e w8 ⟨vX, m2, rfl, hXl, hm2, hownX, hg8⟩
      obtain rfl : m = m2 := by omega
      obtain ⟨AX, cX, rfl, hncX, hcmX, hrX, hbX⟩ := Rd.of_own hownX
      clear hownX hbX hncX hcmX
      go_wp2_with fail
      refine (equalWin_any AW AX m cW cX _ _ ((((hrW.grown hg5).grown hg6).grown hg7).grown hg8) hrX (by omega)).mono ?_
      rintro e w9 ⟨rfl, hg9⟩
      go_wp2_with fail
      refine (lackingOf_any AT T.length cT T most step _ ((hrT7.grown hg8).grown hg9) HF.out.2.1 (by omega) (by omega) (by omega)).mono ?_
      rw [← HLO.out]
      rintro e w10 ⟨rfl, hg10⟩
      go_wp2_with fail
      refine (lawVends_any _).mono ?_
      rintro e w11 ⟨rfl, hg11⟩
      go_wp2_with fail
      go_ret
      exact ⟨rfl, (((((((hg13.trans hg4).trans hg5).trans hg6).trans hg7).trans hg8).trans hg9).trans hg10).trans hg11⟩
    · have hs' : btw s 1 20000 = false := by simpa using hs
      have hT0 : tubFault T = 0 := by
        by_cases h : tubFault T = 0
        · exact h
        · rw [amtFault, if_pos h] at hf; exact absurd hf h
      have hbx : btw x 0 20000 = true := by
        by_cases h : btw x 0 20000 = true
        · exact h
        · simp [amtFault, hT0, h] at hf
      obtain ⟨hx0, hx1⟩ := btw_true.1 hbx
      obtain ⟨most, rfl⟩ := Int.eq_ofNat_of_zero_le hx0
      have hlf : lackFault T (most : Int) s = 1 := by simp [lackFault, hf, hs']
      have hss : s < 1 ∨ 20000 < s := by
        simp [btw] at hs'
        omega
      have hlb := lacking_bad AT T.length cT T (most : Int) s
      rw [hlf] at hlb
      rw [hf] at hOr
      have HF := Lib.hid (And.intro hf (And.intro hT0 (And.intro hOr hlb)))
      clear hf hT0 hbx hs hOr hs' hlf hlb
      go_wp2_with fail
      refine (reach_ok AT T.length cT T most _ hrT3 HF.out.1).mono ?_
      rintro e w4 ⟨vW, m, rfl, hWl, hm, hownW, hg4⟩
      obtain ⟨AW, cW, rfl, hncW, hcmW, hrW, hbW⟩ := Rd.of_own hownW
      have hrT4 := hrT3.grown hg4
      clear hownW hbW hncW hcmW
      go_wp2_with fail
      refine (HF.out.2.2.2 _ hrT4 (by decide)).mono ?_
      rintro e w5 ⟨rfl, hg5⟩
      have hrT5 := hrT4.grown hg5
      go_wp2_with fail
      refine (refTubesFault_any AT T.length cT T _ hrT5).mono ?_
      rintro e w6 ⟨rfl, hg6⟩
      go_wp2_with fail
      refine (amountFault_any _ _).mono ?_
      rintro e w7 ⟨rfl, rfl⟩
      go_wp2_with fail
      refine (or_any _ _ _).mono ?_
      rw [HF.out.2.2.1]
      rintro e w7 ⟨rfl, hg7⟩
      have hrT7 := (hrT5.grown hg6).grown hg7
      have hor1 : decide (s < 1) = true ∨ (decide (s < 1) = false ∧ decide (20000 < s) = true) := by
        rcases hss with h | h
        · exact .inl (by simpa using h)
        · exact .inr ⟨by simp; omega, by simpa using h⟩
      clear hss
      rcases hor1 with hst1 | ⟨hst1, hst2⟩
      all_goals
        go_wp2_with fail
        refine (reachOf_any AT T.length cT T most _ hrT7 HF.out.2.1 (by omega)).mono ?_
        rintro e w8 ⟨vX, m2, rfl, hXl, hm2, hownX, hg8⟩
        obtain rfl : m = m2 := by omega
        obtain ⟨AX, cX, rfl, hncX, hcmX, hrX, hbX⟩ := Rd.of_own hownX
        clear hownX hbX hncX hcmX
        go_wp2_with fail
        refine (equalWin_any AW AX m cW cX _ _ ((((hrW.grown hg5).grown hg6).grown hg7).grown hg8) hrX (by omega)).mono ?_
        rintro e w9 ⟨rfl, hg9⟩
        go_wp2_with fail
        refine (lawVends_any _).mono ?_
        rintro e w11 ⟨rfl, hg11⟩
        go_wp2_with fail
        go_ret
        exact ⟨rfl, ((((((hg13.trans hg4).trans hg5).trans hg6).trans hg7).trans hg8).trans hg9).trans hg11⟩
  · have hb : (amtFault T x != 0) = true := by rw [bne_iff_ne]; exact hf
    have hb2 : (amtFault T x == 0) = false := by rw [beq_eq_false_iff_ne]; exact hf
    have hlf : lackFault T x s = amtFault T x := by simp [lackFault, hf]
    have h1 := lacking_bad AT T.length cT T x s
    have h2 := reach_bad AT T.length cT T x
    rw [hlf] at h1
    clear hlf
    generalize amtFault T x = f at *
    have HF := Lib.hid (And.intro h1 (And.intro h2 (And.intro hOr hf)))
    clear h1 h2 hOr hf
    go_wp2_with fail
    refine (HF.out.2.1 _ hrT3 HF.out.2.2.2).mono ?_
    rintro e w4 ⟨rfl, hg4⟩
    go_wp2_with fail
    refine (HF.out.1 _ (hrT3.grown hg4) HF.out.2.2.2).mono ?_
    rintro e w5 ⟨rfl, hg5⟩
    have hrT5 := (hrT3.grown hg4).grown hg5
    go_wp2_with fail
    refine (refTubesFault_any AT T.length cT T _ hrT5).mono ?_
    rintro e w6 ⟨rfl, hg6⟩
    go_wp2_with fail
    refine (amountFault_any _ _).mono ?_
    rintro e w7 ⟨rfl, rfl⟩
    go_wp2_with fail
    refine (or_any _ _ _).mono ?_
    rw [HF.out.2.2.1]
    rintro e w7 ⟨rfl, hg7⟩
    go_wp2_with fail
    refine (lawVends_any _).mono ?_
    rintro e w8 ⟨rfl, hg8⟩
    go_wp2_with fail
    go_ret
    exact ⟨rfl, ((((hg13.trans hg4).trans hg5).trans hg6).trans hg7).trans hg8⟩

end Go.Proofs.Ytoaeflegcfecaaa
