/- The walk of the law ChangePaid. -/
import Derived.Test.YtoaeflegcfecaaaChangeOfW
import Derived.Test.YtoaeflegcfecaaaGen
import Derived.Test.YtoaeflegcfecaaaIn
namespace Go.Proofs.Ytoaeflegcfecaaa
open Go.RowKit

theorem amt_tub {l : List Tub} {x : Int} (h : tubFault l ≠ 0) : amtFault l x = tubFault l := by unfold amtFault; rw [if_pos h]
theorem amt_amt {l : List Tub} {x : Int} (h : tubFault l = 0) : amtFault l x = amtF x := by unfold amtFault amtF; rw [if_neg (by simp [h])]

theorem payRun_len (n a : Nat) {l : List Tub} (pre : List (BackAt l)) : (payRun n a pre).1.length = n := by
  suffices h : ∀ (xs : List (Nat × Tub)) (s : List Int × Nat), (xs.foldl (payStep l) s).1.length = s.1.length by
    have := h (pre.map (·.1)) (List.replicate n 0, a)
    simpa [payRun] using this
  intro xs
  induction xs with
  | nil => intro s; rfl
  | cons x xs ih => intro s; rw [List.foldl_cons, ih]; simp [payStep]
theorem chg_len (l : List Tub) (a : Nat) : (chg l a).length ≤ l.length := by
  unfold chg; split
  · rw [payRun_len]; exact Nat.le_refl _
  · simp

set_option maxRecDepth 100000 in
set_option maxHeartbeats 1600000 in
theorem changePaid_walk (a0 : Option Addr) (len0 cap0 : Nat) (z0 : List Int) (w : World) (w0 : InRow w a0 len0 cap0 z0) :
    Calls Try.prog 3 #[.slice a0 len0 cap0] w fun e w' => e = .returned (.bool true) ∧ w.grownBy w' none := by
  obtain ⟨hlen, hs0⟩ := str_start w0
  have hg0 : w.grownBy (w.alloc (.cells #[.slice a0 len0 cap0, .int .i64 0] 25)) none := grown_alloc (grown_refl w) _
  have hz0 : (w.alloc (.cells #[.slice a0 len0 cap0, .int .i64 0] 25)).heap.size = w.heap.size + 1 := by simp
  clear hlen w0
  generalize z0.take len0 = L at *
  go_enter Try.func3, Try.ntmps3
  go_wp2_with fail
  generalize w.alloc (.cells #[.slice a0 len0 cap0, .int .i64 0] 25) = wA at *
  have HZ := Lib.hid hz0
  clear hz0
  refine (tubes_any w.heap.size L 0 _ hs0 (by omega)).mono ?_
  rintro e w1 ⟨vT, rfl, hown1, hs1, hg1⟩
  obtain ⟨hT1, hT2⟩ := tubesM_bound L 0
  generalize (tubesM L 0).2 = T at *
  generalize (tubesM L 0).1 = t1 at *
  obtain ⟨AT, cT, rfl, hnc, hcm, hrT1, hbT⟩ := Rd.of_own hown1
  have HB := Lib.hid hbT
  clear hbT
  go_wp2_with fail
  refine (amount_any w.heap.size L _ _ hs1 (by omega)).mono ?_
  rintro e w2 ⟨rfl, hs2, hg2⟩
  generalize amountM L t1 = x at *
  have hrT2 : Rd w2 3 AT T.length (tubFlat T) := hrT1.grown_ hg2 (fun a ha => by have := HB.out a ha; have := HZ.out; simp; omega)
  have hg12 : w.grownBy w2 none := by
    have h1 := grown_below (r := none) hg0 hg1 (fun j hj => .inl (by cases hj; omega))
    exact grown_below h1 hg2 (fun j hj => .inl (by cases hj; omega))
  clear hs0 hs1 hs2 hg1 hown1 hg0 hg2 hrT1
  go_wp2_with fail
  refine (refTubesFault_any AT T.length cT T _ hrT2).mono ?_
  rintro e w3 ⟨rfl, hg3⟩
  go_wp2_with fail
  refine (checkTubes_any AT T.length cT T _ (hrT2.grown hg3)).mono ?_
  rintro e w4 ⟨rfl, hg4⟩
  have hrT4 := (hrT2.grown hg3).grown hg4
  have hgw4 := (hg12.trans hg3).trans hg4
  clear hrT2 hg12 hg3 hg4
  by_cases hf : tubFault T = 0
  · rw [hf]
    by_cases hx : amtF x = 0
    · have haf : amtFault T x = 0 := by rw [amt_amt hf, hx]
      have hbx : btw x 0 20000 = true := by
        by_cases h : btw x 0 20000 = true
        · exact h
        · simp [amtF, h] at hx
      obtain ⟨hx0, hx1⟩ := btw_true.1 hbx
      obtain ⟨a, rfl⟩ := Int.eq_ofNat_of_zero_le hx0
      have HF := Lib.hid (And.intro hf (And.intro haf hx))
      clear hf haf hx hbx
      go_wp2_with fail
      refine (total_ok AT T.length cT T _ hrT4 HF.out.1).mono ?_
      rintro e w5 ⟨rfl, hg5⟩
      have hrT5 := hrT4.grown hg5
      go_wp2_with fail
      refine (change_ok AT T.length cT T a _ hrT5 HF.out.2.1).mono ?_
      rintro e w6 ⟨vC, rfl, hownC, hg6⟩
      have hrT6 := hrT5.grown hg6
      obtain ⟨AC, cC, rfl, hncC, hcmC, hrC, hbC⟩ := Rd.of_own hownC
      have hCl := chg_len T a
      obtain ⟨C, hC⟩ : ∃ C, C = chg T a := ⟨_, rfl⟩
      obtain ⟨eC, hE⟩ : ∃ eC, eC = chgE T a := ⟨_, rfl⟩
      rw [← hC] at hrC hCl
      rw [← hC, ← hE]
      have HCE := Lib.hid (And.intro hC hE)
      clear hC hE hownC hbC hncC hcmC
      go_wp2_with fail
      refine (greedy_ok AT T.length cT T a _ hrT6 HF.out.2.1).mono ?_
      rintro e w7 ⟨vG, rfl, hownG, hg7⟩
      have hrT7 := hrT6.grown hg7
      obtain ⟨AG, cG, rfl, hncG, hcmG, hrG, hbG⟩ := Rd.of_own hownG
      obtain ⟨G, hG⟩ : ∃ G, G = (gRun T.length a (backAll T)).1 := ⟨_, rfl⟩
      obtain ⟨rest, hrest⟩ : ∃ rest, rest = (gRun T.length a (backAll T)).2 := ⟨_, rfl⟩
      rw [← hG] at hrG
      rw [← hrest]
      have HGR := Lib.hid (And.intro hG hrest)
      clear hG hrest hownG hbG hncG hcmG
      have hz : (totalOf T != totalOf T) = false := by simp
      go_wp2_with fail
      refine (refTotal_ok AT T.length cT T _ hrT7 HF.out.1).mono ?_
      rintro e w8 ⟨rfl, hg8⟩
      go_wp2_with fail
      refine (amountFault_any _ _).mono ?_
      rw [HF.out.2.2]
      rintro e w9 ⟨rfl, rfl⟩
      go_wp2_with fail
      refine (changeOf_any AT T.length cT T a _ (hrT7.grown hg8) HF.out.1 (by omega)).mono ?_
      rw [← HCE.out.1, ← HCE.out.2]
      rintro e w10 ⟨vX, rfl, hownX, hg10⟩
      obtain ⟨AX, cX, rfl, hncX, hcmX, hrX, hbX⟩ := Rd.of_own hownX
      clear hownX hbX hncX hcmX
      go_wp2_with fail
      refine (greedyOf_any AT T.length cT T a _ ((hrT7.grown hg8).grown hg10) (by omega) (by omega) HF.out.1).mono ?_
      rw [← HGR.out.1, ← HGR.out.2]
      rintro e w11 ⟨vY, rfl, hownY, hg11⟩
      obtain ⟨AY, cY, rfl, hncY, hcmY, hrY, hbY⟩ := Rd.of_own hownY
      clear hownY hbY hncY hcmY
      go_wp2_with fail
      refine (lawVends_any _).mono ?_
      rintro e w12 ⟨rfl, hg12⟩
      have hgX := ((hg10.trans hg11).trans hg12)
      have hgC := ((hg7.trans hg8).trans hgX)
      go_wp2_with fail
      refine (equalInts_any AC AX C.length cC C.length cX C C _ (hrC.grown hgC) ((hrX.grown hg11).grown hg12) (by omega) (by omega)).mono ?_
      rw [show decide (C = C) = true from by simp]
      rintro e w13 ⟨rfl, hg13⟩
      go_wp2_with fail
      refine (equalInts_any AG AY T.length cG T.length cY G G _ ((hrG.grown (hg8.trans hgX)).grown hg13) ((hrY.grown hg12).grown hg13) (by omega) (by omega)).mono ?_
      rw [show decide (G = G) = true from by simp]
      rintro e w14 ⟨rfl, hg14⟩
      go_wp2_with fail
      go_ret
      exact ⟨rfl, ((((hgw4.trans hg5).trans hg6).trans hgC).trans hg13).trans hg14⟩
    · have haf : amtFault T x = amtF x := amt_amt hf
      have hb : (amtF x != 0) = true := by rw [bne_iff_ne]; exact hx
      have h1 := change_bad AT T.length cT T x
      have h2 := greedy_bad AT T.length cT T x
      rw [haf] at h1 h2
      have h3 := amountFault_any x
      generalize amtF x = f at *
      have HB2 := Lib.hid (And.intro h1 (And.intro h2 (And.intro h3 (And.intro hx hf))))
      clear h1 h2 h3 hx hf haf
      have hz : (totalOf T != totalOf T) = false := by simp
      go_wp2_with fail
      refine (total_ok AT T.length cT T _ hrT4 HB2.out.2.2.2.2).mono ?_
      rintro e w5 ⟨rfl, hg5⟩
      go_wp2_with fail
      refine (HB2.out.1 _ (hrT4.grown hg5) HB2.out.2.2.2.1).mono ?_
      rintro e w6 ⟨rfl, hg6⟩
      go_wp2_with fail
      refine (HB2.out.2.1 _ ((hrT4.grown hg5).grown hg6) HB2.out.2.2.2.1).mono ?_
      rintro e w7 ⟨rfl, hg7⟩
      go_wp2_with fail
      refine (refTotal_ok AT T.length cT T _ (((hrT4.grown hg5).grown hg6).grown hg7) HB2.out.2.2.2.2).mono ?_
      rintro e w8 ⟨rfl, hg8⟩
      go_wp2_with fail
      refine (HB2.out.2.2.1 _).mono ?_
      rintro e w9 ⟨rfl, rfl⟩
      go_wp2_with fail
      refine (lawVends_any _).mono ?_
      rintro e w10 ⟨rfl, hg10⟩
      go_wp2_with fail
      go_ret
      exact ⟨rfl, ((((hgw4.trans hg5).trans hg6).trans hg7).trans hg8).trans hg10⟩
  · have hb : (tubFault T != 0) = true := by rw [bne_iff_ne]; exact hf
    have h1 := change_bad AT T.length cT T x
    have h2 := greedy_bad AT T.length cT T x
    have h3 := total_bad AT T.length cT T
    rw [amt_tub hf] at h1 h2
    generalize tubFault T = f at *
    have HB2 := Lib.hid (And.intro h1 (And.intro h2 (And.intro h3 hf)))
    clear h1 h2 h3 hf
    go_wp2_with fail
    refine (HB2.out.2.2.1 _ hrT4 HB2.out.2.2.2).mono ?_
    rintro e w5 ⟨rfl, hg5⟩
    go_wp2_with fail
    refine (HB2.out.1 _ (hrT4.grown hg5) HB2.out.2.2.2).mono ?_
    rintro e w6 ⟨rfl, hg6⟩
    go_wp2_with fail
    refine (HB2.out.2.1 _ ((hrT4.grown hg5).grown hg6) HB2.out.2.2.2).mono ?_
    rintro e w7 ⟨rfl, hg7⟩
    go_wp2_with fail
    refine (lawVends_any _).mono ?_
    rintro e w8 ⟨rfl, hg8⟩
    go_wp2_with fail
    go_ret
    exact ⟨rfl, (((hgw4.trans hg5).trans hg6).trans hg7).trans hg8⟩

end Go.Proofs.Ytoaeflegcfecaaa
