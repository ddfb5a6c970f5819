/- The walk of the law NobodyIsLost. -/
import Derived.Test.YtkfijicmeekmiaaTakS
import Derived.Test.YtkfijicmeekmiaaKeep
namespace Go.Proofs.Ytkfijicmeekmiaa
open Go.RowKit

set_option maxRecDepth 100000 in
set_option maxHeartbeats 4000000 in
theorem nobodyIsLost_walk (a0 : Option Addr) (len0 cap0 : Nat) (z0 : List Int) (w : World) (w0 : InRow w a0 len0 cap0 z0) :
    Calls Try.prog 10 #[.slice a0 len0 cap0] w fun e w' => e = .returned (.bool true) ∧ w.grownBy w' none := by
  obtain ⟨hlen, hs0⟩ := str_start w0
  have hg0 : w.grownBy (w.alloc (.cells #[.slice a0 len0 cap0, .int .i64 0] 25)) none := grown_alloc (grown_refl w) _
  have hz0 : (w.alloc (.cells #[.slice a0 len0 cap0, .int .i64 0] 25)).heap.size = w.heap.size + 1 := by simp
  clear hlen w0
  generalize z0.take len0 = L at *
  go_enter Try.func10, Try.ntmps10
  go_wp2_with fail
  generalize w.alloc (.cells #[.slice a0 len0 cap0, .int .i64 0] 25) = wA at *
  obtain ⟨bs, hbs⟩ : ∃ bs, bs = w.heap.size := ⟨_, rfl⟩
  rw [← hbs] at hs0 hz0 ⊢
  have HZ := Lib.hid hbs
  clear hbs
  refine (table_any bs L 0 _ hs0 (by omega)).mono ?_
  rintro e w1 ⟨A, c, rfl, hT1, hs1, hg1⟩
  obtain ⟨⟨hb1, hb2⟩, hb3⟩ := tableM_bound L 0
  generalize (tableM L 0).2 = T at *
  generalize (tableM L 0).1 = t1 at *
  rw [hz0] at hT1
  have hsz1 := hg1.size
  have hbw1 := hs1.lt
  have hB2 := Blk.new w1 70 #[.slice A T.length c]
  have hga := grown_alloc (grown_refl w1) (.cells #[.slice A T.length c] 70)
  have hT2 := hT1.grown hga
  have hs2 := hs1.grown hga (by simp)
  have hg2 := hg1.trans (hga.but (some bs))
  generalize hgT : w1.heap.size = gT at *
  go_upto_region 3 with fail
  generalize w1.alloc (.cells #[.slice A T.length c] 70) = w2 at *
  have hbT : bs < gT := by omega
  obtain ⟨hn1a, hn1b⟩ := numbersM_bound L t1 T.length 20
  obtain ⟨hn2a, hn2b⟩ := numbersM_bound L (numbersM L t1 T.length 20).1 T.length 12
  have hN1 := fun w1 (hs : Str w1 bs L t1) => numbers_any bs L t1 T.length 20 w1 hs (by omega) (by omega) (by omega)
  have hN2 := fun w1 (hs : Str w1 bs L (numbersM L t1 T.length 20).1) => numbers_any bs L (numbersM L t1 T.length 20).1 T.length 12 w1 hs (by omega) (by omega) (by omega)
  generalize (numbersM L (numbersM L t1 T.length 20).1 T.length 12).2 = S at *
  generalize (numbersM L (numbersM L t1 T.length 20).1 T.length 12).1 = t3 at *
  generalize (numbersM L t1 T.length 20).2 = W at *
  generalize (numbersM L t1 T.length 20).1 = t2 at *
  have hW5 : W.length ≤ 6 ∧ S.length ≤ 6 := by omega
  have hlt2 := hs2.lt
  have hB2lt := hB2.lt
  have HN1 := Lib.hid hN1
  have HN2 := Lib.hid hN2
  have hg3 : w.grownBy w2 (some bs) := (hg0.but _).trans hg2
  clear hN1 hN2 hn1a hn1b hn2a hn2b hga hsz1 hbw1 hg1 hs1 hT1 hb1 hz0 hs0 hgT hg0 hg2
  go_cut [5, 6] (fun vW vS wx => ∃ AW cW AS cS, vW = .slice AW W.length cW ∧ vS = .slice AS S.length cS ∧ TakSt w wx (bs + 1) gT A AW AS c cW cS T W S)
  case first =>
    have hB2d : Blk w2.drew gT 70 #[.slice A T.length c] := hB2
    have hs2d := Str.drew hs2
    have hT2d : RdT w2.drew (bs + 1) A T := by obtain ⟨h0, vals, h1, h2⟩ := hT2; exact ⟨h0, vals, h1, h2⟩
    have hg3d := grown_drew hg3
    have hbd : bs < w2.drew.heap.size := hlt2
    have k0 := hB2d.cell 0
    have HD := Lib.hid (And.intro hB2d (And.intro hs2d (And.intro hT2d hg3d)))
    clear hB2 hs2 hT2 hg3 hB2d hs2d hT2d hg3d hb3
    go_wp2_with fail
    go_region_law (first
      | (go_simp; go_at_call 27; refine (HN2.out _ hs6).mono ?_; rintro e w7 ⟨v7, rfl, hown7, hs7, hg7⟩; obtain ⟨AS, cS, rfl, _, _, hrS7, _⟩ := Rd.of_own hown7; dsimp only; have hB7 := hB6.grown hg7 (by simp; omega); have k7 := hB7.cell 0)
      | (go_simp; go_at_call 27; refine (HN1.out _ HD.out.2.1).mono ?_; rintro e w6 ⟨v6, rfl, hown6, hs6, hg6⟩; obtain ⟨AW, cW, rfl, _, _, hrW6, _⟩ := Rd.of_own hown6; dsimp only; have hB6 := HD.out.1.grown hg6 (by simp; omega); have k6 := hB6.cell 0))
    all_goals
      go_wp2_with fail
      go_meet
      have hT7 := (HD.out.2.2.1.stream hg6 (by omega)).stream hg7 (by omega)
      have hown6' := hown6.kept hg7 (own_ne hown6 hbd)
      obtain ⟨_, _, e6, _, _, hr6, _⟩ := Rd.of_own hown6'
      injection e6 with e61 e62 e63
      subst e61
      refine ⟨AW, cW, AS, cS, rfl, rfl, hB7, hT7, hr6, hrS7, own_cap hown6, own_cap hown7, ?_⟩
      exact grown_below (r := none) (grown_refl w) ((HD.out.2.2.2.trans hg6).trans hg7) (fun j hj => .inl (by cases hj; have := HZ.out; omega))
  case rest =>
    obtain ⟨AW, cW, AS, cS, rfl, rfl, H⟩ := hcut
    clear hT2 hs2 hB2 hg3 HN1 HN2 hlt2 hB2lt hbT
    have hIF := refInsF_any (bs + 1) A AW AS c cW cS T W S wc H.tab (by omega) H.wants H.stock H.capW H.capS
    have k0 := H.box.cell 0
    by_cases hF : insF T W S = 0
    · have hIN := fun w1 (h : TakSt w w1 (bs + 1) gT A AW AS c cW cS T W S) => instead_any (bs + 1) A AW AS c cW cS T W S w1 h.tab (by omega) h.wants h.stock hF
      rw [hF] at hIF
      obtain ⟨hF1, hF2, hF3, hF4, hF5⟩ := insF_ok hF
      have hI := ins_all hF W.length (Nat.le_refl _)
      have hbW := allB_ok hF4
      generalize insM T S (sold0 W S, lost0 W S) W.length = X at *
      obtain ⟨q1, q2, q3, q4, q5⟩ := hI
      obtain ⟨N, hN⟩ : ∃ N, W.length = N := ⟨_, rfl⟩
      have hSN : S.length = N := by omega
      have hX1 : X.1.length = N := by omega
      have hX2 : X.2.length = N := by omega
      have hN6 : N ≤ 6 := by omega
      have b1 : ∀ x ∈ X.1, -1000000000 ≤ x ∧ x ≤ 1000000000 := by
        intro x hx
        obtain ⟨i, hi, e⟩ := List.getElem_of_mem hx
        have h1 := q3 i (by omega)
        have h2 := (allB_ok hF5) _ (List.mem_of_getElem? (getD_at (l := S) (j := i) (by omega)))
        have h3 := hbW _ (List.mem_of_getElem? (getD_at (l := W) (j := i) (by omega)))
        have h4 : X.1.getD i 0 = x := by simp [List.getD, hi, e]
        rw [h4] at h1
        split at h1 <;> omega
      have b2 : ∀ x ∈ X.2, -1000000000 ≤ x ∧ x ≤ 1000000000 := by
        intro x hx
        obtain ⟨i, hi, e⟩ := List.getElem_of_mem hx
        have h1 := q4 i (by omega)
        have h4 : X.2.getD i 0 = x := by simp [List.getD, hi, e]
        rw [h4] at h1
        omega
      have b3 : ∀ x ∈ W, -1000000000 ≤ x ∧ x ≤ 1000000000 := fun x hx => by have := hbW x hx; omega
      have hT1 := fun B d w1 (hr : Rd w1 1 B N (ints X.1)) => keepTotal_any B N d X.1 w1 hr (by omega) b1
      have hT2 := fun B d w1 (hr : Rd w1 1 B N (ints X.2)) => keepTotal_any B N d X.2 w1 hr (by omega) b2
      have hT3 := fun B d w1 (hr : Rd w1 1 B N (ints W)) => keepTotal_any B N d W w1 hr (by omega) b3
      have z1 := sum_abs (M := 1000000000) (by omega) b1
      have z2 := sum_abs (M := 1000000000) (by omega) b2
      have hq := fun i (hi : i < N) => And.intro (q3 i (by omega)) (q4 i (by omega))
      rw [hN] at hIN hIF
      rw [hSN] at hIN hIF
      have hW0 := H.wants
      have hS0 := H.stock
      rw [hN] at hW0
      rw [hSN] at hS0
      have hz : (X.1.sum + X.2.sum != W.sum) = false := by rw [q5]; simp
      have hz2 : X.1.sum + X.2.sum = W.sum := q5
      rw [hX1] at z1
      rw [hX2] at z2
      generalize X.1.sum = s1 at *
      generalize X.2.sum = s2 at *
      generalize W.sum = s3 at *
      have hs1 : -10000000000 ≤ s1 ∧ s1 ≤ 10000000000 := by omega
      have hs2 : -10000000000 ≤ s2 ∧ s2 ≤ 10000000000 := by omega
      have HIN := Lib.hid hIN
      have HIF := Lib.hid hIF
      have HT := Lib.hid (And.intro hT1 (And.intro hT2 hT3))
      have HQ := Lib.hid hq
      have HH := Lib.hid (And.intro H hz2)
      have HW := Lib.hid (And.intro hW0 hS0)
      have HNN := Lib.hid (And.intro hN hSN)
      clear hIN hIF hT1 hT2 hT3 hq q1 q2 q3 q4 q5 b1 b2 b3 z1 z2 hF hF1 hF2 hF3 hF4 hF5 hbW hW0 hS0 H hz2 hX1 hX2 hW5
      rw [hN, hSN]
      clear hN hSN
      go_wp2_with fail
      refine HIF.out.mono ?_
      rintro e w2 ⟨rfl, hg2⟩
      have H2 := HH.out.1.grown hg2
      have k2 := H2.box.cell 0
      go_wp2_with fail
      refine (HIN.out _ H2).mono ?_
      rintro e w3 ⟨v1, v2, rfl, ho1, ho2, hg3⟩
      obtain ⟨A1, c1, rfl, _, _, r1, _⟩ := Rd.of_own ho1
      obtain ⟨A2, c2, rfl, _, _, r2, _⟩ := Rd.of_own ho2
      have hgg3 := H2.gro.trans hg3
      have hg23 := hg2.trans hg3
      clear ho1 ho2 H2 k2
      have hNN : ((N : Int) != (N : Int)) = false := by simp
      go_wp2_with fail
      refine (HT.out.1 _ _ _ r1).mono ?_
      rintro e w4 ⟨rfl, hg4⟩
      go_wp2_with fail
      refine (HT.out.2.1 _ _ _ (r2.grown hg4)).mono ?_
      rintro e w5 ⟨rfl, hg5⟩
      go_wp2_with fail
      refine (HT.out.2.2 _ _ _ (HW.out.1.grown ((hg23.trans hg4).trans hg5))).mono ?_
      rintro e w6 ⟨rfl, hg6⟩
      have hg46 := (hg4.trans hg5).trans hg6
      have hgg6 := hgg3.trans hg46
      have r1' := r1.grown hg46
      have r2' := r2.grown hg46
      have rW := HW.out.1.grown (hg23.trans hg46)
      have rS := HW.out.2.grown (hg23.trans hg46)
      clear r1 r2 hg46 hg4 hg5 hg6 hg23 hgg3 hg2 hg3
      go_wp2_with fail
      go_loopg [68] N (fun k i wr => ∃ j : Nat, k + j = N ∧ i = .int .i64 j ∧ w6.grownBy wr none)
      case atStart => exact ⟨0, by omega, rfl, grown_refl _⟩
      case round =>
        obtain ⟨j, hj, rfl, hg⟩ := hrel
        by_cases hlt : j < N
        · obtain ⟨ba, oa, ea, _, x1, hx1, ca⟩ := int_cells (r1'.grown hg) hlt
          obtain ⟨bb, ob, eb, _, x2, hx2, cb⟩ := int_cells (r2'.grown hg) hlt
          obtain ⟨bw, ow, ew, _, x3, hx3, cw⟩ := int_cells (rW.grown hg) hlt
          obtain ⟨bq, oq, eq, _, x4, hx4, cq⟩ := int_cells (rS.grown hg) hlt
          have h := HQ.out j hlt
          rw [show X.1.getD j 0 = x1 from by rw [List.getD_eq_getElem?_getD, hx1]; rfl, show X.2.getD j 0 = x2 from by rw [List.getD_eq_getElem?_getD, hx2]; rfl, show W.getD j 0 = x3 from by rw [List.getD_eq_getElem?_getD, hx3]; rfl, show S.getD j 0 = x4 from by rw [List.getD_eq_getElem?_getD, hx4]; rfl] at h
          subst ea eb ew eq
          have hj' : (j : Int) < (N : Int) := by omega
          obtain ⟨⟨h1, h2⟩, h3, h4⟩ := h
          have d3 : decide (x2 < 0) = false := by simp; omega
          have d2 : decide (x4 < x1) = false := by simp; omega
          have n2 : ¬ x4 < x1 := by omega
          have n3 : ¬ x2 < 0 := by omega
          clear hx1 hx2 hx3 hx4
          have HJ := Lib.hid hj
          clear hj
          obtain ⟨m, hm⟩ : ∃ m, min x3 x4 = m := ⟨_, rfl⟩
          have hmx : m ≤ x1 := by
            rw [← hm]
            split at h1 <;> omega
          have d1 : decide (x1 < m) = false := by simp; omega
          clear h1
          go_wp2_with fail
          go_quiet (fail)
          go_wp2_with fail
          have hj := HJ.out
          go_roundg (gk - 1)
          case measure => omega
          case rel => exact ⟨j + 1, by omega, by go_num, grown_drewN hg _⟩
        · obtain rfl : j = N := by omega
          have hgz := hgg6.trans hg
          go_wp2_with fail
          refine (keepDemands_any _).mono ?_
          rintro e w7 ⟨rfl, hg7⟩
          go_wp2_with fail
          go_ret
          exact ⟨rfl, hgz.trans hg7⟩
    · have hne : (insF T W S != 0) = true := by rw [bne_iff_ne]; exact hF
      generalize insF T W S = F at *
      have HIF := Lib.hid hIF
      have HH := Lib.hid H
      clear hIF H hF
      go_wp2_with fail
      refine HIF.out.mono ?_
      rintro e w2 ⟨rfl, hg2⟩
      have hgz := HH.out.gro.trans hg2
      go_wp2_with fail
      refine (keepDemands_any _).mono ?_
      rintro e w7 ⟨rfl, hg7⟩
      go_wp2_with fail
      go_ret
      exact ⟨rfl, hgz.trans hg7⟩

end Go.Proofs.Ytkfijicmeekmiaa
