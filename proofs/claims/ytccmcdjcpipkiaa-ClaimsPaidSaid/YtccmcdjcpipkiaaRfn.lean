/- The walks of Refund and RefundOf. -/
import Derived.Test.YtccmcdjcpipkiaaRfd
namespace Go.Proofs.Ytccmcdjcpipkiaa
open Go.RowKit

theorem retI2 {a b c d : Int} (h : a = b) (h2 : c = d) : Ending.returned (.tuple #[.int .i64 a, .int .i64 c]) = .returned (.tuple #[.int .i64 b, .int .i64 d]) := by rw [h, h2]

set_option maxRecDepth 100000 in
set_option maxHeartbeats 2000000 in
theorem refund_any (c : Clm) (A : Option Addr) (n cp : Nat) (l : List Wd) (price most : Int) (w : World) (hr : Rd w 2 A n (wdFlat l)) (hn : n ≤ 1000000)
    (he : Enters Try.prog 28) :
    Calls Try.prog 9 #[.agg #[.int .i64 c.a, .int .i64 c.l, .int .i64 c.p], .slice A n cp, .int .i64 price, .int .i64 most] w
      fun e w' => e = .returned (.tuple #[.int .i64 (refN c l price most), .int .i64 (refE c l price most)]) ∧ w.grownBy w' none := by
  have hCC := fun wx => checkClaim_any c wx
  obtain ⟨a, cl, p⟩ := c
  obtain ⟨N, hN⟩ : ∃ N, refN ⟨a, cl, p⟩ l price most = N := ⟨_, rfl⟩
  obtain ⟨E, hE⟩ : ∃ E, refE ⟨a, cl, p⟩ l price most = E := ⟨_, rfl⟩
  rw [hN, hE]
  unfold refN at hN
  rw [hE] at hN
  unfold refE at hE
  obtain ⟨F, hF⟩ : ∃ F, claimF ⟨a, cl, p⟩ = F := ⟨_, rfl⟩
  rw [hF] at hCC hE
  simp only at hCC hN hE ⊢
  clear hF
  have hCF := fun wx (h : w.grownBy wx none) => checkFaults_any A n cp l wx (hr.grown h) hn
  obtain ⟨G, hG⟩ : ∃ G, faultsF l = G := ⟨_, rfl⟩
  rw [hG] at hCF hE
  clear hG
  have hB := Blk.new w 27 #[.int .i64 a, .int .i64 cl, .int .i64 p]
  have hg0 := grown_alloc (grown_refl w) (.cells #[.int .i64 a, .int .i64 cl, .int .i64 p] 27)
  generalize ew : w.alloc (.cells #[.int .i64 a, .int .i64 cl, .int .i64 p] 27) = wA at *
  obtain ⟨g, hg⟩ : ∃ g, w.heap.size = g := ⟨_, rfl⟩
  rw [hg] at hB
  have hCon := fun wx (h : w.grownBy wx none) (hbk : Blk wx g 27 #[.int .i64 a, .int .i64 cl, .int .i64 p]) =>
    containsFuncWd_any 28 (.pointer (some ⟨g, 0, none⟩)) (inW a) A n cp l wx (hr.grown h) hn he
      (fun x w1 _ h1 => inRef_any x a g w1 ((hbk.grown h1 (by simp)).three.1) (hbk.grown h1 (by simp)).lt)
  obtain ⟨B, hBB⟩ : ∃ B, l.any (inW a) = B := ⟨_, rfl⟩
  rw [hBB] at hCon hN
  clear hBB
  have HE := Lib.hid (And.intro ew (And.intro hg (And.intro hN (And.intro hE (And.intro hCC (And.intro hCF hCon))))))
  clear ew hg hN hE hCC hCF hCon hr
  obtain ⟨c0, c1, c2, _⟩ := hB.three
  go_enter Try.func9, Try.ntmps9
  go_wp2_with fail
  rw [HE.out.1, HE.out.2.1]
  refine (HE.out.2.2.2.2.1 wA).mono ?_
  rintro e w1 ⟨rfl, hg1⟩
  have hB1 := hB.grown hg1 (by simp)
  have hg01 := hg0.trans hg1
  by_cases hF : F = 0
  · subst hF
    clear c0 c1 c2 hB hg0 hg1
    go_wp2_with fail
    refine (HE.out.2.2.2.2.2.1 w1 hg01).mono ?_
    rintro e w2 ⟨rfl, hg2⟩
    have hB2 := hB1.grown hg2 (by simp)
    have hg02 := hg01.trans hg2
    clear hB1 hg01 hg2
    by_cases hG : G = 0
    · subst hG
      go_wp2_with fail
      refine (between_any price 0 100000 w2).mono ?_
      rintro e w2' ⟨rfl, rfl⟩
      by_cases hp : btw price 0 100000 = true
      · rw [hp]
        go_wp2_with fail
        refine (between_any most 0 100000 w2).mono ?_
        rintro e w2' ⟨rfl, rfl⟩
        by_cases hm : btw most 0 100000 = true
        · have hE0 : E = 0 := by rw [← HE.out.2.2.2.1]; simp [hp, hm]
          subst hE0
          rw [hm]
          clear hp hm
          go_wp2_with fail
          refine (HE.out.2.2.2.2.2.2 w2 hg02 hB2).mono ?_
          rintro e w3 ⟨rfl, hg3⟩
          obtain ⟨c0, c1, c2, _⟩ := (hB2.grown hg3 (by simp)).three
          have hNN := HE.out.2.2.1
          rw [if_neg (by simp)] at hNN
          have HN := Lib.hid (And.intro hNN (hg02.trans hg3))
          clear hNN hB2 hg02 hg3
          cases B with
          | true =>
            go_wp2_with fail
            all_goals go_ret2
            all_goals exact ⟨retI2 (by rw [← HN.out.1]; first | (rw [if_pos (by trivial)] <;> omega) | (rw [if_neg (by simp), if_pos (by omega)] <;> omega) | (rw [if_neg (by simp), if_neg (by omega)] <;> omega)) rfl, HN.out.2⟩
          | false =>
            by_cases hp1 : p ≤ 1
            · go_wp2_with fail
              all_goals go_ret2
              all_goals exact ⟨retI2 (by rw [← HN.out.1]; first | (rw [if_pos (by trivial)] <;> omega) | (rw [if_neg (by simp), if_pos (by omega)] <;> omega) | (rw [if_neg (by simp), if_neg (by omega)] <;> omega)) rfl, HN.out.2⟩
            · go_wp2_with fail
              all_goals go_ret2
              all_goals exact ⟨retI2 (by rw [← HN.out.1]; first | (rw [if_pos (by trivial)] <;> omega) | (rw [if_neg (by simp), if_pos (by omega)] <;> omega) | (rw [if_neg (by simp), if_neg (by omega)] <;> omega)) rfl, HN.out.2⟩
        · have hm' : btw most 0 100000 = false := by simpa using hm
          have hE1 : E = 1 := by rw [← HE.out.2.2.2.1]; simp [hm]
          have hN0 : N = 0 := by rw [← HE.out.2.2.1, if_pos (by rw [hE1]; decide)]
          subst hE1 hN0
          rw [hm']
          go_wp2_with fail
          go_ret2
          exact ⟨rfl, hg02⟩
      · have hp' : btw price 0 100000 = false := by simpa using hp
        have hE1 : E = 1 := by rw [← HE.out.2.2.2.1]; simp [hp]
        have hN0 : N = 0 := by rw [← HE.out.2.2.1, if_pos (by rw [hE1]; decide)]
        subst hE1 hN0
        rw [hp']
        go_wp2_with fail
        go_ret2
        exact ⟨rfl, hg02⟩
    · have hE1 : E = G := by rw [← HE.out.2.2.2.1]; simp [hG]
      have hN0 : N = 0 := by rw [← HE.out.2.2.1, if_pos (by rw [hE1]; exact hG)]
      subst hE1 hN0
      have hb : (E != 0) = true := by rw [bne_iff_ne]; exact hG
      clear hG
      go_wp2_with fail
      go_ret2
      exact ⟨rfl, hg02⟩
  · have hE1 : E = F := by rw [← HE.out.2.2.2.1, if_pos hF]
    have hN0 : N = 0 := by rw [← HE.out.2.2.1, if_pos (by rw [hE1]; exact hF)]
    subst hE1 hN0
    have hb : (E != 0) = true := by rw [bne_iff_ne]; exact hF
    clear hF
    go_wp2_with fail
    go_ret2
    exact ⟨rfl, hg01⟩

set_option maxRecDepth 100000 in
set_option maxHeartbeats 2000000 in
theorem refundOf_any (c : Clm) (A : Option Addr) (n cp : Nat) (l : List Wd) (price most : Int) (w : World) (hr : Rd w 2 A n (wdFlat l)) (hn : n ≤ 1000000)
    (he1 : Enters Try.prog 29) (he2 : Enters Try.prog 30) :
    Calls Try.prog 10 #[.agg #[.int .i64 c.a, .int .i64 c.l, .int .i64 c.p], .slice A n cp, .int .i64 price, .int .i64 most] w
      fun e w' => e = .returned (.tuple #[.int .i64 (refN c l price most), .int .i64 (refE c l price most)]) ∧ w.grownBy w' none := by
  have hl : l.length = n := by have := hr.1; rw [wdFlat_len] at this; omega
  have hCC := fun wx => claimFault_any c wx
  obtain ⟨a, cl, p⟩ := c
  obtain ⟨N, hN⟩ : ∃ N, refN ⟨a, cl, p⟩ l price most = N := ⟨_, rfl⟩
  obtain ⟨E, hE⟩ : ∃ E, refE ⟨a, cl, p⟩ l price most = E := ⟨_, rfl⟩
  rw [hN, hE]
  unfold refN at hN
  rw [hE] at hN
  unfold refE at hE
  have hcl : claimF ⟨a, cl, p⟩ = 0 → 1 ≤ cl := by
    intro h
    unfold claimF at h
    by_cases h1 : btw cl 1 100000 = true
    · exact (btw_true.1 h1).1
    · simp [h1] at h
  obtain ⟨F, hF⟩ : ∃ F, claimF ⟨a, cl, p⟩ = F := ⟨_, rfl⟩
  rw [hF] at hCC hE hcl
  simp only at hCC hN hE ⊢
  clear hF
  have hCF := fun wx (h : w.grownBy wx none) => containsFuncWd0_any 29 (fun x => !(okW x)) A n cp l wx (hr.grown h) hn he1 (fun x w1 _ h1 => badRef_any x w1)
  obtain ⟨G, hG⟩ : ∃ G, (l.any fun x => !(okW x)) = G := ⟨_, rfl⟩
  have hfa : faultsF l = if 500 < n then 2 else if G = true then 1 else 0 := by
    unfold faultsF
    rw [hl]
    by_cases h5 : 500 < n
    · rw [if_pos h5, if_pos h5]
    · rw [if_neg h5, if_neg h5]
      cases hGG : G with
      | true =>
        rw [hGG] at hG
        obtain ⟨x, hx, hb⟩ := List.any_eq_true.1 hG
        rw [if_neg, if_pos rfl]
        intro h
        rw [List.all_eq_true.1 h x hx] at hb
        cases hb
      | false =>
        rw [hGG] at hG
        rw [if_pos]
        · simp
        · rw [List.all_eq_true]
          intro x hx
          cases ho : okW x with
          | true => rfl
          | false =>
            have := List.any_eq_false.1 hG x hx
            simp [ho] at this
  rw [hG] at hCF
  rw [hfa] at hE
  clear hG hfa hl
  have hB := Blk.new w 27 #[.int .i64 a, .int .i64 cl, .int .i64 p]
  have hg0 := grown_alloc (grown_refl w) (.cells #[.int .i64 a, .int .i64 cl, .int .i64 p] 27)
  generalize ew : w.alloc (.cells #[.int .i64 a, .int .i64 cl, .int .i64 p] 27) = wA at *
  obtain ⟨g, hg⟩ : ∃ g, w.heap.size = g := ⟨_, rfl⟩
  rw [hg] at hB
  have hCon := fun wx (h : w.grownBy wx none) (hbk : Blk wx g 27 #[.int .i64 a, .int .i64 cl, .int .i64 p]) =>
    containsFuncWd_any 30 (.pointer (some ⟨g, 0, none⟩)) (inW a) A n cp l wx (hr.grown h) hn he2
      (fun x w1 _ h1 => inRefR_any x a g w1 ((hbk.grown h1 (by simp)).three.1) (hbk.grown h1 (by simp)).lt)
  obtain ⟨B, hBB⟩ : ∃ B, l.any (inW a) = B := ⟨_, rfl⟩
  rw [hBB] at hCon hN
  clear hBB
  have HE := Lib.hid (And.intro ew (And.intro hg (And.intro hN (And.intro hE (And.intro hCC (And.intro hCF (And.intro hCon hcl)))))))
  clear ew hg hN hE hCC hCF hCon hr hcl
  obtain ⟨c0, c1, c2, _⟩ := hB.three
  go_enter Try.func10, Try.ntmps10
  go_wp2_with fail
  rw [HE.out.1, HE.out.2.1]
  refine (HE.out.2.2.2.2.1 wA).mono ?_
  rintro e w1 ⟨rfl, hg1⟩
  have hB1 := hB.grown hg1 (by simp)
  have hg01 := hg0.trans hg1
  by_cases hF : F = 0
  · subst hF
    have h1cl := HE.out.2.2.2.2.2.2.2 rfl
    clear c0 c1 c2 hB hg0 hg1
    by_cases h5 : 500 < n
    · have hE1 : E = 2 := by rw [← HE.out.2.2.2.1, if_pos h5]; rfl
      have hN0 : N = 0 := by rw [← HE.out.2.2.1, if_pos (by rw [hE1]; decide)]
      subst hE1 hN0
      go_wp2_with fail
      go_ret2
      exact ⟨rfl, hg01⟩
    · go_wp2_with fail
      refine (HE.out.2.2.2.2.2.1 w1 hg01).mono ?_
      rintro e w2 ⟨rfl, hg2⟩
      have hB2 := hB1.grown hg2 (by simp)
      have hg02 := hg01.trans hg2
      clear hB1 hg01 hg2
      cases G with
      | true =>
        have hE1 : E = 1 := by rw [← HE.out.2.2.2.1, if_neg h5]; rfl
        have hN0 : N = 0 := by rw [← HE.out.2.2.1, if_pos (by rw [hE1]; decide)]
        subst hE1 hN0
        go_wp2_with fail
        go_ret2
        exact ⟨rfl, hg02⟩
      | false =>
        by_cases hp0 : price < 0
        · have hE1 : E = 1 := by rw [← HE.out.2.2.2.1, if_neg h5]; simp [btw]; omega
          have hN0 : N = 0 := by rw [← HE.out.2.2.1, if_pos (by rw [hE1]; decide)]
          subst hE1 hN0
          go_wp2_with fail
          go_ret2
          exact ⟨rfl, hg02⟩
        by_cases hp1 : 100000 < price
        · have hE1 : E = 1 := by rw [← HE.out.2.2.2.1, if_neg h5]; simp [btw]; omega
          have hN0 : N = 0 := by rw [← HE.out.2.2.1, if_pos (by rw [hE1]; decide)]
          subst hE1 hN0
          go_wp2_with fail
          go_ret2
          exact ⟨rfl, hg02⟩
        by_cases hm0 : most < 0
        · have hE1 : E = 1 := by rw [← HE.out.2.2.2.1, if_neg h5]; simp [btw]; omega
          have hN0 : N = 0 := by rw [← HE.out.2.2.1, if_pos (by rw [hE1]; decide)]
          subst hE1 hN0
          go_wp2_with fail
          go_ret2
          exact ⟨rfl, hg02⟩
        by_cases hm1 : 100000 < most
        · have hE1 : E = 1 := by rw [← HE.out.2.2.2.1, if_neg h5]; simp [btw]; omega
          have hN0 : N = 0 := by rw [← HE.out.2.2.1, if_pos (by rw [hE1]; decide)]
          subst hE1 hN0
          go_wp2_with fail
          go_ret2
          exact ⟨rfl, hg02⟩
        have hE1 : E = 0 := by rw [← HE.out.2.2.2.1, if_neg h5]; simp [btw]; omega
        have hNN := HE.out.2.2.1
        rw [if_neg (by rw [hE1]; decide)] at hNN
        subst hE1
        have HN := Lib.hid hNN
        clear hNN
        obtain ⟨c0, c1, c2, _⟩ := hB2.three
        by_cases hp : p ≤ 1
        · by_cases hq : cl ≤ price
          · go_wp2_with fail
            refine (HE.out.2.2.2.2.2.2.1 w2 hg02 hB2).mono ?_
            rintro e w3 ⟨rfl, hg3⟩
            obtain ⟨d0, d1, d2, _⟩ := (hB2.grown hg3 (by simp)).three
            cases B with
            | true =>
              go_wp2_with fail
              all_goals go_ret2
              all_goals exact ⟨retI2 (by rw [← HN.out]; first | (rw [if_pos (by trivial)] <;> omega) | (rw [if_neg (by simp), if_pos (by omega)] <;> omega) | (rw [if_neg (by simp), if_neg (by omega)] <;> omega)) rfl, hg02.trans hg3⟩
            | false =>
              go_wp2_with fail
              all_goals go_ret2
              all_goals exact ⟨retI2 (by rw [← HN.out]; first | (rw [if_pos (by trivial)] <;> omega) | (rw [if_neg (by simp), if_pos (by omega)] <;> omega) | (rw [if_neg (by simp), if_neg (by omega)] <;> omega)) rfl, hg02.trans hg3⟩
          · go_wp2_with fail
            refine (HE.out.2.2.2.2.2.2.1 w2 hg02 hB2).mono ?_
            rintro e w3 ⟨rfl, hg3⟩
            obtain ⟨d0, d1, d2, _⟩ := (hB2.grown hg3 (by simp)).three
            cases B with
            | true =>
              go_wp2_with fail
              all_goals go_ret2
              all_goals exact ⟨retI2 (by rw [← HN.out]; first | (rw [if_pos (by trivial)] <;> omega) | (rw [if_neg (by simp), if_pos (by omega)] <;> omega) | (rw [if_neg (by simp), if_neg (by omega)] <;> omega)) rfl, hg02.trans hg3⟩
            | false =>
              go_wp2_with fail
              all_goals go_ret2
              all_goals exact ⟨retI2 (by rw [← HN.out]; first | (rw [if_pos (by trivial)] <;> omega) | (rw [if_neg (by simp), if_pos (by omega)] <;> omega) | (rw [if_neg (by simp), if_neg (by omega)] <;> omega)) rfl, hg02.trans hg3⟩
        · go_wp2_with fail
          refine (HE.out.2.2.2.2.2.2.1 w2 hg02 hB2).mono ?_
          rintro e w3 ⟨rfl, hg3⟩
          obtain ⟨d0, d1, d2, _⟩ := (hB2.grown hg3 (by simp)).three
          cases B with
          | true =>
            go_wp2_with fail
            all_goals go_ret2
            all_goals exact ⟨retI2 (by rw [← HN.out]; first | (rw [if_pos (by trivial)] <;> omega) | (rw [if_neg (by simp), if_pos (by omega)] <;> omega) | (rw [if_neg (by simp), if_neg (by omega)] <;> omega)) rfl, hg02.trans hg3⟩
          | false =>
            go_wp2_with fail
            all_goals go_ret2
            all_goals exact ⟨retI2 (by rw [← HN.out]; first | (rw [if_pos (by trivial)] <;> omega) | (rw [if_neg (by simp), if_pos (by omega)] <;> omega) | (rw [if_neg (by simp), if_neg (by omega)] <;> omega)) rfl, hg02.trans hg3⟩
  · have hE1 : E = F := by rw [← HE.out.2.2.2.1, if_pos hF]
    have hN0 : N = 0 := by rw [← HE.out.2.2.1, if_pos (by rw [hE1]; exact hF)]
    subst hE1 hN0
    have hb : (E != 0) = true := by rw [bne_iff_ne]; exact hF
    clear hF
    go_wp2_with fail
    go_ret2
    exact ⟨rfl, hg01⟩

end Go.Proofs.Ytccmcdjcpipkiaa
