/- The walks of CheckClaim, and of the reference's ClaimFault. -/
import Derived.Test.YtccmcdjcpipkiaaTerms
import Derived.Test.YtccmcdjcpipkiaaBlk
import Derived.Test.YtccmcdjcpipkiaaClm
namespace Go.Proofs.Ytccmcdjcpipkiaa
open Go.RowKit

def claimF (c : Clm) : Int := if btw c.a 0 5761439 = true ∧ btw c.l 1 100000 = true ∧ btw c.p 0 1000 = true then 0 else 1

theorem isMoment_any (n : Int) (w : World) : Calls Try.prog 32 #[.int .i64 n] w fun e w' => e = .returned (.bool (btw n 0 5761439)) ∧ w.grownBy w' none := by
  go_enter Try.func32, Try.ntmps32
  go_wp2_with fail
  refine (between_any n 0 5761439 _).mono ?_
  rintro e w1 ⟨rfl, rfl⟩
  go_wp2_with fail
  go_ret
  exact ⟨rfl, grown_refl w⟩

theorem momentR_any (n : Int) (w : World) : Calls Try.prog 33 #[.int .i64 n] w fun e w' => e = .returned (.bool (btw n 0 5761439)) ∧ w.grownBy w' none := by
  have h : btw n 0 5761439 = (decide (0 ≤ n) && decide (n < 5761440)) := by
    unfold btw; rw [Bool.eq_iff_iff]; simp; omega
  rw [h]
  by_cases h0 : 0 ≤ n
  · by_cases h1 : n < 5761440
    · go_enter Try.func33, Try.ntmps33
      go_wp2_with fail
      go_ret
      exact ⟨retB (by rw [Bool.eq_iff_iff]; simp; omega), grown_refl w⟩
    · go_enter Try.func33, Try.ntmps33
      go_wp2_with fail
      go_ret
      exact ⟨retB (by rw [Bool.eq_iff_iff]; simp; omega), grown_refl w⟩
  · go_enter Try.func33, Try.ntmps33
    go_wp2_with fail
    go_ret
    exact ⟨retB (by rw [Bool.eq_iff_iff]; simp; omega), grown_refl w⟩

set_option maxRecDepth 100000 in
set_option maxHeartbeats 1000000 in
theorem checkClaim_any (c : Clm) (w : World) : Calls Try.prog 12 #[.agg #[.int .i64 c.a, .int .i64 c.l, .int .i64 c.p]] w fun e w' => e = .returned (.int .i64 (claimF c)) ∧ w.grownBy w' none := by
  obtain ⟨a, l, p⟩ := c
  obtain ⟨F, hF⟩ : ∃ F, claimF ⟨a, l, p⟩ = F := ⟨_, rfl⟩
  rw [hF]
  unfold claimF at hF
  simp only at hF ⊢
  have HC := Lib.hid hF
  clear hF
  have hB := Blk.new w 27 #[.int .i64 a, .int .i64 l, .int .i64 p]
  have hg0 := grown_alloc (grown_refl w) (.cells #[.int .i64 a, .int .i64 l, .int .i64 p] 27)
  generalize ew : w.alloc (.cells #[.int .i64 a, .int .i64 l, .int .i64 p] 27) = wA at *
  obtain ⟨g, hg⟩ : ∃ g, w.heap.size = g := ⟨_, rfl⟩
  rw [hg] at hB
  have HE := Lib.hid (And.intro ew hg)
  clear ew hg
  obtain ⟨c0, c1, c2, _⟩ := hB.three
  go_enter Try.func12, Try.ntmps12
  go_wp2_with fail
  rw [HE.out.1, HE.out.2]
  refine (isMoment_any a wA).mono ?_
  rintro e w1 ⟨rfl, hg1⟩
  obtain ⟨d0, d1, d2, _⟩ := (hB.grown hg1 (by simp)).three
  by_cases ha : btw a 0 5761439 = true
  · rw [ha]
    go_wp2_with fail
    refine (between_any l 1 100000 w1).mono ?_
    rintro e w2 ⟨rfl, rfl⟩
    by_cases hl : btw l 1 100000 = true
    · rw [hl]
      go_wp2_with fail
      refine (between_any p 0 1000 w1).mono ?_
      rintro e w3 ⟨rfl, rfl⟩
      by_cases hp : btw p 0 1000 = true
      · rw [hp]
        go_wp2_with fail
        go_ret
        exact ⟨retI (by rw [← HC.out]; simp [*]), hg0.trans hg1⟩
      · have hp' : btw p 0 1000 = false := by simpa using hp
        rw [hp']
        go_wp2_with fail
        go_ret
        exact ⟨retI (by rw [← HC.out]; simp [*]), hg0.trans hg1⟩
    · have hl' : btw l 1 100000 = false := by simpa using hl
      rw [hl']
      go_wp2_with fail
      go_ret
      exact ⟨retI (by rw [← HC.out]; simp [*]), hg0.trans hg1⟩
  · have ha' : btw a 0 5761439 = false := by simpa using ha
    rw [ha']
    go_wp2_with fail
    go_ret
    exact ⟨retI (by rw [← HC.out]; simp [*]), hg0.trans hg1⟩

set_option maxRecDepth 100000 in
set_option maxHeartbeats 1000000 in
theorem claimFault_any (c : Clm) (w : World) : Calls Try.prog 13 #[.agg #[.int .i64 c.a, .int .i64 c.l, .int .i64 c.p]] w fun e w' => e = .returned (.int .i64 (claimF c)) ∧ w.grownBy w' none := by
  obtain ⟨a, l, p⟩ := c
  obtain ⟨F, hF⟩ : ∃ F, claimF ⟨a, l, p⟩ = F := ⟨_, rfl⟩
  rw [hF]
  unfold claimF at hF
  simp only at hF ⊢
  have HC := Lib.hid hF
  clear hF
  have hB := Blk.new w 27 #[.int .i64 a, .int .i64 l, .int .i64 p]
  have hg0 := grown_alloc (grown_refl w) (.cells #[.int .i64 a, .int .i64 l, .int .i64 p] 27)
  generalize ew : w.alloc (.cells #[.int .i64 a, .int .i64 l, .int .i64 p] 27) = wA at *
  obtain ⟨g, hg⟩ : ∃ g, w.heap.size = g := ⟨_, rfl⟩
  rw [hg] at hB
  have HE := Lib.hid (And.intro ew hg)
  clear ew hg
  obtain ⟨c0, c1, c2, _⟩ := hB.three
  go_enter Try.func13, Try.ntmps13
  go_wp2_with fail
  rw [HE.out.1, HE.out.2]
  refine (momentR_any a wA).mono ?_
  rintro e w1 ⟨rfl, hg1⟩
  obtain ⟨d0, d1, d2, _⟩ := (hB.grown hg1 (by simp)).three
  have fin : w.grownBy w1 none := hg0.trans hg1
  have HF := Lib.hid fin
  clear fin hg0 hg1 hB c0 c1 c2
  by_cases ha : btw a 0 5761439 = true
  · rw [ha]
    by_cases h1 : l < 1
    · go_wp2_with fail
      go_ret
      exact ⟨retI (by rw [← HC.out, if_neg]; intro h; have := btw_true.1 h.2.1; omega), HF.out⟩
    · by_cases h2 : 100000 < l
      · go_wp2_with fail
        go_ret
        exact ⟨retI (by rw [← HC.out, if_neg]; intro h; have := btw_true.1 h.2.1; omega), HF.out⟩
      · by_cases h3 : p < 0
        · go_wp2_with fail
          go_ret
          exact ⟨retI (by rw [← HC.out, if_neg]; intro h; have := btw_true.1 h.2.2; omega), HF.out⟩
        · by_cases h4 : 1000 < p
          · go_wp2_with fail
            go_ret
            exact ⟨retI (by rw [← HC.out, if_neg]; intro h; have := btw_true.1 h.2.2; omega), HF.out⟩
          · go_wp2_with fail
            go_ret
            exact ⟨retI (by rw [← HC.out, if_pos]; exact ⟨ha, btw_true.2 (by omega), btw_true.2 (by omega)⟩), HF.out⟩
  · have ha' : btw a 0 5761439 = false := by simpa using ha
    rw [ha']
    go_wp2_with fail
    go_ret
    exact ⟨retI (by rw [← HC.out]; simp [*]), HF.out⟩

end Go.Proofs.Ytccmcdjcpipkiaa
