/- The walks of Add, of the reference's SumFault and SumOf. -/
import Derived.Test.YtkfijicmeekmiaaAdd
namespace Go.Proofs.Ytkfijicmeekmiaa
open Go.RowKit

theorem boxes3 (w : World) (a b c d : Int) :
    Blk (((w.alloc (.cells #[.int .i64 a, .int .i64 b] 31)).alloc (.cells #[.int .i64 c, .int .i64 d] 31)).alloc (.cells #[.int .i64 0, .int .i64 0] 31)) w.heap.size 31 #[.int .i64 a, .int .i64 b] ∧ Blk (((w.alloc (.cells #[.int .i64 a, .int .i64 b] 31)).alloc (.cells #[.int .i64 c, .int .i64 d] 31)).alloc (.cells #[.int .i64 0, .int .i64 0] 31)) (w.heap.size + 1) 31 #[.int .i64 c, .int .i64 d] ∧ Blk (((w.alloc (.cells #[.int .i64 a, .int .i64 b] 31)).alloc (.cells #[.int .i64 c, .int .i64 d] 31)).alloc (.cells #[.int .i64 0, .int .i64 0] 31)) (w.heap.size + 1 + 1) 31 #[.int .i64 0, .int .i64 0] ∧ w.grownBy (((w.alloc (.cells #[.int .i64 a, .int .i64 b] 31)).alloc (.cells #[.int .i64 c, .int .i64 d] 31)).alloc (.cells #[.int .i64 0, .int .i64 0] 31)) none := by
  refine ⟨((Blk.new w _ _).alloc _).alloc _, ?_, ?_, grown_alloc (grown_alloc (grown_alloc (grown_refl w) _) _) _⟩
  · have h := (Blk.new (w.alloc (.cells #[.int .i64 a, .int .i64 b] 31)) 31 #[.int .i64 c, .int .i64 d]).alloc (.cells #[.int .i64 0, .int .i64 0] 31)
    rwa [show (w.alloc (.cells #[.int .i64 a, .int .i64 b] 31)).heap.size = w.heap.size + 1 from by simp] at h
  · have h := Blk.new ((w.alloc (.cells #[.int .i64 a, .int .i64 b] 31)).alloc (.cells #[.int .i64 c, .int .i64 d] 31)) 31 #[.int .i64 0, .int .i64 0]
    rwa [show ((w.alloc (.cells #[.int .i64 a, .int .i64 b] 31)).alloc (.cells #[.int .i64 c, .int .i64 d] 31)).heap.size = w.heap.size + 1 + 1 from by simp] at h

set_option maxRecDepth 100000 in
set_option maxHeartbeats 1000000 in
theorem add_any (a b c d : Int) (w : World) :
    Calls Try.prog 54 #[frac a b, frac c d] w fun e w' => e = .returned (addV a b c d) ∧ w.grownBy w' none := by
  obtain ⟨V, hV⟩ : ∃ V, V = addV a b c d := ⟨_, rfl⟩
  rw [← hV]
  unfold addV at hV
  have h1 := isFraction_any a b
  have h2 := isFraction_any c d
  obtain ⟨hBa, hBb, hBr, hg0⟩ := boxes3 w a b c d
  cases hb1 : frB a b
  · rw [hb1] at h1
    rw [if_pos (.inl hb1)] at hV
    have HC := Lib.hid (And.intro h1 hV)
    clear h1 h2 hV hb1
    unfold frac at *
    go_enter Try.func54, Try.ntmps54
    go_wp2_with fail
    refine (HC.out.1 _).mono ?_
    rintro e w1 ⟨rfl, hg1⟩
    have hBr1 := hBr.grown hg1 (by simp)
    have hgg1 := hg0.trans hg1
    obtain ⟨r0, r1, f0, f1⟩ := hBr1.two
    go_wp2_with fail
    refine bodyPost_ret (results_row_tmp rfl _ _ (w.heap.size + 1 + 1) _ _ _ _ rfl ((hBr1.set_ 0 (.int .i64 0)).set_ 1 (.int .i64 0)) Try.underlying31 rfl (by kernel_rfl)) rfl ?_
    refine ⟨?_, grown_set (p := ⟨w.heap.size + 1 + 1, 1, none⟩) (grown_set (p := ⟨w.heap.size + 1 + 1, 0, none⟩) hgg1 (.inl (by simp; omega)) _) (.inl (by simp; omega)) _⟩
    rw [HC.out.2]
    rfl
  · cases hb2 : frB c d
    · rw [hb1] at h1
      rw [hb2] at h2
      rw [if_pos (.inr hb2)] at hV
      have HC := Lib.hid (And.intro h1 (And.intro hV h2))
      clear h1 h2 hV hb1 hb2
      unfold frac at *
      go_enter Try.func54, Try.ntmps54
      go_wp2_with fail
      refine (HC.out.1 _).mono ?_
      rintro e w1 ⟨rfl, hg1⟩
      obtain ⟨b0, b1, _, _⟩ := (hBb.grown hg1 (by simp)).two
      go_wp2_with fail
      refine (HC.out.2.2 _).mono ?_
      rintro e w2 ⟨rfl, hg2⟩
      have hBr1 := (hBr.grown hg1 (by simp)).grown hg2 (by simp)
      have hgg1 := (hg0.trans hg1).trans hg2
      obtain ⟨r0, r1, f0, f1⟩ := hBr1.two
      go_wp2_with fail
      refine bodyPost_ret (results_row_tmp rfl _ _ (w.heap.size + 1 + 1) _ _ _ _ rfl ((hBr1.set_ 0 (.int .i64 0)).set_ 1 (.int .i64 0)) Try.underlying31 rfl (by kernel_rfl)) rfl ?_
      refine ⟨?_, grown_set (p := ⟨w.heap.size + 1 + 1, 1, none⟩) (grown_set (p := ⟨w.heap.size + 1 + 1, 0, none⟩) hgg1 (.inl (by simp; omega)) _) (.inl (by simp; omega)) _⟩
      rw [HC.out.2.1]
      rfl
    · obtain ⟨⟨b0, b1⟩, a0, a1⟩ := inb_rng (n := a) (d := b) (by unfold frB at hb1; rw [Bool.and_eq_true] at hb1; exact hb1.1)
      obtain ⟨⟨d0, d1⟩, c0, c1⟩ := inb_rng (n := c) (d := d) (by unfold frB at hb2; rw [Bool.and_eq_true] at hb2; exact hb2.1)
      rw [hb1] at h1
      rw [hb2] at h2
      rw [if_neg (by simp [hb1, hb2])] at hV
      obtain ⟨p0, p1⟩ := mul_rng (x := a) (y := d) (M := 1000000000) ⟨a0, a1⟩ ⟨by omega, d1⟩
      obtain ⟨q0, q1⟩ := mul_rng (x := c) (y := b) (M := 1000000000) ⟨c0, c1⟩ ⟨by omega, b1⟩
      have m0 : 0 < b * d := Int.mul_pos (by omega) (by omega)
      have m1 : b * d ≤ 1000000000 * 1000000000 := Int.mul_le_mul b1 d1 (by omega) (by omega)
      have hlo := fun w => lowest_any (a * d + c * b) (b * d) w (by omega) (by omega) m0 (by omega)
      have hlD := lowD_pos (num := a * d + c * b) m0
      unfold sumN sumD at hV
      generalize lowN (a * d + c * b) (b * d) = x1 at *
      generalize lowD (a * d + c * b) (b * d) = x2 at *
      have hin := inBounds_any x1 x2
      generalize inbB x1 x2 = q at *
      have HC := Lib.hid (And.intro h1 (And.intro h2 (And.intro hlo (And.intro hin hV))))
      clear h1 h2 hlo hin hV hb1 hb2 hlD
      unfold frac at *
      go_enter Try.func54, Try.ntmps54
      go_wp2_with fail
      refine (HC.out.1 _).mono ?_
      rintro e w1 ⟨rfl, hg1⟩
      obtain ⟨e0, e1, _, _⟩ := (hBb.grown hg1 (by simp)).two
      go_wp2_with fail
      refine (HC.out.2.1 _).mono ?_
      rintro e w2 ⟨rfl, hg2⟩
      have hg02 := hg1.trans hg2
      obtain ⟨u0, u1, _, _⟩ := (hBb.grown hg02 (by simp)).two
      obtain ⟨v0, v1, _, _⟩ := (hBa.grown hg02 (by simp)).two
      clear e0 e1
      go_wp2_with fail
      refine (HC.out.2.2.1 _).mono ?_
      rintro e w3 ⟨rfl, hg3⟩
      have hB3 := Blk.new w3 31 #[.int .i64 x1, .int .i64 x2]
      have hg3' := grown_alloc hg3 (.cells #[.int .i64 x1, .int .i64 x2] 31)
      have hg03 := hg02.trans hg3'
      clear u0 u1 v0 v1 p0 p1 q0 q1 m0 m1
      go_wp2_with fail
      refine (HC.out.2.2.2.1 _).mono ?_
      rintro e w4 ⟨rfl, hg4⟩
      have hBr4 := (hBr.grown hg03 (by simp)).grown hg4 (by simp)
      obtain ⟨s0, s1, _, _⟩ := (hB3.grown hg4 (by simp)).two
      have hgg4 := (hg0.trans hg03).trans hg4
      obtain ⟨r0, r1, f0, f1⟩ := hBr4.two
      cases q
      · go_wp2_with fail
        refine bodyPost_ret (results_row_tmp rfl _ _ (w.heap.size + 1 + 1) _ _ _ _ rfl ((hBr4.set_ 0 (.int .i64 0)).set_ 1 (.int .i64 0)) Try.underlying31 rfl (by kernel_rfl)) rfl ?_
        refine ⟨?_, grown_set (p := ⟨w.heap.size + 1 + 1, 1, none⟩) (grown_set (p := ⟨w.heap.size + 1 + 1, 0, none⟩) hgg4 (.inl (by simp; omega)) _) (.inl (by simp; omega)) _⟩
        rw [HC.out.2.2.2.2, if_pos (by simp)]
        rfl
      · go_wp2_with fail
        refine bodyPost_ret (results_row_tmp rfl _ _ (w.heap.size + 1 + 1) _ _ _ _ rfl ((hBr4.set_ 0 (.int .i64 x1)).set_ 1 (.int .i64 x2)) Try.underlying31 rfl (by kernel_rfl)) rfl ?_
        refine ⟨?_, grown_set (p := ⟨w.heap.size + 1 + 1, 1, none⟩) (grown_set (p := ⟨w.heap.size + 1 + 1, 0, none⟩) hgg4 (.inl (by simp; omega)) _) (.inl (by simp; omega)) _⟩
        rw [HC.out.2.2.2.2, if_neg (by simp)]
        rfl

set_option maxRecDepth 100000 in
set_option maxHeartbeats 1000000 in
theorem sumFault_any (n d : Int) (w : World) (hn : -2147483648 ≤ n ∧ n ≤ 2147483648) (hd : -2147483648 ≤ d ∧ d ≤ 2147483648) :
    Calls Try.prog 107 #[frac n d] w fun e w' => e = .returned (.int .i64 (if frB n d then 0 else 3)) ∧ w.grownBy w' none := by
  have hB := Blk.new w 31 #[.int .i64 n, .int .i64 d]
  have hg0 := grown_alloc (grown_refl w) (.cells #[.int .i64 n, .int .i64 d] 31)
  have hp := fun (h : 0 < d) w => refPart_any n d w (by omega) (by omega) h (by omega)
  obtain ⟨r, hr⟩ : ∃ r : Int, r = if frB n d then 0 else 3 := ⟨_, rfl⟩
  rw [← hr]
  generalize hy1 : lowN n d = y1 at *
  generalize hy2 : lowD n d = y2 at *
  have hr1 : (d < 1 ∨ 1000000000 < d ∨ n < -1000000000 ∨ 1000000000 < n) → r = 3 := by
    intro h
    rw [hr]
    unfold frB inbB btw
    rcases h with h | h | h | h <;> simp [show ¬ _ ≤ _ from Int.not_le.2 h]
  have hr2 : 1 ≤ d → d ≤ 1000000000 → -1000000000 ≤ n → n ≤ 1000000000 → r = if n = y1 ∧ d = y2 then 0 else 3 := by
    intro h1 h2 h3 h4
    rw [hr]
    unfold frB inbB btw
    simp [h1, h2, h3, h4, hy1, hy2]
  have HR := Lib.hid (And.intro hr1 hr2)
  have HP := Lib.hid hp
  clear hr hp hr1 hr2 hy1 hy2
  obtain ⟨c0, c1, _, _⟩ := hB.two
  have hc : d < 1 ∨ (1 ≤ d ∧ 1000000000 < d) ∨ (1 ≤ d ∧ d ≤ 1000000000 ∧ n < -1000000000) ∨ (1 ≤ d ∧ d ≤ 1000000000 ∧ -1000000000 ≤ n ∧ 1000000000 < n) ∨ (1 ≤ d ∧ d ≤ 1000000000 ∧ -1000000000 ≤ n ∧ n ≤ 1000000000) := by omega
  rcases hc with h1 | ⟨h1, h2⟩ | ⟨h1, h2, h3⟩ | ⟨h1, h2, h3, h4⟩ | ⟨h1, h2, h3, h4⟩
  · have HE := Lib.hid (HR.out.1 (.inl h1))
    have e1 : decide (d < 1) = true := by simp; omega
    unfold frac at *
    go_enter Try.func107, Try.ntmps107
    go_wp2_with fail
    go_quiet (fail)
    go_wp2_with fail
    go_ret
    rw [HE.out]
    exact ⟨rfl, grown_drewN hg0 _⟩
  · have HE := Lib.hid (HR.out.1 (.inr (.inl h2)))
    have e1 : decide (d < 1) = false := by simp; omega
    have e2 : decide (1000000000 < d) = true := by simp; omega
    unfold frac at *
    go_enter Try.func107, Try.ntmps107
    go_wp2_with fail
    go_quiet (fail)
    go_wp2_with fail
    go_ret
    rw [HE.out]
    exact ⟨rfl, grown_drewN hg0 _⟩
  · have HE := Lib.hid (HR.out.1 (.inr (.inr (.inl h3))))
    have e1 : decide (d < 1) = false := by simp; omega
    have e2 : decide (1000000000 < d) = false := by simp; omega
    have e3 : decide (n < -1000000000) = true := by simp; omega
    unfold frac at *
    go_enter Try.func107, Try.ntmps107
    go_wp2_with fail
    go_quiet (fail)
    go_wp2_with fail
    go_ret
    rw [HE.out]
    exact ⟨rfl, grown_drewN hg0 _⟩
  · have HE := Lib.hid (HR.out.1 (.inr (.inr (.inr h4))))
    have e1 : decide (d < 1) = false := by simp; omega
    have e2 : decide (1000000000 < d) = false := by simp; omega
    have e3 : decide (n < -1000000000) = false := by simp; omega
    have e4 : decide (1000000000 < n) = true := by simp; omega
    unfold frac at *
    go_enter Try.func107, Try.ntmps107
    go_wp2_with fail
    go_quiet (fail)
    go_wp2_with fail
    go_ret
    rw [HE.out]
    exact ⟨rfl, grown_drewN hg0 _⟩
  · have hv := HR.out.2 h1 h2 h3 h4
    have hpp := HP.out (by omega)
    have e1 : decide (d < 1) = false := by simp; omega
    have e2 : decide (1000000000 < d) = false := by simp; omega
    have e3 : decide (n < -1000000000) = false := by simp; omega
    have e4 : decide (1000000000 < n) = false := by simp; omega
    have hc : (n = y1 ∧ d = y2) ∨ (n = y1 ∧ d ≠ y2) ∨ n ≠ y1 := by omega
    rcases hc with ⟨rfl, rfl⟩ | ⟨rfl, g2⟩ | g1
    case' inr.inr.inr.inr.inl => rw [if_pos ⟨rfl, rfl⟩] at hv
    case' inr.inr.inr.inr.inr.inl =>
      rw [if_neg (show ¬ (n = n ∧ d = y2) from fun h => g2 h.2)] at hv
      have e5 : (d == y2) = false := by rw [beq_eq_false_iff_ne]; exact g2
      have e6 : ¬ d = y2 := g2
      have e7 : (d != y2) = true := by rw [bne_iff_ne]; exact g2
    case' inr.inr.inr.inr.inr.inr =>
      rw [if_neg (show ¬ (n = y1 ∧ d = y2) from fun h => g1 h.1)] at hv
      have e5 : (n == y1) = false := by rw [beq_eq_false_iff_ne]; exact g1
      have e6 : ¬ n = y1 := g1
      have e7 : (n != y1) = true := by rw [bne_iff_ne]; exact g1
    all_goals
      have HV := Lib.hid hv
      have HPP := Lib.hid hpp
      clear hv hpp HR HP
      unfold frac at *
      go_enter Try.func107, Try.ntmps107
      go_wp2_with fail
      generalize w.alloc (.cells #[.int .i64 n, .int .i64 d] 31) = W at *
      obtain ⟨B, hBe⟩ : ∃ B, B = w.heap.size := ⟨_, rfl⟩
      rw [← hBe] at c0 c1 ⊢
      clear hBe
      go_region_held (fun w' => w'.cell? ⟨B, 0, none⟩ = some (.int .i64 n) ∧ w'.cell? ⟨B, 1, none⟩ = some (.int .i64 d)) (go_keep)
        (first
          | ((go_at_call 79; refine (HPP.out _).mono ?_; rintro e w9 ⟨rfl, hg9⟩; have z0 := hg9.cell (a := ⟨B, 0, none⟩) c0 (by simp); have z1 := hg9.cell (a := ⟨B, 1, none⟩) c1 (by simp))))
      go_wp2_with fail
      go_ret
      rw [HV.out]
      exact ⟨rfl, hg0.trans ((grown_drew (grown_refl W)).trans hg9)⟩

end Go.Proofs.Ytkfijicmeekmiaa
