/- The walk of the reference's SumOf. -/
import Derived.Test.YtkfijicmeekmiaaAddB
import Derived.Test.YtkfijicmeekmiaaOrE
namespace Go.Proofs.Ytkfijicmeekmiaa
open Go.RowKit

set_option maxRecDepth 100000 in
set_option maxHeartbeats 1000000 in
theorem refSumOf_any (a b c d : Int) (w : World) (ha : -2147483648 ≤ a ∧ a ≤ 2147483648) (hb : -2147483648 ≤ b ∧ b ≤ 2147483648) (hc : -2147483648 ≤ c ∧ c ≤ 2147483648) (hd : -2147483648 ≤ d ∧ d ≤ 2147483648) :
    Calls Try.prog 55 #[frac a b, frac c d] w fun e w' => e = .returned (addV a b c d) ∧ w.grownBy w' none := by
  obtain ⟨V, hV⟩ : ∃ V, V = addV a b c d := ⟨_, rfl⟩
  rw [← hV]
  unfold addV at hV
  have h1 := fun w => sumFault_any a b w ha hb
  have h2 := fun w => sumFault_any c d w hc hd
  obtain ⟨hBa, hBb, hBr, hg0⟩ := boxes3 w a b c d
  cases hb1 : frB a b
  · rw [hb1] at h1
    rw [if_pos (.inl hb1)] at hV
    obtain ⟨y, hy⟩ : ∃ y : Int, y = if frB c d then 0 else 3 := ⟨_, rfl⟩
    rw [← hy] at h2
    have hor := fun w => or_any 3 y w
    rw [show orE 3 y = 3 from rfl] at hor
    have HC := Lib.hid (And.intro h1 (And.intro h2 (And.intro hor hV)))
    clear h1 h2 hV hb1 hor hy
    unfold frac at *
    go_enter Try.func55, Try.ntmps55
    obtain ⟨k0, k1, _, _⟩ := hBa.two
    obtain ⟨k2, k3, _, _⟩ := hBb.two
    have kne1 : w.heap.size ≠ w.heap.size + 1 := by omega
    go_wp2_with fail
    generalize (((w.alloc (.cells #[.int .i64 a, .int .i64 b] 31)).alloc (.cells #[.int .i64 c, .int .i64 d] 31)).alloc (.cells #[.int .i64 0, .int .i64 0] 31)) = W at *
    go_region_held (fun w' => w'.cell? ⟨w.heap.size, 0, none⟩ = some (.int .i64 a) ∧ w'.cell? ⟨w.heap.size, 1, none⟩ = some (.int .i64 b) ∧ w'.cell? ⟨w.heap.size + 1, 0, none⟩ = some (.int .i64 c) ∧ w'.cell? ⟨w.heap.size + 1, 1, none⟩ = some (.int .i64 d)) (go_keep)
      (first
        | ((go_at_call_of 107 (Value.agg #[.int .i64 a, .int .i64 b]); refine (HC.out.1 _).mono ?_; rintro e w1 ⟨rfl, hg1⟩; have l0 := hg1.cell (a := ⟨w.heap.size, 0, none⟩) k0 (by simp); have l1 := hg1.cell (a := ⟨w.heap.size, 1, none⟩) k1 (by simp); have l2 := hg1.cell (a := ⟨w.heap.size + 1, 0, none⟩) k2 (by simp); have l3 := hg1.cell (a := ⟨w.heap.size + 1, 1, none⟩) k3 (by simp)))
        | ((go_at_call_of 107 (Value.agg #[.int .i64 c, .int .i64 d]); refine (HC.out.2.1 _).mono ?_; rintro e w2 ⟨rfl, hg2⟩; have m0 := hg2.cell (a := ⟨w.heap.size, 0, none⟩) l0 (by simp); have m1 := hg2.cell (a := ⟨w.heap.size, 1, none⟩) l1 (by simp); have m2 := hg2.cell (a := ⟨w.heap.size + 1, 0, none⟩) l2 (by simp); have m3 := hg2.cell (a := ⟨w.heap.size + 1, 1, none⟩) l3 (by simp)))
        | ((go_at_call 49; refine (HC.out.2.2.1 _).mono ?_; rintro e w3 ⟨rfl, hg3⟩; have n0 := hg3.cell (a := ⟨w.heap.size, 0, none⟩) m0 (by simp); have n1 := hg3.cell (a := ⟨w.heap.size, 1, none⟩) m1 (by simp); have n2 := hg3.cell (a := ⟨w.heap.size + 1, 0, none⟩) m2 (by simp); have n3 := hg3.cell (a := ⟨w.heap.size + 1, 1, none⟩) m3 (by simp))))
    have hg02 := ((grown_drew (grown_refl W)).trans hg1).trans hg2
    have hBr3 := (hBr.grown hg02 (by simp)).grown hg3 (by simp)
    have hgg3 := (hg0.trans hg02).trans hg3
    obtain ⟨r0, r1, f0, f1⟩ := hBr3.two
    go_wp2_with fail
    refine bodyPost_ret (results_row_tmp rfl _ _ (w.heap.size + 1 + 1) _ _ _ _ rfl ((hBr3.set_ 0 (.int .i64 0)).set_ 1 (.int .i64 0)) Try.underlying31 rfl (by kernel_rfl)) rfl ?_
    refine ⟨?_, grown_set (p := ⟨w.heap.size + 1 + 1, 1, none⟩) (grown_set (p := ⟨w.heap.size + 1 + 1, 0, none⟩) hgg3 (.inl (by simp; omega)) _) (.inl (by simp; omega)) _⟩
    rw [HC.out.2.2.2]
    rfl
  · cases hb2 : frB c d
    · rw [hb1] at h1
      rw [hb2] at h2
      rw [if_pos (.inr hb2)] at hV
      have hor := fun w => or_any 0 3 w
      rw [show orE 0 3 = 3 from rfl] at hor
      have HC := Lib.hid (And.intro h1 (And.intro h2 (And.intro hor hV)))
      clear h1 h2 hV hb1 hb2 hor
      unfold frac at *
      go_enter Try.func55, Try.ntmps55
      obtain ⟨k0, k1, _, _⟩ := hBa.two
      obtain ⟨k2, k3, _, _⟩ := hBb.two
      have kne1 : w.heap.size ≠ w.heap.size + 1 := by omega
      go_wp2_with fail
      generalize (((w.alloc (.cells #[.int .i64 a, .int .i64 b] 31)).alloc (.cells #[.int .i64 c, .int .i64 d] 31)).alloc (.cells #[.int .i64 0, .int .i64 0] 31)) = W at *
      go_region_held (fun w' => w'.cell? ⟨w.heap.size, 0, none⟩ = some (.int .i64 a) ∧ w'.cell? ⟨w.heap.size, 1, none⟩ = some (.int .i64 b) ∧ w'.cell? ⟨w.heap.size + 1, 0, none⟩ = some (.int .i64 c) ∧ w'.cell? ⟨w.heap.size + 1, 1, none⟩ = some (.int .i64 d)) (go_keep)
        (first
          | ((go_at_call_of 107 (Value.agg #[.int .i64 a, .int .i64 b]); refine (HC.out.1 _).mono ?_; rintro e w1 ⟨rfl, hg1⟩; have l0 := hg1.cell (a := ⟨w.heap.size, 0, none⟩) k0 (by simp); have l1 := hg1.cell (a := ⟨w.heap.size, 1, none⟩) k1 (by simp); have l2 := hg1.cell (a := ⟨w.heap.size + 1, 0, none⟩) k2 (by simp); have l3 := hg1.cell (a := ⟨w.heap.size + 1, 1, none⟩) k3 (by simp)))
          | ((go_at_call_of 107 (Value.agg #[.int .i64 c, .int .i64 d]); refine (HC.out.2.1 _).mono ?_; rintro e w2 ⟨rfl, hg2⟩; have m0 := hg2.cell (a := ⟨w.heap.size, 0, none⟩) l0 (by simp); have m1 := hg2.cell (a := ⟨w.heap.size, 1, none⟩) l1 (by simp); have m2 := hg2.cell (a := ⟨w.heap.size + 1, 0, none⟩) l2 (by simp); have m3 := hg2.cell (a := ⟨w.heap.size + 1, 1, none⟩) l3 (by simp)))
          | ((go_at_call 49; refine (HC.out.2.2.1 _).mono ?_; rintro e w3 ⟨rfl, hg3⟩; have n0 := hg3.cell (a := ⟨w.heap.size, 0, none⟩) m0 (by simp); have n1 := hg3.cell (a := ⟨w.heap.size, 1, none⟩) m1 (by simp); have n2 := hg3.cell (a := ⟨w.heap.size + 1, 0, none⟩) m2 (by simp); have n3 := hg3.cell (a := ⟨w.heap.size + 1, 1, none⟩) m3 (by simp))))
      have hg02 := ((grown_drew (grown_refl W)).trans hg1).trans hg2
      have hBr3 := (hBr.grown hg02 (by simp)).grown hg3 (by simp)
      have hgg3 := (hg0.trans hg02).trans hg3
      obtain ⟨r0, r1, f0, f1⟩ := hBr3.two
      go_wp2_with fail
      refine bodyPost_ret (results_row_tmp rfl _ _ (w.heap.size + 1 + 1) _ _ _ _ rfl ((hBr3.set_ 0 (.int .i64 0)).set_ 1 (.int .i64 0)) Try.underlying31 rfl (by kernel_rfl)) rfl ?_
      refine ⟨?_, grown_set (p := ⟨w.heap.size + 1 + 1, 1, none⟩) (grown_set (p := ⟨w.heap.size + 1 + 1, 0, none⟩) hgg3 (.inl (by simp; omega)) _) (.inl (by simp; omega)) _⟩
      rw [HC.out.2.2.2]
      rfl
    · obtain ⟨⟨b0, b1⟩, a0, a1⟩ := inb_rng (n := a) (d := b) (by unfold frB at hb1; rw [Bool.and_eq_true] at hb1; exact hb1.1)
      obtain ⟨⟨d0, d1⟩, c0, c1⟩ := inb_rng (n := c) (d := d) (by unfold frB at hb2; rw [Bool.and_eq_true] at hb2; exact hb2.1)
      rw [hb1] at h1
      rw [hb2] at h2
      rw [if_neg (by simp [hb1, hb2])] at hV
      obtain ⟨p0, p1⟩ := mul_rng (x := a) (y := d) (M := 1000000000) ⟨a0, a1⟩ ⟨by omega, d1⟩
      obtain ⟨q0, q1⟩ := mul_rng (x := c) (y := b) (M := 1000000000) ⟨c0, c1⟩ ⟨by omega, b1⟩
      have t0 : 0 < b * d := Int.mul_pos (by omega) (by omega)
      have t1 : b * d ≤ 1000000000 * 1000000000 := Int.mul_le_mul b1 d1 (by omega) (by omega)
      have hlo := fun w => refPart_any (a * d + c * b) (b * d) w (by omega) (by omega) t0 (by omega)
      have hlD := lowD_pos (num := a * d + c * b) t0
      unfold sumN sumD at hV
      generalize lowN (a * d + c * b) (b * d) = x1 at *
      generalize lowD (a * d + c * b) (b * d) = x2 at *
      have hin : inbB x1 x2 = false ↔ (1000000000 < x2 ∨ x1 < -1000000000 ∨ 1000000000 < x1) := by
        unfold inbB btw
        simp only [Bool.and_eq_false_iff, decide_eq_false_iff_not]
        omega
      have hor := fun w => or_any 0 0 w
      rw [show orE 0 0 = 0 from rfl] at hor
      simp only [hin] at hV
      have HC := Lib.hid (And.intro h1 (And.intro h2 (And.intro hlo (And.intro hor hV))))
      clear h1 h2 hlo hin hV hb1 hb2 hor hlD
      unfold frac at *
      go_enter Try.func55, Try.ntmps55
      obtain ⟨k0, k1, _, _⟩ := hBa.two
      obtain ⟨k2, k3, _, _⟩ := hBb.two
      have kne1 : w.heap.size ≠ w.heap.size + 1 := by omega
      go_wp2_with fail
      generalize (((w.alloc (.cells #[.int .i64 a, .int .i64 b] 31)).alloc (.cells #[.int .i64 c, .int .i64 d] 31)).alloc (.cells #[.int .i64 0, .int .i64 0] 31)) = W at *
      go_region_held (fun w' => w'.cell? ⟨w.heap.size, 0, none⟩ = some (.int .i64 a) ∧ w'.cell? ⟨w.heap.size, 1, none⟩ = some (.int .i64 b) ∧ w'.cell? ⟨w.heap.size + 1, 0, none⟩ = some (.int .i64 c) ∧ w'.cell? ⟨w.heap.size + 1, 1, none⟩ = some (.int .i64 d)) (go_keep)
        (first
          | ((go_at_call_of 107 (Value.agg #[.int .i64 a, .int .i64 b]); refine (HC.out.1 _).mono ?_; rintro e w1 ⟨rfl, hg1⟩; have l0 := hg1.cell (a := ⟨w.heap.size, 0, none⟩) k0 (by simp); have l1 := hg1.cell (a := ⟨w.heap.size, 1, none⟩) k1 (by simp); have l2 := hg1.cell (a := ⟨w.heap.size + 1, 0, none⟩) k2 (by simp); have l3 := hg1.cell (a := ⟨w.heap.size + 1, 1, none⟩) k3 (by simp)))
          | ((go_at_call_of 107 (Value.agg #[.int .i64 c, .int .i64 d]); refine (HC.out.2.1 _).mono ?_; rintro e w2 ⟨rfl, hg2⟩; have m0 := hg2.cell (a := ⟨w.heap.size, 0, none⟩) l0 (by simp); have m1 := hg2.cell (a := ⟨w.heap.size, 1, none⟩) l1 (by simp); have m2 := hg2.cell (a := ⟨w.heap.size + 1, 0, none⟩) l2 (by simp); have m3 := hg2.cell (a := ⟨w.heap.size + 1, 1, none⟩) l3 (by simp)))
          | ((go_at_call 49; refine (HC.out.2.2.2.1 _).mono ?_; rintro e w3 ⟨rfl, hg3⟩; have n0 := hg3.cell (a := ⟨w.heap.size, 0, none⟩) m0 (by simp); have n1 := hg3.cell (a := ⟨w.heap.size, 1, none⟩) m1 (by simp); have n2 := hg3.cell (a := ⟨w.heap.size + 1, 0, none⟩) m2 (by simp); have n3 := hg3.cell (a := ⟨w.heap.size + 1, 1, none⟩) m3 (by simp))))
      have hg02 := ((grown_drew (grown_refl W)).trans hg1).trans hg2
      have hg03 := hg02.trans hg3
      clear k0 k1 k2 k3 l0 l1 l2 l3 m0 m1 m2 m3
      go_wp2_with fail
      refine (HC.out.2.2.1 _).mono ?_
      rintro e w4 ⟨rfl, hg4⟩
      have hB3 := Blk.new w4 31 #[.int .i64 x1, .int .i64 x2]
      have hg4' := grown_alloc hg4 (.cells #[.int .i64 x1, .int .i64 x2] 31)
      have hg04 := hg03.trans hg4'
      have hBr4 := hBr.grown hg04 (by simp)
      obtain ⟨s0, s1, _, _⟩ := hB3.two
      have hgg4 := hg0.trans hg04
      obtain ⟨r0, r1, f0, f1⟩ := hBr4.two
      clear p0 p1 q0 q1 t0 t1
      have hV5 := HC.out.2.2.2.2
      have hc : 1000000000 < x2 ∨ (x2 ≤ 1000000000 ∧ x1 < -1000000000) ∨ (x2 ≤ 1000000000 ∧ -1000000000 ≤ x1 ∧ 1000000000 < x1) ∨ (x2 ≤ 1000000000 ∧ -1000000000 ≤ x1 ∧ x1 ≤ 1000000000) := by omega
      rcases hc with g1 | ⟨g1, g2⟩ | ⟨g1, g2, g3⟩ | ⟨g1, g2, g3⟩
      · rw [if_pos (.inl g1)] at hV5
        have HV := Lib.hid hV5
        have e1 : decide (1000000000 < x2) = true := by simp; omega
        clear hV5 HC
        go_wp2_with fail
        refine bodyPost_ret (results_row_tmp rfl _ _ (w.heap.size + 1 + 1) _ _ _ _ rfl ((hBr4.set_ 0 (.int .i64 0)).set_ 1 (.int .i64 0)) Try.underlying31 rfl (by kernel_rfl)) rfl ?_
        refine ⟨?_, grown_set (p := ⟨w.heap.size + 1 + 1, 1, none⟩) (grown_set (p := ⟨w.heap.size + 1 + 1, 0, none⟩) hgg4 (.inl (by simp; omega)) _) (.inl (by simp; omega)) _⟩
        rw [HV.out]
        rfl
      · rw [if_pos (.inr (.inl g2))] at hV5
        have HV := Lib.hid hV5
        have e1 : decide (1000000000 < x2) = false := by simp; omega
        have e2 : decide (x1 < -1000000000) = true := by simp; omega
        clear hV5 HC
        go_wp2_with fail
        refine bodyPost_ret (results_row_tmp rfl _ _ (w.heap.size + 1 + 1) _ _ _ _ rfl ((hBr4.set_ 0 (.int .i64 0)).set_ 1 (.int .i64 0)) Try.underlying31 rfl (by kernel_rfl)) rfl ?_
        refine ⟨?_, grown_set (p := ⟨w.heap.size + 1 + 1, 1, none⟩) (grown_set (p := ⟨w.heap.size + 1 + 1, 0, none⟩) hgg4 (.inl (by simp; omega)) _) (.inl (by simp; omega)) _⟩
        rw [HV.out]
        rfl
      · rw [if_pos (.inr (.inr g3))] at hV5
        have HV := Lib.hid hV5
        have e1 : decide (1000000000 < x2) = false := by simp; omega
        have e2 : decide (x1 < -1000000000) = false := by simp; omega
        have e3 : decide (1000000000 < x1) = true := by simp; omega
        clear hV5 HC
        go_wp2_with fail
        refine bodyPost_ret (results_row_tmp rfl _ _ (w.heap.size + 1 + 1) _ _ _ _ rfl ((hBr4.set_ 0 (.int .i64 0)).set_ 1 (.int .i64 0)) Try.underlying31 rfl (by kernel_rfl)) rfl ?_
        refine ⟨?_, grown_set (p := ⟨w.heap.size + 1 + 1, 1, none⟩) (grown_set (p := ⟨w.heap.size + 1 + 1, 0, none⟩) hgg4 (.inl (by simp; omega)) _) (.inl (by simp; omega)) _⟩
        rw [HV.out]
        rfl
      · rw [if_neg (by omega)] at hV5
        have HV := Lib.hid hV5
        have e1 : decide (1000000000 < x2) = false := by simp; omega
        have e2 : decide (x1 < -1000000000) = false := by simp; omega
        have e3 : decide (1000000000 < x1) = false := by simp; omega
        clear hV5 HC
        go_wp2_with fail
        refine bodyPost_ret (results_row_tmp rfl _ _ (w.heap.size + 1 + 1) _ _ _ _ rfl ((hBr4.set_ 0 (.int .i64 x1)).set_ 1 (.int .i64 x2)) Try.underlying31 rfl (by kernel_rfl)) rfl ?_
        refine ⟨?_, grown_set (p := ⟨w.heap.size + 1 + 1, 1, none⟩) (grown_set (p := ⟨w.heap.size + 1 + 1, 0, none⟩) hgg4 (.inl (by simp; omega)) _) (.inl (by simp; omega)) _⟩
        rw [HV.out]
        rfl

end Go.Proofs.Ytkfijicmeekmiaa
