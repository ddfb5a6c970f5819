/- The walks of Add, of the reference's SumFault and SumOf. -/
import Derived.Test.YtkfijicmeekmiaaGcd
import Derived.Deep.RegionHeld3
import Derived.BigRegion
namespace Go.Proofs.Ytkfijicmeekmiaa
open Go.RowKit

/-- A fraction that can be added. -/
def inbB (n d : Int) : Bool := btw d 1 1000000000 && btw n (-1000000000) 1000000000
def frB (n d : Int) : Bool := inbB n d && (decide (n = lowN n d) && decide (d = lowD n d))
def sumN (a b c d : Int) : Int := lowN (a * d + c * b) (b * d)
def sumD (a b c d : Int) : Int := lowD (a * d + c * b) (b * d)
def addV (a b c d : Int) : Value :=
  if frB a b = false ∨ frB c d = false then .tuple #[frac 0 0, .int .i64 3]
  else if inbB (sumN a b c d) (sumD a b c d) = false then .tuple #[frac 0 0, .int .i64 2] else .tuple #[frac (sumN a b c d) (sumD a b c d), .int .i64 0]

set_option maxRecDepth 100000 in
set_option maxHeartbeats 400000 in
theorem inBounds_any (n d : Int) (w : World) : Calls Try.prog 106 #[frac n d] w fun e w' => e = .returned (.bool (inbB n d)) ∧ w.grownBy w' none := by
  unfold frac
  have hb := Blk.new w 31 #[.int .i64 n, .int .i64 d]
  obtain ⟨c0, c1, _, _⟩ := hb.two
  have hi : inbB n d = (btw d 1 1000000000 && btw n (-1000000000) 1000000000) := rfl
  rw [hi]
  have h1 := between_any d 1 1000000000
  have h2 := between_any n (-1000000000) 1000000000
  generalize btw d 1 1000000000 = b1 at *
  generalize btw n (-1000000000) 1000000000 = b2 at *
  have HC := Lib.hid (And.intro h1 h2)
  clear h1 h2 hi
  cases b1
  · go_enter Try.func106, Try.ntmps106
    go_wp2_with fail
    refine (HC.out.1 _).mono ?_
    rintro e w' ⟨rfl, rfl⟩
    go_wp2_with fail
    go_ret
    exact ⟨rfl, grown_alloc (grown_refl w) _⟩
  · go_enter Try.func106, Try.ntmps106
    go_wp2_with fail
    refine (HC.out.1 _).mono ?_
    rintro e w' ⟨rfl, rfl⟩
    go_wp2_with fail
    refine (HC.out.2 _).mono ?_
    rintro e w' ⟨rfl, rfl⟩
    go_wp2_with fail
    go_ret
    exact ⟨by simp, grown_alloc (grown_refl w) _⟩

theorem mul_rng {x y M : Int} (hx : -M ≤ x ∧ x ≤ M) (hy : 0 ≤ y ∧ y ≤ M) : -(M * M) ≤ x * y ∧ x * y ≤ M * M := by
  constructor
  · have h1 : -M * y ≤ x * y := Int.mul_le_mul_of_nonneg_right hx.1 hy.1
    have h2 : M * y ≤ M * M := Int.mul_le_mul_of_nonneg_left hy.2 (by omega)
    rw [Int.neg_mul] at h1
    omega
  · have h1 : x * y ≤ M * y := Int.mul_le_mul_of_nonneg_right hx.2 hy.1
    have h2 : M * y ≤ M * M := Int.mul_le_mul_of_nonneg_left hy.2 (by omega)
    omega

theorem inb_rng {n d : Int} (h : inbB n d = true) : (1 ≤ d ∧ d ≤ 1000000000) ∧ -1000000000 ≤ n ∧ n ≤ 1000000000 := by
  unfold inbB at h
  rw [Bool.and_eq_true] at h
  exact ⟨btw_true.1 h.1, btw_true.1 h.2⟩

set_option maxRecDepth 100000 in
set_option maxHeartbeats 400000 in
theorem isFraction_any (n d : Int) (w : World) : Calls Try.prog 105 #[frac n d] w fun e w' => e = .returned (.bool (frB n d)) ∧ w.grownBy w' none := by
  have hin := inBounds_any n d
  have hB := Blk.new w 31 #[.int .i64 n, .int .i64 d]
  have hg0 := grown_alloc (grown_refl w) (.cells #[.int .i64 n, .int .i64 d] 31)
  have hfr : frB n d = (inbB n d && (decide (n = lowN n d) && decide (d = lowD n d))) := rfl
  rw [hfr]
  cases hb : inbB n d
  · rw [hb] at hin
    have HC := Lib.hid hin
    clear hin hb hfr
    unfold frac at *
    go_enter Try.func105, Try.ntmps105
    obtain ⟨c0, c1, _, _⟩ := hB.two
    go_wp2_with fail
    generalize w.alloc (.cells #[.int .i64 n, .int .i64 d] 31) = W at *
    obtain ⟨B, hBe⟩ : ∃ B, B = w.heap.size := ⟨_, rfl⟩
    rw [← hBe] at c0 c1 ⊢
    clear hBe
    first
      | go_region_with (go_at_call 106; refine (HC.out _).mono ?_; rintro e w9 ⟨rfl, hg9⟩)
      | fail
    all_goals
      go_wp2_with fail
      go_ret
      exact ⟨rfl, hg0.trans ((grown_drew (grown_refl W)).trans (by assumption))⟩
  · obtain ⟨⟨d0, d1⟩, n0, n1⟩ := inb_rng hb
    rw [hb] at hin
    have hlo := fun w => lowest_any n d w (by omega) (by omega) (by omega) (by omega)
    generalize lowN n d = y1 at *
    generalize lowD n d = y2 at *
    obtain ⟨c0, c1, _, _⟩ := hB.two
    clear hb hfr d0 d1 n0 n1
    have hc : (n = y1 ∧ d = y2) ∨ (n = y1 ∧ d ≠ y2) ∨ n ≠ y1 := by omega
    rcases hc with ⟨rfl, rfl⟩ | ⟨rfl, h2⟩ | h1
    case' inl => rw [show (true && (decide (n = n) && decide (d = d))) = true from by simp]
    case' inr.inl =>
      rw [show (true && (decide (n = n) && decide (d = y2))) = false from by simp [h2]]
      have e2 : (d == y2) = false := by rw [beq_eq_false_iff_ne]; exact h2
      have e3 : ¬ d = y2 := h2
    case' inr.inr =>
      rw [show (true && (decide (n = y1) && decide (d = y2))) = false from by simp [h1]]
      have e1 : (n == y1) = false := by rw [beq_eq_false_iff_ne]; exact h1
      have e3 : ¬ n = y1 := h1
    all_goals
      have HC := Lib.hid (And.intro hin hlo)
      clear hin hlo
      unfold frac at *
      go_enter Try.func105, Try.ntmps105
      go_wp2_with fail
      generalize w.alloc (.cells #[.int .i64 n, .int .i64 d] 31) = W at *
      obtain ⟨B, hBe⟩ : ∃ B, B = w.heap.size := ⟨_, rfl⟩
      rw [← hBe] at c0 c1 ⊢
      clear hBe
      go_region_held3 (fun w' => w'.cell? ⟨B, 0, none⟩ = some (.int .i64 n) ∧ w'.cell? ⟨B, 1, none⟩ = some (.int .i64 d)) (go_keep)
        (first
          | ((go_at_call 106; refine (HC.out.1 _).mono ?_; rintro e w9 ⟨rfl, hg9⟩; have z0 := hg9.cell (a := ⟨B, 0, none⟩) c0 (by simp); have z1 := hg9.cell (a := ⟨B, 1, none⟩) c1 (by simp)))
          | ((go_at_call 98; refine (HC.out.2 _).mono ?_; rintro e w8 ⟨rfl, hg8⟩; have y0 := hg8.cell (a := ⟨B, 0, none⟩) z0 (by simp); have y1 := hg8.cell (a := ⟨B, 1, none⟩) z1 (by simp))))
      go_wp2_with fail
      go_ret
      exact ⟨rfl, (hg0.trans ((grown_drew (grown_refl W)).trans hg9)).trans hg8⟩

end Go.Proofs.Ytkfijicmeekmiaa
