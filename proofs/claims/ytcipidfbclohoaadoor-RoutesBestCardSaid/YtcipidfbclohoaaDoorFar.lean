/- The walks of isSpot, far and Far of package round. -/
import Derived.Test.YtcipidfbclohoaaDoorTerms
import Derived.Test.YtcipidfbclohoaaDoorBlk
namespace Go.Proofs.YtcipidfbclohoaaDoor
open Go.RowKit

def spB (x y : Int) : Bool := btw x (-10000) 10000 && btw y (-10000) 10000
set_option maxHeartbeats 1000000 in
theorem isSpot_any (x y : Int) (w : World) : Calls Tryd.prog 58 #[.agg #[.int .i64 x, .int .i64 y]] w fun e w' => e = .returned (.bool (spB x y)) ∧ w.grownBy w' none := by
  have hg := grown_alloc (grown_refl w) (.cells #[.int .i64 x, .int .i64 y] 30)
  by_cases h : btw x (-10000) 10000 = true
  · have hv : spB x y = btw y (-10000) 10000 := by unfold spB; rw [h]; rfl
    rw [hv]
    have H := Lib.hid h
    clear hv h
    go_enter Tryd.func58, Tryd.ntmps58
    go_wp2_with fail
    refine (between_any x _ _ _).mono ?_
    rw [H.out]
    rintro e w' ⟨rfl, rfl⟩
    go_wp2_with fail
    refine (between_any y _ _ _).mono ?_
    rintro e w' ⟨rfl, rfl⟩
    go_wp2_with fail
    go_ret
    exact ⟨rfl, hg⟩
  · have h' : btw x (-10000) 10000 = false := by simpa using h
    have hv : spB x y = false := by unfold spB; rw [h']; rfl
    rw [hv]
    have H := Lib.hid h'
    clear hv h h'
    go_enter Tryd.func58, Tryd.ntmps58
    go_wp2_with fail
    refine (between_any x _ _ _).mono ?_
    rw [H.out]
    rintro e w' ⟨rfl, rfl⟩
    go_wp2_with fail
    go_ret
    exact ⟨rfl, hg⟩

def farN (a b c d : Int) : Int := max (a - c) (c - a) + max (b - d) (d - b)
set_option maxHeartbeats 2000000 in
theorem far_any (a b c d : Int) (w : World) (h1 : spB a b = true) (h2 : spB c d = true) : Calls Tryd.prog 60 #[.agg #[.int .i64 a, .int .i64 b], .agg #[.int .i64 c, .int .i64 d]] w
    fun e w' => e = .returned (.int .i64 (farN a b c d)) ∧ w.grownBy w' none := by
  have hg := grown_alloc (grown_alloc (grown_refl w) (.cells #[.int .i64 a, .int .i64 b] 30)) (.cells #[.int .i64 c, .int .i64 d] 30)
  have hA := (Blk.new w 30 #[.int .i64 a, .int .i64 b]).alloc (.cells #[.int .i64 c, .int .i64 d] 30)
  have hC := Blk.new (w.alloc (.cells #[.int .i64 a, .int .i64 b] 30)) 30 #[.int .i64 c, .int .i64 d]
  rw [show (w.alloc (.cells #[.int .i64 a, .int .i64 b] 30)).heap.size = w.heap.size + 1 from by simp] at hC
  obtain ⟨k0, k1, _, _⟩ := hA.two
  obtain ⟨k2, k3, _, _⟩ := hC.two
  have HG := Lib.hid hg
  have e1 : (-10000 ≤ a ∧ a ≤ 10000) ∧ (-10000 ≤ b ∧ b ≤ 10000) := by simpa [spB, btw] using h1
  have e2 : (-10000 ≤ c ∧ c ≤ 10000) ∧ (-10000 ≤ d ∧ d ≤ 10000) := by simpa [spB, btw] using h2
  obtain ⟨⟨a0, a1⟩, b0, b1⟩ := e1
  obtain ⟨⟨c0, c1⟩, d0, d1⟩ := e2
  clear hg hA hC h1 h2
  by_cases m1 : a - c < c - a
  · by_cases m2 : b - d < d - b
    · have hv : farN a b c d = (c - a) + (d - b) := by unfold farN; omega
      rw [hv]
      clear hv
      go_enter Tryd.func60, Tryd.ntmps60
      go_wp2_with fail
      go_ret
      exact ⟨rfl, HG.out⟩
    · have hv : farN a b c d = (c - a) + (b - d) := by unfold farN; omega
      rw [hv]
      clear hv
      go_enter Tryd.func60, Tryd.ntmps60
      go_wp2_with fail
      go_ret
      exact ⟨rfl, HG.out⟩
  · by_cases m2 : b - d < d - b
    · have hv : farN a b c d = (a - c) + (d - b) := by unfold farN; omega
      rw [hv]
      clear hv
      go_enter Tryd.func60, Tryd.ntmps60
      go_wp2_with fail
      go_ret
      exact ⟨rfl, HG.out⟩
    · have hv : farN a b c d = (a - c) + (b - d) := by unfold farN; omega
      rw [hv]
      clear hv
      go_enter Tryd.func60, Tryd.ntmps60
      go_wp2_with fail
      go_ret
      exact ⟨rfl, HG.out⟩

set_option maxHeartbeats 2000000 in
theorem roundFar_ok (a b c d : Int) (w : World) (h1 : spB a b = true) (h2 : spB c d = true) : Calls Tryd.prog 38 #[.agg #[.int .i64 a, .int .i64 b], .agg #[.int .i64 c, .int .i64 d]] w
    fun e w' => e = .returned (.tuple #[.int .i64 (farN a b c d), .int .i64 0]) ∧ w.grownBy w' none := by
  have hg := grown_alloc (grown_alloc (grown_refl w) (.cells #[.int .i64 a, .int .i64 b] 30)) (.cells #[.int .i64 c, .int .i64 d] 30)
  have hA := (Blk.new w 30 #[.int .i64 a, .int .i64 b]).alloc (.cells #[.int .i64 c, .int .i64 d] 30)
  have hC := Blk.new (w.alloc (.cells #[.int .i64 a, .int .i64 b] 30)) 30 #[.int .i64 c, .int .i64 d]
  have hz : (w.alloc (.cells #[.int .i64 a, .int .i64 b] 30)).heap.size = w.heap.size + 1 := by simp
  rw [hz] at hC
  have hf := fun wx => far_any a b c d wx h1 h2
  obtain ⟨g, hgE⟩ : ∃ g, w.heap.size = g := ⟨_, rfl⟩
  rw [hgE] at hA hC hz
  obtain ⟨W, hW⟩ : ∃ W, (w.alloc (.cells #[.int .i64 a, .int .i64 b] 30)).alloc (.cells #[.int .i64 c, .int .i64 d] 30) = W := ⟨_, rfl⟩
  rw [hW] at hg hA hC
  have HW := Lib.hid (And.intro hW hgE)
  have HF := Lib.hid hf
  have H1 := Lib.hid h1
  have H2 := Lib.hid h2
  clear hf h1 h2 hW hgE hz
  go_enter Tryd.func38, Tryd.ntmps38
  obtain ⟨a0, a1, _, _⟩ := hA.two
  obtain ⟨c0, c1, _, _⟩ := hC.two
  go_wp2_with fail
  refine (isSpot_any a b _).mono ?_
  rw [H1.out, HW.out.1, HW.out.2]
  rintro e w1 ⟨rfl, hg1⟩
  have hA1 := hA.grown hg1 (by simp)
  have hC1 := hC.grown hg1 (by simp)
  obtain ⟨a2, a3, _, _⟩ := hA1.two
  obtain ⟨c2, c3, _, _⟩ := hC1.two
  go_wp2_with fail
  refine (isSpot_any c d _).mono ?_
  rw [H2.out]
  rintro e w2 ⟨rfl, hg2⟩
  have hA2 := hA1.grown hg2 (by simp)
  have hC2 := hC1.grown hg2 (by simp)
  obtain ⟨a4, a5, _, _⟩ := hA2.two
  obtain ⟨c4, c5, _, _⟩ := hC2.two
  go_wp2_with fail
  refine (HF.out _).mono ?_
  rintro e w3 ⟨rfl, hg3⟩
  go_wp2_with fail
  go_ret2
  exact ⟨rfl, hg.trans (hg1.trans (hg2.trans hg3))⟩

theorem lawRounds_any (w : World) : Calls Tryd.prog 12 #[] w fun e w' => e = .returned (.bool true) ∧ w.grownBy w' none := by
  have h := roundFar_ok 3 0 0 (-4) w (by decide) (by decide)
  rw [show farN 3 0 0 (-4) = 7 from by decide] at h
  have HC := Lib.hid h
  clear h
  go_enter Tryd.func12, Tryd.ntmps12
  go_wp2_with fail
  refine HC.out.mono ?_
  rintro e w1 ⟨rfl, hg1⟩
  go_wp2_with fail
  go_ret
  exact ⟨rfl, hg1⟩
theorem keepRounds_any (w : World) : Calls Tryd.prog 24 #[] w fun e w' => e = .returned (.bool true) ∧ w.grownBy w' none := by
  have h := roundFar_ok 3 0 0 (-4) w (by decide) (by decide)
  rw [show farN 3 0 0 (-4) = 7 from by decide] at h
  have HC := Lib.hid h
  clear h
  go_enter Tryd.func24, Tryd.ntmps24
  go_wp2_with fail
  refine HC.out.mono ?_
  rintro e w1 ⟨rfl, hg1⟩
  go_wp2_with fail
  go_ret
  exact ⟨rfl, hg1⟩

end Go.Proofs.YtcipidfbclohoaaDoor
