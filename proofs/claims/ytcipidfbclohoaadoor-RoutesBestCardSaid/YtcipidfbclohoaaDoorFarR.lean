/- The walks of the references spotRight and FarOf. -/
import Derived.Test.YtcipidfbclohoaaDoorFar
namespace Go.Proofs.YtcipidfbclohoaaDoor
open Go.RowKit

set_option maxHeartbeats 2000000 in
theorem spotRight_any (x y : Int) (w : World) : Calls Tryd.prog 37 #[.agg #[.int .i64 x, .int .i64 y]] w fun e w' => e = .returned (.bool (spB x y)) ∧ w.grownBy w' none := by
  have hg := grown_alloc (grown_refl w) (.cells #[.int .i64 x, .int .i64 y] 30)
  have hB := Blk.new w 30 #[.int .i64 x, .int .i64 y]
  obtain ⟨k0, k1, _, _⟩ := hB.two
  have HG := Lib.hid hg
  clear hg hB
  by_cases h0 : -10000 ≤ x
  · have d0 : decide (-10000 ≤ x) = true := by simpa using h0
    by_cases h1 : x ≤ 10000
    · have d1 : decide (x ≤ 10000) = true := by simpa using h1
      by_cases h2 : -10000 ≤ y
      · have d2 : decide (-10000 ≤ y) = true := by simpa using h2
        by_cases h3 : y ≤ 10000
        · have d3 : decide (y ≤ 10000) = true := by simpa using h3
          have hv : spB x y = true := by simp [spB, btw]; omega
          rw [hv]
          clear hv
          go_enter Tryd.func37, Tryd.ntmps37
          go_wp2_with fail
          go_ret
          exact ⟨rfl, HG.out⟩
        · have d3 : decide (y ≤ 10000) = false := by simpa using h3
          have hv : spB x y = false := by
            by_cases h : spB x y = true
            · exfalso
              have e : (-10000 ≤ x ∧ x ≤ 10000) ∧ (-10000 ≤ y ∧ y ≤ 10000) := by simpa [spB, btw] using h
              omega
            · simpa using h
          rw [hv]
          clear hv
          go_enter Tryd.func37, Tryd.ntmps37
          go_wp2_with fail
          go_ret
          exact ⟨rfl, HG.out⟩
      · have d2 : decide (-10000 ≤ y) = false := by simpa using h2
        have hv : spB x y = false := by
          by_cases h : spB x y = true
          · exfalso
            have e : (-10000 ≤ x ∧ x ≤ 10000) ∧ (-10000 ≤ y ∧ y ≤ 10000) := by simpa [spB, btw] using h
            omega
          · simpa using h
        rw [hv]
        clear hv
        go_enter Tryd.func37, Tryd.ntmps37
        go_wp2_with fail
        go_ret
        exact ⟨rfl, HG.out⟩
    · have d1 : decide (x ≤ 10000) = false := by simpa using h1
      have hv : spB x y = false := by
        by_cases h : spB x y = true
        · exfalso
          have e : (-10000 ≤ x ∧ x ≤ 10000) ∧ (-10000 ≤ y ∧ y ≤ 10000) := by simpa [spB, btw] using h
          omega
        · simpa using h
      rw [hv]
      clear hv
      go_enter Tryd.func37, Tryd.ntmps37
      go_wp2_with fail
      go_ret
      exact ⟨rfl, HG.out⟩
  · have d0 : decide (-10000 ≤ x) = false := by simpa using h0
    have hv : spB x y = false := by
      by_cases h : spB x y = true
      · exfalso
        have e : (-10000 ≤ x ∧ x ≤ 10000) ∧ (-10000 ≤ y ∧ y ≤ 10000) := by simpa [spB, btw] using h
        omega
      · simpa using h
    rw [hv]
    clear hv
    go_enter Tryd.func37, Tryd.ntmps37
    go_wp2_with fail
    go_ret
    exact ⟨rfl, HG.out⟩

set_option maxHeartbeats 4000000 in
theorem farOf_ok (a b c d : Int) (w : World) (h1 : spB a b = true) (h2 : spB c d = true) : Calls Tryd.prog 42 #[.agg #[.int .i64 a, .int .i64 b], .agg #[.int .i64 c, .int .i64 d]] w
    fun e w' => e = .returned (.tuple #[.int .i64 (farN a b c d), .int .i64 0]) ∧ w.grownBy w' none := by
  have hg := grown_alloc (grown_alloc (grown_refl w) (.cells #[.int .i64 a, .int .i64 b] 30)) (.cells #[.int .i64 c, .int .i64 d] 30)
  have hA := (Blk.new w 30 #[.int .i64 a, .int .i64 b]).alloc (.cells #[.int .i64 c, .int .i64 d] 30)
  have hC := Blk.new (w.alloc (.cells #[.int .i64 a, .int .i64 b] 30)) 30 #[.int .i64 c, .int .i64 d]
  have hz : (w.alloc (.cells #[.int .i64 a, .int .i64 b] 30)).heap.size = w.heap.size + 1 := by simp
  rw [hz] at hC
  obtain ⟨g, hgE⟩ : ∃ g, w.heap.size = g := ⟨_, rfl⟩
  rw [hgE] at hA hC hz
  obtain ⟨W, hW⟩ : ∃ W, (w.alloc (.cells #[.int .i64 a, .int .i64 b] 30)).alloc (.cells #[.int .i64 c, .int .i64 d] 30) = W := ⟨_, rfl⟩
  rw [hW] at hg hA hC
  have HW := Lib.hid (And.intro hW hgE)
  have H1 := Lib.hid h1
  have H2 := Lib.hid h2
  have e1 : (-10000 ≤ a ∧ a ≤ 10000) ∧ (-10000 ≤ b ∧ b ≤ 10000) := by simpa [spB, btw] using h1
  have e2 : (-10000 ≤ c ∧ c ≤ 10000) ∧ (-10000 ≤ d ∧ d ≤ 10000) := by simpa [spB, btw] using h2
  obtain ⟨⟨r0, r1⟩, r2, r3⟩ := e1
  obtain ⟨⟨s0, s1⟩, s2, s3⟩ := e2
  have hv : (a - c < c - a ∧ b - d < d - b ∧ farN a b c d = (c - a) + (d - b)) ∨ (a - c < c - a ∧ ¬ b - d < d - b ∧ farN a b c d = (c - a) + (b - d)) ∨
      (¬ a - c < c - a ∧ b - d < d - b ∧ farN a b c d = (a - c) + (d - b)) ∨ (¬ a - c < c - a ∧ ¬ b - d < d - b ∧ farN a b c d = (a - c) + (b - d)) := by unfold farN; omega
  clear h1 h2 hW hgE hz
  go_enter Tryd.func42, Tryd.ntmps42
  obtain ⟨a0, a1, _, _⟩ := hA.two
  obtain ⟨c0, c1, _, _⟩ := hC.two
  go_wp2_with fail
  refine (spotRight_any a b _).mono ?_
  rw [H1.out, HW.out.1, HW.out.2]
  rintro e w1 ⟨rfl, hg1⟩
  have hA1 := hA.grown hg1 (by simp)
  have hC1 := hC.grown hg1 (by simp)
  obtain ⟨a2, a3, _, _⟩ := hA1.two
  obtain ⟨c2, c3, _, _⟩ := hC1.two
  go_wp2_with fail
  refine (spotRight_any c d _).mono ?_
  rw [H2.out]
  rintro e w2 ⟨rfl, hg2⟩
  have hA2 := hA1.grown hg2 (by simp)
  have hC2 := hC1.grown hg2 (by simp)
  obtain ⟨a4, a5, _, _⟩ := hA2.two
  obtain ⟨c4, c5, _, _⟩ := hC2.two
  have HG := Lib.hid (hg.trans (hg1.trans hg2))
  clear hA hC hA1 hC1 hA2 hC2 hg hg1 hg2 a0 a1 a2 a3 c0 c1 c2 c3
  rcases hv with ⟨m1, m2, hv⟩ | ⟨m1, m2, hv⟩ | ⟨m1, m2, hv⟩ | ⟨m1, m2, hv⟩
  all_goals
    have HV := Lib.hid hv
    clear hv
    go_wp2_with fail
    go_ret2
    exact ⟨by rw [HV.out]; rfl, HG.out⟩

end Go.Proofs.YtcipidfbclohoaaDoor
