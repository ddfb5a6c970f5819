/- Far and FarOf of spots of which one is out of its range. -/
import Derived.Test.YtcipidfbclohoaaDoorFarR
namespace Go.Proofs.YtcipidfbclohoaaDoor
open Go.RowKit

set_option maxHeartbeats 2000000 in
theorem roundFar_bad (a b c d : Int) (w : World) (h : ¬ (spB a b = true ∧ spB c d = true)) : Calls Tryd.prog 38 #[.agg #[.int .i64 a, .int .i64 b], .agg #[.int .i64 c, .int .i64 d]] w
    fun e w' => e = .returned (.tuple #[.int .i64 0, .int .i64 1]) ∧ w.grownBy w' none := by
  have hg := grown_alloc (grown_alloc (grown_refl w) (.cells #[.int .i64 a, .int .i64 b] 30)) (.cells #[.int .i64 c, .int .i64 d] 30)
  have hA := (Blk.new w 30 #[.int .i64 a, .int .i64 b]).alloc (.cells #[.int .i64 c, .int .i64 d] 30)
  have hC := Blk.new (w.alloc (.cells #[.int .i64 a, .int .i64 b] 30)) 30 #[.int .i64 c, .int .i64 d]
  have hz : (w.alloc (.cells #[.int .i64 a, .int .i64 b] 30)).heap.size = w.heap.size + 1 := by simp
  rw [hz] at hC
  obtain ⟨g, hgE⟩ : ∃ g, w.heap.size = g := ⟨_, rfl⟩
  rw [hgE] at hA hC hz
  obtain ⟨W, hW⟩ : ∃ W, (w.alloc (.cells #[.int .i64 a, .int .i64 b] 30)).alloc (.cells #[.int .i64 c, .int .i64 d] 30) = W := ⟨_, rfl⟩
  rw [hW] at hg hA hC
  have HW := Lib.hid (And.intro hW hgE)
  clear hW hgE hz
  by_cases h1 : spB a b = true
  · have h2 : spB c d = false := by simpa [h1] using h
    have H1 := Lib.hid h1
    have H2 := Lib.hid h2
    clear h1 h2 h
    go_enter Tryd.func38, Tryd.ntmps38
    obtain ⟨a0, a1, _, _⟩ := hA.two
    obtain ⟨c0, c1, _, _⟩ := hC.two
    go_wp2_with fail
    refine (isSpot_any a b _).mono ?_
    rw [H1.out, HW.out.1, HW.out.2]
    rintro e w1 ⟨rfl, hg1⟩
    have hC1 := hC.grown hg1 (by simp)
    obtain ⟨c2, c3, _, _⟩ := hC1.two
    go_wp2_with fail
    refine (isSpot_any c d _).mono ?_
    rw [H2.out]
    rintro e w2 ⟨rfl, hg2⟩
    go_wp2_with fail
    go_ret2
    exact ⟨rfl, hg.trans (hg1.trans hg2)⟩
  · have h1' : spB a b = false := by simpa using h1
    have H1 := Lib.hid h1'
    clear h1 h1' h
    go_enter Tryd.func38, Tryd.ntmps38
    obtain ⟨a0, a1, _, _⟩ := hA.two
    go_wp2_with fail
    refine (isSpot_any a b _).mono ?_
    rw [H1.out, HW.out.1, HW.out.2]
    rintro e w1 ⟨rfl, hg1⟩
    go_wp2_with fail
    go_ret2
    exact ⟨rfl, hg.trans hg1⟩

set_option maxHeartbeats 2000000 in
theorem farOf_bad (a b c d : Int) (w : World) (h : ¬ (spB a b = true ∧ spB c d = true)) : Calls Tryd.prog 42 #[.agg #[.int .i64 a, .int .i64 b], .agg #[.int .i64 c, .int .i64 d]] w
    fun e w' => e = .returned (.tuple #[.int .i64 0, .int .i64 1]) ∧ w.grownBy w' none := by
  have hg := grown_alloc (grown_alloc (grown_refl w) (.cells #[.int .i64 a, .int .i64 b] 30)) (.cells #[.int .i64 c, .int .i64 d] 30)
  have hA := (Blk.new w 30 #[.int .i64 a, .int .i64 b]).alloc (.cells #[.int .i64 c, .int .i64 d] 30)
  have hC := Blk.new (w.alloc (.cells #[.int .i64 a, .int .i64 b] 30)) 30 #[.int .i64 c, .int .i64 d]
  have hz : (w.alloc (.cells #[.int .i64 a, .int .i64 b] 30)).heap.size = w.heap.size + 1 := by simp
  rw [hz] at hC
  obtain ⟨g, hgE⟩ : ∃ g, w.heap.size = g := ⟨_, rfl⟩
  rw [hgE] at hA hC hz
  obtain ⟨W, hW⟩ : ∃ W, (w.alloc (.cells #[.int .i64 a, .int .i64 b] 30)).alloc (.cells #[.int .i64 c, .int .i64 d] 30) = W := ⟨_, rfl⟩
  rw [hW] at hg hA hC
  have HW := Lib.hid (And.intro hW hgE)
  clear hW hgE hz
  by_cases h1 : spB a b = true
  · have h2 : spB c d = false := by simpa [h1] using h
    have H1 := Lib.hid h1
    have H2 := Lib.hid h2
    clear h1 h2 h
    go_enter Tryd.func42, Tryd.ntmps42
    obtain ⟨a0, a1, _, _⟩ := hA.two
    obtain ⟨c0, c1, _, _⟩ := hC.two
    go_wp2_with fail
    refine (spotRight_any a b _).mono ?_
    rw [H1.out, HW.out.1, HW.out.2]
    rintro e w1 ⟨rfl, hg1⟩
    have hC1 := hC.grown hg1 (by simp)
    obtain ⟨c2, c3, _, _⟩ := hC1.two
    go_wp2_with fail
    refine (spotRight_any c d _).mono ?_
    rw [H2.out]
    rintro e w2 ⟨rfl, hg2⟩
    go_wp2_with fail
    go_ret2
    exact ⟨rfl, hg.trans (hg1.trans hg2)⟩
  · have h1' : spB a b = false := by simpa using h1
    have H1 := Lib.hid h1'
    clear h1 h1' h
    go_enter Tryd.func42, Tryd.ntmps42
    obtain ⟨a0, a1, _, _⟩ := hA.two
    go_wp2_with fail
    refine (spotRight_any a b _).mono ?_
    rw [H1.out, HW.out.1, HW.out.2]
    rintro e w1 ⟨rfl, hg1⟩
    go_wp2_with fail
    go_ret2
    exact ⟨rfl, hg.trans hg1⟩

end Go.Proofs.YtcipidfbclohoaaDoor
