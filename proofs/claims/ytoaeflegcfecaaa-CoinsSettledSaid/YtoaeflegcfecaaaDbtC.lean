/- The comparison of doubts, and what sorting by it makes of a slice. -/
import Derived.Test.YtoaeflegcfecaaaDbtO
import Derived.StillTailTactics
import Derived.Test.YtoaeflegcfecaaaCmp
import Derived.Test.YtoaeflegcfecaaaLaidS
namespace Go.Proofs.Ytoaeflegcfecaaa
open Go.RowKit Go.Shelf Go.Lib Go.Sort

def orC (a b : Int) : Int := if a = 0 then b else a
theorem orI_any (g : Nat) (a b : Int) (w : World) (c0 : w.cell? ⟨g, 0, none⟩ = some (.int .i64 a)) (c1 : w.cell? ⟨g, 1, none⟩ = some (.int .i64 b)) :
    Calls Try.prog 64 #[.slice (some ⟨g, 0, none⟩) 2 2] w fun e w' => e = .returned (.int .i64 (orC a b)) ∧ w' = w := by
  obtain ⟨r, hr⟩ : ∃ r, r = orC a b := ⟨_, rfl⟩
  rw [← hr]
  have HR := Lib.hid hr
  clear hr
  go_enter Try.func64, Try.ntmps64
  go_wp2_with fail
  go_loopg [8] 2 (fun k i wr => ∃ j : Nat, k + j = 2 ∧ i = .int .i64 j ∧ wr = w ∧ (1 ≤ j → a = 0) ∧ (2 ≤ j → b = 0))
  case atStart => exact ⟨0, by omega, rfl, rfl, fun h => by omega, fun h => by omega⟩
  case round =>
    obtain ⟨j, hj, rfl, rfl, h1, h2⟩ := hrel
    have hjc : j = 0 ∨ j = 1 ∨ j = 2 := by omega
    rcases hjc with rfl | rfl | rfl
    · simp only [Int.natCast_zero]
      clear h1 h2
      by_cases ha : a = 0
      · have hb : (a != 0) = false := by simp [ha]
        have HA := Lib.hid ha
        clear ha
        go_wp2_with fail
        go_roundg (gk - 1)
        case measure => omega
        case rel => exact ⟨1, by omega, by go_num, rfl, fun _ => HA.out, fun h => by omega⟩
      · have hb : (a != 0) = true := by simpa using ha
        have HA := Lib.hid ha
        clear ha
        go_wp2_with fail
        go_ret
        exact ⟨by rw [HR.out, orC, if_neg HA.out]; rfl, rfl⟩
    · simp only [Int.natCast_one]
      have HA := Lib.hid (h1 (by omega))
      clear h1 h2
      by_cases ha : b = 0
      · have hb : (b != 0) = false := by simp [ha]
        have HB := Lib.hid ha
        clear ha
        go_wp2_with fail
        go_roundg (gk - 1)
        case measure => omega
        case rel => exact ⟨2, by omega, by go_num, rfl, fun _ => HA.out, fun _ => HB.out⟩
      · have hb : (b != 0) = true := by simpa using ha
        clear ha
        go_wp2_with fail
        go_ret
        exact ⟨by rw [HR.out, orC, if_pos HA.out]; rfl, rfl⟩
    · have HA := Lib.hid (h1 (by omega))
      have HB := Lib.hid (h2 (by omega))
      clear h1 h2
      go_wp2_with fail
      go_ret
      exact ⟨by rw [HR.out, orC, if_pos HA.out, HB.out]; rfl, rfl⟩

theorem lxc_or (x y : Int × Int) : lxc x y = orC (cpI x.1 y.1) (cpI x.2 y.2) := by
  unfold lxc orC cpI
  by_cases h1 : x.1 < y.1 <;> by_cases h2 : y.1 < x.1 <;> by_cases h3 : x.2 < y.2 <;> by_cases h4 : y.2 < x.2 <;> simp [h1, h2, h3, h4] <;> omega

set_option maxHeartbeats 1000000 in
set_option maxRecDepth 100000 in
theorem dbtLess_any (x y : Int × Int) (w : World) : Calls Try.prog 63 #[.agg #[.int .i64 x.1, .int .i64 x.2], .agg #[.int .i64 y.1, .int .i64 y.2]] w
    fun e w' => e = .returned (.int .i64 (lxc x y)) ∧ ∃ q os, w' = grow (w.drewN q) os := by
  have HL := Lib.hid (lxc_or x y)
  obtain ⟨r, hr⟩ : ∃ r, r = lxc x y := ⟨_, rfl⟩
  rw [← hr] at HL ⊢
  clear hr
  obtain ⟨x1, x2⟩ := x
  obtain ⟨y1, y2⟩ := y
  simp only at HL ⊢
  go_enter Try.func63, Try.ntmps63
  go_wp2_with fail
  have c0 : ((w.alloc (.cells #[.int .i64 x1, .int .i64 x2] 73)).alloc (.cells #[.int .i64 y1, .int .i64 y2] 73)).cell? ⟨w.heap.size, 0, none⟩ = some (.int .i64 x1) := by
    rw [World.cell?_alloc_lt _ _ _ (by simp), World.cell?_alloc_new]; rfl
  have c1 : ((w.alloc (.cells #[.int .i64 x1, .int .i64 x2] 73)).alloc (.cells #[.int .i64 y1, .int .i64 y2] 73)).cell? ⟨w.heap.size, 1, none⟩ = some (.int .i64 x2) := by
    rw [World.cell?_alloc_lt _ _ _ (by simp), World.cell?_alloc_new]; rfl
  have d0 : ((w.alloc (.cells #[.int .i64 x1, .int .i64 x2] 73)).alloc (.cells #[.int .i64 y1, .int .i64 y2] 73)).cell? ⟨w.heap.size + 1, 0, none⟩ = some (.int .i64 y1) := by
    rw [show w.heap.size + 1 = (w.alloc (.cells #[.int .i64 x1, .int .i64 x2] 73)).heap.size from by simp, World.cell?_alloc_new]; rfl
  have d1 : ((w.alloc (.cells #[.int .i64 x1, .int .i64 x2] 73)).alloc (.cells #[.int .i64 y1, .int .i64 y2] 73)).cell? ⟨w.heap.size + 1, 1, none⟩ = some (.int .i64 y2) := by
    rw [show w.heap.size + 1 = (w.alloc (.cells #[.int .i64 x1, .int .i64 x2] 73)).heap.size from by simp, World.cell?_alloc_new]; rfl
  have hW : ∃ os, ((w.alloc (.cells #[.int .i64 x1, .int .i64 x2] 73)).alloc (.cells #[.int .i64 y1, .int .i64 y2] 73)) = grow w os := ⟨_, by rw [alloc_eq_grow, alloc_eq_grow, grow_grow]⟩
  have HW := Lib.hid hW
  clear hW
  generalize ((w.alloc (.cells #[.int .i64 x1, .int .i64 x2] 73)).alloc (.cells #[.int .i64 y1, .int .i64 y2] 73)) = W at *
  go_still_tail 10, (by kernel_rfl)
  still_call (compareI_any _ _ _)
  repeat still_step
  still_call (compareI_any _ _ _)
  repeat still_step
  try refine wpStill_nil ?_
  change wpList _ _ _ _ _ W.drew
  have HW2 : Hid (∃ q os, W.drew = grow (w.drewN q) os) := by
    obtain ⟨os, h⟩ := HW.out
    exact Lib.hid ⟨1, os, by rw [h]; rfl⟩
  clear c0 c1 d0 d1 HW
  generalize W.drew = w2 at *
  generalize cpI x1 y1 = a at *
  generalize cpI x2 y2 = b at *
  go_wp2_with (go_at_call 64; refine (orI_any w2.heap.size a b _ ?_ ?_).mono ?_; (rw [World.cell?_alloc_new]; rfl); (rw [World.cell?_alloc_new]; rfl); rintro e w' ⟨rfl, rfl⟩)
  go_ret
  obtain ⟨q, os, h⟩ := HW2.out
  exact ⟨by rw [HL.out]; rfl, q, _, by rw [h, alloc_eq_grow, grow_grow]⟩

theorem lxc_lt' (x y : Int × Int) : ltOf lxc x y = decide (lx x y) := lxc_lt x y
theorem lxc_swo : SWO (ltOf lxc) where
  irrefl x := by rw [lxc_lt']; simpa using lx_irr x
  trans x y z h1 h2 := by rw [lxc_lt'] at *; exact decide_eq_true (lx_trans (of_decide_eq_true h1) (of_decide_eq_true h2))
  ntrans x y z h1 h2 := by rw [lxc_lt'] at *; simp only [decide_eq_false_iff_not] at *; exact lx_ntrans h2 h1

theorem sortD_any (base g cap n : Nat) (zs : List (Int × Int)) (w : World) (hown : w.ownsRow base 73 2 (.slice (some ⟨g, 0, none⟩) n cap) n (ints (flatP zs))) (hn : n ≤ 100000) :
    Calls Try.prog 62 #[.slice (some ⟨g, 0, none⟩) n cap, .func (.func 63) #[] #[]] w
      fun e w' => e = .returned (.tuple #[]) ∧ w'.ownsRow base 73 2 (.slice (some ⟨g, 0, none⟩) n cap) n (ints (flatP (zs.mergeSort fun x y => !decide (lx y x)))) ∧ w.grownBy w' (some g) := by
  have hl : zs.length = n := by have := hown.1; rw [ints, List.length_map, flatP_len] at this; omega
  have hlt : g < w.heap.size := (hown.lt g rfl).2
  have eg : ∀ (args : Array Value) (w : World), (callFunc 63 args).run Try.prog w = .ok (.enter 63 args) w := enters_of Try.func63 (by kernel_rfl) rfl
  have hc := Try.slices_SortFunc_pair encP (fun _ => rfl) (fun x v hv => by simp [encP] at hv; rcases hv with rfl | rfl <;> rfl) lxc lxc_swo 63 #[] g 0 cap zs.toArray w eg
    (fun _ _ _ _ x y => dbtLess_any x y _) (own_holdsP hown) hlt (by simp; omega) (fun x y h1 h2 => by rw [lxc_lt'] at *; simp only [decide_eq_false_iff_not] at *; exact lx_tot h1 h2)
  rw [show zs.toArray.size = n from by simpa using hl] at hc
  refine hc.mono ?_
  rintro e w' ⟨rfl, k, os, rfl⟩
  have e1 : (zs.toArray.toList.mergeSort fun x y => !(ltOf lxc) y x) = zs.mergeSort fun x y => !decide (lx y x) := by
    simp only [lxc_lt']
  rw [e1]
  obtain ⟨h1, h2⟩ := own_putP (k := k) hown (ts := zs.mergeSort fun x y => !decide (lx y x)) (by rw [List.length_mergeSort]) os
  exact ⟨rfl, h1, h2⟩

end Go.Proofs.Ytoaeflegcfecaaa
