/- The walk of a trip's check. -/
import Derived.Test.YtcipidfbclohoaaDoorRtF
namespace Go.Proofs.YtcipidfbclohoaaDoor
open Go.RowKit

set_option maxHeartbeats 2000000 in
theorem tripCheck_any (hx hy : Int) (A : Option Addr) (n c : Nat) (V : List St) (st : Int) (w : World) (hr : Rd w 6 A n (stFlat V)) (hnc : n ≤ c) :
    Calls Tryd.prog 32 #[.agg #[.int .i64 hx, .int .i64 hy, .slice A n c, .int .i64 st]] w fun e w' => e = .returned (.int .i64 (routeF hx hy V st)) ∧ w.grownBy w' none := by
  have hg := grown_alloc (grown_refl w) (.cells #[.int .i64 hx, .int .i64 hy, .slice A n c, .int .i64 st] 61)
  have hB := Blk.new w 61 #[.int .i64 hx, .int .i64 hy, .slice A n c, .int .i64 st]
  obtain ⟨g, hgE⟩ : ∃ g, w.heap.size = g := ⟨_, rfl⟩
  rw [hgE] at hB
  obtain ⟨W, hW⟩ : ∃ W, w.alloc (.cells #[.int .i64 hx, .int .i64 hy, .slice A n c, .int .i64 st] 61) = W := ⟨_, rfl⟩
  rw [hW] at hg hB
  have hF := checkStops_any A n c V W (hr.grown hg) hnc
  have y2 : W.cell? ⟨g, 2, none⟩ = some (.slice A n c) := hB.cell 2
  have HW := Lib.hid (And.intro hW (And.intro hgE (And.intro hF y2)))
  clear hW hgE hF hr y2
  have hcells : ∀ w1, W.grownBy w1 none → w1.cell? ⟨g, 0, none⟩ = some (.int .i64 hx) ∧ w1.cell? ⟨g, 1, none⟩ = some (.int .i64 hy) ∧ w1.cell? ⟨g, 2, none⟩ = some (.slice A n c) ∧ w1.cell? ⟨g, 3, none⟩ = some (.int .i64 st) := fun w1 h => by
    have hb := hB.grown h (by simp)
    exact ⟨hb.cell 0, hb.cell 1, hb.cell 2, hb.cell 3⟩
  have HCL := Lib.hid hcells
  clear hcells
  by_cases h0 : stopsF V = 0
  · rw [routeF_good h0]
    rw [h0] at HW
    clear h0
    by_cases h1 : spB hx hy = true
    · rw [if_neg (by simp [h1])]
      have H1 := Lib.hid h1
      clear h1
      by_cases h2 : btw st 0 1440 = true
      case' pos => rw [if_neg (by simp [h2])]
      case' pos => have H2 := Lib.hid h2
      case' neg => rw [if_pos (by simpa using h2)]
      case' neg => have H2 := Lib.hid (show btw st 0 1440 = false by simpa using h2)
      all_goals
        clear h2
        go_enter Tryd.func32, Tryd.ntmps32
        go_wp2_with fail
        rw [HW.out.1]
        refine HW.out.2.2.1.mono ?_
        rintro e w1 ⟨rfl, hg1⟩
        rw [HW.out.2.1]
        obtain ⟨k0, k1, k2, k3⟩ := HCL.out w1 hg1
        go_wp2_with fail
        refine (isSpot_any hx hy _).mono ?_
        rw [H1.out]
        rintro e w2 ⟨rfl, hg2⟩
        obtain ⟨l0, l1, l2, l3⟩ := HCL.out w2 (hg1.trans hg2)
        clear k0 k1 k2 k3
        go_wp2_with fail
        refine (between_any _ _ _ _).mono ?_
        rw [H2.out]
        rintro e w3 ⟨rfl, rfl⟩
        go_wp2_with fail
        go_ret
        exact ⟨rfl, hg.trans (hg1.trans hg2)⟩
    · have h1' : spB hx hy = false := by simpa using h1
      rw [if_pos h1']
      have H1 := Lib.hid h1'
      clear h1 h1'
      go_enter Tryd.func32, Tryd.ntmps32
      go_wp2_with fail
      rw [HW.out.1]
      refine HW.out.2.2.1.mono ?_
      rintro e w1 ⟨rfl, hg1⟩
      rw [HW.out.2.1]
      obtain ⟨k0, k1, k2, k3⟩ := HCL.out w1 hg1
      go_wp2_with fail
      refine (isSpot_any hx hy _).mono ?_
      rw [H1.out]
      rintro e w2 ⟨rfl, hg2⟩
      go_wp2_with fail
      go_ret
      exact ⟨rfl, hg.trans (hg1.trans hg2)⟩
  · rw [routeF_bad h0]
    have hne : (stopsF V != 0) = true := by rw [bne_iff_ne]; exact h0
    generalize stopsF V = f at *
    clear h0
    go_enter Tryd.func32, Tryd.ntmps32
    go_wp2_with fail
    rw [HW.out.1]
    refine HW.out.2.2.1.mono ?_
    rintro e w1 ⟨rfl, hg1⟩
    go_wp2_with fail
    go_ret
    exact ⟨rfl, hg.trans hg1⟩

end Go.Proofs.YtcipidfbclohoaaDoor
