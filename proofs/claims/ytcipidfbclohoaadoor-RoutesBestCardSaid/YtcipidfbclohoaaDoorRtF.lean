/- The walks of the reference RouteFault and of a trip's check. -/
import Derived.Test.YtcipidfbclohoaaDoorStpW
import Derived.Test.YtcipidfbclohoaaDoorStpR
import Derived.Test.YtcipidfbclohoaaDoorFarX
namespace Go.Proofs.YtcipidfbclohoaaDoor
open Go.RowKit

def routeF (hx hy : Int) (V : List St) (st : Int) : Int := if stopsF V ≠ 0 then stopsF V else if spB hx hy = false then 1 else if btw st 0 1440 = false then 1 else 0
theorem routeF_bad {hx hy st : Int} {V : List St} (h : stopsF V ≠ 0) : routeF hx hy V st = stopsF V := by unfold routeF; rw [if_pos h]
theorem routeF_good {hx hy st : Int} {V : List St} (h : stopsF V = 0) : routeF hx hy V st = if spB hx hy = false then 1 else if btw st 0 1440 = false then 1 else 0 := by unfold routeF; rw [if_neg (by simp [h])]
theorem routeF_ok {hx hy st : Int} {V : List St} (h : routeF hx hy V st = 0) : stopsF V = 0 ∧ spB hx hy = true ∧ 0 ≤ st ∧ st ≤ 1440 := by
  by_cases h1 : stopsF V = 0
  · rw [routeF_good h1] at h
    by_cases h2 : spB hx hy = true
    · rw [if_neg (by simp [h2])] at h
      by_cases h3 : btw st 0 1440 = true
      · exact ⟨h1, h2, btw_true.1 h3⟩
      · rw [if_pos (by simpa using h3)] at h; cases h
    · rw [if_pos (by simpa using h2)] at h; cases h
  · rw [routeF_bad h1] at h; exact absurd h h1

set_option maxHeartbeats 2000000 in
theorem routeFault_any (hx hy : Int) (A : Option Addr) (n c : Nat) (V : List St) (st : Int) (w : World) (hr : Rd w 6 A n (stFlat V)) (hnc : n ≤ c) :
    Calls Tryd.prog 11 #[.agg #[.int .i64 hx, .int .i64 hy], .slice A n c, .int .i64 st] w fun e w' => e = .returned (.int .i64 (routeF hx hy V st)) ∧ w.grownBy w' none := by
  have hg := grown_alloc (grown_refl w) (.cells #[.int .i64 hx, .int .i64 hy] 30)
  have hB := Blk.new w 30 #[.int .i64 hx, .int .i64 hy]
  obtain ⟨g, hgE⟩ : ∃ g, w.heap.size = g := ⟨_, rfl⟩
  rw [hgE] at hB
  obtain ⟨W, hW⟩ : ∃ W, w.alloc (.cells #[.int .i64 hx, .int .i64 hy] 30) = W := ⟨_, rfl⟩
  rw [hW] at hg hB
  have hF := stopsFault_any A n c V W (hr.grown hg) hnc
  have HW := Lib.hid (And.intro hW (And.intro hgE hF))
  clear hW hgE hF hr
  by_cases h0 : stopsF V = 0
  · rw [routeF_good h0]
    rw [h0] at HW
    clear h0
    by_cases h1 : spB hx hy = true
    · rw [if_neg (by simp [h1])]
      have H1 := Lib.hid h1
      clear h1
      obtain ⟨r, hre⟩ : ∃ r : Int, (if btw st 0 1440 = false then (1 : Int) else 0) = r := ⟨_, rfl⟩
      rw [hre]
      have hcase : (st < 0 ∧ r = 1) ∨ (¬ st < 0 ∧ 1440 < st ∧ r = 1) ∨ (¬ st < 0 ∧ ¬ 1440 < st ∧ r = 0) := by
        rw [← hre]
        by_cases hb : btw st 0 1440 = true
        · have := btw_true.1 hb
          exact .inr (.inr ⟨by omega, by omega, by rw [if_neg (by simp [hb])]⟩)
        · have : ¬ (0 ≤ st ∧ st ≤ 1440) := fun h => hb (btw_true.2 h)
          rw [if_pos (by simpa using hb)]
          omega
      clear hre
      rcases hcase with ⟨m1, rfl⟩ | ⟨m1, m2, rfl⟩ | ⟨m1, m2, rfl⟩
      case' inl => have d1 : decide (st < 0) = true := by simpa using m1
      case' inr.inl => have d1 : decide (st < 0) = false := by simpa using m1
      case' inr.inl => have d2 : decide ((1440 : Int) < st) = true := by simpa using m2
      case' inr.inr => have d1 : decide (st < 0) = false := by simpa using m1
      case' inr.inr => have d2 : decide ((1440 : Int) < st) = false := by simpa using m2
      all_goals
        go_enter Tryd.func11, Tryd.ntmps11
        go_wp2_with fail
        rw [HW.out.1, HW.out.2.1]
        refine HW.out.2.2.mono ?_
        rintro e w1 ⟨rfl, hg1⟩
        have hB1 := hB.grown hg1 (by simp)
        obtain ⟨k0, k1, _, _⟩ := hB1.two
        go_wp2_with fail
        refine (spotRight_any hx hy _).mono ?_
        rw [H1.out]
        rintro e w2 ⟨rfl, hg2⟩
        go_wp2_with fail
        go_ret
        exact ⟨rfl, hg.trans (hg1.trans hg2)⟩
    · have h1' : spB hx hy = false := by simpa using h1
      rw [if_pos h1']
      have H1 := Lib.hid h1'
      clear h1 h1'
      go_enter Tryd.func11, Tryd.ntmps11
      go_wp2_with fail
      rw [HW.out.1, HW.out.2.1]
      refine HW.out.2.2.mono ?_
      rintro e w1 ⟨rfl, hg1⟩
      have hB1 := hB.grown hg1 (by simp)
      obtain ⟨k0, k1, _, _⟩ := hB1.two
      go_wp2_with fail
      refine (spotRight_any hx hy _).mono ?_
      rw [H1.out]
      rintro e w2 ⟨rfl, hg2⟩
      go_wp2_with fail
      go_ret
      exact ⟨rfl, hg.trans (hg1.trans hg2)⟩
  · rw [routeF_bad h0]
    have hne : (stopsF V != 0) = true := by rw [bne_iff_ne]; exact h0
    generalize stopsF V = f at *
    clear h0
    go_enter Tryd.func11, Tryd.ntmps11
    go_wp2_with fail
    rw [HW.out.1, HW.out.2.1]
    refine HW.out.2.2.mono ?_
    rintro e w1 ⟨rfl, hg1⟩
    go_wp2_with fail
    go_ret
    exact ⟨rfl, hg.trans hg1⟩

end Go.Proofs.YtcipidfbclohoaaDoor
