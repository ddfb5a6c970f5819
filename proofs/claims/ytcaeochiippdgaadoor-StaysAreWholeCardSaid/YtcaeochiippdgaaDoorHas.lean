/- The walk of what is in a slot on a day (StaysAreWhole's own function). -/
import Derived.Test.YtcaeochiippdgaaDoorVst
namespace Go.Proofs.YtcaeochiippdgaaDoor
open Go.RowKit

set_option maxRecDepth 100000 in
set_option maxHeartbeats 1000000 in
theorem has_any (B Bv : Nat) (A : Option Addr) (c : Nat) (V : List Ver) (d : Int) (j : Nat) (w : World) (hr : RdV w B A V) (hb : w.cell? ⟨Bv, 0, none⟩ = some (.slice A V.length c)) (hv : versF V = 0) (h0 : 0 ≤ d) (h1 : d ≤ 4000) :
    Calls Tryd.prog 8 #[.int .i64 d, .int .i64 j, .pointer (some ⟨Bv, 0, none⟩)] w fun e w' => e = .returned (.string (atS V j d)) ∧ w.grownBy w' none := by
  have hA := at_any B A c V d w hr
  have hbt : btw d 0 4000 = true := btw_true.2 ⟨h0, h1⟩
  have ea : aE V d = atE V d := by unfold aE; rw [if_neg (by simp [hv]), if_neg (by simp [hbt])]
  have el : aL V d = atL V d := by
    unfold aL
    rcases atE_or V d with h1 | ⟨_, h2⟩
    · rw [ea, if_pos h1]
    · rw [h2]; split <;> rfl
  rw [ea, el] at hA
  obtain ⟨N, hN⟩ : ∃ N, V.length = N := ⟨_, rfl⟩
  rw [hN] at hA hb
  obtain ⟨s, hs⟩ : ∃ s, atS V j d = s := ⟨_, rfl⟩
  rw [hs]
  have HC := Lib.hid (And.intro hA hs)
  clear hA hbt ea el hv h0 h1 hr hN hs
  rcases atE_or V d with h8 | ⟨h8, hL⟩
  · have H8 := Lib.hid h8
    by_cases hlt : j < (atL V d).length
    · have hd : decide (((atL V d).length : Int) ≤ (j : Int)) = false := by simp; omega
      have hlt' : (j : Int) < ((atL V d).length : Int) := by omega
      clear h8
      go_enter Tryd.func8, Tryd.ntmps8
      go_wp2_with fail
      refine HC.out.1.mono ?_
      rw [H8.out]
      rintro e w1 ⟨v, rfl, hown, hg1⟩
      obtain ⟨A1, c1, hv1, _, _, hr1, _⟩ := Rd.of_own hown
      subst hv1
      obtain ⟨b, off, rfl, hb1, x, hx, cx⟩ := str_cells hr1 hlt
      have HX := Lib.hid (show x = s by rw [← HC.out.2]; unfold atS; simp [List.getD, hx])
      clear hx hown hr1
      go_wp2_with fail
      go_ret
      exact ⟨by rw [HX.out]; rfl, hg1⟩
    · have hd : decide (((atL V d).length : Int) ≤ (j : Int)) = true := by simp; omega
      have hge : (atL V d).length ≤ j := by omega
      have HX := Lib.hid (show s = ByteArray.empty by rw [← HC.out.2]; unfold atS; simp [List.getD, hge])
      clear h8 hlt
      go_enter Tryd.func8, Tryd.ntmps8
      go_wp2_with fail
      refine HC.out.1.mono ?_
      rw [H8.out]
      rintro e w1 ⟨v, rfl, hown, hg1⟩
      obtain ⟨A1, c1, hv1, _, _, hr1, _⟩ := Rd.of_own hown
      subst hv1
      clear hown hr1
      go_wp2_with fail
      go_ret
      exact ⟨by rw [HX.out]; rfl, hg1⟩
  · have H8 := Lib.hid h8
    have HX := Lib.hid (show s = ByteArray.empty by rw [← HC.out.2]; unfold atS; rw [hL]; rfl)
    clear h8 hL
    go_enter Tryd.func8, Tryd.ntmps8
    go_wp2_with fail
    refine HC.out.1.mono ?_
    rw [H8.out]
    rintro e w1 ⟨v, rfl, hown, hg1⟩
    clear hown
    go_wp2_with fail
    go_ret
    exact ⟨by rw [HX.out]; rfl, hg1⟩

end Go.Proofs.YtcaeochiippdgaaDoor
