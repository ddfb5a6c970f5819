/- The walks of checkFaults, Refund, and of the reference's RefundOf. -/
import Derived.Test.YtccmcdjcpipkiaaWdF
import Derived.Test.YtccmcdjcpipkiaaClmF
namespace Go.Proofs.Ytccmcdjcpipkiaa
open Go.RowKit

def okW (x : Wd) : Bool := decide (0 ≤ x.f ∧ x.f ≤ x.t ∧ x.t ≤ 5761440)
def inW (a : Int) (x : Wd) : Bool := decide (x.f ≤ a ∧ a < x.t)
def faultsF (l : List Wd) : Int := if 500 < l.length then 2 else if l.all okW = true then 0 else 1
def refE (c : Clm) (l : List Wd) (price most : Int) : Int :=
  if claimF c ≠ 0 then claimF c else if faultsF l ≠ 0 then faultsF l else if btw price 0 100000 = true ∧ btw most 0 100000 = true then 0 else 1
def refN (c : Clm) (l : List Wd) (price most : Int) : Int :=
  if refE c l price most ≠ 0 then 0 else if l.any (inW c.a) = true then min c.l most else if c.p ≤ 1 then min (min c.l price) most else 0

set_option maxRecDepth 100000 in
set_option maxHeartbeats 1000000 in
theorem checkFaults_any (A : Option Addr) (n cp : Nat) (l : List Wd) (w : World) (hr : Rd w 2 A n (wdFlat l)) (hn : n ≤ 1000000) :
    Calls Try.prog 25 #[.slice A n cp] w fun e w' => e = .returned (.int .i64 (faultsF l)) ∧ w.grownBy w' none := by
  have hl : l.length = n := by have := hr.1; rw [wdFlat_len] at this; omega
  obtain ⟨F, hF⟩ : ∃ F, faultsF l = F := ⟨_, rfl⟩
  rw [hF]
  unfold faultsF at hF
  by_cases h500 : 500 < n
  · rw [hl, if_pos h500] at hF
    subst hF
    clear hl
    go_enter Try.func25, Try.ntmps25
    go_wp2_with fail
    go_ret
    exact ⟨rfl, grown_refl w⟩
  · rw [hl, if_neg h500] at hF
    have HC := Lib.hid (And.intro hF hl)
    clear hF hl
    go_enter Try.func25, Try.ntmps25
    go_wp2_with fail
    go_loopg [10] n (fun k i wr => ∃ j : Nat, k + j = n ∧ i = .int .i64 j ∧ w.grownBy wr none ∧ (l.take j).all okW = true)
    case atStart => exact ⟨0, by omega, rfl, grown_refl w, by simp⟩
    case round =>
      obtain ⟨j, hj, rfl, hg, H⟩ := hrel
      by_cases hlt : j < n
      · obtain ⟨b', off, rfl, hb, x, hx, c0, c1⟩ := wd_cells (hr.grown hg) hlt
        have HX := Lib.hid (And.intro hx H)
        have HJ := Lib.hid hj
        have hB := Blk.new wr 32 #[.int .i64 x.f, .int .i64 x.t]
        have hgg := grown_alloc hg (.cells #[.int .i64 x.f, .int .i64 x.t] 32)
        obtain ⟨d0, d1, _, _⟩ := hB.two
        have bad : okW x = false → F = 1 := by
          intro h
          rw [← HC.out.1, if_neg]
          rw [List.all_eq_true]
          intro h2
          rw [h2 x (List.mem_of_getElem? hx)] at h
          cases h
        have HB := Lib.hid bad
        clear hx hj H bad
        go_wp2_with fail
        refine (between_any x.f 0 x.t _).mono ?_
        rintro e w1 ⟨rfl, rfl⟩
        by_cases h1 : btw x.f 0 x.t = true
        · rw [h1]
          by_cases h2 : 5761440 < x.t
          · go_wp2_with fail
            go_ret
            exact ⟨retI (HB.out (by unfold okW; rw [decide_eq_false_iff_not]; omega)).symm, hgg⟩
          · have hok : okW x = true := by
              have := btw_true.1 h1
              unfold okW; rw [decide_eq_true_iff]; omega
            go_wp2_with fail
            have hj := HJ.out
            go_roundg (gk - 1)
            case measure => omega
            case rel => exact ⟨j + 1, by omega, by go_num, hgg, by rw [take_at HX.out.1, List.all_append, HX.out.2]; simp [hok]⟩
        · have h1' : btw x.f 0 x.t = false := by simpa using h1
          rw [h1']
          go_wp2_with fail
          go_ret
          exact ⟨retI (HB.out (by unfold okW; rw [decide_eq_false_iff_not]; intro h; exact h1 (btw_true.2 ⟨h.1, h.2.1⟩))).symm, hgg⟩
      · obtain rfl : j = n := by omega
        go_wp2_with fail
        go_ret
        refine ⟨retI ?_, hg⟩
        rw [← HC.out.1, if_pos]
        rw [← HC.out.2, List.take_length] at H
        exact H

set_option maxRecDepth 100000 in
theorem inRef_any (x : Wd) (a : Int) (g : Nat) (w : World) (hc : w.cell? ⟨g, 0, none⟩ = some (.int .i64 a)) (hg : g < w.heap.size) :
    Calls Try.prog 28 #[.agg #[.int .i64 x.f, .int .i64 x.t], .pointer (some ⟨g, 0, none⟩)] w fun e w' => e = .returned (.bool (inW a x)) ∧ w.grownBy w' none := by
  obtain ⟨f, t⟩ := x
  obtain ⟨F, hF⟩ : ∃ F, inW a ⟨f, t⟩ = F := ⟨_, rfl⟩
  rw [hF]
  unfold inW at hF
  simp only at hF ⊢
  have hB := Blk.new w 32 #[.int .i64 f, .int .i64 t]
  have hg0 := grown_alloc (grown_refl w) (.cells #[.int .i64 f, .int .i64 t] 32)
  obtain ⟨d0, d1, _, _⟩ := hB.two
  have c0 := (World.cell?_alloc_lt w (.cells #[.int .i64 f, .int .i64 t] 32) ⟨g, 0, none⟩ hg).trans hc
  have HC := Lib.hid hF
  clear hF hB
  by_cases h1 : f ≤ a
  · by_cases h2 : a < t
    · go_enter Try.func28, Try.ntmps28
      go_wp2_with fail
      go_ret
      exact ⟨retB (by rw [← HC.out]; simp [h1, h2]), hg0⟩
    · go_enter Try.func28, Try.ntmps28
      go_wp2_with fail
      go_ret
      exact ⟨retB (by rw [← HC.out]; simp; omega), hg0⟩
  · go_enter Try.func28, Try.ntmps28
    go_wp2_with fail
    go_ret
    exact ⟨retB (by rw [← HC.out]; simp; omega), hg0⟩

set_option maxRecDepth 100000 in
theorem inRefR_any (x : Wd) (a : Int) (g : Nat) (w : World) (hc : w.cell? ⟨g, 0, none⟩ = some (.int .i64 a)) (hg : g < w.heap.size) :
    Calls Try.prog 30 #[.agg #[.int .i64 x.f, .int .i64 x.t], .pointer (some ⟨g, 0, none⟩)] w fun e w' => e = .returned (.bool (inW a x)) ∧ w.grownBy w' none := by
  obtain ⟨f, t⟩ := x
  obtain ⟨F, hF⟩ : ∃ F, inW a ⟨f, t⟩ = F := ⟨_, rfl⟩
  rw [hF]
  unfold inW at hF
  simp only at hF ⊢
  have hB := Blk.new w 32 #[.int .i64 f, .int .i64 t]
  have hg0 := grown_alloc (grown_refl w) (.cells #[.int .i64 f, .int .i64 t] 32)
  obtain ⟨d0, d1, _, _⟩ := hB.two
  have c0 := (World.cell?_alloc_lt w (.cells #[.int .i64 f, .int .i64 t] 32) ⟨g, 0, none⟩ hg).trans hc
  have HC := Lib.hid hF
  clear hF hB
  by_cases h1 : f ≤ a
  · by_cases h2 : a < t
    · go_enter Try.func30, Try.ntmps30
      go_wp2_with fail
      go_ret
      exact ⟨retB (by rw [← HC.out]; simp [h1, h2]), hg0⟩
    · go_enter Try.func30, Try.ntmps30
      go_wp2_with fail
      go_ret
      exact ⟨retB (by rw [← HC.out]; simp; omega), hg0⟩
  · go_enter Try.func30, Try.ntmps30
    go_wp2_with fail
    go_ret
    exact ⟨retB (by rw [← HC.out]; simp; omega), hg0⟩

set_option maxRecDepth 100000 in
theorem badRef_any (x : Wd) (w : World) :
    Calls Try.prog 29 #[.agg #[.int .i64 x.f, .int .i64 x.t]] w fun e w' => e = .returned (.bool (!(okW x))) ∧ w.grownBy w' none := by
  obtain ⟨f, t⟩ := x
  obtain ⟨F, hF⟩ : ∃ F, (!(okW ⟨f, t⟩)) = F := ⟨_, rfl⟩
  rw [hF]
  unfold okW at hF
  simp only at hF ⊢
  have hB := Blk.new w 32 #[.int .i64 f, .int .i64 t]
  have hg0 := grown_alloc (grown_refl w) (.cells #[.int .i64 f, .int .i64 t] 32)
  obtain ⟨d0, d1, _, _⟩ := hB.two
  have HC := Lib.hid hF
  clear hF hB
  by_cases h1 : f < 0
  · go_enter Try.func29, Try.ntmps29
    go_wp2_with fail
    go_ret
    exact ⟨retB (by rw [← HC.out]; simp; omega), hg0⟩
  · by_cases h2 : t < f
    · go_enter Try.func29, Try.ntmps29
      go_wp2_with fail
      go_ret
      exact ⟨retB (by rw [← HC.out]; simp; omega), hg0⟩
    · by_cases h3 : 5761440 < t
      · go_enter Try.func29, Try.ntmps29
        go_wp2_with fail
        go_ret
        exact ⟨retB (by rw [← HC.out]; simp; omega), hg0⟩
      · go_enter Try.func29, Try.ntmps29
        go_wp2_with fail
        go_ret
        exact ⟨retB (by rw [← HC.out]; simp; omega), hg0⟩

end Go.Proofs.Ytccmcdjcpipkiaa
