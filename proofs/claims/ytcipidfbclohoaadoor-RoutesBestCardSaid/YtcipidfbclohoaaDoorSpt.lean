/- The walk of Spot: a spot made of the stream's numbers. -/
import Derived.Test.YtcipidfbclohoaaDoorPkAt
import Derived.Test.YtcipidfbclohoaaDoorBlk
namespace Go.Proofs.YtcipidfbclohoaaDoor
open Go.RowKit
variable {Q : Nat → Prop}

def spotM (L : List Int) (t : Nat) : Nat × Int × Int :=
  if (nx L (t + 2) 60 == 0) = true then (t + 4, pk L (t + 3) [10000, 10001, -10001], pk L (t + 1) [0, 0, 5, -10]) else (t + 3, pk L t [0, 5, -5, 10, 20], pk L (t + 1) [0, 0, 5, -10])
theorem spotM_b (L : List Int) (t : Nat) : (spotM L t).1 ≤ t + 4 := by unfold spotM; split <;> simp

set_option maxRecDepth 100000 in
set_option maxHeartbeats 2000000 in
theorem spot_any (bs : Nat) (L : List Int) (t : Nat) (w : World) (hs : StrQ Q w bs L t) (ht : t ≤ 900000) :
    Calls Tryd.prog 8 #[.pointer (some ⟨bs, 0, none⟩)] w
      fun e w' => e = .returned (.agg #[.int .i64 (spotM L t).2.1, .int .i64 (spotM L t).2.2]) ∧ StrQ Q w' bs L (spotM L t).1 ∧ w.grownBy w' (some bs) := by
  have hbs := hs.lt
  obtain ⟨M, hM⟩ : ∃ M, spotM L t = M := ⟨_, rfl⟩
  have hMd := hM
  unfold spotM at hMd
  rw [hM]
  obtain ⟨x, hx⟩ : ∃ x, pk L t [0, 5, -5, 10, 20] = x := ⟨_, rfl⟩
  obtain ⟨y, hy⟩ : ∃ y, pk L (t + 1) [0, 0, 5, -10] = y := ⟨_, rfl⟩
  obtain ⟨z, hz⟩ : ∃ z, pk L (t + 3) [10000, 10001, -10001] = z := ⟨_, rfl⟩
  rw [hx, hy, hz] at hMd
  have hR := Blk.new w 30 #[.int .i64 0, .int .i64 0]
  have hg0 := grown_alloc (grown_refl w) (.cells #[.int .i64 0, .int .i64 0] 30)
  have hs0 := hs.grown hg0 (by simp)
  have hgb0 := hg0.but (some bs)
  obtain ⟨gR, hgR⟩ : ∃ gR, w.heap.size = gR := ⟨_, rfl⟩
  have hbR : bs < gR := by omega
  rw [hgR] at hR
  obtain ⟨wA, hwA⟩ : ∃ wA, w.alloc (.cells #[.int .i64 0, .int .i64 0] 30) = wA := ⟨_, rfl⟩
  rw [hwA] at hR hs0 hgb0
  have HM := Lib.hid (And.intro hMd (And.intro hx (And.intro hy (And.intro hz (And.intro hwA hgR)))))
  have hzA : wA.heap.size = gR + 1 := by rw [← hwA, ← hgR]; simp
  clear hM hMd hx hy hz hs hg0 hwA hgR
  go_enter Tryd.func8, Tryd.ntmps8
  go_wp2_with fail
  rw [HM.out.2.2.2.2.1, HM.out.2.2.2.2.2]
  refine (pick_n bs L t [0, 5, -5, 10, 20] wA (gR + 1) hzA hs0 (by omega) (by simp) (by simp) 3).mono ?_
  rw [HM.out.2.1]
  rintro e w1 ⟨rfl, hs1, hg1⟩
  have hR1 := hR.grown hg1 (by simp; omega)
  have hgb1 := hgb0.trans hg1
  clear hs0 hg1 hR hgb0
  go_wp2_with fail
  refine (pick_lit bs L (t + 1) [0, 0, 5, -10] w1 hs1 (by omega) (by simp) (by simp) 3).mono ?_
  rw [HM.out.2.2.1]
  rintro e w2 ⟨rfl, hs2, hg2⟩
  have hR2 := hR1.grown hg2 (by simp; omega)
  have hgb2 := hgb1.trans hg2
  clear hs1 hg2 hR1 hgb1
  have hX := Blk.new w2 30 #[.int .i64 x, .int .i64 y]
  have hgX := grown_alloc (grown_refl w2) (.cells #[.int .i64 x, .int .i64 y] 30)
  have hs3 := hs2.grown hgX (by simp)
  have hR3 := hR2.grown hgX (by simp)
  have hgb3 := hgb2.trans (hgX.but (some bs))
  have hlt2 := hs2.lt
  have hRlt := hR2.lt
  go_wp2_with fail
  obtain ⟨gX, hgXe⟩ : ∃ gX, w2.heap.size = gX := ⟨_, rfl⟩
  rw [hgXe] at hX hlt2 hRlt ⊢
  generalize w2.alloc (.cells #[.int .i64 x, .int .i64 y] 30) = w3 at *
  clear hgX hs2 hR2 hgb2 hgXe
  refine (flip_any bs L (t + 1 + 1) 60 _ hs3 (by omega) (by omega)).mono ?_
  rintro e w4 ⟨rfl, hs4, hg4⟩
  have hX4 := hX.grown hg4 (by simp; omega)
  have hR4 := hR3.grown hg4 (by simp; omega)
  have hgb4 := hgb3.trans hg4
  clear hX hR3 hgb3 hs3 hg4
  have hne : gR ≠ gX := by omega
  have hne' : gX ≠ gR := by omega
  by_cases hf : (nx L (t + 1 + 1) 60 == 0) = true
  · rw [hf]
    have hMM := HM.out.1
    rw [if_pos hf] at hMM
    have HMM := Lib.hid hMM
    clear hf hMM
    go_wp2_with fail
    refine (pick_lit bs L (t + 1 + 1 + 1) [10000, 10001, -10001] w4 hs4 (by omega) (by simp) (by simp) 3).mono ?_
    rw [show pk L (t + 1 + 1 + 1) [10000, 10001, -10001] = z from HM.out.2.2.2.1]
    rintro e w5 ⟨rfl, hs5, hg5⟩
    have hX5 := hX4.grown hg5 (by simp; omega)
    have hR5 := hR4.grown hg5 (by simp; omega)
    have hgb5 := hgb4.trans hg5
    have hX6 := hX5.set_ 0 (.int .i64 z)
    have hR6 := hR5.far (p := ⟨gX, 0, none⟩) (by simp; omega) (.int .i64 z)
    have hs6 := hs5.far gX (by omega) 0 (.int .i64 z)
    have hgb6 := grown_set hgb5 (p := ⟨gX, 0, none⟩) (.inl (by simp; have := HM.out.2.2.2.2.2; omega)) (.int .i64 z)
    obtain ⟨c0, c1, f0, f1⟩ := hX5.two
    obtain ⟨b0, b1, e0, e1⟩ := hR5.two
    have HS := Lib.hid (And.intro hs6 (And.intro hgb6 hR6))
    clear hX4 hR4 hgb4 hs4 hg5 hgb5 hs5 hX5 hX6 hR6 hs6 hgb6 hR5
    go_wp2_with fail
    have hgw := HM.out.2.2.2.2.2
    refine bodyPost_ret (results_cell_row rfl _ _ gR _ _ _ _ rfl ((HS.out.2.2.set_ 0 (.int .i64 z)).set_ 1 (.int .i64 y)) Tryd.underlying30 rfl (by kernel_rfl)) rfl ?_
    refine ⟨?_, ?_, ?_⟩
    · rw [← HMM.out]; rfl
    · rw [← HMM.out]; exact (HS.out.1.far gR hbR 0 _).far gR hbR 1 _
    · exact grown_set (grown_set HS.out.2.1 (p := ⟨gR, 0, none⟩) (.inl (by simp; omega)) _) (p := ⟨gR, 1, none⟩) (.inl (by simp; omega)) _
  · have hf' : (nx L (t + 1 + 1) 60 == 0) = false := by simpa using hf
    rw [hf']
    have hMM := HM.out.1
    rw [if_neg hf] at hMM
    have HMM := Lib.hid hMM
    clear hf hf' hMM
    obtain ⟨c0, c1, f0, f1⟩ := hX4.two
    obtain ⟨b0, b1, e0, e1⟩ := hR4.two
    have HS := Lib.hid (And.intro hs4 (And.intro hgb4 hR4))
    clear hX4 hR4 hgb4 hs4
    go_wp2_with fail
    have hgw := HM.out.2.2.2.2.2
    refine bodyPost_ret (results_cell_row rfl _ _ gR _ _ _ _ rfl ((HS.out.2.2.set_ 0 (.int .i64 x)).set_ 1 (.int .i64 y)) Tryd.underlying30 rfl (by kernel_rfl)) rfl ?_
    refine ⟨?_, ?_, ?_⟩
    · rw [← HMM.out]; rfl
    · rw [← HMM.out]; exact (HS.out.1.far gR hbR 0 _).far gR hbR 1 _
    · exact grown_set (grown_set HS.out.2.1 (p := ⟨gR, 0, none⟩) (.inl (by simp; omega)) _) (p := ⟨gR, 1, none⟩) (.inl (by simp; omega)) _

end Go.Proofs.YtcipidfbclohoaaDoor
