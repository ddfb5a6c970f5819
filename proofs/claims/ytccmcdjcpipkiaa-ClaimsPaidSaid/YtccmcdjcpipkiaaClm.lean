/- The walk of the stream's Claim. -/
import Derived.Test.YtccmcdjcpipkiaaPkAt
import Derived.Test.YtccmcdjcpipkiaaBlk
namespace Go.Proofs.Ytccmcdjcpipkiaa
open Go.RowKit
variable {Q : Nat → Prop}

structure Clm where
  a : Int
  l : Int
  p : Int
def claimM (L : List Int) (t : Nat) : Nat × Clm :=
  if (nx L (t + 3) 12 == 0) = true then (t + 7, ⟨pk L (t + 4) [-1, 5, 5761440], pk L (t + 5) [0, 5, 100001], pk L (t + 6) [-1, 0, 1001]⟩)
  else (t + 4, ⟨pk L t [0, 5, 25, 100], pk L (t + 1) [1, 150, 300], pk L (t + 2) [0, 1, 2, 9]⟩)
theorem claimM_b (L : List Int) (t : Nat) : (claimM L t).1 ≤ t + 7 := by unfold claimM; split <;> simp

set_option maxRecDepth 100000 in
set_option maxHeartbeats 2000000 in
theorem claim_any (bs : Nat) (L : List Int) (t : Nat) (w : World) (hs : StrQ Q w bs L t) (ht : t ≤ 900000) :
    Calls Try.prog 5 #[.pointer (some ⟨bs, 0, none⟩)] w
      fun e w' => e = .returned (.agg #[.int .i64 (claimM L t).2.a, .int .i64 (claimM L t).2.l, .int .i64 (claimM L t).2.p]) ∧ StrQ Q w' bs L (claimM L t).1 ∧ w.grownBy w' (some bs) := by
  have hbs := hs.lt
  obtain ⟨M, hM⟩ : ∃ M, claimM L t = M := ⟨_, rfl⟩
  have hMd := hM
  unfold claimM at hMd
  rw [hM]
  obtain ⟨x, hx⟩ : ∃ x, pk L t [0, 5, 25, 100] = x := ⟨_, rfl⟩
  obtain ⟨y, hy⟩ : ∃ y, pk L (t + 1) [1, 150, 300] = y := ⟨_, rfl⟩
  obtain ⟨v, hv⟩ : ∃ v, pk L (t + 2) [0, 1, 2, 9] = v := ⟨_, rfl⟩
  obtain ⟨x', hx'⟩ : ∃ x', pk L (t + 4) [-1, 5, 5761440] = x' := ⟨_, rfl⟩
  obtain ⟨y', hy'⟩ : ∃ y', pk L (t + 5) [0, 5, 100001] = y' := ⟨_, rfl⟩
  obtain ⟨v', hv'⟩ : ∃ v', pk L (t + 6) [-1, 0, 1001] = v' := ⟨_, rfl⟩
  rw [hx, hy, hv, hx', hy', hv'] at hMd
  have hR := Blk.new w 27 #[.int .i64 0, .int .i64 0, .int .i64 0]
  have hg0 := grown_alloc (grown_refl w) (.cells #[.int .i64 0, .int .i64 0, .int .i64 0] 27)
  have hs0 := hs.grown hg0 (by simp)
  have hgb0 := hg0.but (some bs)
  obtain ⟨gR, hgR⟩ : ∃ gR, w.heap.size = gR := ⟨_, rfl⟩
  have hbR : bs < gR := by omega
  rw [hgR] at hR
  obtain ⟨wA, hwA⟩ : ∃ wA, w.alloc (.cells #[.int .i64 0, .int .i64 0, .int .i64 0] 27) = wA := ⟨_, rfl⟩
  rw [hwA] at hR hs0 hgb0
  have HM := Lib.hid (And.intro hMd (And.intro hwA (And.intro hgR (And.intro hx (And.intro hy (And.intro hv (And.intro hx' (And.intro hy' hv'))))))))
  have hzA : wA.heap.size = gR + 1 := by rw [← hwA, ← hgR]; simp
  clear hM hMd hx hy hv hx' hy' hv' hs hg0 hwA hgR
  go_enter Try.func5, Try.ntmps5
  go_wp2_with fail
  rw [HM.out.2.1, HM.out.2.2.1]
  refine (pick_n bs L t [0, 5, 25, 100] wA (gR + 1) hzA hs0 (by omega) (by simp) (by simp) 3).mono ?_
  rw [HM.out.2.2.2.1]
  rintro e w1 ⟨rfl, hs1, hg1⟩
  have hR1 := hR.grown hg1 (by simp; omega)
  have hgb1 := hgb0.trans hg1
  clear hs0 hg1 hR hgb0
  go_wp2_with fail
  refine (pick_lit bs L (t + 1) [1, 150, 300] w1 hs1 (by omega) (by simp) (by simp) 3).mono ?_
  rw [HM.out.2.2.2.2.1]
  rintro e w1 ⟨rfl, hs2, hg2⟩
  have hR2 := hR1.grown hg2 (by simp; omega)
  have hgb2 := hgb1.trans hg2
  clear hs1 hg2 hR1 hgb1
  go_wp2_with fail
  refine (pick_lit bs L (t + 1 + 1) [0, 1, 2, 9] w1 hs2 (by omega) (by simp) (by simp) 3).mono ?_
  rw [show pk L (t + 1 + 1) [0, 1, 2, 9] = v from HM.out.2.2.2.2.2.1]
  rintro e w2 ⟨rfl, hs3, hg3⟩
  have hR3 := hR2.grown hg3 (by simp; omega)
  have hgb3 := hgb2.trans hg3
  clear hs2 hg3 hR2 hgb2
  have hX := Blk.new w2 27 #[.int .i64 x, .int .i64 y, .int .i64 v]
  have hgX := grown_alloc (grown_refl w2) (.cells #[.int .i64 x, .int .i64 y, .int .i64 v] 27)
  have hs4 := hs3.grown hgX (by simp)
  have hR4 := hR3.grown hgX (by simp)
  have hgb4 := hgb3.trans (hgX.but (some bs))
  have hlt2 := hs3.lt
  have hRlt := hR3.lt
  go_wp2_with fail
  obtain ⟨gX, hgXe⟩ : ∃ gX, w2.heap.size = gX := ⟨_, rfl⟩
  rw [hgXe] at hX hlt2 hRlt ⊢
  generalize w2.alloc (.cells #[.int .i64 x, .int .i64 y, .int .i64 v] 27) = w3 at *
  clear hgX hs3 hR3 hgb3 hgXe
  refine (flip_any bs L (t + 1 + 1 + 1) 12 _ hs4 (by omega) (by omega)).mono ?_
  rintro e w4 ⟨rfl, hs5, hg5⟩
  have hX5 := hX.grown hg5 (by simp; omega)
  have hR5 := hR4.grown hg5 (by simp; omega)
  have hgb5 := hgb4.trans hg5
  clear hX hR4 hgb4 hs4 hg5
  have hne : gR ≠ gX := by omega
  have hne' : gX ≠ gR := by omega
  by_cases hf : (nx L (t + 1 + 1 + 1) 12 == 0) = true
  · rw [hf]
    have hMM := HM.out.1
    rw [if_pos hf] at hMM
    have HMM := Lib.hid hMM
    clear hf hMM
    go_wp2_with fail
    refine (pick_lit bs L (t + 1 + 1 + 1 + 1) [-1, 5, 5761440] w4 hs5 (by omega) (by simp) (by simp) 3).mono ?_
    rw [show pk L (t + 1 + 1 + 1 + 1) [-1, 5, 5761440] = x' from HM.out.2.2.2.2.2.2.1]
    rintro e w5 ⟨rfl, hs6, hg6⟩
    have hX6 := hX5.grown hg6 (by simp; omega)
    have hR6 := hR5.grown hg6 (by simp; omega)
    have hgb6 := hgb5.trans hg6
    clear hX5 hR5 hgb5 hs5 hg6
    go_wp2_with fail
    refine (pick_lit bs L (t + 1 + 1 + 1 + 1 + 1) [0, 5, 100001] w5 hs6 (by omega) (by simp) (by simp) 3).mono ?_
    rw [show pk L (t + 1 + 1 + 1 + 1 + 1) [0, 5, 100001] = y' from HM.out.2.2.2.2.2.2.2.1]
    rintro e w6 ⟨rfl, hs7, hg7⟩
    have hX7 := hX6.grown hg7 (by simp; omega)
    have hR7 := hR6.grown hg7 (by simp; omega)
    have hgb7 := hgb6.trans hg7
    clear hX6 hR6 hgb6 hs6 hg7
    go_wp2_with fail
    refine (pick_lit bs L (t + 1 + 1 + 1 + 1 + 1 + 1) [-1, 0, 1001] w6 hs7 (by omega) (by simp) (by simp) 3).mono ?_
    rw [show pk L (t + 1 + 1 + 1 + 1 + 1 + 1) [-1, 0, 1001] = v' from HM.out.2.2.2.2.2.2.2.2]
    rintro e w7 ⟨rfl, hs8, hg8⟩
    have hX8 := hX7.grown hg8 (by simp; omega)
    have hR8 := hR7.grown hg8 (by simp; omega)
    have hgb8 := hgb7.trans hg8
    clear hX7 hR7 hgb7 hs7 hg8
    have hR9 := ((hR8.far (p := ⟨gX, 0, none⟩) (by simp; omega) (.int .i64 x')).far (p := ⟨gX, 1, none⟩) (by simp; omega) (.int .i64 y')).far (p := ⟨gX, 2, none⟩) (by simp; omega) (.int .i64 v')
    have hs9 := ((hs8.far gX (by omega) 0 (.int .i64 x')).far gX (by omega) 1 (.int .i64 y')).far gX (by omega) 2 (.int .i64 v')
    have hgb9 := grown_set (grown_set (grown_set hgb8 (p := ⟨gX, 0, none⟩) (.inl (by simp; have := HM.out.2.2.1; omega)) (.int .i64 x')) (p := ⟨gX, 1, none⟩) (.inl (by simp; have := HM.out.2.2.1; omega)) (.int .i64 y')) (p := ⟨gX, 2, none⟩) (.inl (by simp; have := HM.out.2.2.1; omega)) (.int .i64 v')
    have c := hX8.three
    have b := hR8.three
    have HS := Lib.hid (And.intro hs9 (And.intro hgb9 hR9))
    clear hX8 hR8 hgb8 hs8 hR9 hs9 hgb9
    obtain ⟨c0, c1, c2, f0, f1, f2⟩ := c
    obtain ⟨b0, b1, b2, e0, e1, e2⟩ := b
    go_wp2_with fail
    have hgw := HM.out.2.2.1
    refine bodyPost_ret (results_cell_row rfl _ _ gR _ _ _ _ rfl (((HS.out.2.2.set_ 0 (.int .i64 x')).set_ 1 (.int .i64 y')).set_ 2 (.int .i64 v')) Try.underlying27 rfl (by kernel_rfl)) rfl ?_
    refine ⟨?_, ?_, ?_⟩
    · rw [← HMM.out]; rfl
    · rw [← HMM.out]; exact ((HS.out.1.far gR hbR 0 _).far gR hbR 1 _).far gR hbR 2 _
    · exact grown_set (grown_set (grown_set HS.out.2.1 (p := ⟨gR, 0, none⟩) (.inl (by simp; omega)) _) (p := ⟨gR, 1, none⟩) (.inl (by simp; omega)) _) (p := ⟨gR, 2, none⟩) (.inl (by simp; omega)) _
  · have hf' : (nx L (t + 1 + 1 + 1) 12 == 0) = false := by simpa using hf
    rw [hf']
    have hMM := HM.out.1
    rw [if_neg hf] at hMM
    have HMM := Lib.hid hMM
    clear hf hf' hMM
    obtain ⟨c0, c1, c2, f0, f1, f2⟩ := hX5.three
    obtain ⟨b0, b1, b2, e0, e1, e2⟩ := hR5.three
    have HS := Lib.hid (And.intro hs5 (And.intro hgb5 hR5))
    clear hX5 hR5 hgb5 hs5
    go_wp2_with fail
    have hgw := HM.out.2.2.1
    refine bodyPost_ret (results_cell_row rfl _ _ gR _ _ _ _ rfl (((HS.out.2.2.set_ 0 (.int .i64 x)).set_ 1 (.int .i64 y)).set_ 2 (.int .i64 v)) Try.underlying27 rfl (by kernel_rfl)) rfl ?_
    refine ⟨?_, ?_, ?_⟩
    · rw [← HMM.out]; rfl
    · rw [← HMM.out]; exact ((HS.out.1.far gR hbR 0 _).far gR hbR 1 _).far gR hbR 2 _
    · exact grown_set (grown_set (grown_set HS.out.2.1 (p := ⟨gR, 0, none⟩) (.inl (by simp; omega)) _) (p := ⟨gR, 1, none⟩) (.inl (by simp; omega)) _) (p := ⟨gR, 2, none⟩) (.inl (by simp; omega)) _

end Go.Proofs.Ytccmcdjcpipkiaa
