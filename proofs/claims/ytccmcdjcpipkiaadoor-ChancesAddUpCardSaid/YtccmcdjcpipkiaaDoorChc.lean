/- The walk of chance. -/
import Derived.Test.YtccmcdjcpipkiaaDoorChcP
import Derived.Test.YtccmcdjcpipkiaaDoorTz
import Derived.Test.YtccmcdjcpipkiaaDoorBlk
import Derived.BigRegion
namespace Go.Proofs.YtccmcdjcpipkiaaDoor
open Go.RowKit

set_option maxRecDepth 100000 in
set_option maxHeartbeats 2000000 in
theorem chance_any (n k : Nat) (w : World) (hn : n ≤ 60) (hk : k ≤ n) (hT : TabAt 1 Lib.deBruijn64tab w) :
    Calls Tryd.prog 27 #[.int .i64 n, .int .i64 k] w
      fun e w' => e = .returned (.agg #[.int .i64 ((chN n k).1 : Nat), .int .i64 ((chN n k).2 : Nat)]) ∧ w.grownBy w' none := by
  obtain ⟨gR, hgR⟩ : ∃ gR, w.heap.size = gR := ⟨_, rfl⟩
  have hB := Blk.new w 32 #[.int .i64 0, .int .i64 0]
  have hg0 := grown_alloc (grown_refl w) (.cells #[.int .i64 0, .int .i64 0] 32)
  have hT0 : TabAt 1 Lib.deBruijn64tab (w.alloc (.cells #[.int .i64 0, .int .i64 0] 32)) := fun j hj => (hg0.cell (hT j hj) (by simp))
  obtain ⟨W, hW⟩ : ∃ W, w.alloc (.cells #[.int .i64 0, .int .i64 0] 32) = W := ⟨_, rfl⟩
  rw [hW, hgR] at hB
  rw [hW] at hg0 hT0
  have HW := Lib.hid (And.intro hW (And.intro hgR (And.intro hB (And.intro hg0 hT0))))
  clear hW hgR hB hg0 hT0 hT
  go_enter Tryd.func27, Tryd.ntmps27
  go_wp2_with fail
  rw [HW.out.1, HW.out.2.1]
  go_loopg [5, 6, 7] (n - k + 1) (fun m a b c wr => ∃ j : Nat, m + j = n - k + 1 ∧ a = .int .i64 ((rowC n j).1 : Nat) ∧ b = .int .i64 ((rowC n j).2 : Nat) ∧ c = .int .i64 ((n : Int) - j) ∧ wr = W)
  case atStart => exact ⟨0, by omega, rfl, rfl, by simp, rfl⟩
  case round =>
    obtain ⟨j, hj, rfl, rfl, rfl, rfl⟩ := hrel
    by_cases hlt : j < n - k + 1
    · obtain ⟨b1, b2, b3, _, _⟩ := rowC_b (n := n) (j := j) hn (by omega)
      have hsucc : rowC n (j + 1) = ((rowC n j).1 * (n - j) / (j + 1), (rowC n j).2 + (rowC n j).1) := rfl
      generalize rowC n j = R at *
      obtain ⟨a, b⟩ := R
      simp only at b1 b2 b3 hsucc ⊢
      obtain ⟨h, hh⟩ : ∃ h : Int, (n : Int) - j = h := ⟨_, rfl⟩
      rw [hh]
      have hp : (a : Int) * h = ((a * (n - j) : Nat) : Int) := by rw [← hh]; push_cast; rw [Int.ofNat_sub (by omega)]
      have hp0 : 0 ≤ (a : Int) * h := by rw [hp]; omega
      have hp1 : (a : Int) * h ≤ 4611686018427387904 := by rw [hp]; omega
      have hd : (n : Int) - h + 1 = ((j + 1 : Nat) : Int) := by omega
      have hhn : h ≤ (n : Int) := by omega
      have hk1 : (k : Int) ≤ h := by omega
      have hh0 : 0 ≤ h := by omega
      have hh1 : h ≤ 60 := by omega
      have HS := Lib.hid (And.intro hsucc (And.intro hj (And.intro hp (And.intro hd hh))))
      clear hsucc hj hp hd hh
      go_wp2_with fail
      obtain ⟨hsucc, hj, hp, hd, hh⟩ := HS.out
      go_roundg (gk - 1)
      case measure => omega
      case rel =>
        refine ⟨j + 1, by omega, ?_, ?_, ?_, rfl⟩
        · rw [hsucc, hp, hd]
          congr 1
        · rw [hsucc]
          congr 1
        · congr 1; omega
    · obtain rfl : j = n - k + 1 := by omega
      obtain ⟨_, _, _, s0, s1⟩ := rowC_b (n := n) (j := n - k) hn (by omega)
      have hc : chN n k = ((rowC n (n - k + 1)).2 / 2 ^ twosC n (rowC n (n - k + 1)).2, 2 ^ (n - twosC n (rowC n (n - k + 1)).2)) := rfl
      generalize (rowC n (n - k + 1)).2 = s at *
      have htz := tz_any s (by omega) (by omega) wr HW.out.2.2.2.2
      unfold twosC at hc
      generalize Lib.ctz 64 s = z at *
      have hw : IntKind.u64.wrap (s : Int) = (s : Int) := by rw [IntKind.wrap_u64]; omega
      have hlt2 : (n : Int) - ((n - k + 1 : Nat) : Int) < (k : Int) := by omega
      have HT := Lib.hid (And.intro htz hc)
      clear htz hc hlt hj
      go_wp2_with fail
      refine HT.out.1.mono ?_
      rintro e w1 ⟨rfl, rfl⟩
      have c0 := HW.out.2.2.1.two
      obtain ⟨c0, c1, f0, f1⟩ := c0
      obtain ⟨t, ht, htn⟩ : ∃ t, min n z = t ∧ t ≤ n := ⟨_, rfl, by omega⟩
      by_cases hz : n ≤ z
      · obtain rfl : t = n := by omega
        go_wp2_with fail
        have HK := Lib.hid (And.intro hk (And.intro hlt2 hw))
        clear hk hlt2 hw
        go_region
        go_wp2_with fail
        refine bodyPost_ret (results_cell_row rfl _ _ gR _ _ _ _ rfl (show Blk (World.drew _) _ _ _ from (HW.out.2.2.1.set_ 0 (.int .i64 ((s : Int) / 2 ^ t))).set_ 1 (.int .i64 1)) Tryd.underlying32 rfl (by kernel_rfl)) rfl ?_
        refine ⟨?_, ?_⟩
        · rw [HT.out.2, ht]
          simp
        · exact grown_drew (grown_set (grown_set HW.out.2.2.2.1 (p := ⟨gR, 0, none⟩) (.inl (by simp; have := HW.out.2.1; omega)) _) (p := ⟨gR, 1, none⟩) (.inl (by simp; have := HW.out.2.1; omega)) _)
      · obtain rfl : t = z := by omega
        obtain ⟨d, hd⟩ : ∃ d : Nat, n = t + d := ⟨n - t, by omega⟩
        go_wp2_with fail
        have HK := Lib.hid (And.intro hk (And.intro hlt2 hw))
        clear hk hlt2 hw
        go_region
        go_wp2_with fail
        have hw64 : wrap64 ((2 : Int) ^ d) = ((2 ^ d : Nat) : Int) := by
          have h1 : 2 ^ d ≤ 2 ^ 60 := Nat.pow_le_pow_right (by omega) (by omega)
          have h2 : ((2 : Int) ^ d) = ((2 ^ d : Nat) : Int) := by push_cast; rfl
          rw [h2]
          generalize 2 ^ d = q at *
          unfold wrap64
          omega
        refine bodyPost_ret (results_cell_row rfl _ _ gR _ _ _ _ rfl (show Blk (World.drew _) _ _ _ from (HW.out.2.2.1.set_ 0 (.int .i64 ((s : Int) / 2 ^ t))).set_ 1 (.int .i64 (wrap64 (2 ^ d)))) Tryd.underlying32 rfl (by kernel_rfl)) rfl ?_
        refine ⟨?_, ?_⟩
        · rw [HT.out.2, ht]
          have e1 : n - t = d := by omega
          simp only [e1, ← hw64]
          simp
        · exact grown_drew (grown_set (grown_set HW.out.2.2.2.1 (p := ⟨gR, 0, none⟩) (.inl (by simp; have := HW.out.2.1; omega)) _) (p := ⟨gR, 1, none⟩) (.inl (by simp; have := HW.out.2.1; omega)) _)

end Go.Proofs.YtccmcdjcpipkiaaDoor
