/- The walk of Chance, of numbers in their ranges. -/
import Derived.Test.YtccmcdjcpipkiaaDoorChc
import Derived.Test.YtccmcdjcpipkiaaDoorRes
namespace Go.Proofs.YtccmcdjcpipkiaaDoor
open Go.RowKit

theorem tab_grown {t : List Nat} {w w' : World} {r : Option Nat} (h : TabAt 1 t w) (hg : w.grownBy w' r) (hr : r ≠ some 1) : TabAt 1 t w' :=
  fun j hj => hg.cell (a := ⟨1, j, none⟩) (h j hj) (fun e => hr e.symm)

set_option maxRecDepth 100000 in
set_option maxHeartbeats 2000000 in
theorem chanceC_any (n k : Nat) (w : World) (hn : n ≤ 60) (hk : k ≤ n) (hT : TabAt 1 Lib.deBruijn64tab w) :
    Calls Tryd.prog 9 #[.int .i64 n, .int .i64 k] w
      fun e w' => e = .returned (.tuple #[.agg #[.int .i64 ((chN n k).1 : Nat), .int .i64 ((chN n k).2 : Nat)], .int .i64 0]) ∧ w.grownBy w' none := by
  obtain ⟨gR, hgR⟩ : ∃ gR, w.heap.size = gR := ⟨_, rfl⟩
  have hB := Blk.new w 32 #[.int .i64 0, .int .i64 0]
  have hg0 := grown_alloc (grown_refl w) (.cells #[.int .i64 0, .int .i64 0] 32)
  have hT0 := tab_grown hT hg0 (by simp)
  obtain ⟨W, hW⟩ : ∃ W, w.alloc (.cells #[.int .i64 0, .int .i64 0] 32) = W := ⟨_, rfl⟩
  rw [hW, hgR] at hB
  rw [hW] at hg0 hT0
  have hch := chance_any n k W hn hk hT0
  generalize (chN n k).1 = x at *
  generalize (chN n k).2 = y at *
  have h1 : btw (n : Int) 0 60 = true := btw_true.2 (by omega)
  have h2 : btw (k : Int) 0 n = true := btw_true.2 (by omega)
  have HW := Lib.hid (And.intro hW (And.intro hgR (And.intro hg0 (And.intro hch (And.intro h1 h2)))))
  clear hW hgR hg0 hT0 hT hch h1 h2
  go_enter Tryd.func9, Tryd.ntmps9
  go_wp2_with fail
  rw [HW.out.1, HW.out.2.1]
  refine (between_any n 0 60 W).mono ?_
  rw [HW.out.2.2.2.2.1]
  rintro e w1 ⟨rfl, rfl⟩
  go_wp2_with fail
  refine (between_any k 0 n W).mono ?_
  rw [HW.out.2.2.2.2.2]
  rintro e w1 ⟨rfl, rfl⟩
  go_wp2_with fail
  refine HW.out.2.2.2.1.mono ?_
  rintro e w1 ⟨rfl, hg1⟩
  have hB1 := hB.grown hg1 (by simp)
  obtain ⟨c0, c1, f0, f1⟩ := hB1.two
  have HB := Lib.hid (And.intro hB1 hg1)
  clear hB hB1 hg1
  go_wp2_with fail
  refine bodyPost_ret (results_row_tmp rfl _ _ gR _ _ _ _ rfl ((HB.out.1.set_ 0 (.int .i64 x)).set_ 1 (.int .i64 y)) Tryd.underlying32 rfl (by kernel_rfl)) rfl ?_
  have := HW.out.2.1
  exact ⟨rfl, grown_set (p := ⟨gR, 1, none⟩) (grown_set (p := ⟨gR, 0, none⟩) (HW.out.2.2.1.trans HB.out.2) (.inl (by simp; omega)) _) (.inl (by simp; omega)) _⟩

end Go.Proofs.YtccmcdjcpipkiaaDoor
