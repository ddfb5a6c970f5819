/- The walk of the law ChancesAddUp. -/
import Derived.Test.YtccmcdjcpipkiaaDoorChcC
import Derived.Test.YtccmcdjcpipkiaaDoorTlls
import Derived.Test.YtccmcdjcpipkiaaDoorRange
import Derived.Test.YtccmcdjcpipkiaaDoorIn
import Derived.Deep.RegionHeld3
namespace Go.Proofs.YtccmcdjcpipkiaaDoor
open Go.RowKit

set_option maxRecDepth 100000 in
set_option maxHeartbeats 4000000 in
theorem chancesAddUp_walk (a0 : Option Addr) (len0 cap0 : Nat) (z0 : List Int) (w : World) (w0 : InRow w a0 len0 cap0 z0) (hT : TabAt 1 Lib.deBruijn64tab w) :
    Calls Tryd.prog 4 #[.slice a0 len0 cap0] w fun e w' => e = .returned (.bool true) ∧ w.grownBy w' none := by
  obtain ⟨hlen, hs0⟩ := str_start w0
  have hg0 : w.grownBy (w.alloc (.cells #[.slice a0 len0 cap0, .int .i64 0] 25)) none := grown_alloc (grown_refl w) _
  have hz0 : (w.alloc (.cells #[.slice a0 len0 cap0, .int .i64 0] 25)).heap.size = w.heap.size + 1 := by simp
  have h1s : 1 < w.heap.size := World.block_lt_of_cell? w ⟨1, 0, none⟩ (hT 0 (by decide))
  have hT0 := tab_grown hT hg0 (by simp)
  clear hlen w0
  generalize z0.take len0 = L at *
  go_enter Tryd.func4, Tryd.ntmps4
  go_wp2_with fail
  generalize w.alloc (.cells #[.slice a0 len0 cap0, .int .i64 0] 25) = wA at *
  obtain ⟨bs, hbs⟩ : ∃ bs, bs = w.heap.size := ⟨_, rfl⟩
  rw [← hbs] at hs0 hz0 h1s ⊢
  have HZ := Lib.hid hbs
  clear hbs
  refine (range_any bs L 0 1 30 wA hs0 (by omega) (by omega) (by omega) (by omega)).mono ?_
  obtain ⟨n0, n1⟩ := nx_in L 0 30 (by omega)
  obtain ⟨n, hn⟩ : ∃ n : Nat, 1 + nx L 0 (30 - 1 + 1) = n := ⟨(1 + nx L 0 30).toNat, by show 1 + nx L 0 30 = _; omega⟩
  rw [hn]
  have hn1 : 1 ≤ n := by have : 1 + nx L 0 30 = n := hn; omega
  have hn2 : n ≤ 30 := by have : 1 + nx L 0 30 = n := hn; omega
  clear n0 n1 hn
  rintro e w1 ⟨rfl, hs1, hg1⟩
  have hgg1 := (hg0.but (some bs)).trans hg1
  have hT1 := tab_grown hT0 hg1 (by simp; omega)
  clear hs0 hg1 hg0 hT0 hT
  go_wp2_with fail
  refine (range_any bs L (0 + 1) 1 n w1 hs1 (by omega) (by omega) (by omega) (by omega)).mono ?_
  obtain ⟨k0, k1⟩ := nx_in L (0 + 1) ((n : Int) - 1 + 1) (by omega)
  obtain ⟨k, hk⟩ : ∃ k : Nat, 1 + nx L (0 + 1) ((n : Int) - 1 + 1) = k := ⟨(1 + nx L (0 + 1) ((n : Int) - 1 + 1)).toNat, by omega⟩
  rw [hk]
  have hk1 : 1 ≤ k := by omega
  have hk2 : k ≤ n := by omega
  clear k0 k1 hk
  rintro e w2 ⟨rfl, hs2, hg2⟩
  have hgg2 := hgg1.trans hg2
  have hT2 := tab_grown hT1 hg2 (by simp; omega)
  have hgf : w.grownBy w2 none := grown_below (grown_refl w) hgg2 (fun j hj => .inl (by cases hj; have := HZ.out; omega))
  clear hs1 hs2 hg2 hgg1 hgg2 hT1 hz0
  obtain ⟨q0, qa1, qa2, qb1, qb2, qc1, qc2, qle, qeq⟩ := chL_b hn2 hk2 hk1
  have hC0 := fun wx (h : TabAt 1 Lib.deBruijn64tab wx) => chanceC_any n 0 wx (by omega) (by omega) h
  have hCa := fun wx (h : TabAt 1 Lib.deBruijn64tab wx) => chanceC_any n k wx (by omega) (by omega) h
  have hCb := fun wx (h : TabAt 1 Lib.deBruijn64tab wx) => chanceC_any n (k - 1) wx (by omega) (by omega) h
  have hCc := fun wx (h : TabAt 1 Lib.deBruijn64tab wx) => chanceC_any n (n - k + 1) wx (by omega) (by omega) h
  rw [q0] at hC0
  simp only [show ((1 : Nat) : Int) = 1 from rfl] at hC0
  generalize chN n k = A at *
  generalize chN n (k - 1) = B at *
  generalize chN n (n - k + 1) = C at *
  obtain ⟨an, ad⟩ := A
  obtain ⟨bn, bd⟩ := B
  obtain ⟨cn, cd⟩ := C
  simp only at hC0 hCa hCb hCc qa1 qa2 qb1 qb2 qc1 qc2 qle qeq
  have e1 : (k : Int) - 1 = ((k - 1 : Nat) : Int) := by omega
  have e2 : (n : Int) - k + 1 = ((n - k + 1 : Nat) : Int) := by omega
  have HC := Lib.hid (And.intro hC0 (And.intro hCa (And.intro hCb (And.intro hCc (And.intro e1 (And.intro e2 (And.intro qle (And.intro qeq hgf))))))))
  clear hC0 hCa hCb hCc e1 e2 qle qeq hgf q0
  have hG2 := grown_refl w2
  go_wp2_with fail
  refine (HC.out.1 w2 hT2).mono ?_
  rintro e v0 ⟨rfl, hv0⟩
  have hGV0 := hG2.trans hv0
  obtain ⟨g0, hs0⟩ : ∃ g, v0.heap.size = g := ⟨_, rfl⟩
  have hB0_0 := Blk.new v0 32 #[.int .i64 1, .int .i64 1]
  rw [hs0] at hB0_0
  have hGU0 := grown_alloc hGV0 (.cells #[.int .i64 1, .int .i64 1] 32)
  have hU0 := tab_grown hT2 (hv0.trans (grown_alloc (grown_refl v0) (.cells #[.int .i64 1, .int .i64 1] 32))) (by simp)
  clear hv0 hGV0 hG2 hT2
  go_wp2_with fail
  (try rw [hs0])
  clear hs0
  generalize v0.alloc (.cells #[.int .i64 1, .int .i64 1] 32) = u0 at *
  refine (HC.out.2.1 u0 hU0).mono ?_
  rintro e v1 ⟨rfl, hv1⟩
  have hGV1 := hGU0.trans hv1
  obtain ⟨g1, hs1⟩ : ∃ g, v1.heap.size = g := ⟨_, rfl⟩
  have hA0_1 := hB0_0.grown hv1 (by simp)
  have hB0_1 := hA0_1.alloc (.cells #[.int .i64 an, .int .i64 ad] 32)
  clear hA0_1 hB0_0
  have hB1_1 := Blk.new v1 32 #[.int .i64 an, .int .i64 ad]
  rw [hs1] at hB1_1
  have hGU1 := grown_alloc hGV1 (.cells #[.int .i64 an, .int .i64 ad] 32)
  have hU1 := tab_grown hU0 (hv1.trans (grown_alloc (grown_refl v1) (.cells #[.int .i64 an, .int .i64 ad] 32))) (by simp)
  clear hv1 hGV1 hGU0 hU0
  go_wp2_with fail
  rw [HC.out.2.2.2.2.1]
  (try rw [hs1])
  clear hs1
  generalize v1.alloc (.cells #[.int .i64 an, .int .i64 ad] 32) = u1 at *
  refine (HC.out.2.2.1 u1 hU1).mono ?_
  rintro e v2 ⟨rfl, hv2⟩
  have hGV2 := hGU1.trans hv2
  obtain ⟨g2, hs2⟩ : ∃ g, v2.heap.size = g := ⟨_, rfl⟩
  have hA0_2 := hB0_1.grown hv2 (by simp)
  have hA1_2 := hB1_1.grown hv2 (by simp)
  have hB0_2 := hA0_2.alloc (.cells #[.int .i64 bn, .int .i64 bd] 32)
  have hB1_2 := hA1_2.alloc (.cells #[.int .i64 bn, .int .i64 bd] 32)
  clear hA0_2 hB0_1 hA1_2 hB1_1
  have hB2_2 := Blk.new v2 32 #[.int .i64 bn, .int .i64 bd]
  rw [hs2] at hB2_2
  have hGU2 := grown_alloc hGV2 (.cells #[.int .i64 bn, .int .i64 bd] 32)
  have hU2 := tab_grown hU1 (hv2.trans (grown_alloc (grown_refl v2) (.cells #[.int .i64 bn, .int .i64 bd] 32))) (by simp)
  clear hv2 hGV2 hGU1 hU1
  go_wp2_with fail
  rw [HC.out.2.2.2.2.2.1]
  (try rw [hs2])
  clear hs2
  generalize v2.alloc (.cells #[.int .i64 bn, .int .i64 bd] 32) = u2 at *
  refine (HC.out.2.2.2.1 u2 hU2).mono ?_
  rintro e v3 ⟨rfl, hv3⟩
  have hGV3 := hGU2.trans hv3
  obtain ⟨g3, hs3⟩ : ∃ g, v3.heap.size = g := ⟨_, rfl⟩
  have hA0_3 := hB0_2.grown hv3 (by simp)
  have hA1_3 := hB1_2.grown hv3 (by simp)
  have hA2_3 := hB2_2.grown hv3 (by simp)
  have hB0_3 := hA0_3.alloc (.cells #[.int .i64 cn, .int .i64 cd] 32)
  have hB1_3 := hA1_3.alloc (.cells #[.int .i64 cn, .int .i64 cd] 32)
  have hB2_3 := hA2_3.alloc (.cells #[.int .i64 cn, .int .i64 cd] 32)
  clear hA0_3 hB0_2 hA1_3 hB1_2 hA2_3 hB2_2
  have hB3_3 := Blk.new v3 32 #[.int .i64 cn, .int .i64 cd]
  rw [hs3] at hB3_3
  have hGU3 := grown_alloc hGV3 (.cells #[.int .i64 cn, .int .i64 cd] 32)
  have hU3 := tab_grown hU2 (hv3.trans (grown_alloc (grown_refl v3) (.cells #[.int .i64 cn, .int .i64 cd] 32))) (by simp)
  clear hv3 hGV3 hGU2 hU2
  obtain ⟨g4, hs4⟩ : ∃ g, (v3.alloc (.cells #[.int .i64 cn, .int .i64 cd] 32)).heap.size = g := ⟨_, rfl⟩
  have hB4_4 := Blk.new (v3.alloc (.cells #[.int .i64 cn, .int .i64 cd] 32)) 32 #[.int .i64 1, .int .i64 1]
  rw [hs4] at hB4_4
  have hB0_4 := hB0_3.alloc (.cells #[.int .i64 1, .int .i64 1] 32)
  have hB1_4 := hB1_3.alloc (.cells #[.int .i64 1, .int .i64 1] 32)
  have hB2_4 := hB2_3.alloc (.cells #[.int .i64 1, .int .i64 1] 32)
  have hB3_4 := hB3_3.alloc (.cells #[.int .i64 1, .int .i64 1] 32)
  have hGU4 := grown_alloc hGU3 (.cells #[.int .i64 1, .int .i64 1] 32)
  clear hU3 hGU3 hB0_3 hB1_3 hB2_3 hB3_3
  go_wp2_with fail
  (try rw [hs4])
  (try rw [hs3])
  clear hs3 hs4
  generalize (v3.alloc (.cells #[.int .i64 cn, .int .i64 cd] 32)).alloc (.cells #[.int .i64 1, .int .i64 1] 32) = u4 at *
  refine (tillsK_any u4).mono ?_
  rintro e v5 ⟨rfl, hv5⟩
  have hG5 := hGU4.trans hv5
  obtain ⟨x0, x1, _, _⟩ := (hB0_4.grown hv5 (by simp)).two
  obtain ⟨y0, y1, _, _⟩ := (hB1_4.grown hv5 (by simp)).two
  obtain ⟨z0', z1', _, _⟩ := (hB2_4.grown hv5 (by simp)).two
  obtain ⟨t0, t1, _, _⟩ := (hB3_4.grown hv5 (by simp)).two
  obtain ⟨r0, r1, _, _⟩ := (hB4_4.grown hv5 (by simp)).two
  have bnd : ∀ {a b : Nat}, a ≤ 1073741824 → b ≤ 1073741824 → 0 ≤ (a : Int) * b ∧ (a : Int) * b ≤ 1152921504606846976 := by
    intro a b ha hb
    have := Nat.mul_le_mul ha hb
    have e : (a : Int) * b = ((a * b : Nat) : Int) := by push_cast; rfl
    rw [e]
    omega
  obtain ⟨l1, l2⟩ := bnd qa1 qb2
  obtain ⟨l3, l4⟩ := bnd qb1 qa2
  obtain ⟨l5, l6⟩ := bnd qa1 qc2
  obtain ⟨l7, l8⟩ := bnd qc1 qa2
  obtain ⟨l9, l10⟩ := bnd qa2 qc2
  have hle : (an : Int) * bd ≤ (bn : Int) * ad := by exact_mod_cast HC.out.2.2.2.2.2.2.1
  have heq : (an : Int) * cd + (cn : Int) * ad = (ad : Int) * cd := by exact_mod_cast HC.out.2.2.2.2.2.2.2.1
  have HG := Lib.hid (HC.out.2.2.2.2.2.2.2.2.trans hG5)
  clear hv5 hG5 hGU4 hB0_4 hB1_4 hB2_4 hB3_4 hB4_4 bnd HC
  go_wp2_with fail
  go_ret
  exact ⟨rfl, HG.out⟩

end Go.Proofs.YtccmcdjcpipkiaaDoor
