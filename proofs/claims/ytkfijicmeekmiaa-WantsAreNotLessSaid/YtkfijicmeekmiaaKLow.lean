/- The walk of coilkeep's lowest. -/
import Derived.Test.YtkfijicmeekmiaaGcd
import Derived.Test.YtkfijicmeekmiaaMean
import Derived.StillTailTactics
namespace Go.Proofs.Ytkfijicmeekmiaa
open Go.RowKit

set_option maxRecDepth 100000 in
set_option maxHeartbeats 400000 in
theorem keepLowest_any (num den : Int) (w : World) (h0 : -4611686018427387904 ≤ num) (h1 : num ≤ 4611686018427387904) (hd : 0 < den) (hd1 : den ≤ 4611686018427387904) :
    Calls Try.prog 63 #[.int .i64 num, .int .i64 den] w fun e w' => e = .returned (frac (lowN num den) (lowD num den)) ∧ w.grownBy w' none := by
  obtain ⟨G, hG, hG0, e1, e2, ⟨b1, b2⟩, b3, b4⟩ := low_facts h0 h1 hd hd1
  have hab := gcd_abs num den hd
  rw [hG] at hab
  have hm : 0 ≤ max num (-num) ∧ max num (-num) ≤ 4611686018427387904 := by omega
  have hne : ((G : Int) == 0) = false := by rw [beq_eq_false_iff_ne]; omega
  have hne1 : ¬ (G : Int) = 0 := by omega
  have hne2 : ¬ G = 0 := by omega
  have w1 : IntKind.i64.wrap (lowN num den) = lowN num den := IntWalk.i64_in _ (by omega)
  have w2 : IntKind.i64.wrap (lowD num den) = lowD num den := IntWalk.i64_in _ (by omega)
  have HAB := Lib.hid hab
  clear hab hG b1 b2 b3 b4
  generalize lowN num den = q1 at *
  generalize lowD num den = q2 at *
  go_enter Try.func63, Try.ntmps63
  go_wp2_with fail
  all_goals
    obtain ⟨p0, hp0⟩ : ∃ p0 : Nat, (p0 : Int) = max num (-num) := ⟨(max num (-num)).toNat, by omega⟩
    obtain ⟨r0, hr0⟩ : ∃ r0 : Nat, (r0 : Int) = den := ⟨den.toNat, by omega⟩
    have H0 : Hid (Nat.gcd p0 r0 = G) := Lib.hid (by rw [← HAB.out, ← hp0, ← hr0]; rfl)
    go_loopg [5, 6] r0 (fun k a b wr => ∃ x y : Nat, k = y ∧ a = .int .i64 x ∧ b = .int .i64 y ∧ x ≤ 4611686018427387904 ∧ y ≤ 4611686018427387904 ∧ Hid (Nat.gcd x y = G) ∧ Dr (w.alloc (.cells #[.int .i64 0, .int .i64 0] 31)) wr)
    case atStart => exact ⟨p0, r0, rfl, by congr 1; omega, by congr 1; omega, by omega, by omega, H0, Dr.refl _⟩
    case round =>
      obtain ⟨x, y, hk, rfl, rfl, hx1, hy1, H, hdr⟩ := hrel
      by_cases hy : 0 < y
      · have hm : x % y < y := Nat.mod_lt _ hy
        have er : (x : Int) % (y : Int) = ((x % y : Nat) : Int) := by simp
        have er' : (x : Int).tmod (y : Int) = ((x % y : Nat) : Int) := by rw [Int.tmod_eq_emod_of_nonneg (by omega)]; simp
        have hyne : ((y : Int) == 0) = false := by rw [beq_eq_false_iff_ne]; omega
        have hyn : ((y : Int) != 0) = true := by rw [bne_iff_ne]; omega
        have H2 : Hid (Nat.gcd y (x % y) = G) := Lib.hid (by rw [Nat.gcd_comm, ← Nat.gcd_rec, Nat.gcd_comm, H.out])
        have HK := Lib.hid hk
        have HM := Lib.hid hm
        generalize x % y = r at *
        clear hk H hp0 hr0 H0 hm HAB
        go_wp2_with fail
        go_quiet (fail)
        go_wp2_with fail
        have hk := HK.out
        have hm := HM.out
        go_roundg r
        case measure => omega
        case rel => exact ⟨y, r, rfl, rfl, rfl, hy1, by omega, H2, hdr.more _⟩
      · obtain rfl : y = 0 := by omega
        have hyn : (((0 : Nat) : Int) != 0) = false := by simp
        have hxG := H.out
        rw [Nat.gcd_zero_right] at hxG
        subst hxG
        clear hp0 hr0 H0 HAB H
        go_wp2_with fail
        have hB0 : Blk (w.alloc (.cells #[.int .i64 0, .int .i64 0] 31)) w.heap.size 31 #[.int .i64 0, .int .i64 0] := Blk.new w _ _
        have hB1 := hB0.grown hdr.grown (by simp)
        have hg1 := (grown_alloc (grown_refl w) (.cells #[.int .i64 0, .int .i64 0] 31)).trans hdr.grown
        clear hB0 hdr h0 h1 hd hd1 hm hx1 hy1 hG0
        go_still_tail 7, (by kernel_rfl)
        change wpList _ _ _ _ _ wr.drew
        have hB : Blk wr.drew w.heap.size 31 #[.int .i64 0, .int .i64 0] := hB1
        have hg := grown_drew hg1
        clear hB1 hg1
        generalize wr.drew = w2 at *
        have c0 := hB.cell 0
        have c1 := hB.cell 1
        have f0 := hB.frozen 0
        have f1 := hB.frozen 1
        simp only [List.getElem?_toArray, List.getElem?_cons_zero, List.getElem?_cons_succ] at c0 c1
        go_wp2_with fail
        refine bodyPost_ret (results_cell_row rfl _ _ w.heap.size _ _ _ _ rfl ((hB.set_ 0 (.int .i64 q1)).set_ 1 (.int .i64 q2)) Try.underlying31 rfl (by kernel_rfl)) rfl ?_
        exact ⟨rfl, grown_set (p := ⟨w.heap.size, 1, none⟩) (grown_set (p := ⟨w.heap.size, 0, none⟩) hg (.inl (Nat.le_refl _)) _) (.inl (Nat.le_refl _)) _⟩

end Go.Proofs.Ytkfijicmeekmiaa
