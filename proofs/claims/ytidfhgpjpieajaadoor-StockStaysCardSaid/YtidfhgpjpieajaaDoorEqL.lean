/- slices.Equal of the same lots, of the same pieces; SameCoil of the same coils. -/
import Derived.Test.YtidfhgpjpieajaaDoorStkP
import Derived.Test.YtidfhgpjpieajaaDoorBlk
import Derived.BigQuiet
import Derived.Deep.RegionWith
import Derived.Deep.RegionLaw
namespace Go.Proofs.YtidfhgpjpieajaaDoor
open Go.RowKit

set_option maxRecDepth 100000 in
set_option maxHeartbeats 1000000 in
theorem equalPc_same (A B : Option Addr) (n c d : Nat) (X : List Pc) (w : World) (hr : Rd w 2 A n (pcFlat X)) (hr2 : Rd w 2 B n (pcFlat X)) (hn : n ≤ 1000000) :
    Calls Tryd.prog 26 #[.slice A n c, .slice B n d] w fun e w' => e = .returned (.bool true) ∧ w.grownBy w' none := by
  go_enter Tryd.func26, Tryd.ntmps26
  go_wp2_with fail
  go_loopg [13] n (fun k i wr => ∃ j : Nat, k + j = n ∧ i = .int .i64 j ∧ w.grownBy wr none)
  case atStart => exact ⟨0, by omega, rfl, grown_refl w⟩
  case round =>
    obtain ⟨j, hj, rfl, hg⟩ := hrel
    by_cases hlt : j < n
    · obtain ⟨b, off, rfl, _, t, ht, c0, c1⟩ := pc_cells (hr.grown hg) hlt
      obtain ⟨b', off', rfl, _, t', ht', d0, d1⟩ := pc_cells (hr2.grown hg) hlt
      obtain rfl : t = t' := by rw [ht] at ht'; injection ht'
      obtain ⟨x, y⟩ := t
      have hlt' : (j : Int) < (n : Int) := by omega
      have hxx : (x.toList == x.toList) = true := by simp
      have HJ := Lib.hid hj
      clear hj ht ht'
      go_wp2_with fail
      go_quiet (fail)
      go_wp2_with fail
      have hj := HJ.out
      go_roundg (gk - 1)
      case measure => omega
      case rel => exact ⟨j + 1, by omega, by go_num, grown_drewN hg _⟩
    · obtain rfl : j = n := by omega
      go_wp2_with fail
      go_ret
      exact ⟨rfl, hg⟩

set_option maxRecDepth 100000 in
set_option maxHeartbeats 1000000 in
theorem equalLot_same (A B : Option Addr) (n c d : Nat) (X : List Lot) (w : World) (hr : Rd w 4 A n (lotFlat X)) (hr2 : Rd w 4 B n (lotFlat X)) (hn : n ≤ 1000000) :
    Calls Tryd.prog 25 #[.slice A n c, .slice B n d] w fun e w' => e = .returned (.bool true) ∧ w.grownBy w' none := by
  go_enter Tryd.func25, Tryd.ntmps25
  go_wp2_with fail
  go_loopg [13] n (fun k i wr => ∃ j : Nat, k + j = n ∧ i = .int .i64 j ∧ w.grownBy wr none)
  case atStart => exact ⟨0, by omega, rfl, grown_refl w⟩
  case round =>
    obtain ⟨j, hj, rfl, hg⟩ := hrel
    by_cases hlt : j < n
    · obtain ⟨b, off, rfl, _, t, ht, c0, c1, c2, c3⟩ := lot_cells (hr.grown hg) hlt
      obtain ⟨b', off', rfl, _, t', ht', d0, d1, d2, d3⟩ := lot_cells (hr2.grown hg) hlt
      obtain rfl : t = t' := by rw [ht] at ht'; injection ht'
      obtain ⟨x, y, u, v⟩ := t
      have hlt' : (j : Int) < (n : Int) := by omega
      have hxx : (x.toList == x.toList) = true := by simp
      have hyy : (y.toList == y.toList) = true := by simp
      have HJ := Lib.hid hj
      clear hj ht ht'
      go_wp2_with fail
      go_quiet (fail)
      go_wp2_with fail
      have hj := HJ.out
      go_roundg (gk - 1)
      case measure => omega
      case rel => exact ⟨j + 1, by omega, by go_num, grown_drewN hg _⟩
    · obtain rfl : j = n := by omega
      go_wp2_with fail
      go_ret
      exact ⟨rfl, hg⟩

set_option maxRecDepth 100000 in
set_option maxHeartbeats 1000000 in
theorem sameCoil_same (C : Coil) (A B : Option Addr) (c d : Nat) (w : World) (hr : Rd w 2 A C.ps.length (pcFlat C.ps)) (hr2 : Rd w 2 B C.ps.length (pcFlat C.ps)) (hn : C.ps.length ≤ 1000000) :
    Calls Tryd.prog 63 #[.agg #[.string C.pr, .int .i64 C.most, .slice A C.ps.length c], .agg #[.string C.pr, .int .i64 C.most, .slice B C.ps.length d]] w fun e w' => e = .returned (.bool true) ∧ w.grownBy w' none := by
  have hB := Blk.new w 58 #[.string C.pr, .int .i64 C.most, .slice A C.ps.length c]
  have hg0 := grown_alloc (grown_refl w) (.cells #[.string C.pr, .int .i64 C.most, .slice A C.ps.length c] 58)
  have hD := Blk.new (w.alloc (.cells #[.string C.pr, .int .i64 C.most, .slice A C.ps.length c] 58)) 58 #[.string C.pr, .int .i64 C.most, .slice B C.ps.length d]
  rw [show (w.alloc (.cells #[.string C.pr, .int .i64 C.most, .slice A C.ps.length c] 58)).heap.size = w.heap.size + 1 from by simp] at hD
  have hB1 := hB.alloc (.cells #[.string C.pr, .int .i64 C.most, .slice B C.ps.length d] 58)
  have hg1 := grown_alloc hg0 (.cells #[.string C.pr, .int .i64 C.most, .slice B C.ps.length d] 58)
  have heq := fun w1 (h : w.grownBy w1 none) => equalPc_same A B C.ps.length c d C.ps w1 (hr.grown h) (hr2.grown h) hn
  obtain ⟨pr, most, ps⟩ := C
  simp only at *
  have k0 := hB1.three
  have k1 := hD.three
  have hxx : (pr.toList == pr.toList) = true := by simp
  have HC := Lib.hid (And.intro heq hg1)
  clear heq hg1 hB hB1 hD hg0
  go_enter Tryd.func63, Tryd.ntmps63
  go_wp2_with fail
  refine (HC.out.1 _ HC.out.2).mono ?_
  rintro e w1 ⟨rfl, hg2⟩
  go_wp2_with fail
  go_ret
  exact ⟨rfl, HC.out.2.trans hg2⟩

end Go.Proofs.YtidfhgpjpieajaaDoor
