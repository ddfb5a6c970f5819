/- The walks of coilkeep's demands and total. -/
import Derived.Test.YtkfijicmeekmiaaEqF
import Derived.Test.YtkfijicmeekmiaaHistF
namespace Go.Proofs.Ytkfijicmeekmiaa
open Go.RowKit

set_option maxRecDepth 100000 in
set_option maxHeartbeats 400000 in
theorem keepDemands_any (w : World) : Calls Try.prog 62 #[] w fun e w' => e = .returned (.bool true) ∧ w.grownBy w' none := by
  have hrd : Rd (w.alloc (.cells (salFlat demoD).toArray 79)) 3 (some ⟨w.heap.size, 0, none⟩) 2 (salFlat demoD) :=
    ⟨rfl, fun _ => ⟨w.heap.size, 0, rfl, by simp, fun j u h => by rw [Nat.zero_add, World.cell?_alloc_new]; simpa using h⟩⟩
  have hcall := rate_any (some ⟨w.heap.size, 0, none⟩) 2 2 demoD _ hrd (by omega)
  rw [demo_rate] at hcall
  have HC := Lib.hid hcall
  clear hcall hrd
  go_enter Try.func62, Try.ntmps62
  go_wp2_with fail
  refine HC.out.mono ?_
  rintro e w1 ⟨rfl, hg1⟩
  go_wp2_with fail
  go_ret
  exact ⟨rfl, grown_alloc ((grown_alloc (grown_refl w) _).trans hg1) _⟩

set_option maxHeartbeats 400000 in
theorem keepTotal_any (A : Option Addr) (n c : Nat) (l : List Int) (w : World) (hr : Rd w 1 A n (ints l)) (hn : n ≤ 1000000) (hb : ∀ x ∈ l, -1000000000 ≤ x ∧ x ≤ 1000000000) :
    Calls Try.prog 64 #[.slice A n c] w fun e w' => e = .returned (.int .i64 l.sum) ∧ w.grownBy w' none := by
  have hl : l.length = n := by have := hr.1; simpa [ints] using this
  have HL := Lib.hid (And.intro hl hb)
  clear hl hb
  go_enter Try.func64, Try.ntmps64
  go_wp2_with fail
  go_loopg [3, 8] n (fun k z i wr => ∃ j : Nat, k + j = n ∧ i = .int .i64 j ∧ z = .int .i64 (l.take j).sum ∧ w.grownBy wr none)
  case atStart => exact ⟨0, by omega, rfl, rfl, grown_refl w⟩
  case round =>
    obtain ⟨j, hj, rfl, rfl, hg⟩ := hrel
    by_cases hlt : j < n
    · obtain ⟨b, off, rfl, hb, x, hx, c0⟩ := int_cells (hr.grown hg) hlt
      have hst := sum_take hx
      obtain ⟨x0, x1⟩ := HL.out.2 x (List.mem_of_getElem? hx)
      obtain ⟨z0, z1⟩ := sum_abs (M := 1000000000) (by omega) (l := l.take j) fun x hx => HL.out.2 x (List.mem_of_mem_take hx)
      have z2 : (l.take j).length ≤ 1000000 := by rw [List.length_take]; omega
      generalize (l.take j).sum = z at *
      have z3 : -1000000000000000 ≤ z := by omega
      have z4 : z ≤ 1000000000000000 := by omega
      have HS := Lib.hid (And.intro hst hj)
      clear hst hj hx z0 z1 z2
      go_wp2_with fail
      obtain ⟨hst, hj⟩ := HS.out
      go_roundg (gk - 1)
      case measure => omega
      case rel => exact ⟨j + 1, by omega, by go_num, by rw [hst], hg⟩
    · obtain rfl : j = n := by omega
      go_wp2_with fail
      go_ret
      exact ⟨by rw [List.take_of_length_le (by have := HL.out.1; omega)]; rfl, hg⟩


end Go.Proofs.Ytkfijicmeekmiaa
