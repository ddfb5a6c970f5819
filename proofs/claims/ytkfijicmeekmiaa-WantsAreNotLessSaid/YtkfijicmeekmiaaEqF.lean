/- The walks of slices.Equal over fractions; of Week's error; of coillaw's demands. -/
import Derived.Test.YtkfijicmeekmiaaWeekR
namespace Go.Proofs.Ytkfijicmeekmiaa
open Go.RowKit

theorem frc_cells {w : World} {A : Option Addr} {n : Nat} {X : List Int} (h : Rd w 2 A n (ints X)) {k : Nat} (hk : k < n) :
    ∃ b off, A = some ⟨b, off, none⟩ ∧ w.cell? ⟨b, off + k * 2, none⟩ = some (.int .i64 (X.getD (2 * k) 0)) ∧ w.cell? ⟨b, off + k * 2 + 1, none⟩ = some (.int .i64 (X.getD (2 * k + 1) 0)) := by
  have hl : X.length = n * 2 := by have := h.1; simpa [ints] using this
  obtain ⟨b, off, e, hb, hc⟩ := h.2 (by omega)
  refine ⟨b, off, e, ?_, ?_⟩
  · exact hc (k * 2) _ (by simp [ints, List.getD, show k * 2 = 2 * k from by omega, show 2 * k < X.length from by omega])
  · rw [Nat.add_assoc]
    exact hc (k * 2 + 1) _ (by simp [ints, List.getD, show k * 2 = 2 * k from by omega, show 2 * k + 1 < X.length from by omega])

set_option maxRecDepth 100000 in
set_option maxHeartbeats 1000000 in
theorem equalF_same (A B : Option Addr) (n c d : Nat) (X : List Int) (w : World) (hr : Rd w 2 A n (ints X)) (hr2 : Rd w 2 B n (ints X)) (hn : n ≤ 1000) :
    Calls Try.prog 24 #[.slice A n c, .slice B n d] w fun e w' => e = .returned (.bool true) ∧ w.grownBy w' none := by
  go_enter Try.func24, Try.ntmps24
  go_wp2_with fail
  go_loopg [13] n (fun k i wr => ∃ j : Nat, k + j = n ∧ i = .int .i64 j ∧ Dr w wr)
  case atStart => exact ⟨0, by omega, rfl, Dr.refl w⟩
  case round =>
    obtain ⟨j, hj, rfl, hg⟩ := hrel
    by_cases hlt : j < n
    · obtain ⟨b, off, rfl, c0, c1⟩ := frc_cells (hr.grown hg.grown) hlt
      obtain ⟨b', off', rfl, d0, d1⟩ := frc_cells (hr2.grown hg.grown) hlt
      generalize X.getD (2 * j) 0 = x at *
      generalize X.getD (2 * j + 1) 0 = y at *
      have hlt' : (j : Int) < (n : Int) := by omega
      have HJ := Lib.hid hj
      clear hj
      go_wp2_with fail
      go_quiet (fail)
      go_wp2_with fail
      have hj := HJ.out
      go_roundg (gk - 1)
      case measure => omega
      case rel => exact ⟨j + 1, by omega, by go_num, hg.more _⟩
    · obtain rfl : j = n := by omega
      go_wp2_with fail
      go_ret
      exact ⟨rfl, hg.grown⟩

set_option maxRecDepth 100000 in
set_option maxHeartbeats 400000 in
theorem week_bad (A : Option Addr) (n c : Nat) (l : List Sal) (w : World) (hr : Rd w 3 A n (salFlat l)) (hn : n ≤ 400) (hf : dayFault l ≠ 0) :
    Calls Try.prog 18 #[.slice A n c] w fun e w' => e = .returned (.tuple #[.slice none 0 0, .int .i64 (dayFault l)]) ∧ w.grownBy w' none := by
  have hck := checkDays_any A n c l w hr hn
  have hne : (dayFault l != 0) = true := by rw [bne_iff_ne]; exact hf
  generalize dayFault l = f at *
  have HC := Lib.hid hck
  clear hck hf
  go_enter Try.func18, Try.ntmps18
  go_wp2_with fail
  refine HC.out.mono ?_
  rintro e w1 ⟨rfl, hg1⟩
  go_wp2_with fail
  go_ret2
  exact ⟨rfl, hg1⟩

def demoD : List Sal := [⟨1, 3, false⟩, ⟨2, 4, false⟩]
theorem demo_rate : rateV lastB demoD = .tuple #[.agg #[.int .i64 7, .int .i64 2], .int .i64 0] := by
  have h0 : dayFault demoD = 0 := by decide
  have h1 : cntP lastB demoD = 2 := by decide
  have h2 : sumP lastB demoD = 7 := by decide
  unfold rateV meanN meanD lowN lowD frac
  rw [h0, h1, h2]
  rfl

set_option maxRecDepth 100000 in
set_option maxHeartbeats 400000 in
theorem lawDemands_any (w : World) : Calls Try.prog 19 #[] w fun e w' => e = .returned (.bool true) ∧ w.grownBy w' none := by
  have hrd : Rd (w.alloc (.cells (salFlat demoD).toArray 79)) 3 (some ⟨w.heap.size, 0, none⟩) 2 (salFlat demoD) :=
    ⟨rfl, fun _ => ⟨w.heap.size, 0, rfl, by simp, fun j u h => by rw [Nat.zero_add, World.cell?_alloc_new]; simpa using h⟩⟩
  have hcall := rate_any (some ⟨w.heap.size, 0, none⟩) 2 2 demoD _ hrd (by omega)
  rw [demo_rate] at hcall
  have HC := Lib.hid hcall
  clear hcall hrd
  go_enter Try.func19, Try.ntmps19
  go_wp2_with fail
  refine HC.out.mono ?_
  rintro e w1 ⟨rfl, hg1⟩
  go_wp2_with fail
  go_ret
  exact ⟨rfl, grown_alloc ((grown_alloc (grown_refl w) _).trans hg1) _⟩

end Go.Proofs.Ytkfijicmeekmiaa
