/- The walk of slices.Repeat of one number. -/
import Derived.Test.YtidfhgpjpieajaaDoorMade
import Derived.Test.YtidfhgpjpieajaaDoorBlk
import Derived.Test.YtidfhgpjpieajaaDoorLaidM
import Derived.Laws.CopyRow
import Derived.RegionTactic
import Derived.BigRegion
namespace Go.Proofs.YtidfhgpjpieajaaDoor
open Go.RowKit

theorem mul_one (m : Nat) (hm : m ≤ 1000) (w : World) : Calls Tryd.prog 132 #[.int .u64 1, .int .u64 m] w fun e w' => e = .returned (.tuple #[.int .u64 0, .int .u64 m]) ∧ w = w' := by
  have h := Go.Proofs.Tryd.bits_Mul_any 1 m (by omega) (by omega) w
  rw [show 1 * m / 18446744073709551616 = 0 from by omega, show 1 * m % 18446744073709551616 = m from by omega] at h
  refine h.mono ?_
  rintro e w' ⟨rfl, rfl⟩
  exact ⟨rfl, rfl⟩

/-- m numbers: the first n are x, the others nothing yet. -/
def RI (x : Int) (m n : Nat) : Array Value := (List.replicate n (Value.int .i64 x) ++ List.replicate (m - n) (Value.int .i64 0)).toArray
theorem RI_zero (x : Int) (m : Nat) : madeCells #[.int .i64 0] m = RI x m 0 := by
  apply Array.ext'
  rw [toList_madeCells_one]
  simp [RI]
theorem RI_at {x : Int} {m n j : Nat} (h : j < n) : (RI x m n)[j]? = some (.int .i64 x) := by
  simp [RI, List.getElem?_append, h]

theorem copyI (w : World) (B : Nat) (x : Int) (m n k : Nat) (a : Addr) (sLen sCap dL dC : Nat) (hk : Nat.min sLen dL = k) (hnk : n + k ≤ m) (hg : Blk w B 3 (RI x m n))
    (hsrc : ∀ j, j < k → w.cell? (a.add j) = some (.int .i64 x)) (ty : TypeId) :
    (Builtin.copy_ #[22, 22] ty #[.slice (some ⟨B, n, none⟩) dL dC, .slice (some a) sLen sCap]).run Tryd.prog w = .ok (goInt k) (w.setRow B (RI x m (n + k))) := by
  have h := run_copy_row (P := Tryd.prog) w 22 22 ty 3 B n dL dC a sLen sCap (RI x m n) 3 (List.replicate k (.int .i64 x)) Tryd.underlying22 (by kernel_rfl) hg (by simp [hk])
    (fun j v hv => by
      obtain ⟨h1, h2⟩ := List.getElem?_eq_some_iff.1 hv
      rw [List.length_replicate] at h1
      rw [hsrc j h1, ← h2, List.getElem_replicate])
    (by simp [RI]; omega) (by simp; intro _; rfl)
  rw [List.length_replicate] at h
  rw [h]
  refine congrArg (fun z => Result.ok (goInt k) (w.setRow B z)) ?_
  apply Array.ext'
  simp only [RI]
  rw [List.take_append_of_le_length (by simp), List.drop_append]
  rw [← List.replicate_append_replicate (n := n) (m := k)]
  simp [show m - (n + k) = m - n - k from by omega]

theorem setRow_grown {w w' : World} {r : Option Nat} (h : w.grownBy w' r) {g : Nat} (hg : w.heap.size ≤ g) (cs : Array Value) : w.grownBy (w'.setRow g cs) r := by
  refine ⟨h.os, h.tape, h.output, ?_, fun k hk hne => ?_⟩
  · have := h.size; simpa [World.setRow] using this
  · rw [show (w'.setRow g cs).heap[k]? = w'.heap[k]? from by simp [World.setRow, Array.getElem?_modify]; omega]
    exact h.block k hk hne

set_option maxRecDepth 100000 in
set_option maxHeartbeats 1000000 in
theorem repeatI_any (b off c m : Nat) (x : Int) (w : World) (hx : w.cell? ⟨b, off, none⟩ = some (.int .i64 x)) (h1 : 1 ≤ m) (hm : m ≤ 1000) :
    Calls Tryd.prog 114 #[.slice (some ⟨b, off, none⟩) 1 c, .int .i64 m] w
      fun e w' => e = .returned (.slice (some ⟨w.heap.size, 0, none⟩) m m) ∧ Blk w' w.heap.size 3 (RI x m m) ∧ w.grownBy w' none := by
  have hmk := fun w => make_ints m (by omega) w
  rw [RI_zero x m] at hmk
  have hxA := (grown_alloc (grown_refl w) (.cells (RI x m 0) 3)).cell hx (by simp)
  have hB0 := Blk.new w 3 (RI x m 0)
  have hg0 := grown_alloc (grown_refl w) (.cells (RI x m 0) 3)
  have hcp := fun ty => copyI (w.alloc (.cells (RI x m 0) 3)) w.heap.size x m 0 1 ⟨b, off, none⟩ 1 c m m (by show min 1 m = 1; omega) (by omega) hB0 (by
    intro j hj
    obtain rfl : j = 0 := by omega
    rw [addp, Nat.add_zero]; exact hxA) ty
  have hB1 : Blk ((w.alloc (.cells (RI x m 0) 3)).setRow w.heap.size (RI x m (0 + 1))) w.heap.size 3 (RI x m 1) := setRow_heap _ _ _ _ _ _ hB0
  have hg1 : w.grownBy ((w.alloc (.cells (RI x m 0) 3)).setRow w.heap.size (RI x m (0 + 1))) none := setRow_grown hg0 (Nat.le_refl _) _
  have HB := Lib.hid (And.intro hB1 hg1)
  clear hB1 hg1 hB0 hg0 hxA
  go_enter Tryd.func114, Tryd.ntmps114
  go_wp2_with fail
  refine (mul_one m hm _).mono ?_
  rintro e w1 ⟨rfl, rfl⟩
  go_wp2_with fail
  obtain ⟨hB1, hg1⟩ := HB.out
  generalize (w.alloc (.cells (RI x m 0) 3)).setRow w.heap.size (RI x m (0 + 1)) = w1 at *
  clear hcp hmk HB
  go_loopg [8] m (fun k nv wr => ∃ s : Nat, nv = .int .i64 s ∧ 1 ≤ s ∧ s ≤ m ∧ m - s < k ∧ Blk wr w.heap.size 3 (RI x m s) ∧ w.grownBy wr none)
  case atStart => exact ⟨1, rfl, by omega, by omega, by omega, hB1, hg1⟩
  case round =>
    clear hB1 hg1
    obtain ⟨s, rfl, hs1, hs2, hk, hB, hg⟩ := hrel
    by_cases hlt : s < m
    · have hBd : Blk wr.drew w.heap.size 3 (RI x m s) := hB
      have hgd := grown_drew hg
      obtain ⟨q, hq⟩ : ∃ q, Nat.min s (m - s) = q := ⟨_, rfl⟩
      have hq1 : 1 ≤ q ∧ s + q ≤ m ∧ q ≤ s := by have : min s (m - s) = q := hq; omega
      have hcp := fun ty => copyI wr.drew w.heap.size x m s q ⟨w.heap.size, 0, none⟩ s m (m - s) (m - s) hq hq1.2.1 hBd (by
        intro j hj
        rw [addp, Nat.zero_add, hBd.cell j]
        exact RI_at (by omega)) ty
      have HQ := Lib.hid (And.intro hq (And.intro hBd hgd))
      clear hq hBd hgd hB hg
      go_wp2_with fail
      go_region
      go_wp2_with fail
      obtain ⟨hq, hBd, hgd⟩ := HQ.out
      have hBn : Blk (wr.drew.setRow w.heap.size (RI x m (s + q))) w.heap.size 3 (RI x m (s + q)) := setRow_heap _ _ _ _ _ _ hBd
      have hgn : w.grownBy (wr.drew.setRow w.heap.size (RI x m (s + q))) none := setRow_grown hgd (Nat.le_refl _) _
      go_roundg (gk - 1)
      case measure => omega
      case rel => exact ⟨s + q, by go_num, by omega, by omega, by omega, hBn, hgn⟩
    · obtain rfl : s = m := by omega
      go_wp2_with fail
      go_ret
      exact ⟨rfl, hB, hg⟩

end Go.Proofs.YtidfhgpjpieajaaDoor
