/- The walk of slices.Repeat of one fraction, seven times. -/
import Derived.Test.YtkfijicmeekmiaaGcd
import Derived.Laws.CopyRow
import Derived.Deep.OwnRows
import Derived.RegionTactic
import Derived.BigRegion
namespace Go.Proofs.Ytkfijicmeekmiaa
open Go.RowKit

theorem mul64_17 (w : World) : Calls Try.prog 119 #[.int .u64 1, .int .u64 7] w fun e w' => e = .returned (.tuple #[.int .u64 0, .int .u64 7]) ∧ w = w' := by
  go_enter Try.func119, Try.ntmps119
  go_wp2_with fail
  refine ⟨rfl, _, results_tmp2 rfl _ _ _, ?_, rfl⟩
  kernel_rfl

theorem mul_17 (w : World) : Calls Try.prog 114 #[.int .u64 1, .int .u64 7] w fun e w' => e = .returned (.tuple #[.int .u64 0, .int .u64 7]) ∧ w = w' := by
  go_enter Try.func114, Try.ntmps114
  go_wp2_with fail
  refine (mul64_17 _).mono ?_
  rintro e w1 ⟨rfl, rfl⟩
  go_wp2_with fail
  go_ret2
  exact ⟨rfl, rfl⟩

/-- The first n of seven fractions are 1, the others nothing yet. -/
def R7 (n : Nat) : Array Value := (List.replicate (2 * n) (Value.int .i64 1) ++ List.replicate (14 - 2 * n) (Value.int .i64 0)).toArray

theorem Try.infoFrc : (Try.prog.info? 31).map (fun i => (i.zero, i.size, i.bytes)) = some (some (.agg #[.int .i64 0, .int .i64 0]), 2, 16) := by kernel_rfl

theorem make7 (w : World) : (Instr.makeSlice 36 (.int .i64 7) (.int .i64 7)).run Try.prog w = .ok (.slice (some ⟨w.heap.size, 0, none⟩) 7 7) (w.alloc (.cells (R7 0) 31)) := by
  obtain ⟨i, hi, hz, hs, hb⟩ := info_parts Try.infoFrc
  have h := run_make (P := Try.prog) w 36 31 i _ Try.underlying36 hi hz .i64 .i64 7 7 (by omega) (by omega) (by rw [hb]; omega) (by omega)
  have hc : madeCells (Value.agg #[.int .i64 0, .int .i64 0]).cells (7 * 2) = R7 0 := by kernel_rfl
  rw [h, hs]
  rw [show (7 : Int).toNat = 7 from rfl, hc]

/-- copy of structs of two cells onto a row of the call's own. -/
theorem run_copy_row2 {P : Program} (w : World) (dT sT ty elem : TypeId) (g o dLen dCap : Nat) (a : Addr) (sLen sCap n : Nat) (cur : Array Value) (t : TypeId) (cs : List Value)
    (hu : P.underlying dT = some (.slice elem)) (hs : (P.info? elem).map (·.size) = some 2)
    (hg : w.heap[g]? = some (.cells cur t (0, 0))) (hm : Nat.min sLen dLen = n) (hn : cs.length = n * 2)
    (hsrc : ∀ j v, cs[j]? = some v → w.cell? (a.add j) = some v) (hfit : o + cs.length ≤ cur.size) (h1 : ∀ v ∈ cs, v.oneCell' = true) :
    (Builtin.copy_ #[dT, sT] ty #[.slice (some ⟨g, o, none⟩) dLen dCap, .slice (some a) sLen sCap]).run P w =
      .ok (goInt n) (w.setRow g (cur.toList.take o ++ cs ++ cur.toList.drop (o + cs.length)).toArray) := by
  have hl := run_loadCells_list (P := P) w a cs hsrc
  have hst := run_storeCells_at P g o t cs 0 cur w hg (by simpa using hfit) h1
  cases hq : P.info? elem with
  | none => simp [hq] at hs
  | some i =>
    have hi : i.size = 2 := by simpa [hq] using hs
    rw [hn] at hl
    simp [Builtin.copy_, run_underlying hu, Builtin.lenOf, Builtin.firstCells, sizeOf, typeInfo, hq, hi, hm, hl, hst]

theorem copy7 (w : World) (B : Nat) (a : Addr) (sCap n m dL : Nat) (hm : Nat.min m dL = n) (o : Nat) (s : Nat) (hg : w.heap[B]? = some (.cells (R7 s) 31 (0, 0)))
    (hsrc : ∀ j, j < n * 2 → w.cell? (a.add j) = some (.int .i64 1)) (ho : o = s * 2) (hs : (s = 0 ∧ n = 1) ∨ (s = 1 ∧ n = 1) ∨ (s = 2 ∧ n = 2) ∨ (s = 4 ∧ n = 3)) (dC : Nat) (ty : TypeId) :
    (Builtin.copy_ #[36, 36] ty #[.slice (some ⟨B, o, none⟩) dL dC, .slice (some a) m sCap]).run Try.prog w = .ok (goInt n) (w.setRow B (R7 (s + n))) := by
  rw [run_copy_row2 (P := Try.prog) w _ _ ty 31 B o dL dC a m sCap n (R7 s) 31 (List.replicate (n * 2) (.int .i64 1)) Try.underlying36 (by kernel_rfl) hg hm (by simp)
    (fun j v hv => by
      obtain ⟨h1, h2⟩ := List.getElem?_eq_some_iff.1 hv
      rw [List.length_replicate] at h1
      rw [hsrc j h1, ← h2, List.getElem_replicate])
    (by simp [R7]; omega) (by simp; intro _; rfl)]
  congr 2
  rcases hs with ⟨rfl, rfl⟩ | ⟨rfl, rfl⟩ | ⟨rfl, rfl⟩ | ⟨rfl, rfl⟩ <;> subst ho <;> kernel_rfl

theorem setRow_grown {w w' : World} {r : Option Nat} (h : w.grownBy w' r) {g : Nat} (hg : w.heap.size ≤ g) (cs : Array Value) : w.grownBy (w'.setRow g cs) r := by
  refine ⟨h.os, h.tape, h.output, ?_, fun k hk hne => ?_⟩
  · have := h.size; simpa [World.setRow] using this
  · rw [show (w'.setRow g cs).heap[k]? = w'.heap[k]? from by simp [World.setRow, Array.getElem?_modify]; omega]
    exact h.block k hk hne

set_option maxRecDepth 100000 in
set_option maxHeartbeats 1000000 in
theorem repeat7_any (g : Nat) (w : World) (hb : Blk w g 31 #[.int .i64 1, .int .i64 1]) :
    Calls Try.prog 74 #[.slice (some ⟨g, 0, none⟩) 1 1, .int .i64 7] w
      fun e w' => e = .returned (.slice (some ⟨w.heap.size, 0, none⟩) 7 7) ∧ Blk w' w.heap.size 31 (R7 7) ∧ w.grownBy w' none := by
  have hmk := make7
  go_enter Try.func74, Try.ntmps74
  go_wp2_with fail
  refine (mul_17 _).mono ?_
  rintro e w1 ⟨rfl, rfl⟩
  have hB0 := Blk.new w 31 (R7 0)
  have hbA := hb.alloc (.cells (R7 0) 31)
  have hg0 := grown_alloc (grown_refl w) (.cells (R7 0) 31)
  have hcp := fun ty => copy7 (w.alloc (.cells (R7 0) 31)) w.heap.size ⟨g, 0, none⟩ 1 1 1 7 rfl 0 0 hB0 (by
    intro j hj
    rw [addp, Nat.zero_add, hbA.cell j]
    rcases (show j = 0 ∨ j = 1 by omega) with rfl | rfl <;> rfl) rfl (by simp) 7 ty
  go_wp2_with fail
  have hB1 : Blk ((w.alloc (.cells (R7 0) 31)).setRow w.heap.size (R7 1)) w.heap.size 31 (R7 1) := setRow_heap _ _ _ _ _ _ hB0
  have hg1 : w.grownBy ((w.alloc (.cells (R7 0) 31)).setRow w.heap.size (R7 1)) none := setRow_grown hg0 (Nat.le_refl _) _
  clear hcp hmk hbA hb hB0 hg0
  generalize (w.alloc (.cells (R7 0) 31)).setRow w.heap.size (R7 1) = w1 at *
  go_loopg [8] 8 (fun k nv wr => ∃ s : Nat, nv = .int .i64 s ∧ (s = 1 ∨ s = 2 ∨ s = 4 ∨ s = 7) ∧ 7 - s < k ∧ Blk wr w.heap.size 31 (R7 s) ∧ w.grownBy wr none)
  case atStart => exact ⟨1, rfl, .inl rfl, by omega, hB1, hg1⟩
  case round =>
    obtain ⟨s, rfl, hs, hk, hB, hg⟩ := hrel
    clear hB1 hg1
    have hBd : Blk wr.drew w.heap.size 31 (R7 s) := hB
    have hgd := grown_drew hg
    rcases hs with rfl | rfl | rfl | rfl
    · have hcp := fun ty => copy7 wr.drew w.heap.size ⟨w.heap.size, 0, none⟩ 7 1 1 6 rfl 2 1 hBd (by
        intro j hj
        rw [addp, Nat.zero_add, hBd.cell j]
        rcases (show j = 0 ∨ j = 1 by omega) with rfl | rfl <;> rfl) rfl (by simp) 6 ty
      go_wp2_with fail
      go_region
      go_wp2_with fail
      have hBn : Blk (wr.drew.setRow w.heap.size (R7 2)) w.heap.size 31 (R7 2) := setRow_heap _ _ _ _ _ _ hBd
      have hgn : w.grownBy (wr.drew.setRow w.heap.size (R7 2)) none := setRow_grown hgd (Nat.le_refl _) _
      go_roundg (gk - 1)
      case measure => omega
      case rel => exact ⟨2, rfl, by omega, by omega, hBn, hgn⟩
    · have hcp := fun ty => copy7 wr.drew w.heap.size ⟨w.heap.size, 0, none⟩ 7 2 2 5 rfl 4 2 hBd (by
        intro j hj
        rw [addp, Nat.zero_add, hBd.cell j]
        rcases (show j = 0 ∨ j = 1 ∨ j = 2 ∨ j = 3 by omega) with rfl | rfl | rfl | rfl <;> rfl) rfl (by simp) 5 ty
      go_wp2_with fail
      go_region
      go_wp2_with fail
      have hBn : Blk (wr.drew.setRow w.heap.size (R7 4)) w.heap.size 31 (R7 4) := setRow_heap _ _ _ _ _ _ hBd
      have hgn : w.grownBy (wr.drew.setRow w.heap.size (R7 4)) none := setRow_grown hgd (Nat.le_refl _) _
      go_roundg (gk - 1)
      case measure => omega
      case rel => exact ⟨4, rfl, by omega, by omega, hBn, hgn⟩
    · have hcp := fun ty => copy7 wr.drew w.heap.size ⟨w.heap.size, 0, none⟩ 7 3 4 3 rfl 8 4 hBd (by
        intro j hj
        rw [addp, Nat.zero_add, hBd.cell j]
        rcases (show j = 0 ∨ j = 1 ∨ j = 2 ∨ j = 3 ∨ j = 4 ∨ j = 5 by omega) with rfl | rfl | rfl | rfl | rfl | rfl <;> rfl) rfl (by simp) 3 ty
      go_wp2_with fail
      go_region
      go_wp2_with fail
      have hBn : Blk (wr.drew.setRow w.heap.size (R7 7)) w.heap.size 31 (R7 7) := setRow_heap _ _ _ _ _ _ hBd
      have hgn : w.grownBy (wr.drew.setRow w.heap.size (R7 7)) none := setRow_grown hgd (Nat.le_refl _) _
      go_roundg (gk - 1)
      case measure => omega
      case rel => exact ⟨7, rfl, by omega, by omega, hBn, hgn⟩
    · go_wp2_with fail
      go_ret
      exact ⟨rfl, hB, hg⟩

end Go.Proofs.Ytkfijicmeekmiaa
