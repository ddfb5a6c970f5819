/- Rows of numbers that the call makes and fills from the left. -/
import Derived.Test.YtkfijicmeekmiaaTerms
import Derived.Deep.OwnRows
namespace Go.Proofs.Ytkfijicmeekmiaa
open Go.RowKit

theorem made_ints (w : World) (n : Nat) (hn : n ≤ 1000000) : (w.alloc (.cells (madeCells #[.int .i64 0] n) 3)).ownsRow w.heap.size 3 1 (.slice (some ⟨w.heap.size, 0, none⟩) n n) n (ints (List.replicate n 0)) := by
  have h := World.ownsRow_lit (base := w.heap.size) (size := 1) (e := 3) w (madeCells #[.int .i64 0] n) n (Nat.le_refl _) (by unfold maxLen; omega) (by simp [size_madeCells])
  rw [toList_madeCells_one] at h
  simpa [ints] using h

theorem make_ints (n : Nat) (hn : n ≤ 1000000) (w : World) : (Instr.makeSlice 22 (.int .i64 n) (.int .i64 n)).run Try.prog w = .ok (.slice (some ⟨w.heap.size, 0, none⟩) n n) (w.alloc (.cells (madeCells #[.int .i64 0] n) 3)) :=
  run_make_row' (P := Try.prog) 22 3 (.int .i64 0) 8 Try.underlying22 Try.infoInt rfl .i64 .i64 n (by omega) (by omega) w

/-- The first j numbers of X, then zeros: n in all. -/
def fill (X : List Int) (n j : Nat) : List Int := X.take j ++ List.replicate (n - j) 0
theorem fill_zero (X : List Int) (n : Nat) : fill X n 0 = List.replicate n 0 := by simp [fill]
theorem fill_full {X : List Int} {n : Nat} (h : X.length = n) : fill X n n = X := by
  unfold fill; rw [Nat.sub_self, List.take_of_length_le (by omega)]; simp
theorem fill_len {X : List Int} {n j : Nat} (h : X.length = n) (hj : j ≤ n) : (fill X n j).length = n := by
  unfold fill; simp; omega
theorem fill_set {X : List Int} {n j : Nat} {x : Int} (h : X.length = n) (hj : j < n) (hx : X[j]? = some x) : (fill X n j).set j x = fill X n (j + 1) := by
  have hl : (X.take j).length = j := by rw [List.length_take]; omega
  unfold fill
  rw [take_at hx, List.append_assoc, show n - j = (n - (j + 1)) + 1 from by omega, List.replicate_succ]
  generalize X.take j = Y at *
  generalize List.replicate (n - (j + 1)) (0 : Int) = Z
  subst hl
  simp

end Go.Proofs.Ytkfijicmeekmiaa
