/- Rows of numbers that the call makes and fills from the left. -/
import Derived.Test.YtcipidfbclohoaaDoorTerms
import Derived.Deep.OwnRows
namespace Go.Proofs.YtcipidfbclohoaaDoor
open Go.RowKit

theorem made_ints (w : World) (n : Nat) (hn : n ≤ 1000000) : (w.alloc (.cells (madeCells #[.int .i64 0] n) 3)).ownsRow w.heap.size 3 1 (.slice (some ⟨w.heap.size, 0, none⟩) n n) n (ints (List.replicate n 0)) := by
  have h := World.ownsRow_lit (base := w.heap.size) (size := 1) (e := 3) w (madeCells #[.int .i64 0] n) n (Nat.le_refl _) (by unfold maxLen; omega) (by simp [size_madeCells])
  rw [toList_madeCells_one] at h
  simpa [ints] using h

theorem make_ints (n : Nat) (hn : n ≤ 1000000) (w : World) : (Instr.makeSlice 22 (.int .i64 n) (.int .i64 n)).run Tryd.prog w = .ok (.slice (some ⟨w.heap.size, 0, none⟩) n n) (w.alloc (.cells (madeCells #[.int .i64 0] n) 3)) :=
  run_make_row' (P := Tryd.prog) 22 3 (.int .i64 0) 8 Tryd.underlying22 Tryd.infoInt rfl .i64 .i64 n (by omega) (by omega) w

/-- The first j numbers of X, then zeros: n in all. -/
def fill (X : List Int) (n j : Nat) : List Int := X.take j ++ List.replicate (n - j) 0
theorem fill_zero (X : List Int) (n : Nat) : fill X n 0 = List.replicate n 0 := by simp [fill]
theorem fill_full {X : List Int} {n : Nat} (h : X.length = n) : fill X n n = X := by
  unfold fill; rw [Nat.sub_self, List.take_of_length_le (by omega)]; simp
theorem fill_len {X : List Int} {n j : Nat} (h : X.length = n) (hj : j ≤ n) : (fill X n j).length = n := by
  unfold fill; simp; omega
theorem fill_set {X : List Int} {n j : Nat} {x : Int} (h : X.length = n) (hj : j < n) (hx : X[j]? = some x) : (fill X n j).set j x = fill X n (j + 1) := by
  have hl : (X.take j).length = j := by rw [List.length_take]; omega
  unfold fill
  rw [take_at hx, List.append_assoc, show n - j = (n - (j + 1)) + 1 from by omega, List.replicate_succ]
  generalize X.take j = Y at *
  generalize List.replicate (n - (j + 1)) (0 : Int) = Z
  subst hl
  simp

/-- append(out, y), where the world's size is known by another name. -/
theorem ap_intN {ops : Array Oper} {rest : List Oper} {o : Oper} {a : Act} {Q : Exit → Act → World → Prop} (w : World) (y : Int) (hgd : o.guard = none) (s x : Operand)
    (ho : o.op = .call { callee := .builtin .append, args := #[s, x], argTypes := #[22, 22] }) (base : Nat) (v : Value) (l : List Int)
    (hs : a.eval s = v) (hown : w.ownsRow base 3 1 v l.length (ints l)) (N : Nat) (hN : w.heap.size = N) (hx : a.eval x = .slice (some ⟨N, 0, none⟩) 1 1) (hlen : l.length ≤ 1000000000) (hbase : base ≤ w.heap.size)
    (h : ∀ v' w', w'.ownsRow base 3 1 v' (l ++ [y]).length (ints (l ++ [y])) → (w.alloc (.cells #[.int .i64 y] 3)).grownBy w' v.ownBlock → wpList Tryd.prog ops Q rest (a.put o.dst v') w') :
    wpList Tryd.prog ops Q (o :: rest) a (w.alloc (.cells #[.int .i64 y] 3)) := by
  subst hN
  exact ap_int w y hgd s x ho base v l hs hown hx hlen hbase h

end Go.Proofs.YtcipidfbclohoaaDoor
