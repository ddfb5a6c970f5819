/- Appends of one number or one tube onto a slice of the call's own. -/
import Derived.Test.YtoaeflegcfecaaaStream
import Derived.Test.YtoaeflegcfecaaaVendA
namespace Go.Proofs.Ytoaeflegcfecaaa
open Go.RowKit

theorem Try.infoTube : (Try.prog.info? 70).map (fun i => (i.zero, i.size, i.bytes)) = some (some (.agg #[.int .i64 0, .int .i64 0, .int .i64 0]), 3, 24) := by kernel_rfl
theorem tub_new (w : World) (t : Tub) (T : TypeId) : ∀ j u, (tubCells t)[j]? = some u → (w.alloc (.cells #[.int .i64 t.v, .int .i64 t.c, .int .i64 t.m] T)).cell? ((⟨w.heap.size, 0, none⟩ : Addr).add j) = some u :=
  cells_new w #[.int .i64 t.v, .int .i64 t.c, .int .i64 t.m] T
theorem tub_one (t : Tub) : ∀ u ∈ tubCells t, u.oneCell' = true := by
  intro u hu
  simp only [tubCells, List.mem_cons, List.not_mem_nil, or_false] at hu
  rcases hu with rfl | rfl | rfl <;> rfl

/-- append(out, Tube{..}). -/
theorem ap_tub {ops : Array Oper} {rest : List Oper} {o : Oper} {a : Act} {Q : Exit → Act → World → Prop} (w : World) (y : Tub) (hgd : o.guard = none) (s x : Operand)
    (ho : o.op = .call { callee := .builtin .append, args := #[s, x], argTypes := #[26, 26] }) (base : Nat) (v : Value) (l : List Tub)
    (hs : a.eval s = v) (hown : w.ownsRow base 70 3 v l.length (tubFlat l)) (hx : a.eval x = .slice (some ⟨w.heap.size, 0, none⟩) 1 1) (hlen : l.length ≤ 1000000000) (hbase : base ≤ w.heap.size)
    (h : ∀ v' w', w'.ownsRow base 70 3 v' (l ++ [y]).length (tubFlat (l ++ [y])) → (w.alloc (.cells #[.int .i64 y.v, .int .i64 y.c, .int .i64 y.m] 70)).grownBy w' v.ownBlock → wpList Try.prog ops Q rest (a.put o.dst v') w') :
    wpList Try.prog ops Q (o :: rest) a (w.alloc (.cells #[.int .i64 y.v, .int .i64 y.c, .int .i64 y.m] 70)) := by
  obtain ⟨i0, hi, hz0, hz1, hz2⟩ := info_parts Try.infoTube
  refine wpList_append_own _ hgd s x 26 ho base 70 i0 (.agg #[.int .i64 0, .int .i64 0, .int .i64 0]) 3 24 Try.underlying26 hi hz0 hz1 hz2 rfl (by decide) v l.length (tubFlat l) hs (hown.alloc _) ⟨w.heap.size, 0, none⟩ 1 1 (tubCells y) hx rfl
    (tub_new w y _) (tub_one y) (by unfold maxLen; omega) (by omega) (by simp; omega) ?_
  intro v' w' h1 h2 _
  exact h v' w' (by simpa [tubFlat] using h1) h2

end Go.Proofs.Ytoaeflegcfecaaa
