/- coilrack/api.Stay: its cells in a slice; append of one, slices.At. -/
import Derived.Test.YtcaeochiippdgaaDoorStru
import Derived.Test.YtcaeochiippdgaaDoorVerP
namespace Go.Proofs.YtcaeochiippdgaaDoor
open Go.RowKit

def syCells (t : Sy) : List Value := [.int .i64 t.sl, .string t.pr, .int .i64 t.fr, .int .i64 t.to]
def syFlat (l : List Sy) : List Value := l.flatMap syCells
theorem syCells_len (t : Sy) : (syCells t).length = 4 := rfl
theorem syFlat_len (l : List Sy) : (syFlat l).length = l.length * 4 := rows_len syCells_len l

/-- The cells of element k. -/
theorem sy_cells {w : World} {A : Option Addr} {n : Nat} {l : List Sy} (h : Rd w 4 A n (syFlat l)) {k : Nat} (hk : k < n) :
    ∃ b off, A = some ⟨b, off, none⟩ ∧ b < w.heap.size ∧ ∃ t, l[k]? = some t ∧ w.cell? ⟨b, off + k * 4, none⟩ = some (.int .i64 t.sl) ∧ w.cell? ⟨b, off + k * 4 + 1, none⟩ = some (.string t.pr) ∧ w.cell? ⟨b, off + k * 4 + 2, none⟩ = some (.int .i64 t.fr) ∧ w.cell? ⟨b, off + k * 4 + 3, none⟩ = some (.int .i64 t.to) := by
  obtain ⟨b, off, e, hb, t, ht, hc⟩ := rows_cell syCells_len (by decide) h hk
  exact ⟨b, off, e, hb, t, ht, hc 0 _ rfl, hc 1 _ rfl, hc 2 _ rfl, hc 3 _ rfl⟩

theorem Tryd.infoSy : (Tryd.prog.info? 39).map (fun i => (i.zero, i.size, i.bytes)) = some (some (.agg #[.int .i64 0, .string ByteArray.empty, .int .i64 0, .int .i64 0]), 4, 40) := by kernel_rfl
theorem sy_one (t : Sy) : ∀ u ∈ syCells t, u.oneCell' = true := by
  intro u hu
  simp only [syCells, List.mem_cons, List.not_mem_nil, or_false] at hu
  rcases hu with rfl | rfl | rfl | rfl <;> rfl
theorem sy_rd_new (w : World) (l : List Sy) (cs : Array Value) (T : TypeId) (h : cs.toList = syFlat l) : Rd (w.alloc (.cells cs T)) 4 (some ⟨w.heap.size, 0, none⟩) l.length (syFlat l) :=
  ⟨syFlat_len l, fun _ => ⟨w.heap.size, 0, rfl, by simp, fun j u hu => by rw [Nat.zero_add, World.cell?_alloc_new]; rw [← h] at hu; simpa using hu⟩⟩

/-- append(out, one). -/
theorem ap_sy {ops : Array Oper} {rest : List Oper} {o : Oper} {a : Act} {Q : Exit → Act → World → Prop} (w : World) (y : Sy) (hgd : o.guard = none) (s x : Operand)
    (ho : o.op = .call { callee := .builtin .append, args := #[s, x], argTypes := #[31, 31] }) (base : Nat) (v : Value) (l : List Sy)
    (hs : a.eval s = v) (hown : w.ownsRow base 39 4 v l.length (syFlat l)) (hx : a.eval x = .slice (some ⟨w.heap.size, 0, none⟩) 1 1) (hlen : l.length ≤ 1000000000) (hbase : base ≤ w.heap.size)
    (h : ∀ v' w', w'.ownsRow base 39 4 v' (l ++ [y]).length (syFlat (l ++ [y])) → (w.alloc (.cells #[.int .i64 y.sl, .string y.pr, .int .i64 y.fr, .int .i64 y.to] 39)).grownBy w' v.ownBlock → wpList Tryd.prog ops Q rest (a.put o.dst v') w') :
    wpList Tryd.prog ops Q (o :: rest) a (w.alloc (.cells #[.int .i64 y.sl, .string y.pr, .int .i64 y.fr, .int .i64 y.to] 39)) := by
  obtain ⟨i0, hi, hz0, hz1, hz2⟩ := info_parts Tryd.infoSy
  refine wpList_append_own _ hgd s x 31 ho base 39 i0 (.agg #[.int .i64 0, .string ByteArray.empty, .int .i64 0, .int .i64 0]) 4 40 Tryd.underlying31 hi hz0 hz1 hz2 rfl (by decide) v l.length (syFlat l) hs (hown.alloc _) ⟨w.heap.size, 0, none⟩ 1 1 (syCells y) hx rfl
    (cells_new w #[.int .i64 y.sl, .string y.pr, .int .i64 y.fr, .int .i64 y.to] _) (sy_one y) (by unfold maxLen; omega) (by omega) (by simp; omega) ?_
  intro v' w' h1 h2 _
  exact h v' w' (by simpa [syFlat] using h1) h2

/-- The same, the size of the world under another name. -/
theorem ap_sy_at {ops : Array Oper} {rest : List Oper} {o : Oper} {a : Act} {Q : Exit → Act → World → Prop} (w : World) (N : Nat) (hN : w.heap.size = N) (y : Sy) (hgd : o.guard = none) (s x : Operand)
    (ho : o.op = .call { callee := .builtin .append, args := #[s, x], argTypes := #[31, 31] }) (base : Nat) (v : Value) (l : List Sy)
    (hs : a.eval s = v) (hown : w.ownsRow base 39 4 v l.length (syFlat l)) (hx : a.eval x = .slice (some ⟨N, 0, none⟩) 1 1) (hlen : l.length ≤ 1000000000) (hbase : base ≤ w.heap.size)
    (h : ∀ v' w', w'.ownsRow base 39 4 v' (l ++ [y]).length (syFlat (l ++ [y])) → (w.alloc (.cells #[.int .i64 y.sl, .string y.pr, .int .i64 y.fr, .int .i64 y.to] 39)).grownBy w' v.ownBlock → wpList Tryd.prog ops Q rest (a.put o.dst v') w') :
    wpList Tryd.prog ops Q (o :: rest) a (w.alloc (.cells #[.int .i64 y.sl, .string y.pr, .int .i64 y.fr, .int .i64 y.to] 39)) := by
  subst hN; exact ap_sy w y hgd s x ho base v l hs hown hx hlen hbase h

end Go.Proofs.YtcaeochiippdgaaDoor
