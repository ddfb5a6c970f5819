/- coilrack/api.Piece: its cells in a slice; append of one. -/
import Derived.Test.YtidfhgpjpieajaaDoorStru
namespace Go.Proofs.YtidfhgpjpieajaaDoor
open Go.RowKit

structure Pc where
  lot : ByteArray
  mn : Int
deriving DecidableEq
instance : Inhabited Pc := ⟨⟨ByteArray.empty, 0⟩⟩
def pcCells (t : Pc) : List Value := [.string t.lot, .int .i64 t.mn]
def pcFlat (l : List Pc) : List Value := l.flatMap pcCells
theorem pcCells_len (t : Pc) : (pcCells t).length = 2 := rfl
theorem pcFlat_len (l : List Pc) : (pcFlat l).length = l.length * 2 := rows_len pcCells_len l

/-- The cells of element k. -/
theorem pc_cells {w : World} {A : Option Addr} {n : Nat} {l : List Pc} (h : Rd w 2 A n (pcFlat l)) {k : Nat} (hk : k < n) :
    ∃ b off, A = some ⟨b, off, none⟩ ∧ b < w.heap.size ∧ ∃ t, l[k]? = some t ∧ w.cell? ⟨b, off + k * 2, none⟩ = some (.string t.lot) ∧ w.cell? ⟨b, off + k * 2 + 1, none⟩ = some (.int .i64 t.mn) := by
  obtain ⟨b, off, e, hb, t, ht, hc⟩ := rows_cell pcCells_len (by decide) h hk
  exact ⟨b, off, e, hb, t, ht, hc 0 _ rfl, hc 1 _ rfl⟩

theorem Tryd.infoPc : (Tryd.prog.info? 54).map (fun i => (i.zero, i.size, i.bytes)) = some (some (.agg #[.string ByteArray.empty, .int .i64 0]), 2, 24) := by kernel_rfl
theorem pc_one (t : Pc) : ∀ u ∈ pcCells t, u.oneCell' = true := by
  intro u hu
  simp only [pcCells, List.mem_cons, List.not_mem_nil, or_false] at hu
  rcases hu with rfl | rfl <;> rfl
theorem pc_rd_new (w : World) (l : List Pc) (cs : Array Value) (T : TypeId) (h : cs.toList = pcFlat l) : Rd (w.alloc (.cells cs T)) 2 (some ⟨w.heap.size, 0, none⟩) l.length (pcFlat l) :=
  ⟨pcFlat_len l, fun _ => ⟨w.heap.size, 0, rfl, by simp, fun j u hu => by rw [Nat.zero_add, World.cell?_alloc_new]; rw [← h] at hu; simpa using hu⟩⟩

/-- append(out, one). -/
theorem ap_pc {ops : Array Oper} {rest : List Oper} {o : Oper} {a : Act} {Q : Exit → Act → World → Prop} (w : World) (y : Pc) (hgd : o.guard = none) (s x : Operand)
    (ho : o.op = .call { callee := .builtin .append, args := #[s, x], argTypes := #[36, 36] }) (base : Nat) (v : Value) (l : List Pc)
    (hs : a.eval s = v) (hown : w.ownsRow base 54 2 v l.length (pcFlat l)) (hx : a.eval x = .slice (some ⟨w.heap.size, 0, none⟩) 1 1) (hlen : l.length ≤ 1000000000) (hbase : base ≤ w.heap.size)
    (h : ∀ v' w', w'.ownsRow base 54 2 v' (l ++ [y]).length (pcFlat (l ++ [y])) → (w.alloc (.cells #[.string y.lot, .int .i64 y.mn] 54)).grownBy w' v.ownBlock → wpList Tryd.prog ops Q rest (a.put o.dst v') w') :
    wpList Tryd.prog ops Q (o :: rest) a (w.alloc (.cells #[.string y.lot, .int .i64 y.mn] 54)) := by
  obtain ⟨i0, hi, hz0, hz1, hz2⟩ := info_parts Tryd.infoPc
  refine wpList_append_own _ hgd s x 36 ho base 54 i0 (.agg #[.string ByteArray.empty, .int .i64 0]) 2 24 Tryd.underlying36 hi hz0 hz1 hz2 rfl (by decide) v l.length (pcFlat l) hs (hown.alloc _) ⟨w.heap.size, 0, none⟩ 1 1 (pcCells y) hx rfl
    (cells_new w #[.string y.lot, .int .i64 y.mn] _) (pc_one y) (by unfold maxLen; omega) (by omega) (by simp; omega) ?_
  intro v' w' h1 h2 _
  exact h v' w' (by simpa [pcFlat] using h1) h2

end Go.Proofs.YtidfhgpjpieajaaDoor
