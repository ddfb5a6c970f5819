/- coilrack/api.Stop: its cells in a slice; append of one. -/
import Derived.Test.YtcipidfbclohoaaDoorStru
namespace Go.Proofs.YtcipidfbclohoaaDoor
open Go.RowKit

structure St where
  k : ByteArray
  x : Int
  y : Int
  f : Int
  t : Int
  l : Int
deriving DecidableEq
instance : Inhabited St := ⟨⟨ByteArray.empty, 0, 0, 0, 0, 0⟩⟩
def stCells (t : St) : List Value := [.string t.k, .int .i64 t.x, .int .i64 t.y, .int .i64 t.f, .int .i64 t.t, .int .i64 t.l]
def stFlat (l : List St) : List Value := l.flatMap stCells
theorem stCells_len (t : St) : (stCells t).length = 6 := rfl
theorem stFlat_len (l : List St) : (stFlat l).length = l.length * 6 := rows_len stCells_len l

/-- The cells of element k. -/
theorem st_cells {w : World} {A : Option Addr} {n : Nat} {l : List St} (h : Rd w 6 A n (stFlat l)) {k : Nat} (hk : k < n) :
    ∃ b off, A = some ⟨b, off, none⟩ ∧ b < w.heap.size ∧ ∃ t, l[k]? = some t ∧ w.cell? ⟨b, off + k * 6, none⟩ = some (.string t.k) ∧ w.cell? ⟨b, off + k * 6 + 1, none⟩ = some (.int .i64 t.x) ∧ w.cell? ⟨b, off + k * 6 + 2, none⟩ = some (.int .i64 t.y) ∧ w.cell? ⟨b, off + k * 6 + 3, none⟩ = some (.int .i64 t.f) ∧ w.cell? ⟨b, off + k * 6 + 4, none⟩ = some (.int .i64 t.t) ∧ w.cell? ⟨b, off + k * 6 + 5, none⟩ = some (.int .i64 t.l) := by
  obtain ⟨b, off, e, hb, t, ht, hc⟩ := rows_cell stCells_len (by decide) h hk
  exact ⟨b, off, e, hb, t, ht, hc 0 _ rfl, hc 1 _ rfl, hc 2 _ rfl, hc 3 _ rfl, hc 4 _ rfl, hc 5 _ rfl⟩

theorem Tryd.infoSt : (Tryd.prog.info? 57).map (fun i => (i.zero, i.size, i.bytes)) = some (some (.agg #[.string ByteArray.empty, .int .i64 0, .int .i64 0, .int .i64 0, .int .i64 0, .int .i64 0]), 6, 56) := by kernel_rfl
theorem st_one (t : St) : ∀ u ∈ stCells t, u.oneCell' = true := by
  intro u hu
  simp only [stCells, List.mem_cons, List.not_mem_nil, or_false] at hu
  rcases hu with rfl | rfl | rfl | rfl | rfl | rfl <;> rfl
theorem st_rd_new (w : World) (l : List St) (cs : Array Value) (T : TypeId) (h : cs.toList = stFlat l) : Rd (w.alloc (.cells cs T)) 6 (some ⟨w.heap.size, 0, none⟩) l.length (stFlat l) :=
  ⟨stFlat_len l, fun _ => ⟨w.heap.size, 0, rfl, by simp, fun j u hu => by rw [Nat.zero_add, World.cell?_alloc_new]; rw [← h] at hu; simpa using hu⟩⟩

/-- append(out, one). -/
theorem ap_st {ops : Array Oper} {rest : List Oper} {o : Oper} {a : Act} {Q : Exit → Act → World → Prop} (w : World) (y : St) (hgd : o.guard = none) (s x : Operand)
    (ho : o.op = .call { callee := .builtin .append, args := #[s, x], argTypes := #[26, 26] }) (base : Nat) (v : Value) (l : List St)
    (hs : a.eval s = v) (hown : w.ownsRow base 57 6 v l.length (stFlat l)) (hx : a.eval x = .slice (some ⟨w.heap.size, 0, none⟩) 1 1) (hlen : l.length ≤ 1000000000) (hbase : base ≤ w.heap.size)
    (h : ∀ v' w', w'.ownsRow base 57 6 v' (l ++ [y]).length (stFlat (l ++ [y])) → (w.alloc (.cells #[.string y.k, .int .i64 y.x, .int .i64 y.y, .int .i64 y.f, .int .i64 y.t, .int .i64 y.l] 57)).grownBy w' v.ownBlock → wpList Tryd.prog ops Q rest (a.put o.dst v') w') :
    wpList Tryd.prog ops Q (o :: rest) a (w.alloc (.cells #[.string y.k, .int .i64 y.x, .int .i64 y.y, .int .i64 y.f, .int .i64 y.t, .int .i64 y.l] 57)) := by
  obtain ⟨i0, hi, hz0, hz1, hz2⟩ := info_parts Tryd.infoSt
  refine wpList_append_own _ hgd s x 26 ho base 57 i0 (.agg #[.string ByteArray.empty, .int .i64 0, .int .i64 0, .int .i64 0, .int .i64 0, .int .i64 0]) 6 56 Tryd.underlying26 hi hz0 hz1 hz2 rfl (by decide) v l.length (stFlat l) hs (hown.alloc _) ⟨w.heap.size, 0, none⟩ 1 1 (stCells y) hx rfl
    (cells_new w #[.string y.k, .int .i64 y.x, .int .i64 y.y, .int .i64 y.f, .int .i64 y.t, .int .i64 y.l] _) (st_one y) (by unfold maxLen; omega) (by omega) (by simp; omega) ?_
  intro v' w' h1 h2 _
  exact h v' w' (by simpa [stFlat] using h1) h2

end Go.Proofs.YtcipidfbclohoaaDoor
