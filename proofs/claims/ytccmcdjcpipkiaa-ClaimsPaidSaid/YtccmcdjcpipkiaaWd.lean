/- coilrack/api.Window: its cells in a slice; append of one. -/
import Derived.Test.YtccmcdjcpipkiaaStru
namespace Go.Proofs.Ytccmcdjcpipkiaa
open Go.RowKit

structure Wd where
  f : Int
  t : Int
deriving DecidableEq
instance : Inhabited Wd := ⟨⟨0, 0⟩⟩
def wdCells (t : Wd) : List Value := [.int .i64 t.f, .int .i64 t.t]
def wdFlat (l : List Wd) : List Value := l.flatMap wdCells
theorem wdCells_len (t : Wd) : (wdCells t).length = 2 := rfl
theorem wdFlat_len (l : List Wd) : (wdFlat l).length = l.length * 2 := rows_len wdCells_len l

/-- The cells of element k. -/
theorem wd_cells {w : World} {A : Option Addr} {n : Nat} {l : List Wd} (h : Rd w 2 A n (wdFlat l)) {k : Nat} (hk : k < n) :
    ∃ b off, A = some ⟨b, off, none⟩ ∧ b < w.heap.size ∧ ∃ t, l[k]? = some t ∧ w.cell? ⟨b, off + k * 2, none⟩ = some (.int .i64 t.f) ∧ w.cell? ⟨b, off + k * 2 + 1, none⟩ = some (.int .i64 t.t) := by
  obtain ⟨b, off, e, hb, t, ht, hc⟩ := rows_cell wdCells_len (by decide) h hk
  exact ⟨b, off, e, hb, t, ht, hc 0 _ rfl, hc 1 _ rfl⟩

theorem Try.infoWd : (Try.prog.info? 32).map (fun i => (i.zero, i.size, i.bytes)) = some (some (.agg #[.int .i64 0, .int .i64 0]), 2, 16) := by kernel_rfl
theorem wd_one (t : Wd) : ∀ u ∈ wdCells t, u.oneCell' = true := by
  intro u hu
  simp only [wdCells, List.mem_cons, List.not_mem_nil, or_false] at hu
  rcases hu with rfl | rfl <;> rfl
theorem wd_rd_new (w : World) (l : List Wd) (cs : Array Value) (T : TypeId) (h : cs.toList = wdFlat l) : Rd (w.alloc (.cells cs T)) 2 (some ⟨w.heap.size, 0, none⟩) l.length (wdFlat l) :=
  ⟨wdFlat_len l, fun _ => ⟨w.heap.size, 0, rfl, by simp, fun j u hu => by rw [Nat.zero_add, World.cell?_alloc_new]; rw [← h] at hu; simpa using hu⟩⟩

/-- append(out, one). -/
theorem ap_wd {ops : Array Oper} {rest : List Oper} {o : Oper} {a : Act} {Q : Exit → Act → World → Prop} (w : World) (y : Wd) (hgd : o.guard = none) (s x : Operand)
    (ho : o.op = .call { callee := .builtin .append, args := #[s, x], argTypes := #[30, 30] }) (base : Nat) (v : Value) (l : List Wd)
    (hs : a.eval s = v) (hown : w.ownsRow base 32 2 v l.length (wdFlat l)) (hx : a.eval x = .slice (some ⟨w.heap.size, 0, none⟩) 1 1) (hlen : l.length ≤ 1000000000) (hbase : base ≤ w.heap.size)
    (h : ∀ v' w', w'.ownsRow base 32 2 v' (l ++ [y]).length (wdFlat (l ++ [y])) → (w.alloc (.cells #[.int .i64 y.f, .int .i64 y.t] 32)).grownBy w' v.ownBlock → wpList Try.prog ops Q rest (a.put o.dst v') w') :
    wpList Try.prog ops Q (o :: rest) a (w.alloc (.cells #[.int .i64 y.f, .int .i64 y.t] 32)) := by
  obtain ⟨i0, hi, hz0, hz1, hz2⟩ := info_parts Try.infoWd
  refine wpList_append_own _ hgd s x 30 ho base 32 i0 (.agg #[.int .i64 0, .int .i64 0]) 2 16 Try.underlying30 hi hz0 hz1 hz2 rfl (by decide) v l.length (wdFlat l) hs (hown.alloc _) ⟨w.heap.size, 0, none⟩ 1 1 (wdCells y) hx rfl
    (cells_new w #[.int .i64 y.f, .int .i64 y.t] _) (wd_one y) (by unfold maxLen; omega) (by omega) (by simp; omega) ?_
  intro v' w' h1 h2 _
  exact h v' w' (by simpa [wdFlat] using h1) h2

end Go.Proofs.Ytccmcdjcpipkiaa
