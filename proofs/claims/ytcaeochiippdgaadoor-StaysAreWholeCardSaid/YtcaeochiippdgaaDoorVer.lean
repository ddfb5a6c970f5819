/- coilrack/api.Version in memory: rows of versions whose layouts lie elsewhere; append of one. -/
import Derived.Test.YtcaeochiippdgaaDoorVerP
import Derived.Test.YtcaeochiippdgaaDoorStr1
namespace Go.Proofs.YtcaeochiippdgaaDoor
open Go.RowKit

/-- A version as it lies in memory, with the strings that its slice holds. -/
structure Vr where
  f : Int
  A : Option Addr
  n : Nat
  c : Nat
  ks : List ByteArray
instance : Inhabited Vr := ⟨⟨0, none, 0, 0, []⟩⟩
def vrCells (r : Vr) : List Value := [.int .i64 r.f, .slice r.A r.n r.c]
def vrFlat (l : List Vr) : List Value := l.flatMap vrCells
theorem vrCells_len (r : Vr) : (vrCells r).length = 2 := rfl
theorem vrFlat_len (l : List Vr) : (vrFlat l).length = l.length * 2 := rows_len vrCells_len l
def verK (r : Vr) : Ver := ⟨r.f, r.ks⟩
/-- Its layout can be read; its block is from B on. -/
def VrOk (w : World) (B : Nat) (r : Vr) : Prop := Rd w 1 r.A r.n (strs r.ks) ∧ r.n ≤ r.c ∧ r.c ≤ maxLen ∧ ∀ a, r.A = some a → B ≤ a.block
theorem VrOk.len {w : World} {B : Nat} {r : Vr} (h : VrOk w B r) : r.ks.length = r.n := by have := h.1.1; rw [strs_len] at this; omega
theorem VrOk.grown {w w' : World} {B : Nat} {r : Vr} (h : VrOk w B r) (hg : w.grownBy w' none) : VrOk w' B r := ⟨h.1.grown hg, h.2⟩

/-- The slice with address A reads as the versions V. -/
def RdV (w : World) (B : Nat) (A : Option Addr) (V : List Ver) : Prop :=
  (∀ a, A = some a → B ≤ a.block) ∧ ∃ l : List Vr, l.map verK = V ∧ Rd w 2 A V.length (vrFlat l) ∧ ∀ r ∈ l, VrOk w B r
theorem RdV.grown {w w' : World} {B : Nat} {A : Option Addr} {V : List Ver} (h : RdV w B A V) (hg : w.grownBy w' none) : RdV w' B A V := by
  obtain ⟨h0, l, h1, h2, h3⟩ := h
  exact ⟨h0, l, h1, h2.grown hg, fun r hr => (h3 r hr).grown hg⟩
theorem RdV.grown_ {w w' : World} {B : Nat} {row : Option Nat} {A : Option Addr} {V : List Ver} (h : RdV w B A V) (hg : w.grownBy w' row) (hr : ∀ j, row = some j → j < B) : RdV w' B A V := by
  obtain ⟨h0, l, h1, h2, h3⟩ := h
  exact ⟨h0, l, h1, h2.grown_ hg (fun a ha e => by have := h0 a ha; have := hr _ e.symm; omega), fun r hr' => ⟨(h3 r hr').1.grown_ hg (fun a ha e => by have := (h3 r hr').2.2.2 a ha; have := hr _ e.symm; omega), (h3 r hr').2⟩⟩
theorem RdV.row {w : World} {B : Nat} {A : Option Addr} {V : List Ver} (h : RdV w B A V) {k : Nat} (hk : k < V.length) :
    ∃ b off, A = some ⟨b, off, none⟩ ∧ b < w.heap.size ∧ ∃ r : Vr, V[k]? = some (verK r) ∧ VrOk w B r ∧ w.cell? ⟨b, off + k * 2, none⟩ = some (.int .i64 r.f) ∧ w.cell? ⟨b, off + k * 2 + 1, none⟩ = some (.slice r.A r.n r.c) := by
  obtain ⟨_, l, h1, h2, h3⟩ := h
  obtain ⟨b, off, e, hb, r, hr, hc⟩ := rows_cell vrCells_len (by decide) h2 hk
  refine ⟨b, off, e, hb, r, ?_, h3 r (List.mem_of_getElem? hr), hc 0 _ rfl, hc 1 _ rfl⟩
  rw [← h1, List.getElem?_map, hr]
  rfl

theorem Tryd.infoVer : (Tryd.prog.info? 43).map (fun i => (i.zero, i.size, i.bytes)) = some (some (.agg #[.int .i64 0, .slice none 0 0]), 2, 32) := by kernel_rfl
theorem vr_one (r : Vr) : ∀ u ∈ vrCells r, u.oneCell' = true := by
  intro u hu
  simp only [vrCells, List.mem_cons, List.not_mem_nil, or_false] at hu
  rcases hu with rfl | rfl <;> rfl

/-- append(out, r): one version. -/
theorem ap_vr {ops : Array Oper} {rest : List Oper} {o : Oper} {a : Act} {Q : Exit → Act → World → Prop} (w : World) (N : Nat) (hN : w.heap.size = N) (y : Vr) (hgd : o.guard = none) (s x : Operand)
    (ho : o.op = .call { callee := .builtin .append, args := #[s, x], argTypes := #[26, 26] }) (base : Nat) (v : Value) (l : List Vr)
    (hs : a.eval s = v) (hown : w.ownsRow base 43 2 v l.length (vrFlat l)) (hx : a.eval x = .slice (some ⟨N, 0, none⟩) 1 1) (hlen : l.length ≤ 1000000000) (hbase : base ≤ w.heap.size)
    (h : ∀ v' w', w'.ownsRow base 43 2 v' (l ++ [y]).length (vrFlat (l ++ [y])) → (w.alloc (.cells #[.int .i64 y.f, .slice y.A y.n y.c] 43)).grownBy w' v.ownBlock → wpList Tryd.prog ops Q rest (a.put o.dst v') w') :
    wpList Tryd.prog ops Q (o :: rest) a (w.alloc (.cells #[.int .i64 y.f, .slice y.A y.n y.c] 43)) := by
  subst hN
  obtain ⟨i0, hi, hz0, hz1, hz2⟩ := info_parts Tryd.infoVer
  refine wpList_append_own _ hgd s x 26 ho base 43 i0 (.agg #[.int .i64 0, .slice none 0 0]) 2 32 Tryd.underlying26 hi hz0 hz1 hz2 rfl (by decide) v l.length (vrFlat l) hs (hown.alloc _) ⟨w.heap.size, 0, none⟩ 1 1 (vrCells y) hx rfl
    (cells_new w #[.int .i64 y.f, .slice y.A y.n y.c] _) (vr_one y) (by unfold maxLen; omega) (by omega) (by simp; omega) ?_
  intro v' w' h1 h2 _
  exact h v' w' (by simpa [vrFlat] using h1) h2

end Go.Proofs.YtcaeochiippdgaaDoor
