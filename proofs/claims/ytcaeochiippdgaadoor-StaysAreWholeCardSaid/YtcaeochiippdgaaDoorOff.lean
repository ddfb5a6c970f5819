/- coilrack/api.Offer in memory: rows of offers whose lists lie elsewhere. -/
import Derived.Test.YtcaeochiippdgaaDoorOffP
import Derived.Test.YtcaeochiippdgaaDoorStr1
namespace Go.Proofs.YtcaeochiippdgaaDoor
open Go.RowKit

/-- A slice as it lies in memory. -/
structure Sl where
  A : Option Addr
  n : Nat
  c : Nat
def Sl.val (s : Sl) : Value := .slice s.A s.n s.c
/-- An offer as it lies in memory, with what its slices hold. -/
structure Ofr where
  key : ByteArray
  grp : ByteArray
  p : Sl
  h : Sl
  t : Sl
  ps : List Int
  hs : List ByteArray
  ts : List ByteArray
instance : Inhabited Ofr := ⟨⟨ByteArray.empty, ByteArray.empty, ⟨none, 0, 0⟩, ⟨none, 0, 0⟩, ⟨none, 0, 0⟩, [], [], []⟩⟩
def ofCells (r : Ofr) : List Value := [.string r.key, .string r.grp, r.p.val, r.h.val, r.t.val]
def ofFlat (l : List Ofr) : List Value := l.flatMap ofCells
theorem ofCells_len (r : Ofr) : (ofCells r).length = 5 := rfl
theorem ofFlat_len (l : List Ofr) : (ofFlat l).length = l.length * 5 := rows_len ofCells_len l
def offK (r : Ofr) : Off := ⟨r.key, r.grp, r.ps, r.hs, r.ts⟩
def SlOk (w : World) (B : Nat) (s : Sl) (xs : List Value) : Prop := Rd w 1 s.A s.n xs ∧ s.n ≤ s.c ∧ s.c ≤ maxLen ∧ ∀ a, s.A = some a → B ≤ a.block
theorem SlOk.grown_ {w w' : World} {B : Nat} {row : Option Nat} {s : Sl} {xs : List Value} (h : SlOk w B s xs) (hg : w.grownBy w' row) (hr : ∀ j, row = some j → j < B) : SlOk w' B s xs :=
  ⟨h.1.grown_ hg (fun a ha e => by have := h.2.2.2 a ha; have := hr _ e.symm; omega), h.2⟩
theorem SlOk.grown {w w' : World} {B : Nat} {s : Sl} {xs : List Value} (h : SlOk w B s xs) (hg : w.grownBy w' none) : SlOk w' B s xs := h.grown_ hg (fun j e => by cases e)
/-- Its lists can be read; their blocks are from B on. -/
def OfOk (w : World) (B : Nat) (r : Ofr) : Prop := SlOk w B r.p (ints r.ps) ∧ SlOk w B r.h (strs r.hs) ∧ SlOk w B r.t (strs r.ts)
theorem OfOk.grown_ {w w' : World} {B : Nat} {row : Option Nat} {r : Ofr} (h : OfOk w B r) (hg : w.grownBy w' row) (hr : ∀ j, row = some j → j < B) : OfOk w' B r := ⟨h.1.grown_ hg hr, h.2.1.grown_ hg hr, h.2.2.grown_ hg hr⟩
theorem OfOk.grown {w w' : World} {B : Nat} {r : Ofr} (h : OfOk w B r) (hg : w.grownBy w' none) : OfOk w' B r := h.grown_ hg (fun j e => by cases e)
theorem OfOk.len {w : World} {B : Nat} {r : Ofr} (h : OfOk w B r) : r.ps.length = r.p.n ∧ r.hs.length = r.h.n ∧ r.ts.length = r.t.n := by
  have h1 := h.1.1.1
  have h2 := h.2.1.1.1
  have h3 := h.2.2.1.1
  rw [strs_len] at h2 h3
  simp [ints] at h1
  omega

/-- The slice with address A reads as the offers V. -/
def RdO (w : World) (B : Nat) (A : Option Addr) (V : List Off) : Prop :=
  (∀ a, A = some a → B ≤ a.block) ∧ ∃ l : List Ofr, l.map offK = V ∧ Rd w 5 A V.length (ofFlat l) ∧ ∀ r ∈ l, OfOk w B r
theorem RdO.grown_ {w w' : World} {B : Nat} {row : Option Nat} {A : Option Addr} {V : List Off} (h : RdO w B A V) (hg : w.grownBy w' row) (hr : ∀ j, row = some j → j < B) : RdO w' B A V := by
  obtain ⟨h0, l, h1, h2, h3⟩ := h
  exact ⟨h0, l, h1, h2.grown_ hg (fun a ha e => by have := h0 a ha; have := hr _ e.symm; omega), fun r hr' => (h3 r hr').grown_ hg hr⟩
theorem RdO.grown {w w' : World} {B : Nat} {A : Option Addr} {V : List Off} (h : RdO w B A V) (hg : w.grownBy w' none) : RdO w' B A V := h.grown_ hg (fun j e => by cases e)
theorem RdO.row {w : World} {B : Nat} {A : Option Addr} {V : List Off} (h : RdO w B A V) {k : Nat} (hk : k < V.length) :
    ∃ b off, A = some ⟨b, off, none⟩ ∧ b < w.heap.size ∧ ∃ r : Ofr, V[k]? = some (offK r) ∧ OfOk w B r ∧ w.cell? ⟨b, off + k * 5, none⟩ = some (.string r.key) ∧ w.cell? ⟨b, off + k * 5 + 1, none⟩ = some (.string r.grp) ∧
      w.cell? ⟨b, off + k * 5 + 2, none⟩ = some (.slice r.p.A r.p.n r.p.c) ∧ w.cell? ⟨b, off + k * 5 + 3, none⟩ = some (.slice r.h.A r.h.n r.h.c) ∧ w.cell? ⟨b, off + k * 5 + 4, none⟩ = some (.slice r.t.A r.t.n r.t.c) := by
  obtain ⟨_, l, h1, h2, h3⟩ := h
  obtain ⟨b, off, e, hb, r, hr, hc⟩ := rows_cell ofCells_len (by decide) h2 hk
  refine ⟨b, off, e, hb, r, ?_, h3 r (List.mem_of_getElem? hr), hc 0 _ rfl, hc 1 _ rfl, hc 2 _ rfl, hc 3 _ rfl, hc 4 _ rfl⟩
  rw [← h1, List.getElem?_map, hr]
  rfl

end Go.Proofs.YtcaeochiippdgaaDoor
