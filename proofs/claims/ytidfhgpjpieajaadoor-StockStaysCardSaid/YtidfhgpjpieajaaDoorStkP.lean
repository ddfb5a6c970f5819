/- Lots and coils as lists: what their checks say; units; which are stale. -/
import Derived.Test.YtidfhgpjpieajaaDoorKey
import Derived.Test.YtidfhgpjpieajaaDoorLot
import Derived.Test.YtidfhgpjpieajaaDoorPc
import Derived.Lib.Bytes
namespace Go.Proofs.YtidfhgpjpieajaaDoor
open Go.RowKit

/-- Strings: equal; at most. -/
def sEq (a b : ByteArray) : Bool := a.toList == b.toList
def sLe (a b : ByteArray) : Bool := Op.bytesLess a.toList b.toList || a.toList == b.toList
theorem toList_data (a : ByteArray) : a.toList = a.data.toList := Lib.toList_data a
theorem bLess_eq : ∀ (x y : List UInt8), Op.bytesLess x y = decide (x < y)
  | [], [] => by simp [Op.bytesLess]
  | _ :: _, [] => by simp [Op.bytesLess]
  | [], _ :: _ => by simp [Op.bytesLess]
  | a :: x, b :: y => by
    rw [Op.bytesLess, bLess_eq x y]
    simp only [List.cons_lt_cons_iff]
    by_cases h1 : a < b <;> by_cases h2 : a = b <;> by_cases h3 : x < y <;> simp [h1, h2, h3]
theorem sLe_false {a b : ByteArray} : sLe a b = false ↔ b.data.toList < a.data.toList := by
  unfold sLe
  rw [toList_data, toList_data, bLess_eq]
  simp only [Bool.or_eq_false_iff, decide_eq_false_iff_not, beq_eq_false_iff_ne]
  constructor
  · rintro ⟨h1, h2⟩
    exact List.not_le.1 (fun h => h2 (List.le_antisymm h (List.not_lt.1 h1)))
  · intro h
    exact ⟨fun h2 => List.lt_irrefl _ (List.lt_trans h h2), fun e => List.lt_irrefl _ (e ▸ h)⟩
theorem sLe_trans {a b c : ByteArray} (h1 : sLe a c = false) (h2 : sLe b a = false) : sLe b c = false :=
  sLe_false.2 (List.lt_trans (sLe_false.1 h1) (sLe_false.1 h2))
theorem sLe_ne {a b : ByteArray} (h : sLe a b = false) : a ≠ b := fun e => List.lt_irrefl _ (e ▸ sLe_false.1 h)
theorem sEq_iff {a b : ByteArray} : sEq a b = true ↔ a = b := by
  unfold sEq
  rw [toList_data, toList_data, beq_iff_eq]
  constructor
  · intro h
    cases a; cases b
    simpa using h
  · intro h; rw [h]
theorem sEq_self (a : ByteArray) : sEq a a = true := sEq_iff.2 rfl
theorem sEq_ne {a b : ByteArray} : sEq a b = false ↔ a ≠ b := by
  rw [← Bool.not_eq_true, sEq_iff]

/-- What CheckLots says from here on; prev: the Id before. -/
def lotFrom (prev : Option ByteArray) : List Lot → Int
  | [] => 0
  | x :: r => if keyB x.id = false then 5 else if prev.any (fun p => sLe x.id p) = true then 7 else if keyB x.pr = false then 5 else
      if btw x.ex 0 4000 = false then 1 else if btw x.mn 0 100000 = false then 1 else lotFrom (some x.id) r
def lotsF (l : List Lot) : Int := if 500 < l.length then 2 else lotFrom none l

def lPrev (l : List Lot) (j : Nat) : Option ByteArray := if j = 0 then none else (l[j-1]?).map (·.id)
def LotInv (l : List Lot) (j : Nat) : Prop := lotFrom (lPrev l j) (l.drop j) = lotsF l
def LPrevOk (l : List Lot) (j : Nat) (t : Lot) : Prop := (lPrev l j).any (fun p => sLe t.id p) = false
theorem LotInv.start {l : List Lot} (h : l.length ≤ 500) : LotInv l 0 := by
  unfold LotInv lotsF; rw [if_neg (by omega)]; simp [lPrev]
theorem LotInv.done {l : List Lot} {j : Nat} (h : LotInv l j) (hj : j = l.length) : lotsF l = 0 := by
  unfold LotInv at h; subst hj; rw [← h]; simp [lotFrom]
theorem LPrevOk.zero (l : List Lot) (t : Lot) : LPrevOk l 0 t := by simp [LPrevOk, lPrev]
theorem LPrevOk.succ {l : List Lot} {p : Nat} {t t' : Lot} (ht' : l[p]? = some t') (h : sLe t.id t'.id = false) : LPrevOk l (p + 1) t := by
  simp [LPrevOk, lPrev, ht', h]
theorem LotInv.rid {l : List Lot} {j : Nat} {t : Lot} (h : LotInv l j) (ht : l[j]? = some t) (h1 : keyB t.id = false) : lotsF l = 5 := by
  unfold LotInv at h; rw [← h, drop_at ht]; simp [lotFrom, h1]
theorem LotInv.rord {l : List Lot} {p : Nat} {t t' : Lot} (h : LotInv l (p + 1)) (ht : l[p + 1]? = some t) (ht' : l[p]? = some t') (h1 : keyB t.id = true) (h2 : sLe t.id t'.id = true) : lotsF l = 7 := by
  unfold LotInv at h; rw [← h, drop_at ht]; simp [lotFrom, h1, lPrev, ht', h2]
theorem LotInv.rest {l : List Lot} {j : Nat} {t : Lot} (h : LotInv l j) (ht : l[j]? = some t) (h1 : keyB t.id = true) (hp : LPrevOk l j t) :
    lotsF l = if keyB t.pr = false then 5 else if btw t.ex 0 4000 = false then 1 else if btw t.mn 0 100000 = false then 1 else lotFrom (some t.id) (l.drop (j + 1)) := by
  unfold LotInv at h; rw [← h, drop_at ht]
  simp [lotFrom, h1, show (lPrev l j).any (fun p => sLe t.id p) = false from hp]
theorem LotInv.next {l : List Lot} {j : Nat} {t : Lot} (h : LotInv l j) (ht : l[j]? = some t) (h1 : keyB t.id = true) (hp : LPrevOk l j t) (h2 : keyB t.pr = true) (h3 : btw t.ex 0 4000 = true) (h4 : btw t.mn 0 100000 = true) : LotInv l (j + 1) := by
  have hn : lPrev l (j + 1) = some t.id := by simp [lPrev, ht]
  have := h.rest ht h1 hp
  unfold LotInv
  rw [hn, this, h2, h3, h4]
  simp

/-- A right lot by itself. -/
def LotOk (t : Lot) : Prop := keyB t.id = true ∧ keyB t.pr = true ∧ (0 ≤ t.ex ∧ t.ex ≤ 4000) ∧ 0 ≤ t.mn ∧ t.mn ≤ 100000
theorem lotFrom_ok : ∀ (l : List Lot) (prev : Option ByteArray), lotFrom prev l = 0 → (∀ t ∈ l, LotOk t) ∧ l.Pairwise (fun a b => sLe b.id a.id = false) ∧ ∀ p, prev = some p → ∀ t ∈ l, sLe t.id p = false
  | [], _, _ => ⟨by simp, List.Pairwise.nil, by simp⟩
  | a :: l, prev, h => by
    unfold lotFrom at h
    by_cases h1 : keyB a.id = true
    · rw [if_neg (by simp [h1])] at h
      by_cases h2 : prev.any (fun p => sLe a.id p) = true
      · rw [if_pos h2] at h; cases h
      · rw [if_neg h2] at h
        by_cases h3 : keyB a.pr = true
        · rw [if_neg (by simp [h3])] at h
          by_cases h4 : btw a.ex 0 4000 = true
          · rw [if_neg (by simp [h4])] at h
            by_cases h5 : btw a.mn 0 100000 = true
            · rw [if_neg (by simp [h5])] at h
              obtain ⟨i1, i2, i3⟩ := lotFrom_ok l _ h
              refine ⟨?_, List.pairwise_cons.2 ⟨fun b hb => i3 _ rfl b hb, i2⟩, ?_⟩
              · intro t ht
                rcases List.mem_cons.1 ht with rfl | ht
                · exact ⟨h1, h3, btw_true.1 h4, btw_true.1 h5⟩
                · exact i1 t ht
              · intro p hp t ht
                subst hp
                have h2' : sLe a.id p = false := by simpa using h2
                rcases List.mem_cons.1 ht with rfl | ht
                · exact h2'
                · exact sLe_trans h2' (i3 _ rfl t ht)
            · rw [if_pos (by simpa using h5)] at h; cases h
          · rw [if_pos (by simpa using h4)] at h; cases h
        · rw [if_pos (by simpa using h3)] at h; cases h
    · rw [if_pos (by simpa using h1)] at h; cases h
theorem lots_ok {l : List Lot} (h : lotsF l = 0) : l.length ≤ 500 ∧ (∀ t ∈ l, LotOk t) ∧ l.Pairwise (fun a b => sLe b.id a.id = false) := by
  unfold lotsF at h
  by_cases h1 : 500 < l.length
  · rw [if_pos h1] at h; cases h
  · rw [if_neg h1] at h
    obtain ⟨h2, h3, _⟩ := lotFrom_ok l none h
    exact ⟨by omega, h2, h3⟩
theorem lots_nodup {l : List Lot} (h : l.Pairwise (fun a b => sLe b.id a.id = false)) : l.Pairwise (fun a b => a.id ≠ b.id) :=
  List.Pairwise.imp (fun {a b} (h : sLe b.id a.id = false) (e : a.id = b.id) => sLe_ne h e.symm) h

/-! ### coils -/
structure Coil where
  pr : ByteArray
  most : Int
  ps : List Pc
/-- How many units pieces have. -/
def numP (l : List Pc) : Int := (l.map (·.mn)).sum
def pcFrom (prev : Option ByteArray) : List Pc → Int
  | [] => 0
  | x :: r => if keyB x.lot = false then 5 else if btw x.mn 1 1000 = false then 1 else if prev.any (fun p => sEq x.lot p) = true then 3 else pcFrom (some x.lot) r
def coilF (c : Coil) : Int := if keyB c.pr = false then 5 else if btw c.most 0 1000 = false then 1 else if 1000 < c.ps.length then 2 else
  if pcFrom none c.ps ≠ 0 then pcFrom none c.ps else if c.most < numP c.ps then 12 else 0
def pPrev (l : List Pc) (j : Nat) : Option ByteArray := if j = 0 then none else (l[j-1]?).map (·.lot)
def PcInv (l : List Pc) (j : Nat) : Prop := pcFrom (pPrev l j) (l.drop j) = pcFrom none l
theorem PcInv.start (l : List Pc) : PcInv l 0 := by unfold PcInv; simp [pPrev]
theorem PcInv.done {l : List Pc} {j : Nat} (h : PcInv l j) (hj : j = l.length) : pcFrom none l = 0 := by
  unfold PcInv at h; subst hj; rw [← h]; simp [pcFrom]
theorem PcInv.step {l : List Pc} {j : Nat} {t : Pc} (h : PcInv l j) (ht : l[j]? = some t) :
    pcFrom none l = if keyB t.lot = false then 5 else if btw t.mn 1 1000 = false then 1 else if (pPrev l j).any (fun p => sEq t.lot p) = true then 3 else pcFrom (some t.lot) (l.drop (j + 1)) := by
  unfold PcInv at h; rw [← h, drop_at ht]; rfl
theorem PcInv.next {l : List Pc} {j : Nat} {t : Pc} (h : PcInv l j) (ht : l[j]? = some t) (h1 : keyB t.lot = true) (h2 : btw t.mn 1 1000 = true) (h3 : (pPrev l j).any (fun p => sEq t.lot p) = false) : PcInv l (j + 1) := by
  have hn : pPrev l (j + 1) = some t.lot := by simp [pPrev, ht]
  have := h.step ht
  unfold PcInv
  rw [hn, this, h1, h2, h3]
  simp
def PcOk (t : Pc) : Prop := keyB t.lot = true ∧ 1 ≤ t.mn ∧ t.mn ≤ 1000
theorem pcFrom_ok : ∀ (l : List Pc) (prev : Option ByteArray), pcFrom prev l = 0 → ∀ t ∈ l, PcOk t
  | [], _, _ => by simp
  | a :: l, prev, h => by
    unfold pcFrom at h
    by_cases h1 : keyB a.lot = true
    · rw [if_neg (by simp [h1])] at h
      by_cases h2 : btw a.mn 1 1000 = true
      · rw [if_neg (by simp [h2])] at h
        by_cases h3 : prev.any (fun p => sEq a.lot p) = true
        · rw [if_pos h3] at h; cases h
        · rw [if_neg h3] at h
          intro t ht
          rcases List.mem_cons.1 ht with rfl | ht
          · exact ⟨h1, btw_true.1 h2⟩
          · exact pcFrom_ok l _ h t ht
      · rw [if_pos (by simpa using h2)] at h; cases h
    · rw [if_pos (by simpa using h1)] at h; cases h
theorem coil_ok {c : Coil} (h : coilF c = 0) : keyB c.pr = true ∧ (0 ≤ c.most ∧ c.most ≤ 1000) ∧ c.ps.length ≤ 1000 ∧ pcFrom none c.ps = 0 ∧ (∀ t ∈ c.ps, PcOk t) ∧ numP c.ps ≤ c.most := by
  unfold coilF at h
  by_cases h1 : keyB c.pr = true
  · rw [if_neg (by simp [h1])] at h
    by_cases h2 : btw c.most 0 1000 = true
    · rw [if_neg (by simp [h2])] at h
      by_cases h3 : 1000 < c.ps.length
      · rw [if_pos h3] at h; cases h
      · rw [if_neg h3] at h
        by_cases h4 : pcFrom none c.ps = 0
        · rw [if_neg (by simp [h4])] at h
          by_cases h5 : c.most < numP c.ps
          · rw [if_pos h5] at h; cases h
          · exact ⟨h1, btw_true.1 h2, by omega, h4, pcFrom_ok _ _ h4, by omega⟩
        · rw [if_pos h4] at h; exact absurd h h4
    · rw [if_pos (by simpa using h2)] at h; cases h
  · rw [if_pos (by simpa using h1)] at h; cases h

theorem numP_nonneg {l : List Pc} (h : ∀ t ∈ l, PcOk t) : 0 ≤ numP l := by
  induction l with
  | nil => simp [numP]
  | cons a l ih =>
    have h1 := ih (fun t ht => h t (by simp [ht]))
    have h2 := h a (by simp)
    simp only [numP, List.map_cons, List.sum_cons] at *
    have := h2.2.1
    omega
theorem numP_take {l : List Pc} {j : Nat} {t : Pc} (ht : l[j]? = some t) : numP (l.take (j + 1)) = numP (l.take j) + t.mn := by
  rw [take_at ht]; simp [numP]
theorem numP_take_le {l : List Pc} (h : ∀ t ∈ l, PcOk t) (j : Nat) : 0 ≤ numP (l.take j) ∧ numP (l.take j) ≤ numP l := by
  have h1 := numP_nonneg (l := l.take j) (fun t ht => h t (List.mem_of_mem_take ht))
  have h2 := numP_nonneg (l := l.drop j) (fun t ht => h t (List.mem_of_mem_drop ht))
  have h3 : numP l = numP (l.take j) + numP (l.drop j) := by
    conv => lhs; rw [← List.take_append_drop j l]
    unfold numP
    rw [List.map_append, List.sum_append]
  omega

/-! ### units -/
/-- The lots of all units, one after the other. -/
def unitsP (l : List Pc) : List ByteArray := l.flatMap fun p => List.replicate p.mn.toNat p.lot
/-- The lot with an Id. -/
def lotOf (L : List Lot) (s : ByteArray) : Option Lot := L.find? fun x => sEq x.id s
def exOf (L : List Lot) (s : ByteArray) : Int := match lotOf L s with | some x => x.ex | none => 0
/-- Each piece is of a lot. -/
def knownB (L : List Lot) (l : List Pc) : Bool := l.all fun p => (lotOf L p.lot).isSome
/-- On which day each unit expires. -/
def endsP (L : List Lot) (l : List Pc) : List Int := l.flatMap fun p => List.replicate p.mn.toNat (exOf L p.lot)
theorem ends_units (L : List Lot) (l : List Pc) : endsP L l = (unitsP l).map (exOf L) := by
  unfold endsP unitsP
  rw [List.map_flatMap]
  simp
theorem units_len {l : List Pc} (h : ∀ t ∈ l, PcOk t) : ((unitsP l).length : Int) = numP l := by
  induction l with
  | nil => rfl
  | cons a l ih =>
    have h1 := ih (fun t ht => h t (by simp [ht]))
    have h2 := (h a (by simp)).2.1
    simp only [unitsP, numP, List.flatMap_cons, List.length_append, List.length_replicate, List.map_cons, List.sum_cons] at *
    omega

theorem lotOf_take {L : List Lot} (hn : L.Pairwise (fun a b => a.id ≠ b.id)) {j : Nat} {t : Lot} (ht : L[j]? = some t) (s : ByteArray) :
    lotOf (L.take (j + 1)) s = if s = t.id then some t else lotOf (L.take j) s := by
  unfold lotOf
  rw [take_at ht, List.find?_append]
  by_cases e : s = t.id
  · subst e
    rw [if_pos rfl]
    have h1 : (L.take j).find? (fun x => sEq x.id t.id) = none := by
      rw [List.find?_eq_none]
      intro x hx hs
      obtain ⟨i, hi, e⟩ := List.getElem_of_mem hx
      rw [List.getElem_take] at e
      have hij : i < j := by simp at hi; omega
      obtain ⟨hj, e2⟩ := List.getElem?_eq_some_iff.1 ht
      have := (List.pairwise_iff_getElem.1 hn) i j (by omega) hj hij
      rw [e, e2] at this
      exact this (sEq_iff.1 hs)
    rw [h1]
    simp [sEq_self]
  · rw [if_neg e]
    have h2 : sEq t.id s = false := sEq_ne.2 (fun h => e h.symm)
    simp [h2]

/-! ### what is sold too late -/
/-- How many of some days are before another one. -/
def befP (l : List Int) (d : Int) : Int := ((l.filter fun x => decide (x < d)).length : Int)
def staleP : List Int → Int → List Int → Int
  | e, d, [] => befP e d
  | e, d, m :: r => befP (e.take m.toNat) d + staleP (e.drop m.toNat) (d + 1) r
theorem staleP_nil (d : Int) : ∀ (r : List Int), staleP [] d r = 0
  | [] => rfl
  | m :: r => by simp [staleP, befP, staleP_nil (d + 1) r]
theorem befP_nonneg (l : List Int) (d : Int) : 0 ≤ befP l d ∧ befP l d ≤ l.length := by
  unfold befP; exact ⟨by omega, by have := List.length_filter_le (fun x : Int => decide (x < d)) l; omega⟩
theorem befP_snoc (l : List Int) (x d : Int) : befP (l ++ [x]) d = befP l d + if x < d then 1 else 0 := by
  unfold befP
  rw [List.filter_append]
  by_cases h : x < d <;> simp [h]

end Go.Proofs.YtidfhgpjpieajaaDoor
