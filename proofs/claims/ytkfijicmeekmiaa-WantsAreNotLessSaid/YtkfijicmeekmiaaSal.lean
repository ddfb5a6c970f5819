/- Sales of days: their cells; appends of one day. -/
import Derived.Test.YtkfijicmeekmiaaTerms
namespace Go.Proofs.Ytkfijicmeekmiaa
open Go.RowKit

/-- Sales of a day. -/
structure Sal where
  d : Int
  s : Int
  o : Bool
deriving DecidableEq
instance : Inhabited Sal := ⟨⟨0, 0, false⟩⟩

def salCells (t : Sal) : List Value := [.int .i64 t.d, .int .i64 t.s, .bool t.o]
def salFlat (l : List Sal) : List Value := l.flatMap salCells

theorem salFlat_len (l : List Sal) : (salFlat l).length = l.length * 3 := by
  induction l with
  | nil => rfl
  | cons a l ih => simp [salFlat, salCells] at *; omega

theorem salFlat_at (l : List Sal) (k j : Nat) (h : k < l.length) (hj : j < 3) :
    (salFlat l)[k * 3 + j]? = (salCells l[k])[j]? := by
  induction l generalizing k with
  | nil => simp at h
  | cons a l ih =>
    cases k with
    | zero =>
      simp only [salFlat, List.flatMap_cons, List.getElem_cons_zero, Nat.zero_mul, Nat.zero_add]
      exact List.getElem?_append_left (by simp [salCells]; omega)
    | succ k =>
      have := ih k (by simpa using h)
      have e : (k + 1) * 3 + j = 3 + (k * 3 + j) := by omega
      simp only [salFlat, List.flatMap_cons] at *
      rw [e, List.getElem?_append_right (by simp [salCells])]
      have e3 : 3 + (k * 3 + j) - (salCells a).length = k * 3 + j := by simp [salCells]
      rw [e3]
      simpa using this

/-- The cells of element k, in a world in which the slice reads as days. -/
theorem sal_cells {w : World} {A : Option Addr} {n : Nat} {l : List Sal} (h : Rd w 3 A n (salFlat l)) {k : Nat} (hk : k < n) :
    ∃ b off, A = some ⟨b, off, none⟩ ∧ b < w.heap.size ∧ ∃ t, l[k]? = some t ∧ w.cell? ⟨b, off + k * 3, none⟩ = some (.int .i64 t.d) ∧ w.cell? ⟨b, off + k * 3 + 1, none⟩ = some (.int .i64 t.s) ∧ w.cell? ⟨b, off + k * 3 + 2, none⟩ = some (.bool t.o) := by
  have hl : l.length = n := by have := h.1; rw [salFlat_len] at this; omega
  obtain ⟨b, off, e, hb, hc⟩ := h.2 (by omega)
  have hk' : k < l.length := by omega
  refine ⟨b, off, e, hb, l[k], List.getElem?_eq_getElem hk', ?_, ?_, ?_⟩
  · exact hc (k * 3 + 0) _ (salFlat_at l k 0 hk' (by omega))
  · rw [Nat.add_assoc]; exact hc (k * 3 + 1) _ (salFlat_at l k 1 hk' (by omega))
  · rw [Nat.add_assoc]; exact hc (k * 3 + 2) _ (salFlat_at l k 2 hk' (by omega))

theorem Try.infoSal : (Try.prog.info? 79).map (fun i => (i.zero, i.size, i.bytes)) = some (some (.agg #[.int .i64 0, .int .i64 0, .bool false]), 3, 24) := by kernel_rfl
theorem sal_new (w : World) (t : Sal) (T : TypeId) : ∀ j u, (salCells t)[j]? = some u → (w.alloc (.cells #[.int .i64 t.d, .int .i64 t.s, .bool t.o] T)).cell? ((⟨w.heap.size, 0, none⟩ : Addr).add j) = some u :=
  cells_new w #[.int .i64 t.d, .int .i64 t.s, .bool t.o] T
theorem sal_one (t : Sal) : ∀ u ∈ salCells t, u.oneCell' = true := by
  intro u hu
  simp only [salCells, List.mem_cons, List.not_mem_nil, or_false] at hu
  rcases hu with rfl | rfl | rfl <;> rfl

/-- append(out, Sales{..}). -/
theorem ap_sal {ops : Array Oper} {rest : List Oper} {o : Oper} {a : Act} {Q : Exit → Act → World → Prop} (w : World) (y : Sal) (hgd : o.guard = none) (s x : Operand)
    (ho : o.op = .call { callee := .builtin .append, args := #[s, x], argTypes := #[26, 26] }) (base : Nat) (v : Value) (l : List Sal)
    (hs : a.eval s = v) (hown : w.ownsRow base 79 3 v l.length (salFlat l)) (hx : a.eval x = .slice (some ⟨w.heap.size, 0, none⟩) 1 1) (hlen : l.length ≤ 1000000000) (hbase : base ≤ w.heap.size)
    (h : ∀ v' w', w'.ownsRow base 79 3 v' (l ++ [y]).length (salFlat (l ++ [y])) → (w.alloc (.cells #[.int .i64 y.d, .int .i64 y.s, .bool y.o] 79)).grownBy w' v.ownBlock → wpList Try.prog ops Q rest (a.put o.dst v') w') :
    wpList Try.prog ops Q (o :: rest) a (w.alloc (.cells #[.int .i64 y.d, .int .i64 y.s, .bool y.o] 79)) := by
  obtain ⟨i0, hi, hz0, hz1, hz2⟩ := info_parts Try.infoSal
  refine wpList_append_own _ hgd s x 26 ho base 79 i0 (.agg #[.int .i64 0, .int .i64 0, .bool false]) 3 24 Try.underlying26 hi hz0 hz1 hz2 rfl (by decide) v l.length (salFlat l) hs (hown.alloc _) ⟨w.heap.size, 0, none⟩ 1 1 (salCells y) hx rfl
    (sal_new w y _) (sal_one y) (by unfold maxLen; omega) (by omega) (by simp; omega) ?_
  intro v' w' h1 h2 _
  exact h v' w' (by simpa [salFlat] using h1) h2

/-- What CheckDays says from here on; prev: the day before. -/
def dayFrom (prev : Option Int) : List Sal → Int
  | [] => 0
  | t :: r => if btw t.d 0 4000 = false then 1 else if prev.any (fun p => decide (t.d ≤ p)) = true then 7 else
      if btw t.s 0 1000 = false then 1 else dayFrom (some t.d) r
def dayFault (l : List Sal) : Int := if 400 < l.length then 2 else dayFrom none l

def dPrev (l : List Sal) (j : Nat) : Option Int := if j = 0 then none else (l[j-1]?).map (·.d)
def DayInv (l : List Sal) (j : Nat) : Prop := dayFrom (dPrev l j) (l.drop j) = dayFault l
def DPrevOk (l : List Sal) (j : Nat) (t : Sal) : Prop := (dPrev l j).any (fun p => decide (t.d ≤ p)) = false

theorem DayInv.start {l : List Sal} (h : l.length ≤ 400) : DayInv l 0 := by
  unfold DayInv dayFault; rw [if_neg (by omega)]; simp [dPrev]
theorem DayInv.done {l : List Sal} {j : Nat} (h : DayInv l j) (hj : j = l.length) : dayFault l = 0 := by
  unfold DayInv at h; subst hj; rw [← h]; simp [dayFrom]
theorem DayInv.r1 {l : List Sal} {j : Nat} {t : Sal} (h : DayInv l j) (ht : l[j]? = some t) (h1 : btw t.d 0 4000 = false) : dayFault l = 1 := by
  unfold DayInv at h; rw [← h, drop_at ht]; simp [dayFrom, h1]
theorem DayInv.r7 {l : List Sal} {p : Nat} {t t' : Sal} (h : DayInv l (p + 1)) (ht : l[p + 1]? = some t) (ht' : l[p]? = some t') (h1 : btw t.d 0 4000 = true) (h2 : t.d ≤ t'.d) : dayFault l = 7 := by
  unfold DayInv at h; rw [← h, drop_at ht]; simp [dayFrom, h1, dPrev, ht', h2]
theorem DPrevOk.zero (l : List Sal) (t : Sal) : DPrevOk l 0 t := by simp [DPrevOk, dPrev]
theorem DPrevOk.succ {l : List Sal} {p : Nat} {t t' : Sal} (ht' : l[p]? = some t') (h : t'.d < t.d) : DPrevOk l (p + 1) t := by
  simp [DPrevOk, dPrev, ht']; omega
theorem DayInv.rs {l : List Sal} {j : Nat} {t : Sal} (h : DayInv l j) (ht : l[j]? = some t) (h1 : btw t.d 0 4000 = true) (hp : DPrevOk l j t) (h2 : btw t.s 0 1000 = false) : dayFault l = 1 := by
  unfold DayInv at h; rw [← h, drop_at ht]; simp [dayFrom, h1, h2, show (dPrev l j).any (fun p => decide (t.d ≤ p)) = false from hp]
theorem DayInv.next {l : List Sal} {j : Nat} {t : Sal} (h : DayInv l j) (ht : l[j]? = some t) (h1 : btw t.d 0 4000 = true) (hp : DPrevOk l j t) (h2 : btw t.s 0 1000 = true) : DayInv l (j + 1) := by
  have hn : dPrev l (j + 1) = some t.d := by simp [dPrev, ht]
  unfold DayInv at h ⊢; rw [← h, drop_at ht, hn]; simp [dayFrom, h1, h2, show (dPrev l j).any (fun p => decide (t.d ≤ p)) = false from hp]

/-- Right days are in bounds. -/
theorem dayFrom_ok : ∀ (l : List Sal) (prev : Option Int), dayFrom prev l = 0 → ∀ t ∈ l, (0 ≤ t.d ∧ t.d ≤ 4000) ∧ 0 ≤ t.s ∧ t.s ≤ 1000
  | [], _, _, t, ht => by simp at ht
  | a :: l, prev, h, t, ht => by
    unfold dayFrom at h
    by_cases h1 : btw a.d 0 4000 = false
    · simp [h1] at h
    · rw [if_neg h1] at h
      by_cases h2 : prev.any (fun p => decide (a.d ≤ p)) = true
      · simp [h2] at h
      · rw [if_neg h2] at h
        by_cases h3 : btw a.s 0 1000 = false
        · simp [h3] at h
        · rw [if_neg h3] at h
          rcases List.mem_cons.1 ht with rfl | ht
          · exact ⟨btw_true.1 (by simpa using h1), btw_true.1 (by simpa using h3)⟩
          · exact dayFrom_ok l _ h t ht
theorem days_ok {l : List Sal} (h : dayFault l = 0) : l.length ≤ 400 ∧ ∀ t ∈ l, (0 ≤ t.d ∧ t.d ≤ 4000) ∧ 0 ≤ t.s ∧ t.s ≤ 1000 := by
  unfold dayFault at h
  by_cases h1 : 400 < l.length
  · rw [if_pos h1] at h; omega
  · rw [if_neg h1] at h; exact ⟨by omega, dayFrom_ok l none h⟩

end Go.Proofs.Ytkfijicmeekmiaa
