/- Float: the mathematics of its turns. -/
import Derived.Test.YtoaeflegcfecaaaRefA
namespace Go.Proofs.Ytoaeflegcfecaaa
open Go.RowKit

/-- A state of Float: how many coins of each, what is left, whether a coin was taken in this turn. -/
structure FSt where
  g : List Int
  left : Int
  more : Bool

def tubD (l : List Tub) (i : Nat) : Tub := l.getD i ⟨0, 0, 0⟩
def fOne (l : List Tub) (s : FSt) (i : Nat) : FSt :=
  if s.g.getD i 0 < (tubD l i).m ∧ (tubD l i).v ≤ s.left then ⟨s.g.set i (s.g.getD i 0 + 1), s.left - (tubD l i).v, true⟩ else s
def fTurnN (l : List Tub) (s : FSt) : Nat → FSt
  | 0 => ⟨s.g, s.left, false⟩
  | j + 1 => fOne l (fTurnN l s j) j
def fIter (l : List Tub) (want : Int) : Nat → FSt
  | 0 => ⟨List.replicate l.length 0, want, true⟩
  | k + 1 => fTurnN l (fIter l want k) l.length

theorem tubD_at {l : List Tub} {i : Nat} {t : Tub} (h : l[i]? = some t) : tubD l i = t := by simp [tubD, List.getD, h]

structure FInv (l : List Tub) (want : Int) (s : FSt) : Prop where
  len : s.g.length = l.length
  rng : ∀ i, i < l.length → 0 ≤ s.g.getD i 0 ∧ s.g.getD i 0 ≤ (tubD l i).m
  pos : 0 ≤ s.left
  sum : s.left + worthOf l s.g l.length = want

theorem worthOf_set (l : List Tub) (g : List Int) (i : Nat) (x : Int) (hi : i < g.length) (j : Nat) :
    worthOf l (g.set i x) j = worthOf l g j + if i < j then (x - g.getD i 0) * (tubD l i).v else 0 := by
  induction j with
  | zero => simp [worthOf]
  | succ j ih =>
    simp only [worthOf, ih]
    by_cases hij : i = j
    · subst hij
      have e1 : (g.set i x).getD i 0 = x := by simp [List.getD, hi]
      rw [e1, if_neg (by omega), if_pos (by omega), Int.sub_mul]
      simp only [tubD]
      omega
    · have e1 : (g.set i x).getD j 0 = g.getD j 0 := by simp [List.getD, List.getElem?_set_ne hij]
      rw [e1]
      by_cases h : i < j
      · rw [if_pos h, if_pos (by omega)]; omega
      · rw [if_neg h, if_neg (by omega)]; omega

theorem worthOf_rep (l : List Tub) (n j : Nat) : worthOf l (List.replicate n 0) j = 0 := by
  induction j with
  | zero => rfl
  | succ j ih =>
    simp only [worthOf, ih]
    have : (List.replicate n (0 : Int)).getD j 0 = 0 := by
      simp only [List.getD]
      cases h : (List.replicate n (0 : Int))[j]? with
      | none => rfl
      | some y => have := List.mem_of_getElem? h; simp at this; simp [this.2]
    rw [this]; simp

theorem FInv.start (l : List Tub) (want : Int) (h0 : 0 ≤ want) (hm : ∀ t ∈ l, 0 ≤ t.m) : FInv l want (fIter l want 0) := by
  refine ⟨by simp [fIter], fun i hi => ?_, h0, by simp [fIter, worthOf_rep]⟩
  have : (fIter l want 0).g.getD i 0 = 0 := by simp [fIter, List.getD, hi]
  rw [this]
  have h1 := hm l[i] (List.getElem_mem _)
  rw [tubD_at (List.getElem?_eq_getElem hi)]
  omega

theorem FInv.one {l : List Tub} {want : Int} {s : FSt} (h : FInv l want s) (i : Nat) (hi : i < l.length) : FInv l want (fOne l s i) := by
  unfold fOne
  split
  · rename_i hc
    have hl := h.len
    refine ⟨by simp [h.len], fun k hk => ?_, by simp only; omega, ?_⟩
    · by_cases hik : i = k
      · subst hik
        have e1 : (s.g.set i (s.g.getD i 0 + 1)).getD i 0 = s.g.getD i 0 + 1 := by simp [List.getD, show i < s.g.length from by omega]
        have := h.rng i hi
        simp only [e1]; omega
      · have e1 : (s.g.set i (s.g.getD i 0 + 1)).getD k 0 = s.g.getD k 0 := by simp [List.getD, List.getElem?_set_ne hik]
        simp only [e1]; exact h.rng k hk
    · simp only
      rw [worthOf_set l s.g i _ (by omega), if_pos hi]
      have := h.sum
      have e : (s.g.getD i 0 + 1 - s.g.getD i 0) * (tubD l i).v = (tubD l i).v := by
        rw [show s.g.getD i 0 + 1 - s.g.getD i 0 = 1 from by omega, Int.one_mul]
      rw [e]; omega
  · exact h

theorem FInv.turnN {l : List Tub} {want : Int} {s : FSt} (h : FInv l want s) (j : Nat) (hj : j ≤ l.length) : FInv l want (fTurnN l s j) := by
  induction j with
  | zero => exact ⟨h.len, h.rng, h.pos, h.sum⟩
  | succ j ih => exact (ih (by omega)).one j (by omega)

theorem fTurnN_left {l : List Tub} {s : FSt} (hv : ∀ t ∈ l, 1 ≤ t.v) (j : Nat) (hj : j ≤ l.length) :
    (fTurnN l s j).left ≤ s.left ∧ ((fTurnN l s j).more = true → (fTurnN l s j).left < s.left) := by
  induction j with
  | zero => simp [fTurnN]
  | succ j ih =>
    have := ih (by omega)
    have h1 := hv l[j] (List.getElem_mem _)
    have h2 : tubD l j = l[j] := tubD_at (List.getElem?_eq_getElem (by omega))
    simp only [fTurnN]
    unfold fOne
    split
    · rw [h2]; simp only; omega
    · exact this

theorem FInv.iter {l : List Tub} {want : Int} (h : FInv l want (fIter l want 0)) (k : Nat) : FInv l want (fIter l want k) := by
  induction k with
  | zero => exact h
  | succ k ih => exact ih.turnN l.length (Nat.le_refl _)

theorem fIter_left {l : List Tub} {want : Int} (hv : ∀ t ∈ l, 1 ≤ t.v) (k : Nat) : (fIter l want k).left ≤ want := by
  induction k with
  | zero => exact Int.le_refl _
  | succ k ih => exact Int.le_trans (fTurnN_left hv l.length (Nat.le_refl _)).1 ih

/-- Float comes to its end after k turns. -/
def FEnd (l : List Tub) (want : Int) (k : Nat) : Prop := (∀ i, i < k → (fIter l want i).more = true) ∧ (fIter l want k).more = false
theorem FEnd.unique {l : List Tub} {want : Int} {k k' : Nat} (h : FEnd l want k) (h' : FEnd l want k') : k = k' := by
  rcases Nat.lt_trichotomy k k' with h1 | h1 | h1
  · have := h'.1 k h1; rw [h.2] at this; cases this
  · exact h1
  · have := h.1 k' h1; rw [h'.2] at this; cases this

/-- What Float hands back: what must be added. -/
def fSub (l : List Tub) (g : List Int) : Nat → List Int
  | 0 => g
  | j + 1 => (fSub l g j).set j (g.getD j 0 - (tubD l j).c)

theorem fSub_len (l : List Tub) (g : List Int) (j : Nat) : (fSub l g j).length = g.length := by
  induction j with
  | zero => rfl
  | succ j ih => simp [fSub, ih]
theorem fSub_at (l : List Tub) (g : List Int) (j k : Nat) (h : j ≤ k) : (fSub l g j)[k]? = g[k]? := by
  induction j with
  | zero => rfl
  | succ j ih => simp only [fSub]; rw [List.getElem?_set_ne (by omega)]; exact ih (by omega)
theorem fSub_done (l : List Tub) (g : List Int) (j k : Nat) (h : k < j) (hk : k < g.length) : (fSub l g j).getD k 0 = g.getD k 0 - (tubD l k).c := by
  induction j with
  | zero => omega
  | succ j ih =>
    simp only [fSub]
    by_cases hjk : j = k
    · subst hjk; simp [List.getD, fSub_len, hk]
    · have := ih (by omega)
      simp only [List.getD] at *
      rw [List.getElem?_set_ne hjk]
      exact this

end Go.Proofs.Ytoaeflegcfecaaa
