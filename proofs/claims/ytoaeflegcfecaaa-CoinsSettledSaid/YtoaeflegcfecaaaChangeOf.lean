/- The walk of the reference's ChangeOf. -/
import Derived.Test.YtoaeflegcfecaaaChange
import Derived.Test.YtoaeflegcfecaaaGreedyOf
namespace Go.Proofs.Ytoaeflegcfecaaa
open Go.RowKit

/-- The reference's number for "never". -/
def nb (x : Int) : Int := if x = 20001 then 1099511627776 else x
def upP (base : Nat → Int) (v : Nat) : Nat → Nat → Int
  | 0, _ => 20001
  | m + 1, a => up base v m a

theorem bestR_le (r : List Tub) (hr : ∀ t ∈ r, RightT t) (a : Nat) (h : bestR r a ≠ 20001) : bestR r a ≤ a := by
  induction r generalizing a with
  | nil =>
    simp only [bestR] at h ⊢
    split
    · omega
    · rename_i hh; rw [if_neg hh] at h; exact absurd rfl h
  | cons t r ih =>
    obtain ⟨r1, r2, r3, r4, r5⟩ := hr t (by simp)
    obtain ⟨k, h1, h2, h3⟩ := up_ex (bestR r) t.v.toNat t.c.toNat a
    have hb := bestR_bound r (a - k * t.v.toNat)
    have hb2 := bestR_bound (t :: r) a
    simp only [bestR] at h hb2 ⊢
    have hkv : k ≤ k * t.v.toNat := Nat.le_mul_of_pos_right k (by omega)
    by_cases hn : bestR r (a - k * t.v.toNat) = 20001
    · omega
    · have := ih (fun x hx => hr x (by simp [hx])) _ hn
      omega
theorem rowF_le (l : List Tub) (hr : ∀ t ∈ l, RightT t) (i a : Nat) (h : rowF l i a ≠ 20001) : rowF l i a ≤ a :=
  bestR_le _ (fun t ht => hr t (List.mem_of_mem_take (List.mem_reverse.1 ht))) a h

theorem nb_step (base : Nat → Int) (hb : ∀ b, 0 ≤ base b ∧ base b ≤ 20001) (hl : ∀ b, base b ≠ 20001 → base b ≤ b) (v n a : Nat) (hv : 1 ≤ v) (ha : a ≤ 20000) (hn : n * v ≤ a) :
    nb (upP base v (n + 1) a) = min (nb (upP base v n a)) (n + nb (base (a - n * v))) := by
  have hx : 0 ≤ upP base v n a ∧ upP base v n a ≤ 20001 := by
    cases n with
    | zero => exact ⟨by simp [upP], by simp [upP]⟩
    | succ n => exact up_bound _ _ _ _ hb
  have hu : upP base v (n + 1) a = min (upP base v n a) (base (a - n * v) + n) := by
    show up base v n a = _
    cases n with
    | zero =>
      have := hb a
      simp only [up, upP]
      have e : a - 0 * v = a := by omega
      rw [e]; omega
    | succ n =>
      simp only [up, upP]
      rw [if_pos hn]
  rw [hu]
  have hy := hb (a - n * v)
  have hy2 := hl (a - n * v)
  have hnv : n ≤ n * v := Nat.le_mul_of_pos_right n (by omega)
  generalize upP base v n a = x at *
  generalize base (a - n * v) = y at *
  unfold nb
  by_cases h1 : y = 20001
  · subst h1
    rw [if_pos rfl, show min x (20001 + (n : Int)) = x from by omega]
    split <;> omega
  · have := hy2 h1
    rw [if_neg h1]
    by_cases h2 : x = 20001
    · subst h2
      rw [if_pos rfl, if_neg (by omega)]; omega
    · rw [if_neg h2, if_neg (by omega)]; omega
theorem nb_rng {x : Int} (h : 0 ≤ x ∧ x ≤ 20001) : 0 ≤ nb x ∧ nb x ≤ 1099511627776 := by unfold nb; split <;> omega

/-- Rows of numbers so far. -/
def RowsG (w : World) (base : Nat) (G : Nat → Nat → Int) (N m : Nat) (vals : List Value) : Prop :=
  vals.length = m ∧ ∀ i, i < m → ∃ g c, vals[i]? = some (.slice (some ⟨g, 0, none⟩) N c) ∧ w.ownsRow base 3 1 (.slice (some ⟨g, 0, none⟩) N c) N (ints (fl N (G i)))
theorem RowsG.kept {w w' : World} {base N m : Nat} {G : Nat → Nat → Int} {vals : List Value} (h : RowsG w base G N m vals) (hg : w.grownBy w' none) : RowsG w' base G N m vals :=
  ⟨h.1, fun i hi => by obtain ⟨g, c, h1, h2⟩ := h.2 i hi; exact ⟨g, c, h1, h2.kept hg (.inr (by simp [Value.ownBlock]))⟩⟩
theorem RowsG.snoc {w : World} {base N m : Nat} {G : Nat → Nat → Int} {vals : List Value} (h : RowsG w base G N m vals) {g c : Nat} (hr : w.ownsRow base 3 1 (.slice (some ⟨g, 0, none⟩) N c) N (ints (fl N (G m)))) :
    RowsG w base G N (m + 1) (vals ++ [.slice (some ⟨g, 0, none⟩) N c]) := by
  refine ⟨by simp [h.1], fun i hi => ?_⟩
  by_cases e : i = m
  · subst e; exact ⟨g, c, by simp [← h.1], hr⟩
  · obtain ⟨g', c', h1, h2⟩ := h.2 i (by omega)
    exact ⟨g', c', by rw [List.getElem?_append_left (by rw [h.1]; omega)]; exact h1, h2⟩
theorem RowsG.kept_row {w w' : World} {base N m b n : Nat} {G : Nat → Nat → Int} {vals xs : List Value} {v : Value} (h : RowsG w base G N m vals) (hr : w.ownsRow b 22 1 v n xs) (hg : w.grownBy w' v.ownBlock) : RowsG w' base G N m vals :=
  ⟨h.1, fun i hi => by obtain ⟨g, c, h1, h2⟩ := h.2 i hi; exact ⟨g, c, h1, h2.kept hg (own_type h2 hr (by decide))⟩⟩
theorem RowsG.cells {w : World} {base N m gr capr : Nat} {G : Nat → Nat → Int} {vals : List Value} (hok : RowsG w base G N m vals) (hrow : w.ownsRow base 22 1 (.slice (some ⟨gr, 0, none⟩) m capr) m vals) {i : Nat} (hi : i < m) :
    ∃ g c, w.cell? ⟨gr, i, none⟩ = some (.slice (some ⟨g, 0, none⟩) N c) ∧ g < w.heap.size ∧ base ≤ g ∧ g ≠ gr ∧ ∀ b, b < N → w.cell? ⟨g, b, none⟩ = some (.int .i64 (G i b)) := by
  obtain ⟨g, c, hv, ho⟩ := hok.2 i hi
  have cR := hrow.cellAt i (by omega)
  rw [hv] at cR
  have l2 := ho.lt g rfl
  refine ⟨g, c, cR, l2.2, l2.1, ?_, fun b hb => ?_⟩
  · rcases own_type ho hrow (by decide) with h | h
    · simp [Value.ownBlock] at h
    · simpa [Value.ownBlock] using h
  · have cI := own_int ho hb
    rw [fl_getD _ hb] at cI
    exact cI

/-- A row, filled below a, with cur at a. -/
def fillF (F : Nat → Int) (a : Nat) (cur : Int) (b : Nat) : Int := if b < a then F b else if b = a then cur else 0
theorem fill_set (N : Nat) (F : Nat → Int) (a : Nat) (cur x : Int) : (fl N (fillF F a cur)).set a x = fl N (fillF F a x) := by
  rw [fl_set]
  refine fl_congr fun b _ => ?_
  unfold fillF
  by_cases e : b = a
  · subst e; rw [if_pos rfl, if_neg (by omega), if_pos rfl]
  · rw [if_neg e]; simp [e]
theorem fill_next (N : Nat) (F : Nat → Int) (a : Nat) : fl N (fillF F a (F a)) = fl N (fillF F (a + 1) 0) := by
  refine fl_congr fun b _ => ?_
  unfold fillF
  by_cases e : b = a
  · subst e; rw [if_neg (by omega), if_pos rfl, if_pos (by omega)]
  · by_cases h : b < a
    · rw [if_pos h, if_pos (by omega)]
    · rw [if_neg h, if_neg e, if_neg (by omega)]; split <;> rfl
theorem fill_zero (N : Nat) (F : Nat → Int) : ints (fl N (fillF F 0 0)) = List.replicate N (.int .i64 0) := by
  rw [← first_ints, fl_congr (g := firstF 1)]
  intro b _
  unfold fillF firstF
  rw [if_neg (by omega)]
  split
  · rfl
  · rw [if_neg (by omega)]
theorem fill_done (N : Nat) (F : Nat → Int) : fl N (fillF F N 0) = fl N F := fl_congr fun b hb => by unfold fillF; rw [if_pos hb]

/-- The reference's rows. -/
def needF (l : List Tub) (i a : Nat) : Int := nb (rowF l i a)

theorem nb_eq {x y : Int} {k : Nat} (hy : 0 ≤ y ∧ y ≤ 20000) : ((k : Int) + nb x = nb y) ↔ (x + k = y) := by
  unfold nb
  rw [if_neg (show ¬ y = 20001 by omega)]
  split <;> omega

theorem sumTo_nonneg (g : List Int) (n : Nat) (h : ∀ i, i < n → 0 ≤ g.getD i 0) (j : Nat) (hj : j ≤ n) : 0 ≤ sumTo g j := by
  induction j with
  | zero => exact Int.le_refl _
  | succ j ih => have := h j (by omega); have := ih (by omega); simp only [sumTo]; omega

/-- In the descent, what is left can be paid. -/
theorem pay_can (l : List Tub) (a : Nat) (hr : ∀ t ∈ l, RightT t) (hp : rowF l l.length a ≠ 20001) (j : Nat) (hj : j ≤ l.length) :
    rowF l j (payRun l.length a ((backAll l).take (l.length - j))).2 ≤ 20000 := by
  obtain ⟨hd, hs⟩ := pay_down l a hr (l.length - j) j (by omega)
  have h0 := sumTo_nonneg _ l.length (fun i hi => (hd.rng i hi).1) l.length (Nat.le_refl _)
  have hb := rowF_bound l l.length a
  omega

end Go.Proofs.Ytoaeflegcfecaaa
