/- The mathematics of CoinsStay: right tubes stay right; settling loses nothing. -/
import Derived.Test.YtoaeflegcfecaaaTubes
import Derived.Test.YtoaeflegcfecaaaCoins
import Derived.Test.YtoaeflegcfecaaaFloat
namespace Go.Proofs.Ytoaeflegcfecaaa
open Go.RowKit

theorem fault_of_right (prev : Option Int) (l : List Tub) (h1 : ∀ t ∈ l, RightT t) (h2 : l.Pairwise (fun a b => a.v < b.v)) (hp : ∀ t ∈ l, ∀ p, prev = some p → p < t.v) : tubFrom prev l = 0 := by
  induction l generalizing prev with
  | nil => rfl
  | cons t r ih =>
    obtain ⟨g1, g2, g3, g4, g5⟩ := h1 t (by simp)
    have hpv : prev.any (fun p => decide (t.v ≤ p)) = false := by
      cases prev with
      | none => rfl
      | some p => have := hp t (by simp) p rfl; simp; omega
    rw [List.pairwise_cons] at h2
    have := ih (some t.v) (fun x hx => h1 x (by simp [hx])) h2.2 (fun x hx p e => by cases e; exact h2.1 x hx)
    simp only [tubFrom]
    rw [show btw t.v 1 10000 = true from btw_true.2 ⟨g1, g2⟩, hpv, show btw t.m 0 1000 = true from btw_true.2 ⟨by omega, g5⟩, show btw t.c 0 t.m = true from btw_true.2 ⟨g3, g4⟩]
    simpa using this

theorem tubFault_right {l : List Tub} (h0 : l.length ≤ 10) (h1 : ∀ t ∈ l, RightT t) (h2 : l.Pairwise (fun a b => a.v < b.v)) : tubFault l = 0 := by
  unfold tubFault
  rw [if_neg (by omega)]
  exact fault_of_right none l h1 h2 (fun t _ p e => by cases e)

theorem nx_rng (L : List Int) (t : Nat) (n : Int) (h : 1 ≤ n) : 0 ≤ nx L t n ∧ nx L t n < n := by
  unfold nx; split <;> exact ⟨belowI_nonneg _ _, belowI_lt _ _ h⟩

theorem rtState_right (L : List Int) (t j : Nat) (h : j ≤ 5) :
    (∀ x ∈ (rtState L t j).2, RightT x ∧ x.v < rtVals.getD j 1000) ∧ (rtState L t j).2.Pairwise (fun a b => a.v < b.v) := by
  induction j with
  | zero => simp [rtState]
  | succ j ih =>
    have ih := ih (by omega)
    have hv : rtVals.getD j 0 < rtVals.getD (j + 1) 1000 ∧ rtVals.getD j 1000 = rtVals.getD j 0 ∧ 1 ≤ rtVals.getD j 0 ∧ rtVals.getD j 0 ≤ 10000 := by
      have : j = 0 ∨ j = 1 ∨ j = 2 ∨ j = 3 ∨ j = 4 := by omega
      rcases this with rfl | rfl | rfl | rfl | rfl <;> decide
    rw [rtState_succ L t j (by omega)]
    generalize rtState L t j = s at *
    generalize rtVals.getD j 0 = v at *
    unfold rtStep
    split
    · exact ⟨fun x hx => ⟨(ih.1 x hx).1, by have := (ih.1 x hx).2; omega⟩, ih.2⟩
    · have hm := rtMost_mem L (s.1 + 1)
      have hc := nx_rng L (s.1 + 1 + 1) (rtMost L (s.1 + 1) + 1) (by omega)
      refine ⟨fun x hx => ?_, ?_⟩
      · simp only [List.mem_append, List.mem_singleton] at hx
        rcases hx with hx | rfl
        · exact ⟨(ih.1 x hx).1, by have := (ih.1 x hx).2; omega⟩
        · exact ⟨⟨by simp only; omega, by simp only; omega, by simp only; omega, by simp only; omega, by simp only; omega⟩, by simp only; omega⟩
      · rw [List.pairwise_append]
        refine ⟨ih.2, by simp, fun a ha b hb => ?_⟩
        simp only [List.mem_singleton] at hb
        subst hb
        have := (ih.1 a ha).2
        simp only; omega

theorem rightTubes_right (L : List Int) (t : Nat) : (rightTubes L t).2.length ≤ 5 ∧ (∀ x ∈ (rightTubes L t).2, RightT x) ∧ (rightTubes L t).2.Pairwise (fun a b => a.v < b.v) ∧ (rightTubes L t).1 ≤ t + 15 := by
  have h1 := rtState_right L t 5 (by omega)
  have h2 := rtState_bound L t 5 (by omega)
  exact ⟨by unfold rightTubes; omega, fun x hx => (h1.1 x hx).1, h1.2, by unfold rightTubes; omega⟩

theorem rightTubes_fault (L : List Int) (t : Nat) : tubFault (rightTubes L t).2 = 0 := by
  obtain ⟨h1, h2, h3, _⟩ := rightTubes_right L t
  exact tubFault_right (by omega) h2 h3

theorem totalOf_set (l : List Tub) (j : Nat) (t t' : Tub) (h : l[j]? = some t) : totalOf (l.set j t') = totalOf l - t.v * t.c + t'.v * t'.c := by
  induction l generalizing j with
  | nil => simp at h
  | cons a l ih =>
    cases j with
    | zero => simp at h; subst h; simp [totalOf]; omega
    | succ j =>
      have := ih j (by simpa using h)
      simp only [totalOf, List.set_cons_succ, List.map_cons, List.sum_cons] at *
      omega

theorem settle_sum (l : List Tub) (add : List Int) (j : Nat) (hj : j ≤ l.length) (ha : l.length = add.length) :
    totalOf (setT l add j) + overT l add j = totalOf l + worthOf l add j := by
  induction j with
  | zero => simp [setT, overT, worthOf]
  | succ j ih =>
    have ih := ih (by omega)
    have hl : l[j]? = some l[j] := List.getElem?_eq_getElem (by omega)
    have hx : add[j]? = some add[j] := List.getElem?_eq_getElem (by omega)
    have hs : (setT l add j)[j]? = some l[j] := by rw [setT_at l add j j (Nat.le_refl _)]; exact hl
    have e1 : l.getD j ⟨0, 0, 0⟩ = l[j] := by simp [List.getD, hl]
    have e2 : add.getD j 0 = add[j] := by simp [List.getD, hx]
    simp only [setT, overT, worthOf, e1, e2]
    rw [totalOf_set _ _ _ _ hs]
    simp only [setOne, overOne]
    generalize l[j] = t at *
    generalize add[j] = x at *
    generalize min x (t.m - t.c) = q at *
    have h1 : t.v * (t.c + q) = t.v * t.c + t.v * q := Int.mul_add _ _ _
    have h2 : (x - q) * t.v = x * t.v - q * t.v := Int.sub_mul _ _ _
    have h3 : t.v * q = q * t.v := Int.mul_comm _ _
    omega

theorem setT_right (l : List Tub) (add : List Int) (hr : ∀ t ∈ l, RightT t) (ha : ∀ x ∈ add, 0 ≤ x) (j : Nat) (hj : j ≤ l.length) (hla : l.length = add.length) :
    (∀ t ∈ setT l add j, RightT t) ∧ (setT l add j).map (·.v) = l.map (·.v) := by
  induction j with
  | zero => exact ⟨hr, rfl⟩
  | succ j ih =>
    have ih := ih (by omega)
    have hl : l[j]? = some l[j] := List.getElem?_eq_getElem (by omega)
    have hx : add[j]? = some add[j] := List.getElem?_eq_getElem (by omega)
    have hs : (setT l add j)[j]? = some l[j] := by rw [setT_at l add j j (Nat.le_refl _)]; exact hl
    have e1 : l.getD j ⟨0, 0, 0⟩ = l[j] := by simp [List.getD, hl]
    have e2 : add.getD j 0 = add[j] := by simp [List.getD, hx]
    obtain ⟨r1, r2, r3, r4, r5⟩ := hr l[j] (List.getElem_mem _)
    have hx0 := ha add[j] (List.getElem_mem _)
    simp only [setT, e1, e2]
    generalize l[j] = t at *
    generalize add[j] = x at *
    refine ⟨fun y hy => ?_, ?_⟩
    · rcases List.mem_or_eq_of_mem_set hy with hy | rfl
      · exact ih.1 y hy
      · exact ⟨r1, r2, by simp only [setOne]; omega, by simp only [setOne]; omega, r5⟩
    · rw [List.map_set, ← ih.2]
      have hjl := (List.getElem?_eq_some_iff.1 hs).1
      have hm : ((setT l add j).map (·.v))[j]? = some t.v := by simp [hs]
      apply List.ext_getElem?
      intro i
      by_cases hij : j = i
      · subst hij
        rw [List.getElem?_set_self (by simpa using hjl), hm]
        rfl
      · rw [List.getElem?_set_ne hij]

theorem setT_fault (l : List Tub) (add : List Int) (h0 : tubFault l = 0) (ha : ∀ x ∈ add, 0 ≤ x) (hla : l.length = add.length) (j : Nat) (hj : j ≤ l.length) : tubFault (setT l add j) = 0 := by
  obtain ⟨g1, g2, g3⟩ := right_of h0
  obtain ⟨h1, h2⟩ := setT_right l add g2 ha j hj hla
  refine tubFault_right (by rw [setT_len]; exact g1) h1 ?_
  have : (l.map (·.v)).Pairwise (· < ·) := by rw [List.pairwise_map]; exact g3
  rw [← h2, List.pairwise_map] at this
  exact this

end Go.Proofs.Ytoaeflegcfecaaa
