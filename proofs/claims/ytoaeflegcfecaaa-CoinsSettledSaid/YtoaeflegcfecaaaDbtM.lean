/- Pairs in order: what sorting and compacting makes of the doubts. -/
import Derived.Lib.SlicesCompact
import Derived.Sort.Statements
namespace Go.Proofs.Ytoaeflegcfecaaa
open Go.Sort

/-- Pairs in lexical order. -/
def lx (x y : Int × Int) : Prop := x.1 < y.1 ∨ (x.1 = y.1 ∧ x.2 < y.2)
instance (x y : Int × Int) : Decidable (lx x y) := by unfold lx; infer_instance
theorem lx_trans {x y z : Int × Int} (h1 : lx x y) (h2 : lx y z) : lx x z := by unfold lx at *; omega
theorem lx_tot {x y : Int × Int} (h1 : ¬ lx x y) (h2 : ¬ lx y x) : x = y := by
  unfold lx at *
  exact Prod.ext (by omega) (by omega)
theorem lx_ntrans {x y z : Int × Int} (h1 : ¬ lx y x) (h2 : ¬ lx z y) : ¬ lx z x := by unfold lx at *; omega
theorem lx_or (x y : Int × Int) : ¬ lx y x ∨ ¬ lx x y := by unfold lx; omega
theorem lx_irr (x : Int × Int) : ¬ lx x x := by unfold lx; omega

/-- The pairs of P and V for which F holds. -/
def prL (F : Int → Int → Bool) (P V : List Int) : List (Int × Int) := P.flatMap fun p => V.flatMap fun v => if F p v then [(p, v)] else []
theorem prL_mem (F : Int → Int → Bool) (P V : List Int) (x : Int × Int) : x ∈ prL F P V ↔ x.1 ∈ P ∧ x.2 ∈ V ∧ F x.1 x.2 = true := by
  unfold prL
  rw [List.mem_flatMap]
  constructor
  · rintro ⟨p, hp, h⟩
    obtain ⟨v, hv, h⟩ := List.mem_flatMap.1 h
    split at h
    · rw [List.mem_singleton] at h; subst h; exact ⟨hp, hv, by assumption⟩
    · simp at h
  · rintro ⟨hp, hv, h⟩
    exact ⟨x.1, hp, List.mem_flatMap.2 ⟨x.2, hv, by rw [if_pos h]; simp⟩⟩

theorem prV_sorted (F : Int → Int → Bool) (p : Int) : ∀ V : List Int, V.Pairwise (· < ·) → (V.flatMap fun v => if F p v then [(p, v)] else []).Pairwise lx
  | [], _ => by simp
  | v :: V, h => by
    obtain ⟨h1, h2⟩ := List.pairwise_cons.1 h
    rw [List.flatMap_cons]
    refine List.pairwise_append.2 ⟨by split <;> simp, prV_sorted F p V h2, ?_⟩
    intro a ha b hb
    split at ha
    · rw [List.mem_singleton] at ha; subst ha
      obtain ⟨u, hu, hb⟩ := List.mem_flatMap.1 hb
      split at hb
      · rw [List.mem_singleton] at hb; subst hb
        exact .inr ⟨rfl, h1 u hu⟩
      · simp at hb
    · simp at ha
theorem prL_sorted (F : Int → Int → Bool) (V : List Int) (hV : V.Pairwise (· < ·)) : ∀ P : List Int, P.Pairwise (· < ·) → (prL F P V).Pairwise lx
  | [], _ => by simp [prL]
  | p :: P, h => by
    obtain ⟨h1, h2⟩ := List.pairwise_cons.1 h
    rw [show prL F (p :: P) V = (V.flatMap fun v => if F p v then [(p, v)] else []) ++ prL F P V from rfl]
    refine List.pairwise_append.2 ⟨prV_sorted F p V hV, prL_sorted F V hV P h2, ?_⟩
    intro a ha b hb
    obtain ⟨hb1, _, _⟩ := (prL_mem F P V b).1 hb
    obtain ⟨v, hv, ha⟩ := List.mem_flatMap.1 ha
    split at ha
    · rw [List.mem_singleton] at ha; subst ha
      exact .inl (h1 _ hb1)
    · simp at ha

/-- Two rows in strict order that have the same members are the same. -/
theorem lx_unique : ∀ A B : List (Int × Int), A.Pairwise lx → B.Pairwise lx → (∀ x, x ∈ A ↔ x ∈ B) → A = B
  | [], [], _, _, _ => rfl
  | [], b :: B, _, _, h => by have := (h b).2 (by simp); simp at this
  | a :: A, [], _, _, h => by have := (h a).1 (by simp); simp at this
  | a :: A, b :: B, hA, hB, h => by
    obtain ⟨a1, a2⟩ := List.pairwise_cons.1 hA
    obtain ⟨b1, b2⟩ := List.pairwise_cons.1 hB
    have e : a = b := by
      have h1 := (h a).1 (by simp)
      have h2 := (h b).2 (by simp)
      rcases List.mem_cons.1 h1 with h1 | h1
      · exact h1
      rcases List.mem_cons.1 h2 with h2 | h2
      · exact h2.symm
      exact absurd (lx_trans (b1 a h1) (a1 b h2)) (lx_irr _)
    subst e
    rw [lx_unique A B a2 b2 fun x => ?_]
    constructor
    · intro hx
      rcases List.mem_cons.1 ((h x).1 (by simp [hx])) with e | e
      · subst e; exact absurd (a1 x hx) (lx_irr _)
      · exact e
    · intro hx
      rcases List.mem_cons.1 ((h x).2 (by simp [hx])) with e | e
      · subst e; exact absurd (b1 x hx) (lx_irr _)
      · exact e

theorem cmpP_sorted (zs : List (Int × Int)) (hs : zs.Pairwise fun x y => ¬ lx y x) (m : Nat) (hm : m ≤ zs.length) :
    (Go.Lib.compactUpTo zs.toArray m).Pairwise lx ∧ ∀ x, x ∈ Go.Lib.compactUpTo zs.toArray m ↔ ∃ j, j < m ∧ zs.toArray[j]! = x := by
  have hget : ∀ j (hj : j < zs.length), (zs.toArray)[j]! = zs[j] := by
    intro j hj
    rw [getElem!_pos _ j (by simpa using hj)]
    simp
  have hle : ∀ i j, i ≤ j → j < zs.length → ¬ lx zs.toArray[j]! zs.toArray[i]! := by
    intro i j hij hj
    by_cases e : i = j
    · subst e; exact lx_irr _
    · rw [hget i (by omega), hget j hj]
      exact List.pairwise_iff_getElem.1 hs i j (by omega) hj (by omega)
  induction m with
  | zero => exact ⟨by simp [Go.Lib.compactUpTo], fun x => by simp [Go.Lib.compactUpTo]⟩
  | succ m ih =>
    obtain ⟨h1, h2⟩ := ih (by omega)
    rw [Go.Lib.compactUpTo_succ]
    by_cases hk : Go.Lib.keeps zs.toArray m = true
    · rw [if_pos hk]
      have hkk : m = 0 ∨ zs.toArray[m]! ≠ zs.toArray[m - 1]! := of_decide_eq_true hk
      refine ⟨List.pairwise_append.2 ⟨h1, by simp, fun a ha b hb => ?_⟩, fun x => ?_⟩
      · rw [List.mem_singleton] at hb
        subst hb
        obtain ⟨j, hj, rfl⟩ := (h2 a).1 ha
        rcases hkk with h | h
        · omega
        · have a1 := hle j (m - 1) (by omega) (by omega)
          have a2 := hle (m - 1) m (by omega) (by omega)
          have a3 : ¬ (zs.toArray[m]!.1 = zs.toArray[m - 1]!.1 ∧ zs.toArray[m]!.2 = zs.toArray[m - 1]!.2) := fun e => h (Prod.ext e.1 e.2)
          unfold lx at *; omega
      · rw [List.mem_append, h2, List.mem_singleton]
        constructor
        · rintro (⟨j, h3, h4⟩ | h3)
          · exact ⟨j, by omega, h4⟩
          · exact ⟨m, by omega, h3.symm⟩
        · rintro ⟨j, h3, h4⟩
          by_cases e : j = m
          · subst e; exact .inr h4.symm
          · exact .inl ⟨j, by omega, h4⟩
    · rw [if_neg hk, List.append_nil]
      have hkk : 0 < m ∧ zs.toArray[m]! = zs.toArray[m - 1]! := by
        have h : ¬ (m = 0 ∨ zs.toArray[m]! ≠ zs.toArray[m - 1]!) := fun h => hk (decide_eq_true h)
        refine ⟨by omega, ?_⟩
        exact Decidable.byContradiction fun e => h (.inr e)
      refine ⟨h1, fun x => ?_⟩
      rw [h2]
      constructor
      · rintro ⟨j, h3, h4⟩; exact ⟨j, by omega, h4⟩
      · rintro ⟨j, h3, h4⟩
        by_cases e : j = m
        · subst e; exact ⟨j - 1, by omega, by rw [← hkk.2]; exact h4⟩
        · exact ⟨j, by omega, h4⟩

/-- The order of the comparison of doubts. -/
def lxc (x y : Int × Int) : Int := if x.1 < y.1 then -1 else if y.1 < x.1 then 1 else if x.2 < y.2 then -1 else if y.2 < x.2 then 1 else 0
theorem lxc_lt (x y : Int × Int) : decide (lxc x y < 0) = decide (lx x y) := by
  unfold lxc lx
  by_cases h1 : x.1 < y.1 <;> by_cases h2 : y.1 < x.1 <;> by_cases h3 : x.2 < y.2 <;> by_cases h4 : y.2 < x.2 <;> simp [h1, h2, h3, h4] <;> omega

theorem pr_compact (F : Int → Int → Bool) (P V P' V' : List Int) (hP : P'.Pairwise (· < ·)) (hV : V'.Pairwise (· < ·)) (mP : ∀ x, x ∈ P' ↔ x ∈ P) (mV : ∀ x, x ∈ V' ↔ x ∈ V) :
    Go.Lib.compact ((prL F P V).mergeSort fun x y => !decide (lx y x)) = prL F P' V' := by
  have hs : ((prL F P V).mergeSort fun x y => !decide (lx y x)).Pairwise fun x y => ¬ lx y x := by
    have h := List.pairwise_mergeSort (le := fun x y : Int × Int => !decide (lx y x)) (fun a b c h1 h2 => by simp only [Bool.not_eq_true', decide_eq_false_iff_not] at *; exact lx_ntrans h1 h2) (fun a b => by simp only [Bool.or_eq_true, Bool.not_eq_true', decide_eq_false_iff_not]; exact lx_or a b) (prL F P V)
    exact h.imp fun h => by simpa using h
  obtain ⟨h1, h2⟩ := cmpP_sorted _ hs _ (Nat.le_refl _)
  refine lx_unique _ _ h1 (prL_sorted F V' hV P' hP) fun x => ?_
  have hperm := (List.mergeSort_perm (prL F P V) (fun x y => !decide (lx y x))).mem_iff (a := x)
  rw [show Go.Lib.compact ((prL F P V).mergeSort fun x y => !decide (lx y x)) = Go.Lib.compactUpTo ((prL F P V).mergeSort fun x y => !decide (lx y x)).toArray ((prL F P V).mergeSort fun x y => !decide (lx y x)).length from rfl, h2, prL_mem, mP, mV, ← prL_mem F P V x, ← hperm]
  generalize ((prL F P V).mergeSort fun x y => !decide (lx y x)) = zs at *
  constructor
  · rintro ⟨j, h3, h4⟩
    rw [← h4, getElem!_pos _ j (by simpa using h3)]
    simp
  · intro h
    obtain ⟨j, h3, h4⟩ := List.getElem_of_mem h
    exact ⟨j, h3, by rw [getElem!_pos _ j (by simpa using h3)]; simpa using h4⟩

end Go.Proofs.Ytoaeflegcfecaaa
