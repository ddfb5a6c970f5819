/- The insertion sort of the library leaves numbers that rose before, where their keys are equal, in their order. -/
import Derived.Sort.LotA
import Derived.Test.YtoneebofjbnjpaaDoorMem
namespace Go.Proofs.YtoneebofjbnjpaaDoor
open Go.Sort
variable {m : Nat}

def ltA (f : Fin (m + 1) → Int) (x y : Fin (m + 1)) : Bool := decide (f x < f y)
def LexR (f : Fin (m + 1) → Int) (x y : Fin (m + 1)) : Prop := f x < f y ∨ (f x = f y ∧ x < y)
instance (f : Fin (m + 1) → Int) (x y : Fin (m + 1)) : Decidable (LexR f x y) := by unfold LexR; infer_instance
def ltB (f : Fin (m + 1) → Int) (x y : Fin (m + 1)) : Bool := decide (LexR f x y)
theorem ltB_swo (f : Fin (m + 1) → Int) : SWO (ltB f) where
  irrefl x := by simp [ltB, LexR]
  trans x y z h1 h2 := by simp only [ltB, LexR, decide_eq_true_eq, Fin.lt_def] at *; omega
  ntrans x y z h1 h2 := by simp only [ltB, LexR, decide_eq_false_iff_not, Fin.lt_def] at *; omega

theorem swp_at (d : Array (Fin (m + 1))) {j : Nat} (hj : j + 1 < d.size) (k : Nat) : (swp d (j + 1) j)[k]! = if k = j + 1 then d[j]! else if k = j then d[j + 1]! else d[k]! := by
  rw [swp_get d hj (by omega)]
  by_cases h1 : k = j
  · subst h1; simp
  · by_cases h2 : k = j + 1 <;> simp [h1, h2]

theorem inner_same (f : Fin (m + 1) → Int) (a : Nat) : ∀ (j : Nat) (d : Array (Fin (m + 1))), j < d.size → (∀ p, p < j → d[p]! < d[j]!) → insInner (ltA f) a j d = insInner (ltB f) a j d
  | 0, d, _, _ => rfl
  | j + 1, d, hj, h => by
    have e : ltA f d[j + 1]! d[j]! = ltB f d[j + 1]! d[j]! := by
      have h1 := h j (by omega)
      unfold ltA ltB LexR
      congr 1
      apply propext
      constructor
      · intro h; exact .inl h
      · rintro (h | ⟨_, h⟩)
        · exact h
        · exact absurd h (by rw [Fin.lt_def] at *; omega)
    unfold insInner
    rw [e]
    split
    · refine inner_same f a j _ (by rw [swp_size]; omega) (fun p hp => ?_)
      rw [swp_at d hj, swp_at d hj, if_neg (by omega), if_neg (by omega), if_neg (by omega), if_pos rfl]
      exact h p (by omega)
    · rfl

def Rising (i : Nat) (d : Array (Fin (m + 1))) : Prop := ∀ p q, p < q → i ≤ q → q < d.size → d[p]! < d[q]!
theorem inner_size (lt : Fin (m + 1) → Fin (m + 1) → Bool) (a : Nat) : ∀ (j : Nat) (d : Array (Fin (m + 1))), (insInner lt a j d).size = d.size
  | 0, d => rfl
  | j + 1, d => by
    unfold insInner
    split
    · rw [inner_size lt a j, swp_size]
    · rfl
theorem inner_rising (lt : Fin (m + 1) → Fin (m + 1) → Bool) (a i : Nat) : ∀ (j : Nat) (d : Array (Fin (m + 1))), j ≤ i → j < d.size → Rising (i + 1) d → Rising (i + 1) (insInner lt a j d)
  | 0, d, _, _, h => h
  | j + 1, d, hji, hj, h => by
    unfold insInner
    split
    · refine inner_rising lt a i j _ (by omega) (by rw [swp_size]; omega) (fun p q hpq hq hs => ?_)
      rw [swp_size] at hs
      rw [swp_at d hj, swp_at d hj, if_neg (by omega : q ≠ j + 1), if_neg (by omega : q ≠ j)]
      by_cases h1 : p = j + 1
      · rw [if_pos h1]; exact h j q (by omega) hq hs
      · rw [if_neg h1]
        by_cases h2 : p = j
        · rw [if_pos h2]; exact h (j + 1) q (by omega) hq hs
        · rw [if_neg h2]; exact h p q hpq hq hs
    · exact h
theorem outer_same (f : Fin (m + 1) → Int) (a b : Nat) : ∀ (n i : Nat) (d : Array (Fin (m + 1))), b - i = n → b ≤ d.size → Rising i d → insOuter (ltA f) a b i d = insOuter (ltB f) a b i d
  | 0, i, d, hn, hb, h => by
    unfold insOuter
    rw [if_neg (by omega), if_neg (by omega)]
  | n + 1, i, d, hn, hb, h => by
    unfold insOuter
    rw [if_pos (by omega), if_pos (by omega), inner_same f a i d (by omega) (fun p hp => h p i hp (Nat.le_refl _) (by omega))]
    refine outer_same f a b n (i + 1) _ (by omega) (by rw [inner_size]; exact hb) ?_
    exact inner_rising _ a i i d (Nat.le_refl _) (by omega) (fun p q hpq hq hs => h p q hpq (by omega) hs)

/-- What the sort leaves: the same numbers, by their keys, then as they were. -/
theorem stable_sort (f : Fin (m + 1) → Int) (d : Array (Fin (m + 1))) (hd : d.toList.Pairwise (· < ·)) :
    (insertionSort (ltA f) d 0 d.size).toList.Perm d.toList ∧ (insertionSort (ltA f) d 0 d.size).toList.Pairwise (LexR f) := by
  have hR : Rising 0 d := by
    intro p q hpq _ hq
    have := List.pairwise_iff_getElem.1 hd p q (by simpa using Nat.lt_trans hpq hq) (by simpa using hq) hpq
    rw [getElem!_pos d p (by omega), getElem!_pos d q hq]
    simpa using this
  have e : insertionSort (ltA f) d 0 d.size = insertionSort (ltB f) d 0 d.size := by
    unfold insertionSort
    exact outer_same f 0 d.size _ _ d rfl (Nat.le_refl _) (fun p q hpq hq hs => hR p q hpq (Nat.zero_le _) hs)
  rw [e]
  obtain ⟨h1, h2⟩ := insertionSort_holds (lt := ltB f) (ltB_swo f) d 0 d.size (Nat.zero_le _) (Nat.le_refl _)
  obtain ⟨hs, _, hp⟩ := h1
  generalize insertionSort (ltB f) d 0 d.size = d' at *
  have e1 : d'.extract 0 d.size = d' := by rw [← hs]; simp
  have e2 : d.extract 0 d.size = d := by simp
  rw [e1, e2] at hp
  have hperm : d'.toList.Perm d.toList := by simpa using hp
  refine ⟨hperm, ?_⟩
  have hnd : d'.toList.Nodup := (hperm.nodup_iff).2 (hd.imp (fun h => by rintro rfl; exact absurd h (by simp)))
  rw [List.pairwise_iff_getElem]
  intro i j hi hj hij
  have hj' : j < d'.size := by simpa using hj
  have hi' : i < d'.size := by simpa using hi
  have h3 := h2 i j (Nat.zero_le _) hij (by omega)
  rw [getElem!_pos d' i hi', getElem!_pos d' j hj'] at h3
  have hne : d'.toList[i] ≠ d'.toList[j] := by
    have := List.pairwise_iff_getElem.1 hnd i j hi hj hij
    exact this
  rw [Array.getElem_toList, Array.getElem_toList] at *
  simp only [ltB, LexR, decide_eq_false_iff_not, Fin.lt_def, ne_eq, Fin.ext_iff] at *
  omega

/-- Two lists in one order, with the same members, are the same list. -/
theorem sorted_ext {α : Type} {R : α → α → Prop} (hA : ∀ x y, R x y → ¬ R y x) : ∀ (l1 l2 : List α), l1.Pairwise R → l2.Pairwise R → (∀ x, x ∈ l1 ↔ x ∈ l2) → l1 = l2
  | [], [], _, _, _ => rfl
  | [], b :: l, _, _, h => absurd ((h b).2 (by simp)) (by simp)
  | a :: l, [], _, _, h => absurd ((h a).1 (by simp)) (by simp)
  | a :: l1, b :: l2, h1, h2, h => by
    rw [List.pairwise_cons] at h1 h2
    have e : a = b := by
      rcases List.mem_cons.1 ((h a).1 (by simp)) with e | ha
      · exact e
      · rcases List.mem_cons.1 ((h b).2 (by simp)) with e | hb
        · exact e.symm
        · exact absurd (h1.1 b hb) (hA _ _ (h2.1 a ha))
    subst e
    have hI : ∀ x, ¬ R x x := fun x hx => hA x x hx hx
    rw [sorted_ext hA l1 l2 h1.2 h2.2 (fun x => ⟨fun hx => ?_, fun hx => ?_⟩)]
    · rcases List.mem_cons.1 ((h x).1 (List.mem_cons_of_mem _ hx)) with e | hx'
      · exact absurd (h1.1 x hx) (e ▸ hI _)
      · exact hx'
    · rcases List.mem_cons.1 ((h x).2 (List.mem_cons_of_mem _ hx)) with e | hx'
      · exact absurd (h2.1 x hx) (e ▸ hI _)
      · exact hx'

end Go.Proofs.YtoneebofjbnjpaaDoor
