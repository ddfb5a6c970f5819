/- The mathematics of exact change: the fewest coins, by rolls and by tubes. -/
import Derived.Test.YtoaeflegcfecaaaFloatP
namespace Go.Proofs.Ytoaeflegcfecaaa
open Go.RowKit

/-- A row of N numbers, by a function. -/
def fl (N : Nat) (f : Nat → Int) : List Int := (List.range N).map f
theorem fl_len (N : Nat) (f : Nat → Int) : (fl N f).length = N := by simp [fl]
theorem fl_getD {N a : Nat} (f : Nat → Int) (h : a < N) : (fl N f).getD a 0 = f a := by simp [fl, List.getD, h]
theorem fl_at {N a : Nat} (f : Nat → Int) (h : a < N) : (fl N f)[a]? = some (f a) := by simp [fl, h]
theorem fl_congr {N : Nat} {f g : Nat → Int} (h : ∀ a, a < N → f a = g a) : fl N f = fl N g := by
  unfold fl; exact List.map_congr_left fun a ha => h a (List.mem_range.1 ha)
theorem fl_set (N : Nat) (f : Nat → Int) (j : Nat) (x : Int) : (fl N f).set j x = fl N (fun a => if a = j then x else f a) := by
  apply List.ext_getElem?
  intro i
  by_cases hi : i < N
  · rw [fl_at _ hi]
    by_cases hij : j = i
    · subst hij; rw [List.getElem?_set_self (by rw [fl_len]; exact hi)]; simp
    · rw [List.getElem?_set_ne hij, fl_at _ hi, if_neg (fun e => hij e.symm)]
  · rw [List.getElem?_eq_none (by simp [fl_len]; omega), List.getElem?_eq_none (by rw [fl_len]; omega)]

/-- The least of base(a - k v) + k for k up to m, as far as k v is at most a. -/
def up (base : Nat → Int) (v : Nat) : Nat → Nat → Int
  | 0, a => base a
  | m + 1, a => if (m + 1) * v ≤ a then min (up base v m a) (base (a - (m + 1) * v) + ((m + 1 : Nat) : Int)) else up base v m a

theorem up_le (base : Nat → Int) (v m a k : Nat) (hk : k ≤ m) (hv : k * v ≤ a) : up base v m a ≤ base (a - k * v) + k := by
  induction m with
  | zero => obtain rfl : k = 0 := by omega
            simp [up]
  | succ m ih =>
    simp only [up]
    by_cases e : k = m + 1
    · subst e; rw [if_pos hv]; omega
    · have := ih (by omega)
      split <;> omega
theorem up_ex (base : Nat → Int) (v m a : Nat) : ∃ k, k ≤ m ∧ k * v ≤ a ∧ up base v m a = base (a - k * v) + k := by
  induction m with
  | zero => exact ⟨0, by omega, by omega, by simp [up]⟩
  | succ m ih =>
    obtain ⟨k, h1, h2, h3⟩ := ih
    simp only [up]
    by_cases h : (m + 1) * v ≤ a
    · rw [if_pos h]
      by_cases h4 : up base v m a ≤ base (a - (m + 1) * v) + ((m + 1 : Nat) : Int)
      · exact ⟨k, by omega, h2, by omega⟩
      · exact ⟨m + 1, by omega, h, by omega⟩
    · rw [if_neg h]
      exact ⟨k, by omega, h2, h3⟩

/-- A roll of n coins, used at most once. -/
def rollF (f : Nat → Int) (n value a : Nat) : Int := if value ≤ a then min (f a) (f (a - value) + n) else f a

theorem up_roll (base : Nat → Int) (v m n : Nat) (hn : n ≤ m + 1) (a : Nat) : up base v (m + n) a = rollF (up base v m) n (n * v) a := by
  unfold rollF
  apply Int.le_antisymm
  · split
    · rename_i h
      obtain ⟨k, h1, h2, h3⟩ := up_ex base v m a
      obtain ⟨k', g1, g2, g3⟩ := up_ex base v m (a - n * v)
      have e1 := up_le base v (m + n) a k (by omega) h2
      have e2 := up_le base v (m + n) a (k' + n) (by omega) (by rw [Nat.add_mul]; omega)
      have e3 : a - (k' + n) * v = a - n * v - k' * v := by rw [Nat.add_mul]; omega
      rw [e3] at e2
      omega
    · obtain ⟨k, h1, h2, h3⟩ := up_ex base v m a
      have e1 := up_le base v (m + n) a k (by omega) h2
      omega
  · obtain ⟨k, h1, h2, h3⟩ := up_ex base v (m + n) a
    rw [h3]
    by_cases hk : k ≤ m
    · have e1 := up_le base v m a k hk h2
      split <;> omega
    · have hkn : n ≤ k := by omega
      have hmul : k * v = (k - n) * v + n * v := by rw [← Nat.add_mul]; congr 1; omega
      have hnv : n * v ≤ a := by omega
      rw [if_pos hnv]
      have e1 := up_le base v m (a - n * v) (k - n) (by omega) (by omega)
      have e3 : a - n * v - (k - n) * v = a - k * v := by omega
      rw [e3] at e1
      have e4 : ((k - n : Nat) : Int) + n = k := by omega
      omega

/-- What does not fit does not count. -/
theorem up_cap (base : Nat → Int) (v m m' a : Nat) (h : ∀ k, k ≤ max m m' → k * v ≤ a → (k ≤ m ↔ k ≤ m')) : up base v m a = up base v m' a := by
  obtain ⟨k, h1, h2, h3⟩ := up_ex base v m a
  obtain ⟨k', g1, g2, g3⟩ := up_ex base v m' a
  have e1 := up_le base v m a k' ((h k' (by omega) g2).2 g1) g2
  have e2 := up_le base v m' a k ((h k (by omega) h2).1 h1) h2
  omega

/-- The fewest coins; the last tube first; 20001 where there is no way. -/
def bestR : List Tub → Nat → Int
  | [], a => if a = 0 then 0 else 20001
  | t :: r, a => up (bestR r) t.v.toNat t.c.toNat a

theorem up_bound (base : Nat → Int) (v m a : Nat) (h : ∀ b, 0 ≤ base b ∧ base b ≤ 20001) : 0 ≤ up base v m a ∧ up base v m a ≤ 20001 := by
  obtain ⟨k, h1, h2, h3⟩ := up_ex base v m a
  have e := up_le base v m a 0 (by omega) (by omega)
  have b1 := h (a - k * v)
  have b2 := h (a - 0 * v)
  omega
theorem bestR_bound (r : List Tub) (a : Nat) : 0 ≤ bestR r a ∧ bestR r a ≤ 20001 := by
  induction r generalizing a with
  | nil => unfold bestR; split <;> omega
  | cons t r ih => exact up_bound _ _ _ _ ih

/-- Row i: the first i tubes. -/
def rowF (l : List Tub) (i : Nat) : Nat → Int := bestR (l.take i).reverse
theorem rowF_succ {l : List Tub} {i : Nat} {t : Tub} (h : l[i]? = some t) : rowF l (i + 1) = up (rowF l i) t.v.toNat t.c.toNat := by
  unfold rowF; rw [take_at h, List.reverse_append]; rfl

end Go.Proofs.Ytoaeflegcfecaaa
