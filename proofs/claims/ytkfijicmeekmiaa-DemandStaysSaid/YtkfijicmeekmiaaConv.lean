/- The histogram of the sum of two numbers, as lists. No model in this text. -/
import Derived.Test.YtkfijicmeekmiaaTrim
namespace Go.Proofs.Ytkfijicmeekmiaa
open Go.RowKit

/-- The row r after j numbers of b, times x, are added from place i on. -/
def cvIn (i : Nat) (x : Int) (b r : List Int) : Nat → List Int
  | 0 => r
  | j + 1 => (cvIn i x b r j).set (i + j) ((cvIn i x b r j).getD (i + j) 0 + x * b.getD j 0)
def cvOut (a b : List Int) (N : Nat) : Nat → List Int
  | 0 => List.replicate N 0
  | i + 1 => cvIn i (a.getD i 0) b (cvOut a b N i) b.length
def cv (a b : List Int) : List Int := cvOut a b (a.length + b.length - 1) a.length

theorem cvIn_len (i : Nat) (x : Int) (b r : List Int) (j : Nat) : (cvIn i x b r j).length = r.length := by
  induction j with
  | zero => rfl
  | succ j ih => simp only [cvIn, List.length_set]; exact ih
theorem cvOut_len (a b : List Int) (N i : Nat) : (cvOut a b N i).length = N := by
  induction i with
  | zero => simp [cvOut]
  | succ i ih => simp only [cvOut]; rw [cvIn_len, ih]
theorem cv_len (a b : List Int) : (cv a b).length = a.length + b.length - 1 := cvOut_len _ _ _ _

theorem sum_set (r : List Int) (k : Nat) (y : Int) (hk : k < r.length) : (r.set k y).sum = r.sum - r.getD k 0 + y := by
  induction r generalizing k with
  | nil => simp at hk
  | cons a r ih =>
    rcases k with _ | k
    · simp; omega
    · simp only [List.set_cons_succ, List.sum_cons]
      rw [ih k (by simpa using hk)]
      simp only [List.getD_cons_succ]
      omega
theorem cvIn_sum (i : Nat) (x : Int) (b r : List Int) (j : Nat) (hj : i + j ≤ r.length) (hb : j ≤ b.length) : (cvIn i x b r j).sum = r.sum + x * (b.take j).sum := by
  induction j with
  | zero => simp [cvIn]
  | succ j ih =>
    have hx : b[j]? = some (b.getD j 0) := by simp [List.getD, show j < b.length from by omega]
    simp only [cvIn]
    rw [sum_set _ _ _ (by rw [cvIn_len]; omega), ih (by omega) (by omega), sum_take hx, Int.mul_add]
    omega
theorem cvOut_sum (a b : List Int) (N i : Nat) (hi : i ≤ a.length) (hN : a.length + b.length ≤ N + 1) : (cvOut a b N i).sum = (a.take i).sum * b.sum := by
  induction i with
  | zero => simp [cvOut]
  | succ i ih =>
    have hx : a[i]? = some (a.getD i 0) := by simp [List.getD, show i < a.length from by omega]
    simp only [cvOut]
    rw [cvIn_sum _ _ _ _ _ (by rw [cvOut_len]; omega) (Nat.le_refl _), ih (by omega), sum_take hx, List.take_of_length_le (Nat.le_refl _), Int.add_mul]
theorem cv_sum {a b : List Int} (hb : 0 < b.length) : (cv a b).sum = a.sum * b.sum := by
  unfold cv
  rw [cvOut_sum a b _ _ (Nat.le_refl _) (by omega), List.take_of_length_le (Nat.le_refl _)]

theorem getD_nonneg {r : List Int} (h : ∀ y ∈ r, 0 ≤ y) (k : Nat) : 0 ≤ r.getD k 0 := by
  by_cases hk : k < r.length
  · rw [show r.getD k 0 = r[k] from by simp [List.getD, hk]]
    exact h _ (List.getElem_mem hk)
  · simp [List.getD, List.getElem?_eq_none (show r.length ≤ k from by omega)]
theorem cvIn_nonneg {i : Nat} {x : Int} {b r : List Int} (hx : 0 ≤ x) (hb : ∀ y ∈ b, 0 ≤ y) (hr : ∀ y ∈ r, 0 ≤ y) (j : Nat) : ∀ y ∈ cvIn i x b r j, 0 ≤ y := by
  induction j with
  | zero => exact hr
  | succ j ih =>
    intro y hy
    simp only [cvIn] at hy
    rcases List.mem_or_eq_of_mem_set hy with h | h
    · exact ih y h
    · rw [h]
      have h1 := getD_nonneg ih (i + j)
      have h2 := Int.mul_nonneg hx (getD_nonneg hb j)
      omega
theorem cvOut_nonneg {a b : List Int} (ha : ∀ y ∈ a, 0 ≤ y) (hb : ∀ y ∈ b, 0 ≤ y) (N i : Nat) : ∀ y ∈ cvOut a b N i, 0 ≤ y := by
  induction i with
  | zero => intro y hy; simp [cvOut] at hy; omega
  | succ i ih => exact cvIn_nonneg (getD_nonneg ha i) hb ih _
theorem le_sum {r : List Int} (h : ∀ y ∈ r, 0 ≤ y) : ∀ y ∈ r, y ≤ r.sum := by
  induction r with
  | nil => intro y hy; cases hy
  | cons a r ih =>
    intro y hy
    have h1 := h a (by simp)
    have h2 : 0 ≤ r.sum := by have := (drop_sum_le (h := r) (fun x hx => h x (by simp [hx])) 0).1; rwa [List.drop_zero] at this
    rw [List.sum_cons]
    rcases List.mem_cons.1 hy with rfl | hy
    · omega
    · have := ih (fun x hx => h x (by simp [hx])) y hy
      omega
theorem cv_rng {a b : List Int} (ha : ∀ y ∈ a, 0 ≤ y) (hb : ∀ y ∈ b, 0 ≤ y) (hbl : 0 < b.length) : ∀ y ∈ cv a b, 0 ≤ y ∧ y ≤ a.sum * b.sum := by
  intro y hy
  have hn := cvOut_nonneg ha hb (a.length + b.length - 1) a.length
  have := le_sum hn y hy
  rw [show (cvOut a b (a.length + b.length - 1) a.length).sum = a.sum * b.sum from cv_sum hbl] at this
  exact ⟨hn y hy, this⟩
/-- What stands in the row while it is made. -/
theorem cvIn_rng {a b : List Int} (ha : ∀ y ∈ a, 0 ≤ y) (hb : ∀ y ∈ b, 0 ≤ y) {N i j : Nat} (hi : i < a.length) (hj : j ≤ b.length) (hN : a.length + b.length ≤ N + 1) :
    ∀ k, 0 ≤ (cvIn i (a.getD i 0) b (cvOut a b N i) j).getD k 0 ∧ (cvIn i (a.getD i 0) b (cvOut a b N i) j).getD k 0 ≤ a.sum * b.sum := by
  intro k
  have hn := cvIn_nonneg (i := i) (getD_nonneg ha i) hb (cvOut_nonneg ha hb N i) j
  have h0 := getD_nonneg hn k
  refine ⟨h0, ?_⟩
  have hs := cvIn_sum i (a.getD i 0) b (cvOut a b N i) j (by rw [cvOut_len]; omega) hj
  rw [cvOut_sum a b N i (by omega) hN] at hs
  have hle : (cvIn i (a.getD i 0) b (cvOut a b N i) j).getD k 0 ≤ (cvIn i (a.getD i 0) b (cvOut a b N i) j).sum := by
    by_cases hk : k < (cvIn i (a.getD i 0) b (cvOut a b N i) j).length
    · rw [show ∀ r : List Int, (h : k < r.length) → r.getD k 0 = r[k] from fun r h => by simp [List.getD, h]]
      · exact le_sum hn _ (List.getElem_mem hk)
      · exact hk
    · rw [show ∀ r : List Int, ¬ k < r.length → r.getD k 0 = 0 from fun r h => by simp [List.getD, List.getElem?_eq_none (show r.length ≤ k from by omega)]]
      · have := (drop_sum_le hn 0).1; rwa [List.drop_zero] at this
      · exact hk
  have hx : a[i]? = some (a.getD i 0) := by simp [List.getD, hi]
  have h1 := take_sum ha (i + 1)
  rw [sum_take hx] at h1
  have h2 := take_sum hb j
  have h3 : a.getD i 0 * (b.take j).sum ≤ a.getD i 0 * b.sum := Int.mul_le_mul_of_nonneg_left h2.2 (getD_nonneg ha i)
  have h4 : ((a.take i).sum + a.getD i 0) * b.sum ≤ a.sum * b.sum := Int.mul_le_mul_of_nonneg_right h1.2 (by omega)
  rw [Int.add_mul] at h4
  omega

end Go.Proofs.Ytkfijicmeekmiaa
