/- Coins: how many results of n coins show at least k heads, as the program counts them; what follows for at most 60 (30) coins, by counting. -/
import Derived.Test.YtccmcdjcpipkiaaDoorProg
import Derived.Lib.TrailingZeros
namespace Go.Proofs.YtccmcdjcpipkiaaDoor

/-- What the program has after j rounds: the results with exactly n - j heads; those with more. -/
def rowC (n : Nat) : Nat → Nat × Nat
  | 0 => (1, 0)
  | j + 1 => ((rowC n j).1 * (n - j) / (j + 1), (rowC n j).2 + (rowC n j).1)
def twosC (n s : Nat) : Nat := min n (Lib.ctz 64 s)
def chN (n k : Nat) : Nat × Nat := ((rowC n (n - k + 1)).2 / 2 ^ twosC n (rowC n (n - k + 1)).2, 2 ^ (n - twosC n (rowC n (n - k + 1)).2))

def allTo (m : Nat) (p : Nat → Bool) : Bool := (List.range (m + 1)).all p
theorem allTo_at {m : Nat} {p : Nat → Bool} (h : allTo m p = true) {i : Nat} (hi : i ≤ m) : p i = true := List.all_eq_true.1 h i (List.mem_range.2 (by omega))

theorem rowC_all : (allTo 60 fun n => allTo n fun j => decide ((rowC n j).1 ≤ 1152921504606846976 ∧ (rowC n j).2 ≤ 1152921504606846976 ∧ (rowC n j).1 * (n - j) ≤ 4611686018427387904 ∧ 0 < (rowC n (j + 1)).2 ∧ (rowC n (j + 1)).2 ≤ 1152921504606846976)) = true := by decide +kernel
theorem rowC_b {n j : Nat} (hn : n ≤ 60) (hj : j ≤ n) : (rowC n j).1 ≤ 1152921504606846976 ∧ (rowC n j).2 ≤ 1152921504606846976 ∧ (rowC n j).1 * (n - j) ≤ 4611686018427387904 ∧ 0 < (rowC n (j + 1)).2 ∧ (rowC n (j + 1)).2 ≤ 1152921504606846976 :=
  decide_eq_true_iff.1 (allTo_at (allTo_at rowC_all hn) hj)

theorem chN_all : (allTo 60 fun n => allTo n fun k => decide ((chN n k).1 ≤ 1152921504606846976 ∧ (chN n k).2 ≤ 1152921504606846976)) = true := by decide +kernel
theorem chN_b {n k : Nat} (hn : n ≤ 60) (hk : k ≤ n) : (chN n k).1 ≤ 1152921504606846976 ∧ (chN n k).2 ≤ 1152921504606846976 :=
  decide_eq_true_iff.1 (allTo_at (allTo_at chN_all hn) hk)

/-- At most 30 coins: products of two such numbers are small; the three laws of the chances. -/
theorem chL_all : (allTo 30 fun n => allTo n fun k => decide (1 ≤ k → chN n 0 = (1, 1) ∧ (chN n k).1 ≤ 1073741824 ∧ (chN n k).2 ≤ 1073741824 ∧ (chN n (k - 1)).1 ≤ 1073741824 ∧ (chN n (k - 1)).2 ≤ 1073741824 ∧ (chN n (n - k + 1)).1 ≤ 1073741824 ∧ (chN n (n - k + 1)).2 ≤ 1073741824
    ∧ (chN n k).1 * (chN n (k - 1)).2 ≤ (chN n (k - 1)).1 * (chN n k).2 ∧ (chN n k).1 * (chN n (n - k + 1)).2 + (chN n (n - k + 1)).1 * (chN n k).2 = (chN n k).2 * (chN n (n - k + 1)).2)) = true := by decide +kernel
theorem chL_b {n k : Nat} (hn : n ≤ 30) (hk : k ≤ n) (h1 : 1 ≤ k) : chN n 0 = (1, 1) ∧ (chN n k).1 ≤ 1073741824 ∧ (chN n k).2 ≤ 1073741824 ∧ (chN n (k - 1)).1 ≤ 1073741824 ∧ (chN n (k - 1)).2 ≤ 1073741824 ∧ (chN n (n - k + 1)).1 ≤ 1073741824 ∧ (chN n (n - k + 1)).2 ≤ 1073741824
    ∧ (chN n k).1 * (chN n (k - 1)).2 ≤ (chN n (k - 1)).1 * (chN n k).2 ∧ (chN n k).1 * (chN n (n - k + 1)).2 + (chN n (n - k + 1)).1 * (chN n k).2 = (chN n k).2 * (chN n (n - k + 1)).2 :=
  decide_eq_true_iff.1 (allTo_at (allTo_at chL_all hn) hk) h1

end Go.Proofs.YtccmcdjcpipkiaaDoor
