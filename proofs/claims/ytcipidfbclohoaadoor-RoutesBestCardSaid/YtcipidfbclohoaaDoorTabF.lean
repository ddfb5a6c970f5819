/- What is wrong with a table: the walks of CheckTable and of the reference's TableFault. -/
import Derived.Test.YtcipidfbclohoaaDoorTabM
import Derived.Test.YtcipidfbclohoaaDoorHistF
import Derived.Test.YtcipidfbclohoaaDoorBlk
namespace Go.Proofs.YtcipidfbclohoaaDoor
open Go.RowKit

def tabRowF (N i : Nat) (l : List Int) : Int := if l.length ≠ N then 3 else if allB l 0 100 = false then 1 else if l.getD i 0 ≠ 0 then 1 else if 100 < l.sum then 1 else 0
def tabG (N : Nat) : Nat → List (List Int) → Int
  | _, [] => 0
  | i, l :: R => if tabRowF N i l = 0 then tabG N (i + 1) R else tabRowF N i l
def tabF (R : List (List Int)) : Int := if R.length = 0 then 8 else if 30 < R.length then 2 else tabG R.length 0 R
theorem tabG_step {N j : Nat} {R : List (List Int)} {l : List Int} (h : R[j]? = some l) : tabG N j (R.drop j) = if tabRowF N j l = 0 then tabG N (j + 1) (R.drop (j + 1)) else tabRowF N j l := by
  rw [drop_at h]; rfl

theorem tabRowF_val {N i : Nat} {l : List Int} : (l.length ≠ N → tabRowF N i l = 3) ∧ (l.length = N → (allB l 0 100 = false → tabRowF N i l = 1) ∧ (allB l 0 100 = true → (l.getD i 0 ≠ 0 → tabRowF N i l = 1) ∧ (l.getD i 0 = 0 → (100 < l.sum → tabRowF N i l = 1) ∧ (¬ 100 < l.sum → tabRowF N i l = 0)))) := by
  unfold tabRowF
  refine ⟨fun h => by rw [if_pos h], fun h1 => ?_⟩
  rw [if_neg (by omega)]
  refine ⟨fun h => by rw [if_pos h], fun h2 => ?_⟩
  rw [if_neg (by simp [h2])]
  refine ⟨fun h => by rw [if_pos h], fun h3 => ?_⟩
  rw [if_neg (by simpa using h3)]
  exact ⟨fun h => by rw [if_pos h], fun h => by rw [if_neg h]⟩

theorem tabG_ok {N : Nat} : ∀ {R : List (List Int)} {i : Nat}, tabG N i R = 0 → ∀ k l, R[k]? = some l → tabRowF N (i + k) l = 0
  | [], _, _, k, l, h => by simp at h
  | r :: R, i, h, k, l, hk => by
    unfold tabG at h
    by_cases hr : tabRowF N i r = 0
    · rw [if_pos hr] at h
      cases k with
      | zero => simp at hk; subst hk; exact hr
      | succ k =>
        have := tabG_ok h k l (by simpa using hk)
        rw [show i + (k + 1) = i + 1 + k from by omega]; exact this
    · rw [if_neg hr] at h; exact absurd h hr
theorem tabF_ok {R : List (List Int)} (h : tabF R = 0) : (0 < R.length ∧ R.length ≤ 30) ∧ ∀ (k : Nat) (l : List Int), R[k]? = some l → l.length = R.length ∧ (∀ x ∈ l, 0 ≤ x ∧ x ≤ 100) ∧ l.getD k 0 = 0 ∧ l.sum ≤ 100 := by
  unfold tabF at h
  by_cases h1 : R.length = 0
  · rw [if_pos h1] at h; omega
  · rw [if_neg h1] at h
    by_cases h2 : 30 < R.length
    · rw [if_pos h2] at h; omega
    · rw [if_neg h2] at h
      refine ⟨by omega, fun k l hl => ?_⟩
      have h3 := tabG_ok h k l hl
      rw [Nat.zero_add] at h3
      unfold tabRowF at h3
      by_cases e1 : l.length ≠ R.length
      · rw [if_pos e1] at h3; omega
      · rw [if_neg e1] at h3
        by_cases e2 : allB l 0 100 = false
        · rw [if_pos e2] at h3; omega
        · rw [if_neg e2] at h3
          by_cases e3 : l.getD k 0 ≠ 0
          · rw [if_pos e3] at h3; omega
          · rw [if_neg e3] at h3
            by_cases e4 : 100 < l.sum
            · rw [if_pos e4] at h3; omega
            · exact ⟨by omega, allB_ok (by simpa using e2), by omega, by omega⟩






















































































































































end Go.Proofs.YtcipidfbclohoaaDoor
