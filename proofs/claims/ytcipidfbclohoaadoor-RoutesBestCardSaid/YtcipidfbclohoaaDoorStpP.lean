/- Stops as lists: what is wrong with them. -/
import Derived.Test.YtcipidfbclohoaaDoorStp
import Derived.Test.YtcipidfbclohoaaDoorFar
import Derived.Test.YtcipidfbclohoaaDoorKey
import Derived.Test.YtcipidfbclohoaaDoorSq
namespace Go.Proofs.YtcipidfbclohoaaDoor
open Go.RowKit

theorem rows_take {α : Type} {enc : α → List Value} {k : Nat} (hk : ∀ x, (enc x).length = k) : ∀ (zs : List α) (j : Nat), (zs.flatMap enc).take (j * k) = (zs.take j).flatMap enc
  | [], j => by simp
  | z :: zs, 0 => by simp
  | z :: zs, j + 1 => by
    rw [List.flatMap_cons, List.take_succ_cons, List.flatMap_cons, ← rows_take hk zs j, List.take_append, hk, Nat.succ_mul]
    rw [List.take_of_length_le (by rw [hk]; omega)]
    congr 2
    omega
def stpC (pv : List St) (x : St) : Int :=
  if keyB x.k = false then 5 else if pv.any (fun y => y.k.toList == x.k.toList) = true then 6 else if spB x.x x.y = false then 1 else if btw x.f 0 x.t = false then 1 else if 1440 < x.t then 1 else if btw x.l 0 1440 = false then 1 else 0
def stpFrom (pv : List St) : List St → Int
  | [] => 0
  | x :: r => if stpC pv x ≠ 0 then stpC pv x else stpFrom (pv ++ [x]) r
def stopsF (l : List St) : Int := if 60 < l.length then 2 else stpFrom [] l
def StpInv (l : List St) (j : Nat) : Prop := stpFrom (l.take j) (l.drop j) = stopsF l
theorem StpInv.start {l : List St} (h : l.length ≤ 60) : StpInv l 0 := by
  unfold StpInv stopsF; rw [if_neg (by omega)]; simp
theorem StpInv.done {l : List St} {j : Nat} (h : StpInv l j) (hj : j = l.length) : stopsF l = 0 := by
  unfold StpInv at h; subst hj; rw [← h]; simp [stpFrom]
theorem StpInv.bad {l : List St} {j : Nat} {t : St} {e : Int} (h : StpInv l j) (ht : l[j]? = some t) (h1 : stpC (l.take j) t = e) (h0 : e ≠ 0) : stopsF l = e := by
  unfold StpInv at h; rw [← h, drop_at ht, stpFrom, h1, if_pos h0]
theorem StpInv.good {l : List St} {j : Nat} {t : St} (h : StpInv l j) (ht : l[j]? = some t) (h1 : stpC (l.take j) t = 0) : StpInv l (j + 1) := by
  unfold StpInv at h ⊢
  rw [drop_at ht, stpFrom, h1, if_neg (by simp)] at h
  rw [← h, take_at ht]
theorem stpC_ok {pv : List St} {x : St} (h1 : stpC pv x = 0) : spB x.x x.y = true ∧ (0 ≤ x.f ∧ x.f ≤ x.t) ∧ x.t ≤ 1440 ∧ (0 ≤ x.l ∧ x.l ≤ 1440) := by
  unfold stpC at h1
  by_cases a1 : keyB x.k = false
  · rw [if_pos a1] at h1; cases h1
  rw [if_neg a1] at h1
  by_cases a2 : pv.any (fun y => y.k.toList == x.k.toList) = true
  · rw [if_pos a2] at h1; cases h1
  rw [if_neg a2] at h1
  by_cases a3 : spB x.x x.y = false
  · rw [if_pos a3] at h1; cases h1
  rw [if_neg a3] at h1
  by_cases a4 : btw x.f 0 x.t = false
  · rw [if_pos a4] at h1; cases h1
  rw [if_neg a4] at h1
  by_cases a5 : 1440 < x.t
  · rw [if_pos a5] at h1; cases h1
  rw [if_neg a5] at h1
  by_cases a6 : btw x.l 0 1440 = false
  · rw [if_pos a6] at h1; cases h1
  exact ⟨by simpa using a3, btw_true.1 (by simpa using a4), by omega, btw_true.1 (by simpa using a6)⟩
theorem stpFrom_ok : ∀ (l : List St) (pv : List St), stpFrom pv l = 0 → ∀ t ∈ l, spB t.x t.y = true ∧ (0 ≤ t.f ∧ t.f ≤ t.t) ∧ t.t ≤ 1440 ∧ (0 ≤ t.l ∧ t.l ≤ 1440)
  | [], _, _, t, ht => by cases ht
  | x :: l, pv, h, t, ht => by
    unfold stpFrom at h
    by_cases h1 : stpC pv x = 0
    · rw [if_neg (by simp [h1])] at h
      rcases List.mem_cons.1 ht with rfl | ht
      · exact stpC_ok h1
      · exact stpFrom_ok l _ h t ht
    · rw [if_pos h1] at h; exact absurd h h1
theorem stopsF_ok {l : List St} (h : stopsF l = 0) : l.length ≤ 60 ∧ ∀ t ∈ l, spB t.x t.y = true ∧ (0 ≤ t.f ∧ t.f ≤ t.t) ∧ t.t ≤ 1440 ∧ (0 ≤ t.l ∧ t.l ≤ 1440) := by
  unfold stopsF at h
  by_cases h1 : 60 < l.length
  · rw [if_pos h1] at h; cases h
  · rw [if_neg h1] at h
    exact ⟨by omega, stpFrom_ok l [] h⟩
end Go.Proofs.YtcipidfbclohoaaDoor
