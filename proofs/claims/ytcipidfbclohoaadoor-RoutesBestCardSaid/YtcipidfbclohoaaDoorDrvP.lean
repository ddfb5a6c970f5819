/- A route that is driven: the car from stop to stop, what begins. -/
import Derived.Test.YtcipidfbclohoaaDoorVisit
import Derived.Test.YtcipidfbclohoaaDoorChkO
namespace Go.Proofs.YtcipidfbclohoaaDoor
open Go.RowKit

def stAt (V : List St) (n : Int) : St := V.getD n.toNat default
/-- The car behind the stops, and when each of them begins; none if one begins too late. -/
def drvF (V : List St) : Cr → List Int → List Int → Option (Cr × List Int)
  | c, bg, [] => some (c, bg)
  | c, bg, n :: r => if crGo c (stAt V n) = true then drvF V (crNext c (stAt V n)) (bg ++ [crBeg c (stAt V n)]) r else none
/-- The car is in its bounds after j stops. -/
def CrB (j : Nat) (c : Cr) : Prop := spB c.x c.y = true ∧ (0 ≤ c.d ∧ c.d ≤ 1440 + (j : Int) * 50000) ∧ (0 ≤ c.way ∧ c.way ≤ (j : Int) * 40000) ∧ (0 ≤ c.wt ∧ c.wt ≤ (j : Int) * 1440)
theorem CrB.start {hx hy st : Int} (h : spB hx hy = true) (h0 : 0 ≤ st) (h1 : st ≤ 1440) : CrB 0 ⟨hx, hy, 0, st, 0, 0⟩ := ⟨h, ⟨h0, by simp; omega⟩, ⟨by simp, by simp⟩, ⟨by simp, by simp⟩⟩
theorem CrB.next {j : Nat} {c : Cr} {r : St} (h : CrB j c) (h2 : spB r.x r.y = true) (hf : 0 ≤ r.f ∧ r.f ≤ 1440) (hl : 0 ≤ r.l ∧ r.l ≤ 1440) : CrB (j + 1) (crNext c r) := by
  obtain ⟨h1, hd, hw, ht⟩ := h
  have hq := farN_in h1 h2
  obtain ⟨q, hq'⟩ : ∃ q, farN c.x c.y r.x r.y = q := ⟨_, rfl⟩
  rw [hq'] at hq
  unfold CrB crNext crBeg
  simp only [hq']
  have e : ((j + 1 : Nat) : Int) = j + 1 := by push_cast; rfl
  rw [e]
  refine ⟨h2, ?_, ?_, ?_⟩ <;> omega
structure TrM where
  bg : List Int
  e : Int
  way : Int
  wt : Int
def trM0 : TrM := ⟨[], 0, 0, 0⟩
/-- The tour of a car that has been at all its stops, and drives home. -/
def trOf (hx hy : Int) (p : Cr × List Int) : TrM := ⟨p.2, p.1.d + farN p.1.x p.1.y hx hy, p.1.way + farN p.1.x p.1.y hx hy, p.1.wt⟩
def driveM (hx hy : Int) (V : List St) (st : Int) (o : List Int) : Option TrM := (drvF V ⟨hx, hy, 0, st, 0, 0⟩ [] o).map (trOf hx hy)
theorem drvF_len : ∀ (V : List St) (o : List Int) (c : Cr) (bg : List Int) (p : Cr × List Int), drvF V c bg o = some p → p.2.length = bg.length + o.length
  | V, [], c, bg, p, h => by unfold drvF at h; injection h with h; subst h; simp
  | V, n :: r, c, bg, p, h => by
    unfold drvF at h
    split at h
    · have := drvF_len V r _ _ p h
      simp at this
      simp
      omega
    · cases h

end Go.Proofs.YtcipidfbclohoaaDoor
