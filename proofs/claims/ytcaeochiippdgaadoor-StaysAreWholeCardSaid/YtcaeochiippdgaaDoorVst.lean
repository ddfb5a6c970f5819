/- Versions: At and Stays whatever comes in; equal stays; how far Versions reads. -/
import Derived.Test.YtcaeochiippdgaaDoorAtW
import Derived.Test.YtcaeochiippdgaaDoorStaysR
import Derived.Test.YtcaeochiippdgaaDoorMkV
import Derived.BigQuiet
namespace Go.Proofs.YtcaeochiippdgaaDoor
open Go.RowKit

theorem at_any (B : Nat) (A : Option Addr) (c : Nat) (V : List Ver) (d : Int) (w : World) (hr : RdV w B A V) :
    Calls Tryd.prog 9 #[.slice A V.length c, .int .i64 d] w fun e w' => ∃ v, e = .returned (.tuple #[v, .int .i64 (aE V d)]) ∧
      w'.ownsRow w.heap.size 9 1 v (aL V d).length (strs (aL V d)) ∧ w.grownBy w' none := by
  by_cases h : versF V = 0 ∧ btw d 0 4000 = true
  · have e : aE V d = atE V d := by unfold aE; rw [if_neg (by simp [h.1]), if_neg (by simp [h.2])]
    have e2 : aL V d = atL V d := by
      unfold aL
      rcases atE_or V d with h1 | ⟨_, h2⟩
      · rw [e, if_pos h1]
      · rw [h2]; split <;> rfl
    rw [e, e2]
    exact at_ok B A c V d w hr h.1 h.2
  · have hne : versF V ≠ 0 ∨ btw d 0 4000 = false := by
      by_cases h1 : versF V = 0
      · exact .inr (by cases hb : btw d 0 4000 with | true => exact absurd ⟨h1, hb⟩ h | false => rfl)
      · exact .inl h1
    have e2 : aL V d = [] := by
      unfold aL
      rw [if_neg]
      unfold aE
      rcases hne with h1 | h1
      · rw [if_pos h1]; exact h1
      · by_cases h2 : versF V = 0
        · rw [if_neg (by simp [h2]), if_pos h1]; decide
        · rw [if_pos h2]; exact h2
    rw [e2]
    exact (at_bad B A c V d w hr hne).mono fun e w' ⟨h1, h2⟩ => ⟨.slice none 0 0, h1, World.ownsRow_nil _ _ _ _, h2⟩
theorem stays_any (B : Nat) (A : Option Addr) (c : Nat) (V : List Ver) (fr to : Int) (w : World) (hr : RdV w B A V) :
    Calls Tryd.prog 7 #[.slice A V.length c, .int .i64 fr, .int .i64 to] w fun e w' => ∃ v, e = .returned (.tuple #[v, .int .i64 (stE V fr to)]) ∧
      w'.ownsRow w.heap.size 39 4 v (stL V fr to).length (syFlat (stL V fr to)) ∧ w.grownBy w' none := by
  by_cases h : stE V fr to = 0
  · have e : stL V fr to = slotsV V fr to (ver0 V) := by unfold stL; rw [if_pos h]
    rw [h, e]
    exact stays_ok B A c V fr to w hr h
  · have e : stL V fr to = [] := by unfold stL; rw [if_neg h]
    rw [e]
    exact (stays_bad B A c V fr to w hr h).mono fun e w' ⟨h1, h2⟩ => ⟨.slice none 0 0, h1, World.ownsRow_nil _ _ _ _, h2⟩
































theorem verMid_bound (L : List Int) (t : Nat) : (verMid L t).t ≤ t + 20 ∧ (verMid L t).out.length ≤ 4 := by
  obtain ⟨a0, a1⟩ := nx_in L t 4 (by omega)
  obtain ⟨b0, b1⟩ := nx_in L (t + 1) 4 (by omega)
  obtain ⟨c0, c1⟩ := nx_in L (t + 1 + 1) 5 (by omega)
  have h := verRun_bound L (nx L t 4).toNat (nx L (t + 1 + 1) 5).toNat ⟨t + 1 + 1 + 1, nx L (t + 1) 4, []⟩ b0
  have hm : (nx L (t + 1 + 1) 5).toNat * ((nx L t 4).toNat + 1) ≤ 4 * 4 := Nat.mul_le_mul (by omega) (by omega)
  unfold verMid
  simp only [List.length_nil, Nat.zero_add] at h
  omega
theorem versM_bound (L : List Int) (t : Nat) : (versM L t).1 ≤ t + 24 ∧ (versM L t).2.length ≤ 4 := by
  have h := verMid_bound L t
  unfold versM
  simp only
  split
  · split
    · simp; omega
    · split <;> simp <;> omega
  · simp; omega

end Go.Proofs.YtcaeochiippdgaaDoor
