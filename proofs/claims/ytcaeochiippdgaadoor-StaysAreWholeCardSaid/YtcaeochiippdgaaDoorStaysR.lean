/- The walk of the reference's StaysOf: day by day. -/
import Derived.Test.YtcaeochiippdgaaDoorStaysW
import Derived.Test.YtcaeochiippdgaaDoorLayAt
import Derived.Test.YtcaeochiippdgaaDoorWhole
namespace Go.Proofs.YtcaeochiippdgaaDoor
open Go.RowKit

/-- Days of one slot under way. -/
structure DyI (g : Int → ByteArray) (j a : Int) (n : Nat) (o : List Sy) : Prop where
  le_ : ∀ s ∈ o, s.sl = j → s.to ≤ a + n
  last : 0 < o.length → (o.getD (o.length - 1) default).sl = j → (o.getD (o.length - 1) default).to = a + n → 0 < n ∧ (o.getD (o.length - 1) default).pr = g (a + n - 1)
  end_ : 0 < n → (g (a + n - 1)).toList.isEmpty = false → 0 < o.length ∧ (o.getD (o.length - 1) default).sl = j ∧ (o.getD (o.length - 1) default).pr = g (a + n - 1) ∧ (o.getD (o.length - 1) default).to = a + n
theorem addSy_sl {o : List Sy} {s0 s : Sy} (h : s ∈ addSy o s0) : s ∈ o ∨ s.sl = s0.sl := by
  by_cases e : s.sl = s0.sl
  · exact .inr e
  · exact .inl (addSy_old h e)
theorem DyI.next {g : Int → ByteArray} {j a : Int} {n : Nat} {o : List Sy} (h : DyI g j a n o) : DyI g j a (n + 1) (addSy o ⟨j, g (a + n), a + n, a + n + 1⟩) := by
  have hc : a + ((n + 1 : Nat) : Int) - 1 = a + n := by omega
  have hc2 : a + ((n + 1 : Nat) : Int) = a + n + 1 := by omega
  rw [← hc2]
  by_cases hp : (g (a + n)).toList.isEmpty = true
  · have e : addSy o ⟨j, g (a + n), a + n, a + ((n + 1 : Nat) : Int)⟩ = o := by unfold addSy; rw [if_pos (.inl hp)]
    rw [e]
    refine ⟨fun s hs hj => by have := h.le_ s hs hj; omega, fun h0 h1 h2 => ?_, fun _ h1 => ?_⟩
    · have := h.le_ _ (List.mem_of_getElem? (last_of h0)) h1
      omega
    · rw [hc, hp] at h1; cases h1
  · have n1 : ¬ ((g (a + n)).toList.isEmpty = true ∨ a + ((n + 1 : Nat) : Int) ≤ a + n) := fun h1 => h1.elim hp (fun h1 => by omega)
    by_cases hj : 0 < o.length ∧ joinB (o.getD (o.length - 1) default) ⟨j, g (a + n), a + n, a + ((n + 1 : Nat) : Int)⟩ = true
    · have e : addSy o ⟨j, g (a + n), a + n, a + ((n + 1 : Nat) : Int)⟩ = longer o (a + ((n + 1 : Nat) : Int)) := by unfold addSy; rw [if_neg n1, if_pos hj]
      rw [e]
      obtain ⟨hpos, hjn⟩ := hj
      obtain ⟨j1, j2, j3⟩ := joinB_iff.1 hjn
      simp only at j1 j2 j3
      have hlast := longer_last hpos (a + ((n + 1 : Nat) : Int))
      refine ⟨fun s hs hsj => ?_, fun _ _ _ => ?_, fun _ _ => ?_⟩
      · unfold longer at hs
        rcases List.mem_or_eq_of_mem_set hs with hs | rfl
        · have := h.le_ s hs hsj; omega
        · exact Int.le_refl _
      · rw [hlast, hc]; exact ⟨by omega, j2⟩
      · rw [hlast, hc]; exact ⟨by rw [longer_len]; exact hpos, j1, j2, rfl⟩
    · have e : addSy o ⟨j, g (a + n), a + n, a + ((n + 1 : Nat) : Int)⟩ = o ++ [⟨j, g (a + n), a + n, a + ((n + 1 : Nat) : Int)⟩] := by unfold addSy; rw [if_neg n1, if_neg hj]
      rw [e]
      refine ⟨fun s hs hsj => ?_, fun _ _ _ => ?_, fun _ _ => ?_⟩
      · rcases List.mem_append.1 hs with hs | hs
        · have := h.le_ s hs hsj; omega
        · simp only [List.mem_cons, List.not_mem_nil, or_false] at hs
          subst hs; exact Int.le_refl _
      · rw [snoc_last, hc]; exact ⟨by omega, rfl⟩
      · rw [snoc_last, hc]; exact ⟨by simp, rfl, rfl, rfl⟩
/-- What was in the slot on the day before. -/
def wasS (g : Int → ByteArray) (a : Int) (n : Nat) : ByteArray := if n = 0 then ByteArray.empty else g (a + n - 1)
theorem DyI.goes {g : Int → ByteArray} {j a : Int} {n : Nat} {o : List Sy} (h : DyI g j a n o) (hp : (g (a + n)).toList.isEmpty = false) (hw : g (a + n) = wasS g a n) :
    0 < o.length ∧ addSy o ⟨j, g (a + n), a + n, a + n + 1⟩ = longer o (a + n + 1) := by
  have n1 : ¬ ((g (a + n)).toList.isEmpty = true ∨ a + (n : Int) + 1 ≤ a + n) := fun h1 => h1.elim (fun h1 => by rw [hp] at h1; cases h1) (fun h1 => by omega)
  unfold wasS at hw
  split at hw
  · rw [hw, toList_data] at hp; cases hp
  · obtain ⟨h1, h2, h3, h4⟩ := h.end_ (by omega) (by rw [← hw]; exact hp)
    refine ⟨h1, ?_⟩
    unfold addSy
    rw [if_neg n1, if_pos]
    exact ⟨h1, joinB_iff.2 ⟨h2, by rw [h3]; exact hw.symm, h4⟩⟩
theorem DyI.starts {g : Int → ByteArray} {j a : Int} {n : Nat} {o : List Sy} (h : DyI g j a n o) (hp : (g (a + n)).toList.isEmpty = false) (hw : g (a + n) ≠ wasS g a n) :
    addSy o ⟨j, g (a + n), a + n, a + n + 1⟩ = o ++ [⟨j, g (a + n), a + n, a + n + 1⟩] := by
  have n1 : ¬ ((g (a + n)).toList.isEmpty = true ∨ a + (n : Int) + 1 ≤ a + n) := fun h1 => h1.elim (fun h1 => by rw [hp] at h1; cases h1) (fun h1 => by omega)
  unfold addSy
  rw [if_neg n1, if_neg]
  rintro ⟨h0, hj⟩
  obtain ⟨j1, j2, j3⟩ := joinB_iff.1 hj
  simp only at j1 j2 j3
  obtain ⟨h5, h6⟩ := h.last h0 j1 j3
  refine hw ?_
  unfold wasS
  rw [if_neg (by omega), ← j2, h6]
theorem DyI.none_ {g : Int → ByteArray} {j a : Int} {n : Nat} {o : List Sy} (hp : (g (a + n)).toList.isEmpty = true) : addSy o ⟨j, g (a + n), a + n, a + n + 1⟩ = o := by
  unfold addSy; rw [if_pos (.inl hp)]
theorem days_dyi {g : Int → ByteArray} {j a : Int} {o : List Sy} (ho : ∀ s ∈ o, s.sl < j) : ∀ n : Nat, DyI g j a n (daysS j g a n o)
  | 0 => ⟨fun s hs e => absurd (ho s hs) (by omega), fun (h : 0 < o.length) (e : (o.getD (o.length - 1) default).sl = j) => absurd (ho _ (List.mem_of_getElem? (last_of h))) (by omega), fun h => absurd h (by omega)⟩
  | n + 1 => (days_dyi (g := g) (a := a) ho n).next
theorem daysS_sl {g : Int → ByteArray} {j a : Int} {o : List Sy} {s : Sy} : ∀ n : Nat, s ∈ daysS j g a n o → s ∈ o ∨ s.sl = j
  | 0, h => .inl h
  | n + 1, h => by
    rcases addSy_sl h with h | h
    · exact daysS_sl n h
    · exact .inr h
theorem slotsD_sl (l : List Ver) (fr to : Int) : ∀ n : Nat, ∀ s ∈ slotsD l fr to n, s.sl < (n : Int)
  | 0, s, h => by simp [slotsD] at h
  | n + 1, s, h => by
    rcases daysS_sl _ h with h | h
    · have := slotsD_sl l fr to n s h; omega
    · rw [h]; omega
theorem daysS_len (j : Int) (g : Int → ByteArray) (a : Int) (o : List Sy) : ∀ n, (daysS j g a n o).length ≤ o.length + n
  | 0 => by simp [daysS]
  | n + 1 => by rw [daysS]; have := daysS_len j g a o n; have := addSy_len (daysS j g a n o) ⟨j, g (a + n), a + n, a + n + 1⟩; omega
theorem slotsD_len (l : List Ver) (fr to : Int) : ∀ n, (slotsD l fr to n).length ≤ n * (to - fr).toNat
  | 0 => by simp [slotsD]
  | n + 1 => by rw [slotsD, Nat.succ_mul]; have := slotsD_len l fr to n; have := daysS_len n (atS l n) fr (slotsD l fr to n) (to - fr).toNat; omega
theorem atL_len {V : List Ver} {n0 : Nat} (hk : ∀ t ∈ V, t.ks.length = n0) {d : Int} (h : atE V d = 0) : (atL V d).length = n0 := by
  unfold atE at h
  by_cases hl : lastV V d V.length = 0
  · rw [if_pos hl] at h; cases h
  · unfold atL atK
    rw [if_neg hl]
    have h1 := lastV_le V d V.length
    have h2 : lastV V d V.length - 1 < V.length := by omega
    refine hk _ (List.mem_of_getElem? (i := lastV V d V.length - 1) ?_)
    simp [List.getD, h2]
theorem atE_or (V : List Ver) (d : Int) : atE V d = 0 ∨ (atE V d = 8 ∧ atL V d = []) := by
  unfold atE atL
  by_cases hl : lastV V d V.length = 0
  · rw [if_pos hl, if_pos hl]; exact .inr ⟨rfl, rfl⟩
  · rw [if_neg hl]; exact .inl rfl



























































































































































end Go.Proofs.YtcaeochiippdgaaDoor
