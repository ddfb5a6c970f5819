/- What stays in a slot is there on each of its days, and on none of the days next to it. -/
import Derived.Test.YtcaeochiippdgaaDoorVerP
namespace Go.Proofs.YtcaeochiippdgaaDoor
open Go.RowKit

/-- A stay is whole within n days of products g. -/
def Whole (g : Int → ByteArray) (n : Nat) (s : Sy) : Prop :=
  (0 ≤ s.fr ∧ s.fr < s.to ∧ s.to ≤ n) ∧ s.pr.toList.isEmpty = false ∧ (∀ d, s.fr ≤ d → d < s.to → g d = s.pr) ∧ (0 < s.fr → g (s.fr - 1) ≠ s.pr) ∧ (s.to < n → g s.to ≠ s.pr)
structure WhI (g : Int → ByteArray) (j : Int) (n : Nat) (o : List Sy) : Prop where
  all : ∀ s : Sy, s ∈ o → s.sl = j → Whole g n s
  bef : ∀ (i : Nat) (s : Sy), o[i]? = some s → i + 1 < o.length → s.sl = j → s.to < (n : Int)
  end_ : 0 < n → (g ((n : Int) - 1)).toList.isEmpty = false → 0 < o.length ∧ joinB (o.getD (o.length - 1) default) ⟨j, g ((n : Int) - 1), n, (n : Int) + 1⟩ = true
  old : ∀ s : Sy, s ∈ o → s.sl ≤ j

theorem last_of {o : List Sy} (h : 0 < o.length) : o[o.length - 1]? = some (o.getD (o.length - 1) default) := by
  simp [List.getD, show o.length - 1 < o.length from by omega]

theorem WhI.keep {g : Int → ByteArray} {n : Nat} {s : Sy} (h : Whole g n s) (hn : g n ≠ s.pr ∨ s.to < n) : Whole g (n + 1) s := by
  obtain ⟨⟨h1, h2, h3⟩, h4, h5, h6, h7⟩ := h
  refine ⟨⟨h1, h2, by omega⟩, h4, h5, h6, fun h => ?_⟩
  by_cases e : s.to < n
  · exact h7 e
  · have : s.to = n := by omega
    rw [this]
    rcases hn with hn | hn
    · exact hn
    · exact absurd hn e

theorem WhI.step {g : Int → ByteArray} {j : Int} {n : Nat} {o : List Sy} (h : WhI g j n o) : WhI g j (n + 1) (addSy o ⟨j, g n, n, (n : Int) + 1⟩) := by
  have hc : ((n + 1 : Nat) : Int) - 1 = n := by omega
  by_cases hp : (g n).toList.isEmpty = true
  · have e : addSy o ⟨j, g n, n, (n : Int) + 1⟩ = o := by unfold addSy; rw [if_pos (.inl hp)]
    rw [e]
    refine ⟨fun s hs hj => WhI.keep (h.all s hs hj) (.inl fun e => ?_), fun i s hi hl hj => by have := h.bef i s hi hl hj; omega, fun _ hne => ?_, h.old⟩
    · rw [e, (h.all s hs hj).2.1] at hp; cases hp
    · rw [hc, hp] at hne; cases hne
  · have hp' : (g n).toList.isEmpty = false := by simpa using hp
    have n1 : ¬ ((g n).toList.isEmpty = true ∨ (n : Int) + 1 ≤ n) := fun h1 => h1.elim hp (fun h1 => by omega)
    by_cases hj : 0 < o.length ∧ joinB (o.getD (o.length - 1) default) ⟨j, g n, n, (n : Int) + 1⟩ = true
    · have e : addSy o ⟨j, g n, n, (n : Int) + 1⟩ = longer o ((n : Int) + 1) := by unfold addSy; rw [if_neg n1, if_pos hj]
      rw [e]
      obtain ⟨hpos, hjn⟩ := hj
      have hl := last_of hpos
      obtain ⟨x, hx⟩ : ∃ x, o.getD (o.length - 1) default = x := ⟨_, rfl⟩
      rw [hx] at hl hjn
      have hlo : longer o ((n : Int) + 1) = o.set (o.length - 1) { x with to := (n : Int) + 1 } := by unfold longer; rw [hx]
      obtain ⟨j1, j2, j3⟩ := joinB_iff.1 hjn
      simp only at j1 j2 j3
      have hxm := List.mem_of_getElem? hl
      have hwx := h.all x hxm j1
      have hget : ∀ (i : Nat) (s : Sy), (longer o ((n : Int) + 1))[i]? = some s → (i = o.length - 1 ∧ s = { x with to := (n : Int) + 1 }) ∨ (i + 1 < o.length ∧ o[i]? = some s) := by
        intro i s hi
        rw [hlo] at hi
        by_cases hi' : i = o.length - 1
        · subst hi'
          rw [List.getElem?_set_self (by omega)] at hi
          injection hi with hi
          exact .inl ⟨rfl, hi.symm⟩
        · rw [List.getElem?_set_ne (fun e => hi' e.symm)] at hi
          have := (List.getElem?_eq_some_iff.1 hi).1
          exact .inr ⟨by omega, hi⟩
      refine ⟨?_, ?_, ?_, ?_⟩
      · intro s hs hsj
        obtain ⟨i, hi⟩ := List.getElem?_of_mem hs
        rcases hget i s hi with ⟨_, rfl⟩ | ⟨hi2, hi3⟩
        · obtain ⟨⟨h1, h2, h3⟩, h4, h5, h6, h7⟩ := hwx
          refine ⟨⟨h1, by show x.fr < (n : Int) + 1; omega, by show (n : Int) + 1 ≤ _; omega⟩, h4, fun d hd1 hd2 => ?_, h6, fun hlt => absurd hlt (by show ¬ (n : Int) + 1 < _; omega)⟩
          have hd2' : d < (n : Int) + 1 := hd2
          by_cases hd : d < x.to
          · exact h5 d hd1 hd
          · have : d = n := by omega
            rw [this, j2]
        · exact WhI.keep (h.all s (List.mem_of_getElem? hi3) hsj) (.inr (h.bef i s hi3 hi2 hsj))
      · intro i s hi hl2 hsj
        rw [longer_len] at hl2
        rcases hget i s hi with ⟨hi1, _⟩ | ⟨hi2, hi3⟩
        · omega
        · have := h.bef i s hi3 hi2 hsj; omega
      · intro _ _
        rw [longer_len]
        refine ⟨hpos, ?_⟩
        have : (longer o ((n : Int) + 1)).getD (o.length - 1) default = { x with to := (n : Int) + 1 } := by
          rw [← longer_len o ((n : Int) + 1), longer_last hpos, hx]
        rw [this, joinB_iff]
        exact ⟨j1, by rw [hc]; exact j2, by simp⟩
      · intro s hs
        obtain ⟨i, hi⟩ := List.getElem?_of_mem hs
        rcases hget i s hi with ⟨_, rfl⟩ | ⟨_, hi3⟩
        · exact h.old x hxm
        · exact h.old s (List.mem_of_getElem? hi3)
    · have e : addSy o ⟨j, g n, n, (n : Int) + 1⟩ = o ++ [⟨j, g n, n, (n : Int) + 1⟩] := by unfold addSy; rw [if_neg n1, if_neg hj]
      rw [e]
      have hold : ∀ (i : Nat) (s : Sy), o[i]? = some s → s.sl = j → g n ≠ s.pr ∨ s.to < n := by
        intro i s hi hsj
        have hil := (List.getElem?_eq_some_iff.1 hi).1
        by_cases hi1 : i + 1 < o.length
        · exact .inr (h.bef i s hi hi1 hsj)
        · obtain rfl : i = o.length - 1 := by omega
          have hl := last_of (o := o) (by omega)
          rw [hi] at hl
          injection hl with hl
          by_cases he : g n = s.pr
          · refine .inr ?_
            have h3 := (h.all s (List.mem_of_getElem? hi) hsj).1.2.2
            rcases Int.lt_or_eq_of_le h3 with h4 | h4
            · exact h4
            · exact absurd ⟨by omega, by rw [← hl, joinB_iff]; exact ⟨hsj, he.symm, h4⟩⟩ hj
          · exact .inl he
      refine ⟨?_, ?_, ?_, ?_⟩
      · intro s hs hsj
        rcases List.mem_append.1 hs with hs | hs
        · obtain ⟨i, hi⟩ := List.getElem?_of_mem hs
          exact WhI.keep (h.all s hs hsj) (hold i s hi hsj)
        · simp only [List.mem_cons, List.not_mem_nil, or_false] at hs
          subst hs
          refine ⟨⟨by simp, by simp; omega, by simp⟩, hp', fun d hd1 hd2 => ?_, fun h0 he => ?_, fun hlt => absurd hlt (by simp)⟩
          · simp only at hd1 hd2 ⊢
            have : d = n := by omega
            rw [this]
          · simp only at h0 he
            refine hj ?_
            have := h.end_ (by omega) (by rw [he]; exact hp')
            refine ⟨this.1, ?_⟩
            have h2 := this.2
            rw [joinB_iff] at h2 ⊢
            exact ⟨h2.1, by rw [h2.2.1]; exact he, h2.2.2⟩
      · intro i s hi hl hsj
        simp only [List.length_append, List.length_cons, List.length_nil] at hl
        rw [List.getElem?_append_left (by omega)] at hi
        have := (h.all s (List.mem_of_getElem? hi) hsj).1.2.2
        omega
      · intro _ _
        refine ⟨by simp, ?_⟩
        rw [snoc_last, joinB_iff]
        exact ⟨rfl, by rw [hc], by simp⟩
      · intro s hs
        rcases List.mem_append.1 hs with hs | hs
        · exact h.old s hs
        · simp only [List.mem_cons, List.not_mem_nil, or_false] at hs
          subst hs
          exact Int.le_refl _

theorem days_whole {g : Int → ByteArray} {j : Int} {o : List Sy} (ho : ∀ s ∈ o, s.sl < j) : ∀ n : Nat, WhI g j n (daysS j g 0 n o)
  | 0 => ⟨fun s hs e => absurd (ho s hs) (by omega), fun i s hi _ e => absurd (ho s (List.mem_of_getElem? hi)) (by omega), fun h => absurd h (by omega), fun s hs => by have := ho s hs; omega⟩
  | n + 1 => by
    have := (days_whole (g := g) ho n).step
    rw [daysS]
    simpa using this
theorem longer_mem {o : List Sy} {x : Int} {s : Sy} (h : s ∈ longer o x) (ho : 0 < o.length) : ∃ s0 ∈ o, s0.sl = s.sl := by
  unfold longer at h
  rcases List.mem_or_eq_of_mem_set h with h | rfl
  · exact ⟨s, h, rfl⟩
  · exact ⟨_, List.mem_of_getElem? (last_of ho), rfl⟩
theorem addSy_old {o : List Sy} {s0 s : Sy} (h : s ∈ addSy o s0) (hne : s.sl ≠ s0.sl) : s ∈ o := by
  unfold addSy at h
  split at h
  · exact h
  · split at h
    · rename_i h1 h2
      unfold longer at h
      rcases List.mem_or_eq_of_mem_set h with h | h
      · exact h
      · have := (joinB_iff.1 h2.2).1
        rw [h] at hne
        exact absurd this hne
    · rcases List.mem_append.1 h with h | h
      · exact h
      · simp only [List.mem_cons, List.not_mem_nil, or_false] at h
        rw [h] at hne; exact absurd rfl hne
theorem daysS_old {g : Int → ByteArray} {j : Int} {o : List Sy} {s : Sy} (a : Int) (hne : s.sl ≠ j) : ∀ n : Nat, s ∈ daysS j g a n o → s ∈ o
  | 0, h => h
  | n + 1, h => daysS_old a hne n (addSy_old h hne)

theorem slots_whole (l : List Ver) (N : Nat) : ∀ n : Nat, ∀ s ∈ slotsD l 0 N n, (∃ j : Nat, j < n ∧ s.sl = j ∧ Whole (atS l j) N s)
  | 0, s, h => by simp [slotsD] at h
  | n + 1, s, h => by
    rw [slotsD] at h
    have ih := slots_whole l N n
    have hN : ((N : Int) - 0).toNat = N := by omega
    rw [hN] at h
    have hI := days_whole (g := atS l n) (j := (n : Int)) (o := slotsD l 0 N n) (fun s hs => by obtain ⟨j, hj, e, _⟩ := ih s hs; omega) N
    by_cases e : s.sl = n
    · exact ⟨n, by omega, e, hI.all s h e⟩
    · obtain ⟨j, hj, e2, hw⟩ := ih s (daysS_old 0 e N h)
      exact ⟨j, by omega, e2, hw⟩

end Go.Proofs.YtcaeochiippdgaaDoor
