/- Together, Quantile and their references in one form each. -/
import Derived.Test.YtkfijicmeekmiaaTogR
import Derived.Test.YtkfijicmeekmiaaQuan
import Derived.Test.YtkfijicmeekmiaaHsgR
namespace Go.Proofs.Ytkfijicmeekmiaa
open Go.RowKit

/-- What Together answers, as a list. -/
def togX (l : List Int) (days : Int) : List Int := if togE l days = 0 then togL l days else []
theorem togX_len {l : List Int} {days : Int} : (togX l days).length ≤ 2001 := by
  unfold togX
  split
  · rename_i h
    obtain ⟨hf, ⟨d0, d1⟩, hlen, _, _⟩ := tog_ok h
    have hp := tr_pos (histF_ok hf).2.2.1
    have hle := trN_le l
    have hone : (l.take (trN l)).length = trN l := by rw [List.length_take]; omega
    unfold togL
    rw [togP_len (by omega), hone, show days.toNat - 1 + 1 = days.toNat from by omega]
    exact hlen
  · simp
theorem together_any (A : Option Addr) (n c : Nat) (l : List Int) (days : Int) (w : World) (hr : Rd w 1 A n (ints l)) (hnc : n ≤ c) (hn : n ≤ 100000) (hdd : -100 ≤ days ∧ days ≤ 100) :
    Calls Try.prog 40 #[.slice A n c, .int .i64 days] w fun e w' => ∃ B d, e = .returned (.tuple #[.slice B (togX l days).length d, .int .i64 (togE l days)]) ∧ Rd w' 1 B (togX l days).length (ints (togX l days)) ∧ w.grownBy w' none := by
  by_cases h : togE l days = 0
  · have hx : togX l days = togL l days := by unfold togX; rw [if_pos h]
    rw [hx]
    refine (together_ok A n c l days w hr hnc hn h).mono ?_
    rintro e w' ⟨v, rfl, hown, hg⟩
    obtain ⟨B, d, rfl, _, _, hrd, _⟩ := Rd.of_own hown
    exact ⟨B, d, by rw [h], hrd, hg⟩
  · have hx : togX l days = [] := by unfold togX; rw [if_neg h]
    rw [hx]
    refine (together_bad A n c l days w hr hnc hn hdd h).mono ?_
    rintro e w' ⟨rfl, hg⟩
    exact ⟨none, 0, rfl, Rd.nil_ _ _ _, hg⟩
theorem togetherOf_form (A : Option Addr) (n c : Nat) (l : List Int) (days : Int) (w : World) (hr : Rd w 1 A n (ints l)) (hnc : n ≤ c) (hf : histF l = 0) (hdd : -100 ≤ days ∧ days ≤ 100) :
    Calls Try.prog 43 #[.slice A n c, .int .i64 days] w fun e w' => ∃ B d, e = .returned (.tuple #[.slice B (togX l days).length d, .int .i64 (togE l days)]) ∧ Rd w' 1 B (togX l days).length (ints (togX l days)) ∧ w.grownBy w' none := by
  refine (togetherOf_any A n c l days w hr hnc hf hdd).mono ?_
  rintro e w' ⟨v, rfl, h1, h2, hg⟩
  by_cases h : togE l days = 0
  · have hx : togX l days = togL l days := by unfold togX; rw [if_pos h]
    rw [hx]
    obtain ⟨B, d, rfl, _, _, hrd, _⟩ := Rd.of_own (h2 h)
    exact ⟨B, d, rfl, hrd, hg⟩
  · have hx : togX l days = [] := by unfold togX; rw [if_neg h]
    rw [hx, h1 h]
    exact ⟨none, 0, rfl, Rd.nil_ _ _ _, hg⟩

/-- The answer of Quantile, where it is N if nothing is wrong. -/
def quX (l : List Int) (pc : Int) (N : Nat) : Int := if quE l pc = 0 then (N : Int) else 0
theorem qu_ok {l : List Int} {pc : Int} (h : quE l pc = 0) : histF l = 0 ∧ (1 ≤ pc ∧ pc ≤ 100) := by
  unfold quE at h
  by_cases h1 : histF l = 0
  · rw [if_neg (by omega)] at h
    by_cases h2 : btw pc 1 100 = false
    · rw [if_pos h2] at h; omega
    · exact ⟨h1, btw_true.1 (by simpa using h2)⟩
  · rw [if_pos h1] at h; exact absurd h h1
theorem quantile_any (A : Option Addr) (n c : Nat) (l : List Int) (pc : Int) (N : Nat) (w : World) (hr : Rd w 1 A n (ints l)) (hn : n ≤ 100000) (hN : quE l pc = 0 → QuS l pc N) :
    Calls Try.prog 42 #[.slice A n c, .int .i64 pc] w fun e w' => e = .returned (.tuple #[.int .i64 (quX l pc N), .int .i64 (quE l pc)]) ∧ w.grownBy w' none := by
  by_cases h : quE l pc = 0
  · obtain ⟨hf, hpc⟩ := qu_ok h
    unfold quX
    rw [if_pos h, h]
    exact quantile_ok A n c l pc N w hr hf hpc (hN h)
  · unfold quX
    rw [if_neg h]
    exact quantile_bad A n c l pc w hr hn h
theorem quantileOf_any (A : Option Addr) (n c : Nat) (l : List Int) (pc : Int) (N : Nat) (w : World) (hr : Rd w 1 A n (ints l)) (hnc : n ≤ c) (hf : histF l = 0) (hN : quE l pc = 0 → QuS l pc N) :
    Calls Try.prog 45 #[.slice A n c, .int .i64 pc] w fun e w' => e = .returned (.tuple #[.int .i64 (quX l pc N), .int .i64 (quE l pc)]) ∧ w.grownBy w' none := by
  by_cases h : quE l pc = 0
  · obtain ⟨_, hpc⟩ := qu_ok h
    unfold quX
    rw [if_pos h, h]
    exact quantileOf_ok A n c l pc N w hr hnc hf hpc (hN h)
  · have hb : btw pc 1 100 = false := by
      cases hb : btw pc 1 100
      · rfl
      · refine absurd ?_ h
        unfold quE
        rw [if_neg (by omega), if_neg (by simp [hb])]
    have he : quE l pc = 1 := by unfold quE; rw [if_neg (by omega), if_pos hb]
    unfold quX
    rw [if_neg h, he]
    exact quantileOf_bad A n c pc w hb
theorem chV_form (l : List Int) (least : Int) : ∃ a b c : Int, chV l least = .tuple #[.agg #[.int .i64 a, .int .i64 b], .int .i64 c] := by
  unfold chV frac
  split
  · exact ⟨_, _, _, rfl⟩
  · split <;> exact ⟨_, _, _, rfl⟩

end Go.Proofs.Ytkfijicmeekmiaa
