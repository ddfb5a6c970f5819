/- The walks of slices.Clone over numbers, and of useRoll. -/
import Derived.Test.YtoaeflegcfecaaaPayP
import Derived.Test.YtoaeflegcfecaaaFloat
import Derived.StillTailTactics
import Derived.Test.YtoaeflegcfecaaaClone
namespace Go.Proofs.Ytoaeflegcfecaaa
open Go.RowKit

/-- The row with the m highest places done. -/
def rollPart (N : Nat) (f : Nat → Int) (n value m a : Nat) : Int := if N - m ≤ a then rollF f n value a else f a

set_option maxRecDepth 100000 in
set_option maxHeartbeats 800000 in
theorem useRoll_any (g N cap base : Nat) (f : Nat → Int) (n value : Nat) (w : World) (hown : w.ownsRow base 3 1 (.slice (some ⟨g, 0, none⟩) N cap) N (ints (fl N f)))
    (hf : ∀ a, 0 ≤ f a ∧ f a ≤ 20001) (hN : N ≤ 100000) (hn : n ≤ 100000) (hv : 1 ≤ value) (hv2 : value ≤ 1000000000) :
    Calls Try.prog 81 #[.slice (some ⟨g, 0, none⟩) N cap, .int .i64 n, .int .i64 value] w
      fun e w' => e = .returned (.tuple #[]) ∧ w'.ownsRow base 3 1 (.slice (some ⟨g, 0, none⟩) N cap) N (ints (fl N (rollF f n value))) ∧ w.grownBy w' (some g) := by
  have HF := Lib.hid hf
  clear hf
  go_enter Try.func81, Try.ntmps81
  go_wp2_with fail
  go_loopg [6] (N + 1) (fun k i wr => ∃ m : Nat, m ≤ N ∧ N + 1 - m ≤ k ∧ (m = 0 ∨ value + m ≤ N) ∧ i = .int .i64 ((N : Int) - 1 - m) ∧ wr.ownsRow base 3 1 (.slice (some ⟨g, 0, none⟩) N cap) N (ints (fl N (rollPart N f n value m))) ∧ w.grownBy wr (some g))
  case atStart => exact ⟨0, by omega, by omega, .inl rfl, by simp, by rw [fl_congr (g := f) (fun a ha => by unfold rollPart; rw [if_neg (by omega)])]; exact hown, World.grownBy.refl _ _⟩
  case round =>
    obtain ⟨m, hm, hk, hor, rfl, hown2, hg⟩ := hrel
    by_cases hlt : value + m < N
    · obtain ⟨j, hNj⟩ : ∃ j, N = m + 1 + j := ⟨N - m - 1, by omega⟩
      have hj : value ≤ j := by omega
      have c0 := own_int hown2 (j := j) (by omega)
      have c1 := own_int hown2 (j := j - value) (by omega)
      rw [fl_getD _ (by omega)] at c0 c1
      have e0 : rollPart N f n value m j = f j := by unfold rollPart; rw [if_neg (by omega)]
      have e1 : rollPart N f n value m (j - value) = f (j - value) := by unfold rollPart; rw [if_neg (by omega)]
      rw [e0] at c0
      rw [e1] at c1
      have hfr := hown2.frozenAt j
      have b0 := HF.out j
      have b1 := HF.out (j - value)
      have hset := own_int_set hown2 j (min (f j) (f (j - value) + n))
      rw [fl_set, fl_congr (g := rollPart N f n value (m + 1)) (fun a ha => by
        by_cases e : a = j
        · subst e; rw [if_pos rfl]; unfold rollPart rollF; rw [if_pos (by omega), if_pos hj]
        · rw [if_neg e]
          unfold rollPart
          by_cases h2 : N - m ≤ a
          · rw [if_pos h2, if_pos (by omega)]
          · rw [if_neg h2, if_neg (by omega)])] at hset
      clear e0 e1
      have hi : ((N : Int) - 1 - (m : Int)) = (j : Int) := by omega
      rw [hi]
      have hjl : (j : Int) < (N : Int) := by omega
      have hNJ := Lib.hid hNj
      clear hNj
      obtain ⟨x0, hx0⟩ : ∃ x0, f j = x0 := ⟨_, rfl⟩
      obtain ⟨x1, hx1⟩ : ∃ x1, f (j - value) = x1 := ⟨_, rfl⟩
      rw [hx0] at c0 b0 hset
      rw [hx1] at c1 b1 hset
      clear hx0 hx1 hi
      have HOR := Lib.hid (And.intro hor (And.intro hk hlt))
      clear hor hk hlt
      have hjv : ((j : Int) - (value : Int)).toNat = j - value := by omega
      have hv' : (value : Int) ≤ (j : Int) := by omega
      have hjv2 : (j : Int) - (value : Int) < (N : Int) := by omega
      have w1 : IntKind.i64.wrap (x1 + (n : Int)) = x1 + (n : Int) := IntWalk.i64_in _ (by omega)
      have w2 : IntKind.i64.wrap ((j : Int) - (value : Int)) = (j : Int) - (value : Int) := IntWalk.i64_in _ (by omega)
      by_cases hmin : x0 ≤ x1 + (n : Int)
      case' pos => rw [show min x0 (x1 + (n : Int)) = x0 from by omega] at hset
      case' neg => rw [show min x0 (x1 + (n : Int)) = x1 + (n : Int) from by omega] at hset
      all_goals
        have HX := Lib.hid hset
        clear hset
        go_wp2_with fail
        go_still_tail 16, (by kernel_rfl)
        go_wp2_with fail
        obtain ⟨hor, hk, hlt⟩ := HOR.out
        have hNj := hNJ.out
        go_roundg (gk - 1)
        case measure => omega
        case rel =>
          refine ⟨m + 1, by omega, by omega, .inr (by omega), by (first | (congr 1; omega) | omega), ?_, ?_⟩
          · exact HX.out
          · exact grown_drew (grown_set (p := ⟨g, j, none⟩) hg (.inr rfl) _)
    · go_wp2_with fail
      go_end0
      refine ⟨rfl, ?_, hg⟩
      rw [fl_congr (g := rollPart N f n value m) (fun a ha => by
        unfold rollPart
        by_cases h2 : N - m ≤ a
        · rw [if_pos h2]
        · rw [if_neg h2]; unfold rollF; rw [if_neg (by omega)])]
      exact hown2

end Go.Proofs.Ytoaeflegcfecaaa
