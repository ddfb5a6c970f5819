/- The walk of the reference's two digits: TourText's closure. -/
import Derived.Test.YtbkcadkfcjmpiaaDoorTwo
namespace Go.Proofs.YtbkcadkfcjmpiaaDoor
open Go.RowKit

/-- The last i digits of a number. -/
def lowD (n : Nat) : Nat → ByteArray
  | 0 => ByteArray.empty
  | i + 1 => Utf8.encode (48 + ((n / 10 ^ i : Nat) : Int) % 10) ++ lowD n i
theorem dig_enc : ∀ d : Nat, d < 10 → Utf8.encode (48 + (d : Int)) = ⟨#[UInt8.ofNat (48 + d)]⟩ := by decide +kernel
theorem lowD_size (n : Nat) : ∀ i, (lowD n i).size = i
  | 0 => rfl
  | i + 1 => by
    have h := dig_enc ((n / 10 ^ i) % 10) (Nat.mod_lt _ (by decide))
    have e : (((n / 10 ^ i) % 10 : Nat) : Int) = ((n / 10 ^ i : Nat) : Int) % 10 := by omega
    rw [e] at h
    rw [lowD, h, ByteArray.size_append, lowD_size n i]
    show 1 + i = i + 1
    omega
theorem lowD_two {n : Nat} (h : n < 100) : lowD n 2 = twoB n := by
  have h1 := dig_enc (n % 10) (by omega)
  have h2 := dig_enc (n / 10) (by omega)
  have e1 : ((n % 10 : Nat) : Int) = (n : Int) % 10 := by omega
  have e2 : ((n / 10 : Nat) : Int) = ((n / 10 : Nat) : Int) % 10 := by omega
  rw [e1] at h1
  rw [e2] at h2
  unfold twoB
  rw [lowD, lowD, lowD, Nat.pow_one, Nat.pow_zero, Nat.div_one, h1, h2]
  by_cases h10 : n < 10
  · rw [if_pos h10, Lib.decDigits_one h10, show n / 10 = 0 from by omega, show n % 10 = n from by omega]
    rfl
  · rw [if_neg h10, Lib.decDigits_two h10 h]
    rfl
theorem lowD_three {n : Nat} (h0 : 100 ≤ n) (h : n ≤ 240) : lowD n 3 = twoB n := by
  have h1 := dig_enc (n % 10) (by omega)
  have h2 := dig_enc (n / 10 % 10) (by omega)
  have h3 := dig_enc (n / 100) (by omega)
  have e1 : ((n % 10 : Nat) : Int) = (n : Int) % 10 := by omega
  have e2 : ((n / 10 % 10 : Nat) : Int) = ((n / 10 : Nat) : Int) % 10 := by omega
  have e3 : ((n / 100 : Nat) : Int) = ((n / 100 : Nat) : Int) % 10 := by omega
  rw [e1] at h1
  rw [e2] at h2
  rw [e3] at h3
  unfold twoB
  rw [lowD, lowD, lowD, lowD, show (10 : Nat) ^ 2 = 100 from rfl, Nat.pow_one, Nat.pow_zero, Nat.div_one, h1, h2, h3, if_neg (by omega), Lib.decDigits, dif_neg (by omega), Lib.decDigits_two (by omega) (by omega), show n / 10 / 10 = n / 100 from by omega]
  rfl

set_option maxRecDepth 100000 in
set_option maxHeartbeats 2000000 in
theorem twoRef_any (n : Nat) (hn : n ≤ 240) (w : World) : Calls Tryd.prog 62 #[.int .i64 n] w fun e w' => e = .returned (.string (twoB n)) ∧ w.grownBy w' none := by
  go_enter Tryd.func62, Tryd.ntmps62
  go_wp2_with fail
  go_loopg [0, 3] 3 (fun k a b wr => ∃ i : Nat, k + i = 3 ∧ a = .int .i64 ((n / 10 ^ i : Nat) : Int) ∧ b = .string (lowD n i) ∧ (i = 3 → 100 ≤ n) ∧ w.grownBy wr none)
  case atStart => exact ⟨0, by omega, by simp, rfl, by omega, grown_refl w⟩
  case round =>
    obtain ⟨i, hi, rfl, rfl, h3, hg⟩ := hrel
    have hsz := lowD_size n i
    obtain ⟨m, hm⟩ : ∃ m, n / 10 ^ i = m := ⟨_, rfl⟩
    obtain ⟨s, hs⟩ : ∃ s, lowD n i = s := ⟨_, rfl⟩
    rw [hm, hs]
    rw [hs] at hsz
    have hml : m ≤ 240 := by rw [← hm]; exact Nat.le_trans (Nat.div_le_self _ _) hn
    have hi3 : i ≤ 3 := by omega
    by_cases hm0 : 0 < m
    · have hi2 : i ≠ 3 := by
        intro e
        rw [e] at hm
        have : n / 10 ^ 3 = 0 := Nat.div_eq_of_lt (by omega)
        omega
      have hi22 : i = 2 → 100 ≤ n := by
        intro e
        rw [e] at hm
        rcases Nat.lt_or_ge n 100 with h | h
        · have : n / 10 ^ 2 = 0 := Nat.div_eq_of_lt (by omega)
          omega
        · exact h
      have hd := dig_enc (m % 10) (Nat.mod_lt _ (by decide))
      have hpe : (((m % 10 : Nat)) : Int) = (m : Int) % 10 := by omega
      rw [hpe] at hd
      obtain ⟨p, hp⟩ : ∃ p : Int, 48 + (m : Int) % 10 = p := ⟨_, rfl⟩
      have hpw : IntKind.i64.wrap (48 + (m : Int) % 10) = p := by rw [hp]; exact IntWalk.i64_in _ (by omega)
      have hp2 : IntKind.i32.wrap p = p := IntWalk.i32_in _ (by omega)
      have hes : (Utf8.encode p).size = 1 := by rw [← hp, hd]; rfl
      have hlow : Utf8.encode p ++ s = lowD n (i + 1) := by rw [lowD, ← hs, hm, ← hp]
      have HP := Lib.hid (And.intro hlow (And.intro hm (And.intro hi (And.intro h3 hg))))
      clear hd hp hpe hlow hs hm hi h3 hg
      go_wp2_with fail
      obtain ⟨hlow, hm, hi, h3, hg⟩ := HP.out
      go_roundg (gk - 1)
      case measure => omega
      case rel =>
        refine ⟨i + 1, by omega, ?_, by rw [← hlow], by omega, hg⟩
        have : n / 10 ^ (i + 1) = m / 10 := by rw [Nat.pow_succ, ← Nat.div_div_eq_div_mul, hm]
        rw [this]
        congr 1
    · obtain rfl : m = 0 := by omega
      by_cases hi2 : i < 2
      · have hes : (Utf8.encode 48).size = 1 := by decide +kernel
        have hlow : Utf8.encode 48 ++ s = lowD n (i + 1) := by rw [lowD, ← hs, hm]; rfl
        have hm2 : n / 10 ^ (i + 1) = 0 := by rw [Nat.pow_succ, ← Nat.div_div_eq_div_mul, hm]
        have HP := Lib.hid (And.intro hlow (And.intro hm2 (And.intro hi hg)))
        have hw1 : IntKind.i64.wrap (48 : Int) = 48 := rfl
        have hw2 : IntKind.i32.wrap (48 : Int) = 48 := rfl
        clear hlow hs hm hi h3 hg hm2
        go_wp2_with fail
        obtain ⟨hlow, hm, hi, hg⟩ := HP.out
        go_roundg (gk - 1)
        case measure => omega
        case rel =>
          refine ⟨i + 1, by omega, by rw [hm]; rfl, ?_, by omega, hg⟩
          rw [← hlow]
      · have hfin : s = twoB n := by
          rw [← hs]
          rcases Nat.lt_or_ge i 3 with h | h
          · obtain rfl : i = 2 := by omega
            have : n < 100 := by
              rcases Nat.lt_or_ge n 100 with h | h
              · exact h
              · have : 0 < n / 10 ^ 2 := Nat.div_pos (by omega) (by decide)
                omega
            exact lowD_two this
          · obtain rfl : i = 3 := by omega
            exact lowD_three (h3 rfl) hn
        subst hfin
        clear hs hm hi h3
        go_wp2_with fail
        go_ret
        exact ⟨rfl, hg⟩

end Go.Proofs.YtbkcadkfcjmpiaaDoor
