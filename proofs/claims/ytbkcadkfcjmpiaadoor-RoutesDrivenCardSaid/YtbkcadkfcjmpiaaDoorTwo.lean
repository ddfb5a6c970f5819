/- The walks of twoDigits and clock. -/
import Derived.Test.YtbkcadkfcjmpiaaDoorTerms
import Derived.Test.YtbkcadkfcjmpiaaDoorLaidB
import Derived.Lib.AppendIntMem
namespace Go.Proofs.YtbkcadkfcjmpiaaDoor
open Go.RowKit

abbrev TabP (w : World) : Prop := Lib.TabIs Tryd.prog w "internal/strconv.uint64pow10" .u64 Lib.pow10Tab
theorem tabP_grown {w w' : World} (h : TabP w) (hg : w.grownBy w' none) : TabP w' := by
  unfold TabP Lib.TabIs World.var? at *
  cases hn : Tryd.prog.globalNamed "internal/strconv.uint64pow10" with
  | none => simp [hn] at h
  | some g =>
    simp only [hn, Option.bind_some] at h ⊢
    have hlt : g < w.heap.size := by
      rcases Nat.lt_or_ge g w.heap.size with h' | h'
      · exact h'
      · rw [Array.getElem?_eq_none h'] at h; cases h
    rw [hg.block g hlt (by simp)]
    exact h

theorem dec_len {n : Nat} (h : n ≤ 240) : (Lib.decDigits n).length ≤ 3 := by
  rw [Lib.decDigits]
  split
  · simp
  · rw [Lib.decDigits]
    split
    · simp
    · rw [Lib.decDigits, dif_pos (by omega)]
      simp
theorem retSt {a b : ByteArray} (h : a = b) : Ending.returned (.string a) = .returned (.string b) := by rw [h]
/-- A number with at least two digits. -/
def twoB (n : Nat) : ByteArray := if n < 10 then (⟨#[48]⟩ : ByteArray) ++ ⟨(Lib.decDigits n).toArray⟩ else ⟨(Lib.decDigits n).toArray⟩
theorem twoB_size {n : Nat} (h : n ≤ 240) : (twoB n).size ≤ 4 := by
  have hl : (⟨(Lib.decDigits n).toArray⟩ : ByteArray).size ≤ 3 := dec_len h
  unfold twoB
  split
  · rw [ByteArray.size_append]; show 1 + _ ≤ 4; omega
  · omega
def clkB (n : Nat) : ByteArray := twoB (n / 60) ++ ⟨#[58]⟩ ++ twoB (n % 60)

theorem itoa_any (n : Nat) (hn : n ≤ 1000000) (w : World) (hT : TabP w) : Calls Tryd.prog 105 #[.int .i64 n] w fun e w' => e = .returned (.string ⟨(Lib.decDigits n).toArray⟩) ∧ w.grownBy w' none := by
  refine (Tryd.strconv_Itoa n (by omega) (by omega) w hT).mono ?_
  rintro e w' ⟨rfl, k, os, rfl⟩
  refine ⟨?_, below_grown (Lib.below_grow w.heap.size w (Nat.le_refl _) k os)⟩
  unfold Lib.itoa
  rw [if_neg (by omega), Int.toNat_natCast]

set_option maxRecDepth 100000 in
theorem twoDigits_any (n : Nat) (hn : n ≤ 240) (w : World) (hT : TabP w) : Calls Tryd.prog 84 #[.int .i64 n] w fun e w' => e = .returned (.string (twoB n)) ∧ w.grownBy w' none := by
  have hi := fun wx (h : w.grownBy wx none) => itoa_any n (by omega) wx (tabP_grown hT h)
  obtain ⟨D, hD⟩ : ∃ D, (⟨(Lib.decDigits n).toArray⟩ : ByteArray) = D := ⟨_, rfl⟩
  obtain ⟨F, hF⟩ : ∃ F, twoB n = F := ⟨_, rfl⟩
  rw [hF]
  unfold twoB at hF
  have hDs : D.size ≤ 3 := by rw [← hD]; exact dec_len hn
  rw [hD] at hi hF
  have HW := Lib.hid (And.intro hi hF)
  clear hi hF hD hT
  by_cases h : n < 10
  · go_enter Tryd.func84, Tryd.ntmps84
    go_wp2_with fail
    refine (HW.out.1 w (grown_refl w)).mono ?_
    rintro e w1 ⟨rfl, hg1⟩
    go_wp2_with fail
    go_ret
    exact ⟨retSt (by rw [← HW.out.2, if_pos h]), hg1⟩
  · go_enter Tryd.func84, Tryd.ntmps84
    go_wp2_with fail
    refine (HW.out.1 w (grown_refl w)).mono ?_
    rintro e w1 ⟨rfl, hg1⟩
    go_wp2_with fail
    go_ret
    exact ⟨retSt (by rw [← HW.out.2, if_neg h]), hg1⟩

set_option maxRecDepth 100000 in
set_option maxHeartbeats 2000000 in
theorem clock_any (n : Nat) (hn : n ≤ 14400) (w : World) (hT : TabP w) : Calls Tryd.prog 58 #[.int .i64 n] w fun e w' => e = .returned (.string (clkB n)) ∧ w.grownBy w' none := by
  have h1 := fun wx (h : w.grownBy wx none) => twoDigits_any (n / 60) (by omega) wx (tabP_grown hT h)
  have h2 := fun wx (h : w.grownBy wx none) => twoDigits_any (n % 60) (by omega) wx (tabP_grown hT h)
  have e1 : ((n / 60 : Nat) : Int) = (n : Int) / 60 := by omega
  have e2 : ((n % 60 : Nat) : Int) = (n : Int) % 60 := by omega
  rw [e1] at h1
  rw [e2] at h2
  obtain ⟨F, hF⟩ : ∃ F, clkB n = F := ⟨_, rfl⟩
  rw [hF]
  unfold clkB at hF
  have hs1 := twoB_size (show n / 60 ≤ 240 by omega)
  have hs2 := twoB_size (show n % 60 ≤ 240 by omega)
  obtain ⟨P, hP⟩ : ∃ P, twoB (n / 60) = P := ⟨_, rfl⟩
  obtain ⟨R, hR⟩ : ∃ R, twoB (n % 60) = R := ⟨_, rfl⟩
  rw [hP] at h1 hF hs1
  rw [hR] at h2 hF hs2
  have hq : (P ++ (⟨#[58]⟩ : ByteArray)).size ≤ 5 := by rw [ByteArray.size_append]; show P.size + 1 ≤ 5; omega
  have HW := Lib.hid (And.intro h1 (And.intro h2 hF))
  clear h1 h2 hT e1 e2 hP hR hF
  go_enter Tryd.func58, Tryd.ntmps58
  go_wp2_with fail
  refine (HW.out.1 w (grown_refl w)).mono ?_
  rintro e w1 ⟨rfl, hg1⟩
  go_wp2_with fail
  refine (HW.out.2.1 w1 hg1).mono ?_
  rintro e w2 ⟨rfl, hg2⟩
  go_wp2_with fail
  go_ret
  exact ⟨retSt HW.out.2.2, hg1.trans hg2⟩

end Go.Proofs.YtbkcadkfcjmpiaaDoor
