/- The walk of IsKey of package terms. -/
import Derived.Test.YtcipidfbclohoaaDoorTerms
namespace Go.Proofs.YtcipidfbclohoaaDoor
open Go.RowKit

def smB (x : Int) : Bool := decide (97 ≤ x) && decide (x ≤ 122)
def dgB (x : Int) : Bool := decide (48 ≤ x) && decide (x ≤ 57)
/-- A byte of a key. -/
def kyB (x : Int) : Bool := smB x || dgB x || (x == 45) || (x == 95)
/-- Byte i of a string. -/
def byI (s : ByteArray) (i : Nat) : Int := ((s.data[i]?.getD 0).toNat : Int)
def keyB (s : ByteArray) : Bool := decide (1 ≤ s.size) && decide (s.size ≤ 40) && smB (byI s 0) && ((List.range s.size).all fun i => kyB (byI s i))

theorem isSmall_any (x : Int) (w : World) : Calls Tryd.prog 94 #[.int .u8 x] w fun e w' => e = .returned (.bool (smB x)) ∧ w = w' := by
  by_cases h : 97 ≤ x
  · go_enter Tryd.func94, Tryd.ntmps94
    go_wp2
    go_ret
    exact ⟨by simp [smB, h], rfl⟩
  · have h' : x < 97 := by omega
    go_enter Tryd.func94, Tryd.ntmps94
    go_wp2
    go_ret
    exact ⟨by simp [smB]; omega, rfl⟩
theorem isDigit_any (x : Int) (w : World) : Calls Tryd.prog 95 #[.int .u8 x] w fun e w' => e = .returned (.bool (dgB x)) ∧ w = w' := by
  by_cases h : 48 ≤ x
  · go_enter Tryd.func95, Tryd.ntmps95
    go_wp2
    go_ret
    exact ⟨by simp [dgB, h], rfl⟩
  · have h' : x < 48 := by omega
    go_enter Tryd.func95, Tryd.ntmps95
    go_wp2
    go_ret
    exact ⟨by simp [dgB]; omega, rfl⟩

theorem byI_at {s : ByteArray} {i : Nat} (h : i < s.size) : ((s[i]'h).toNat : Int) = byI s i := by
  have h' : i < s.data.size := h
  unfold byI
  rw [Array.getElem?_eq_getElem h']
  rfl
theorem keyB_bad {s : ByteArray} {j : Nat} (hj : j < s.size) (h : kyB (byI s j) = false) : keyB s = false := by
  have : ((List.range s.size).all fun i => kyB (byI s i)) = false := by
    rw [List.all_eq_false]
    exact ⟨j, List.mem_range.2 hj, by rw [h]; simp⟩
  unfold keyB
  rw [this]
  simp
theorem keyB_good {s : ByteArray} (h1 : 1 ≤ s.size) (h2 : s.size ≤ 40) (h3 : smB (byI s 0) = true) (h : ∀ i, i < s.size → kyB (byI s i) = true) : keyB s = true := by
  have : ((List.range s.size).all fun i => kyB (byI s i)) = true := by
    rw [List.all_eq_true]
    intro i hi
    exact h i (List.mem_range.1 hi)
  unfold keyB
  rw [this, h3]
  simp [h1, h2]

set_option maxRecDepth 100000 in
set_option maxHeartbeats 1000000 in
theorem isKey_any (s : ByteArray) (w : World) : Calls Tryd.prog 82 #[.string s] w fun e w' => e = .returned (.bool (keyB s)) ∧ w = w' := by
  by_cases h1 : 1 ≤ s.size
  · have h1' : ¬ (s.size : Int) < 1 := by omega
    have h1d : decide ((s.size : Int) < 1) = false := decide_eq_false h1'
    have h0 : 0 < s.size := h1
    by_cases h40 : s.size ≤ 40
    · have h40' : ¬ (40 : Int) < (s.size : Int) := by omega
      have h40d : decide ((40 : Int) < (s.size : Int)) = false := decide_eq_false h40'
      have hb0 := byI_at h0
      have HB := Lib.hid hb0
      have HG := Lib.hid (keyB_good h1 h40)
      clear hb0
      by_cases hs : smB (byI s 0) = true
      · have HS := Lib.hid hs
        clear hs
        go_enter Tryd.func82, Tryd.ntmps82
        go_wp2_with fail
        rw [HB.out]
        refine (isSmall_any _ w).mono ?_
        rw [HS.out]
        rintro e w' ⟨rfl, rfl⟩
        go_wp2_with fail
        go_loopg [20] s.size (fun k i wr => ∃ j : Nat, k + j = s.size ∧ i = .int .i64 j ∧ w = wr ∧ Hid (∀ i, i < j → kyB (byI s i) = true))
        case atStart => exact ⟨0, by omega, rfl, rfl, Lib.hid fun i h => by omega⟩
        case round =>
          obtain ⟨j, hj, rfl, rfl, H⟩ := hrel
          by_cases hlt : j < s.size
          · have hbj := byI_at hlt
            have HBJ := Lib.hid hbj
            have hlt' : (j : Int) < (s.size : Int) := by omega
            have HK := Lib.hid (show kyB (byI s j) = false → keyB s = false from keyB_bad hlt)
            have HJ := Lib.hid hj
            clear hbj hj
            go_wp2_with fail
            rw [HBJ.out]
            refine (isSmall_any _ w).mono ?_
            obtain ⟨x, hx⟩ : ∃ x, x = byI s j := ⟨_, rfl⟩
            rw [← hx]
            have HX := Lib.hid hx
            clear hx
            have hkv : kyB x = (smB x || dgB x || (x == 45) || (x == 95)) := rfl
            by_cases hsm : smB x = true
            · rw [hsm] at hkv ⊢
              rintro e w' ⟨rfl, rfl⟩
              have HY := Lib.hid (show kyB (byI s j) = true by rw [← HX.out, hkv]; rfl)
              clear hkv hsm
              go_wp2_with fail
              have hj := HJ.out
              go_roundg (gk - 1)
              case measure => omega
              case rel => exact ⟨j + 1, by omega, by go_num, rfl, Lib.hid fun i hi => by
                by_cases e : i = j
                · rw [e]; exact HY.out
                · exact H.out i (by omega)⟩
            · have hsm' : smB x = false := by simpa using hsm
              rw [hsm'] at hkv ⊢
              rintro e w' ⟨rfl, rfl⟩
              clear hsm hsm'
              go_wp2_with fail
              rw [HBJ.out, ← HX.out]
              refine (isDigit_any _ w).mono ?_
              by_cases hdg : dgB x = true
              · rw [hdg] at hkv ⊢
                rintro e w' ⟨rfl, rfl⟩
                have HY := Lib.hid (show kyB (byI s j) = true by rw [← HX.out, hkv]; rfl)
                clear hkv hdg
                go_wp2_with fail
                have hj := HJ.out
                go_roundg (gk - 1)
                case measure => omega
                case rel => exact ⟨j + 1, by omega, by go_num, rfl, Lib.hid fun i hi => by
                  by_cases e : i = j
                  · rw [e]; exact HY.out
                  · exact H.out i (by omega)⟩
              · have hdg' : dgB x = false := by simpa using hdg
                rw [hdg'] at hkv ⊢
                rintro e w' ⟨rfl, rfl⟩
                clear hdg hdg'
                have hsx : ((s[j]'hlt).toNat : Int) = x := by rw [HX.out]; exact HBJ.out
                by_cases h45 : x = 45
                · have HY := Lib.hid (show kyB (byI s j) = true by rw [← HX.out, hkv, h45]; rfl)
                  have hn1 : (((s[j]'hlt).toNat : Int) != 45) = false := by rw [hsx, h45]; rfl
                  clear hkv hsx h45
                  go_wp2_with fail
                  have hj := HJ.out
                  go_roundg (gk - 1)
                  case measure => omega
                  case rel => exact ⟨j + 1, by omega, by go_num, rfl, Lib.hid fun i hi => by
                    by_cases e : i = j
                    · rw [e]; exact HY.out
                    · exact H.out i (by omega)⟩
                · have hn1 : (((s[j]'hlt).toNat : Int) != 45) = true := by rw [hsx, bne_iff_ne]; exact h45
                  by_cases h95 : x = 95
                  · have HY := Lib.hid (show kyB (byI s j) = true by rw [← HX.out, hkv, h95]; rfl)
                    have hn2 : (((s[j]'hlt).toNat : Int) != 95) = false := by rw [hsx, h95]; rfl
                    clear hkv hsx h45 h95
                    go_wp2_with fail
                    have hj := HJ.out
                    go_roundg (gk - 1)
                    case measure => omega
                    case rel => exact ⟨j + 1, by omega, by go_num, rfl, Lib.hid fun i hi => by
                      by_cases e : i = j
                      · rw [e]; exact HY.out
                      · exact H.out i (by omega)⟩
                  · have hn2 : (((s[j]'hlt).toNat : Int) != 95) = true := by rw [hsx, bne_iff_ne]; exact h95
                    have HV := Lib.hid (HK.out (by rw [← HX.out, hkv]; simp [h45, h95]))
                    clear hkv hsx h45 h95
                    go_wp2_with fail
                    go_ret
                    exact ⟨retB HV.out.symm, rfl⟩
          · obtain rfl : j = s.size := by omega
            go_wp2_with fail
            go_ret
            exact ⟨retB (HG.out HS.out H.out).symm, rfl⟩
      · have hs' : smB (byI s 0) = false := by simpa using hs
        have HS := Lib.hid hs'
        have HV := Lib.hid (show keyB s = false by unfold keyB; rw [hs']; simp)
        clear hs hs'
        go_enter Tryd.func82, Tryd.ntmps82
        go_wp2_with fail
        rw [HB.out]
        refine (isSmall_any _ w).mono ?_
        rw [HS.out]
        rintro e w' ⟨rfl, rfl⟩
        go_wp2_with fail
        go_ret
        exact ⟨retB HV.out.symm, rfl⟩
    · have h40' : (40 : Int) < (s.size : Int) := by omega
      have h40d : decide ((40 : Int) < (s.size : Int)) = true := decide_eq_true h40'
      have HV := Lib.hid (show keyB s = false by unfold keyB; rw [decide_eq_false h40]; simp)
      clear h40
      go_enter Tryd.func82, Tryd.ntmps82
      go_wp2_with fail
      go_ret
      exact ⟨retB HV.out.symm, rfl⟩
  · have h1d : decide ((s.size : Int) < 1) = true := decide_eq_true (by omega)
    have HV := Lib.hid (show keyB s = false by unfold keyB; rw [decide_eq_false h1]; simp)
    go_enter Tryd.func82, Tryd.ntmps82
    go_wp2_with fail
    go_ret
    exact ⟨retB HV.out.symm, rfl⟩

end Go.Proofs.YtcipidfbclohoaaDoor
