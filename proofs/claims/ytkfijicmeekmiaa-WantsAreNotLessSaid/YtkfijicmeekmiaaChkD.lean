/- The walks of CheckDays and of the reference's DaysFault. -/
import Derived.Test.YtkfijicmeekmiaaSal
namespace Go.Proofs.Ytkfijicmeekmiaa
open Go.RowKit

set_option maxRecDepth 100000 in
set_option maxHeartbeats 400000 in
theorem checkDays_any (A : Option Addr) (n c : Nat) (l : List Sal) (w : World) (hr : Rd w 3 A n (salFlat l)) (hn : n ≤ 400) :
    Calls Try.prog 14 #[.slice A n c] w fun e w' => e = .returned (.int .i64 (dayFault l)) ∧ w.grownBy w' none := by
  have hl : l.length = n := by have := hr.1; rw [salFlat_len] at this; omega
  have hS : DayInv l 0 := DayInv.start (by omega)
  have HL := Lib.hid hl
  clear hl
  go_enter Try.func14, Try.ntmps14
  go_wp2_with fail
  go_loopg [10] n (fun k i wr => ∃ j : Nat, k + j = n ∧ i = .int .i64 j ∧ w.grownBy wr none ∧ DayInv l j)
  case atStart => exact ⟨0, by omega, rfl, grown_refl w, hS⟩
  case round =>
    obtain ⟨j, hj, rfl, hg, H⟩ := hrel
    by_cases hlt : j < n
    · obtain ⟨b, off, rfl, hb, t, ht, c0, c1, c2⟩ := sal_cells (hr.grown hg) hlt
      have HT := Lib.hid ht
      have HJ := Lib.hid hj
      clear ht hj
      by_cases h1 : btw t.d 0 4000 = true
      · by_cases hj0 : j = 0
        · subst hj0
          simp only [Nat.zero_mul, Nat.add_zero] at c0 c1 c2
          go_wp2_with (go_at_call 69; refine (between_any _ _ _ _).mono ?_; rintro e w' ⟨rfl, rfl⟩)
          go_quiet (fail)
          go_wp2_with (go_at_call 69; refine (between_any _ _ _ _).mono ?_; rintro e w' ⟨rfl, rfl⟩)
          · have h2 : (!btw t.s 0 1000) = true := by assumption
            go_ret
            exact ⟨retI (H.rs HT.out h1 (DPrevOk.zero l t) (by simpa using h2)).symm, grown_drewN (grown_alloc hg _) _⟩
          · have h2 : (!btw t.s 0 1000) = false := by assumption
            have hj := HJ.out
            go_roundg (gk - 1)
            case measure => omega
            case rel => exact ⟨1, by omega, by go_num, grown_drewN (grown_alloc hg _) _, H.next HT.out h1 (DPrevOk.zero l t) (by simpa using h2)⟩
        · obtain ⟨p, rfl⟩ : ∃ p, j = p + 1 := ⟨j - 1, by omega⟩
          obtain ⟨b', off', e', _, t', ht', d0, _, _⟩ := sal_cells ((hr.grown hg)) (k := p) (by omega)
          obtain ⟨rfl, rfl⟩ : b = b' ∧ off = off' := by simpa using e'
          have HT' := Lib.hid ht'
          clear ht' e' hj0
          by_cases h2 : t.d ≤ t'.d
          · go_wp2_with (go_at_call 69; refine (between_any _ _ _ _).mono ?_; rintro e w' ⟨rfl, rfl⟩)
            go_quiet (fail)
            go_wp2_with (go_at_call 69; refine (between_any _ _ _ _).mono ?_; rintro e w' ⟨rfl, rfl⟩)
            go_ret
            exact ⟨retI (H.r7 HT.out HT'.out h1 h2).symm, grown_drewN (grown_alloc hg _) _⟩
          · go_wp2_with (go_at_call 69; refine (between_any _ _ _ _).mono ?_; rintro e w' ⟨rfl, rfl⟩)
            go_quiet (fail)
            go_wp2_with (go_at_call 69; refine (between_any _ _ _ _).mono ?_; rintro e w' ⟨rfl, rfl⟩)
            · have h3 : (!btw t.s 0 1000) = true := by assumption
              go_ret
              exact ⟨retI (H.rs HT.out h1 (DPrevOk.succ HT'.out (by omega)) (by simpa using h3)).symm, grown_drewN (grown_alloc hg _) _⟩
            · have h3 : (!btw t.s 0 1000) = false := by assumption
              have hj := HJ.out
              go_roundg (gk - 1)
              case measure => omega
              case rel => exact ⟨p + 1 + 1, by omega, by go_num, grown_drewN (grown_alloc hg _) _, H.next HT.out h1 (DPrevOk.succ HT'.out (by omega)) (by simpa using h3)⟩
      · have h1' : btw t.d 0 4000 = false := by simpa using h1
        go_wp2_with (go_at_call 69; refine (between_any _ _ _ _).mono ?_; rintro e w' ⟨rfl, rfl⟩)
        go_ret
        exact ⟨retI (H.r1 HT.out h1').symm, grown_alloc hg _⟩
    · obtain rfl : j = n := by omega
      go_wp2_with fail
      go_ret
      exact ⟨retI (H.done HL.out.symm).symm, hg⟩

set_option maxRecDepth 100000 in
set_option maxHeartbeats 400000 in
theorem refDaysFault_any (A : Option Addr) (n c : Nat) (l : List Sal) (w : World) (hr : Rd w 3 A n (salFlat l)) (hn : n ≤ 400) :
    Calls Try.prog 13 #[.slice A n c] w fun e w' => e = .returned (.int .i64 (dayFault l)) ∧ w.grownBy w' none := by
  have hl : l.length = n := by have := hr.1; rw [salFlat_len] at this; omega
  have hS : DayInv l 0 := DayInv.start (by omega)
  have HL := Lib.hid hl
  clear hl
  go_enter Try.func13, Try.ntmps13
  go_wp2_with fail
  go_loopg [10] n (fun k i wr => ∃ j : Nat, k + j = n ∧ i = .int .i64 j ∧ w.grownBy wr none ∧ DayInv l j)
  case atStart => exact ⟨0, by omega, rfl, grown_refl w, hS⟩
  case round =>
    obtain ⟨j, hj, rfl, hg, H⟩ := hrel
    by_cases hlt : j < n
    · obtain ⟨b, off, rfl, hb, t, ht, c0, c1, c2⟩ := sal_cells (hr.grown hg) hlt
      have HT := Lib.hid ht
      have HJ := Lib.hid hj
      clear ht hj
      have hd : t.d < 0 ∨ (0 ≤ t.d ∧ 4000 < t.d) ∨ (0 ≤ t.d ∧ t.d ≤ 4000) := by omega
      rcases hd with hd | ⟨hd0, hd⟩ | ⟨hd0, hd1⟩
      · have HB := Lib.hid (show btw t.d 0 4000 = false by simp [btw]; omega)
        go_wp2_with fail
        go_ret
        exact ⟨retI (H.r1 HT.out HB.out).symm, grown_alloc hg _⟩
      · have HB := Lib.hid (show btw t.d 0 4000 = false by simp [btw]; omega)
        go_wp2_with fail
        go_ret
        exact ⟨retI (H.r1 HT.out HB.out).symm, grown_alloc hg _⟩
      · have HB := Lib.hid (show btw t.d 0 4000 = true from btw_true.2 ⟨hd0, hd1⟩)
        have hcase : (j = 0) ∨ ∃ p, j = p + 1 := by
          rcases Nat.eq_zero_or_pos j with h | h
          · exact .inl h
          · exact .inr ⟨j - 1, by omega⟩
        have hs1 : t.s < 0 ∨ (0 ≤ t.s ∧ 1000 < t.s) ∨ (0 ≤ t.s ∧ t.s ≤ 1000) := by omega
        rcases hcase with hj0 | ⟨p, hjp⟩
        · subst hj0
          simp only [Nat.zero_mul, Nat.add_zero] at c0 c1 c2
          have HPV := Lib.hid (DPrevOk.zero l t)
          rcases hs1 with e1 | ⟨e1, e2⟩ | ⟨e1, e2⟩
          · have HM := Lib.hid (show btw t.s 0 1000 = false by simp [btw]; omega)
            go_wp2_with fail
            go_quiet (fail)
            go_wp2_with fail
            go_ret
            exact ⟨retI (H.rs HT.out HB.out HPV.out HM.out).symm, grown_drewN (grown_alloc hg _) _⟩
          · have HM := Lib.hid (show btw t.s 0 1000 = false by simp [btw]; omega)
            go_wp2_with fail
            go_quiet (fail)
            go_wp2_with fail
            go_ret
            exact ⟨retI (H.rs HT.out HB.out HPV.out HM.out).symm, grown_drewN (grown_alloc hg _) _⟩
          · have HM := Lib.hid (show btw t.s 0 1000 = true from btw_true.2 ⟨e1, e2⟩)
            go_wp2_with fail
            go_quiet (fail)
            go_wp2_with fail
            have hj := HJ.out
            go_roundg (gk - 1)
            case measure => omega
            case rel => exact ⟨0 + 1, by omega, by go_num, grown_drewN (grown_alloc hg _) _, H.next HT.out HB.out HPV.out HM.out⟩
        · subst hjp
          obtain ⟨b', off', e', _, t', ht', g0, _, _⟩ := sal_cells (hr.grown hg) (k := p) (by omega)
          obtain ⟨rfl, rfl⟩ : b = b' ∧ off = off' := by simpa using e'
          have HT' := Lib.hid ht'
          clear ht' e'
          by_cases h2 : t.d ≤ t'.d
          · go_wp2_with fail
            go_quiet (fail)
            go_wp2_with fail
            go_ret
            exact ⟨retI (H.r7 HT.out HT'.out HB.out h2).symm, grown_drewN (grown_alloc hg _) _⟩
          · have HPV := Lib.hid (DPrevOk.succ HT'.out (show t'.d < t.d by omega))
            have hpn : decide (t.d ≤ t'.d) = false := by simpa using h2
            rcases hs1 with e1 | ⟨e1, e2⟩ | ⟨e1, e2⟩
            · have HM := Lib.hid (show btw t.s 0 1000 = false by simp [btw]; omega)
              go_wp2_with fail
              go_quiet (fail)
              go_wp2_with fail
              go_ret
              exact ⟨retI (H.rs HT.out HB.out HPV.out HM.out).symm, grown_drewN (grown_alloc hg _) _⟩
            · have HM := Lib.hid (show btw t.s 0 1000 = false by simp [btw]; omega)
              go_wp2_with fail
              go_quiet (fail)
              go_wp2_with fail
              go_ret
              exact ⟨retI (H.rs HT.out HB.out HPV.out HM.out).symm, grown_drewN (grown_alloc hg _) _⟩
            · have HM := Lib.hid (show btw t.s 0 1000 = true from btw_true.2 ⟨e1, e2⟩)
              go_wp2_with fail
              go_quiet (fail)
              go_wp2_with fail
              have hj := HJ.out
              go_roundg (gk - 1)
              case measure => omega
              case rel => exact ⟨p + 1 + 1, by omega, by go_num, grown_drewN (grown_alloc hg _) _, H.next HT.out HB.out HPV.out HM.out⟩
    · obtain rfl : j = n := by omega
      go_wp2_with fail
      go_ret
      exact ⟨retI (H.done HL.out.symm).symm, hg⟩

end Go.Proofs.Ytkfijicmeekmiaa
