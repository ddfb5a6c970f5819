/- The walks of package stock's checks: isDay, CheckLots, number, CheckCoil. -/
import Derived.Test.YtidfhgpjpieajaaDoorStkP
namespace Go.Proofs.YtidfhgpjpieajaaDoor
open Go.RowKit

theorem isDay_any (n : Int) (w : World) : Calls Tryd.prog 69 #[.int .i64 n] w fun e w' => e = .returned (.bool (btw n 0 4000)) ∧ w = w' := by
  go_enter Tryd.func69, Tryd.ntmps69
  go_wp2_with (go_at_call 70; refine (between_any _ _ _ _).mono ?_; rintro e w' ⟨rfl, rfl⟩)
  go_ret
  exact ⟨rfl, rfl⟩

/-- What is behind the order, in a round of CheckLots. -/
theorem LotInv.tail {l : List Lot} {j : Nat} {t : Lot} (h : LotInv l j) (ht : l[j]? = some t) (h1 : keyB t.id = true) (hp : LPrevOk l j t) :
    (keyB t.pr = false → lotsF l = 5) ∧ (keyB t.pr = true → btw t.ex 0 4000 = false → lotsF l = 1) ∧ (keyB t.pr = true → btw t.ex 0 4000 = true → btw t.mn 0 100000 = false → lotsF l = 1) ∧
    (keyB t.pr = true → btw t.ex 0 4000 = true → btw t.mn 0 100000 = true → LotInv l (j + 1)) := by
  have hr := h.rest ht h1 hp
  refine ⟨fun a => ?_, fun a b => ?_, fun a b c => ?_, fun a b c => h.next ht h1 hp a b c⟩
  · rw [hr, if_pos a]
  · rw [hr, if_neg (by simp [a]), if_pos b]
  · rw [hr, if_neg (by simp [a]), if_neg (by simp [b]), if_pos c]

set_option maxRecDepth 100000 in
set_option maxHeartbeats 2000000 in
theorem checkLots_any (A : Option Addr) (n c : Nat) (l : List Lot) (w : World) (hr : Rd w 4 A n (lotFlat l)) :
    Calls Tryd.prog 13 #[.slice A n c] w fun e w' => e = .returned (.int .i64 (lotsF l)) ∧ w.grownBy w' none := by
  have hl : l.length = n := by have := hr.1; rw [lotFlat_len] at this; omega
  by_cases h10 : 500 < n
  · go_enter Tryd.func13, Tryd.ntmps13
    go_wp2_with fail
    go_ret
    exact ⟨by simp [lotsF, hl, h10], grown_refl w⟩
  · have h10' : n ≤ 500 := by omega
    clear h10
    have hS : LotInv l 0 := LotInv.start (by omega)
    have HL := Lib.hid hl
    clear hl
    go_enter Tryd.func13, Tryd.ntmps13
    go_wp2_with fail
    go_loopg [10] n (fun k i wr => ∃ j : Nat, k + j = n ∧ i = .int .i64 j ∧ w.grownBy wr none ∧ LotInv l j)
    case atStart => exact ⟨0, by omega, rfl, grown_refl w, hS⟩
    case round =>
      obtain ⟨j, hj, rfl, hg, H⟩ := hrel
      by_cases hlt : j < n
      · obtain ⟨b, off, rfl, hb, t, ht, c0, c1, c2, c3⟩ := lot_cells (hr.grown hg) hlt
        have HT := Lib.hid ht
        clear ht
        have HJ := Lib.hid hj
        clear hj
        by_cases h1 : keyB t.id = true
        · have htail := fun hp => H.tail HT.out h1 hp
          have HTL := Lib.hid htail
          clear htail
          have hprev : (j = 0) ∨ ∃ p t', j = p + 1 ∧ l[p]? = some t' ∧ wr.cell? ⟨b, off + p * 4, none⟩ = some (.string t'.id) := by
            rcases Nat.eq_zero_or_pos j with h | h
            · exact .inl h
            · obtain ⟨p, rfl⟩ : ∃ p, j = p + 1 := ⟨j - 1, by omega⟩
              obtain ⟨b', off', e', _, t', ht', d0, _, _, _⟩ := lot_cells (hr.grown hg) (k := p) (by omega)
              obtain ⟨rfl, rfl⟩ : b = b' ∧ off = off' := by simpa using e'
              exact .inr ⟨p, t', rfl, ht', d0⟩
          rcases hprev with rfl | ⟨p, t', rfl, ht', d0⟩
          · simp only [Nat.zero_mul, Nat.add_zero] at c0 c1 c2 c3
            have HH := Lib.hid (HTL.out (LPrevOk.zero l t))
            by_cases h2 : keyB t.pr = true
            · by_cases h3 : btw t.ex 0 4000 = true
              · by_cases h4 : btw t.mn 0 100000 = true
                · go_wp2_with (first | (go_at_call 68; refine (isKey_any _ _).mono ?_; rintro e w' ⟨rfl, rfl⟩) | (go_at_call 69; refine (isDay_any _ _).mono ?_; rintro e w' ⟨rfl, rfl⟩) | (go_at_call 70; refine (between_any _ _ _ _).mono ?_; rintro e w' ⟨rfl, rfl⟩))
                  go_quiet (fail)
                  go_wp2_with (first | (go_at_call 68; refine (isKey_any _ _).mono ?_; rintro e w' ⟨rfl, rfl⟩) | (go_at_call 69; refine (isDay_any _ _).mono ?_; rintro e w' ⟨rfl, rfl⟩) | (go_at_call 70; refine (between_any _ _ _ _).mono ?_; rintro e w' ⟨rfl, rfl⟩))
                  have hj := HJ.out
                  go_roundg (gk - 1)
                  case measure => omega
                  case rel => exact ⟨1, by omega, by go_num, grown_drewN (grown_alloc hg _) _, HH.out.2.2.2 h2 h3 h4⟩
                · have h4' : btw t.mn 0 100000 = false := by simpa using h4
                  clear h4
                  go_wp2_with (first | (go_at_call 68; refine (isKey_any _ _).mono ?_; rintro e w' ⟨rfl, rfl⟩) | (go_at_call 69; refine (isDay_any _ _).mono ?_; rintro e w' ⟨rfl, rfl⟩) | (go_at_call 70; refine (between_any _ _ _ _).mono ?_; rintro e w' ⟨rfl, rfl⟩))
                  go_quiet (fail)
                  go_wp2_with (first | (go_at_call 68; refine (isKey_any _ _).mono ?_; rintro e w' ⟨rfl, rfl⟩) | (go_at_call 69; refine (isDay_any _ _).mono ?_; rintro e w' ⟨rfl, rfl⟩) | (go_at_call 70; refine (between_any _ _ _ _).mono ?_; rintro e w' ⟨rfl, rfl⟩))
                  go_ret
                  exact ⟨retI (HH.out.2.2.1 h2 h3 h4').symm, grown_drewN (grown_alloc hg _) _⟩
              · have h3' : btw t.ex 0 4000 = false := by simpa using h3
                clear h3
                go_wp2_with (first | (go_at_call 68; refine (isKey_any _ _).mono ?_; rintro e w' ⟨rfl, rfl⟩) | (go_at_call 69; refine (isDay_any _ _).mono ?_; rintro e w' ⟨rfl, rfl⟩) | (go_at_call 70; refine (between_any _ _ _ _).mono ?_; rintro e w' ⟨rfl, rfl⟩))
                go_quiet (fail)
                go_wp2_with (first | (go_at_call 68; refine (isKey_any _ _).mono ?_; rintro e w' ⟨rfl, rfl⟩) | (go_at_call 69; refine (isDay_any _ _).mono ?_; rintro e w' ⟨rfl, rfl⟩) | (go_at_call 70; refine (between_any _ _ _ _).mono ?_; rintro e w' ⟨rfl, rfl⟩))
                go_ret
                exact ⟨retI (HH.out.2.1 h2 h3').symm, grown_drewN (grown_alloc hg _) _⟩
            · have h2' : keyB t.pr = false := by simpa using h2
              clear h2
              go_wp2_with (first | (go_at_call 68; refine (isKey_any _ _).mono ?_; rintro e w' ⟨rfl, rfl⟩) | (go_at_call 69; refine (isDay_any _ _).mono ?_; rintro e w' ⟨rfl, rfl⟩) | (go_at_call 70; refine (between_any _ _ _ _).mono ?_; rintro e w' ⟨rfl, rfl⟩))
              go_quiet (fail)
              go_wp2_with (first | (go_at_call 68; refine (isKey_any _ _).mono ?_; rintro e w' ⟨rfl, rfl⟩) | (go_at_call 69; refine (isDay_any _ _).mono ?_; rintro e w' ⟨rfl, rfl⟩) | (go_at_call 70; refine (between_any _ _ _ _).mono ?_; rintro e w' ⟨rfl, rfl⟩))
              go_ret
              exact ⟨retI (HH.out.1 h2').symm, grown_drewN (grown_alloc hg _) _⟩
          · have HT' := Lib.hid ht'
            clear ht'
            by_cases hle : Op.bytesLess t.id.toList t'.id.toList = true
            · have HO := Lib.hid (H.rord HT.out HT'.out h1 (show sLe t.id t'.id = true by unfold sLe; rw [hle]; rfl))
              go_wp2_with (first | (go_at_call 68; refine (isKey_any _ _).mono ?_; rintro e w' ⟨rfl, rfl⟩) | (go_at_call 69; refine (isDay_any _ _).mono ?_; rintro e w' ⟨rfl, rfl⟩) | (go_at_call 70; refine (between_any _ _ _ _).mono ?_; rintro e w' ⟨rfl, rfl⟩))
              go_quiet (fail)
              go_wp2_with (first | (go_at_call 68; refine (isKey_any _ _).mono ?_; rintro e w' ⟨rfl, rfl⟩) | (go_at_call 69; refine (isDay_any _ _).mono ?_; rintro e w' ⟨rfl, rfl⟩) | (go_at_call 70; refine (between_any _ _ _ _).mono ?_; rintro e w' ⟨rfl, rfl⟩))
              go_ret
              exact ⟨retI HO.out.symm, grown_drewN (grown_alloc hg _) _⟩
            · have hle' : Op.bytesLess t.id.toList t'.id.toList = false := by simpa using hle
              clear hle
              by_cases heq : (t.id.toList == t'.id.toList) = true
              · have HO := Lib.hid (H.rord HT.out HT'.out h1 (show sLe t.id t'.id = true by unfold sLe; rw [heq]; simp))
                go_wp2_with (first | (go_at_call 68; refine (isKey_any _ _).mono ?_; rintro e w' ⟨rfl, rfl⟩) | (go_at_call 69; refine (isDay_any _ _).mono ?_; rintro e w' ⟨rfl, rfl⟩) | (go_at_call 70; refine (between_any _ _ _ _).mono ?_; rintro e w' ⟨rfl, rfl⟩))
                go_quiet (fail)
                go_wp2_with (first | (go_at_call 68; refine (isKey_any _ _).mono ?_; rintro e w' ⟨rfl, rfl⟩) | (go_at_call 69; refine (isDay_any _ _).mono ?_; rintro e w' ⟨rfl, rfl⟩) | (go_at_call 70; refine (between_any _ _ _ _).mono ?_; rintro e w' ⟨rfl, rfl⟩))
                go_ret
                exact ⟨retI HO.out.symm, grown_drewN (grown_alloc hg _) _⟩
              · have heq' : (t.id.toList == t'.id.toList) = false := by simpa using heq
                clear heq
                have HH := Lib.hid (HTL.out (LPrevOk.succ HT'.out (show sLe t.id t'.id = false by unfold sLe; rw [hle', heq']; rfl)))
                by_cases h2 : keyB t.pr = true
                · by_cases h3 : btw t.ex 0 4000 = true
                  · by_cases h4 : btw t.mn 0 100000 = true
                    · go_wp2_with (first | (go_at_call 68; refine (isKey_any _ _).mono ?_; rintro e w' ⟨rfl, rfl⟩) | (go_at_call 69; refine (isDay_any _ _).mono ?_; rintro e w' ⟨rfl, rfl⟩) | (go_at_call 70; refine (between_any _ _ _ _).mono ?_; rintro e w' ⟨rfl, rfl⟩))
                      go_quiet (fail)
                      go_wp2_with (first | (go_at_call 68; refine (isKey_any _ _).mono ?_; rintro e w' ⟨rfl, rfl⟩) | (go_at_call 69; refine (isDay_any _ _).mono ?_; rintro e w' ⟨rfl, rfl⟩) | (go_at_call 70; refine (between_any _ _ _ _).mono ?_; rintro e w' ⟨rfl, rfl⟩))
                      have hj := HJ.out
                      go_roundg (gk - 1)
                      case measure => omega
                      case rel => exact ⟨p + 1 + 1, by omega, by go_num, grown_drewN (grown_alloc hg _) _, HH.out.2.2.2 h2 h3 h4⟩
                    · have h4' : btw t.mn 0 100000 = false := by simpa using h4
                      clear h4
                      go_wp2_with (first | (go_at_call 68; refine (isKey_any _ _).mono ?_; rintro e w' ⟨rfl, rfl⟩) | (go_at_call 69; refine (isDay_any _ _).mono ?_; rintro e w' ⟨rfl, rfl⟩) | (go_at_call 70; refine (between_any _ _ _ _).mono ?_; rintro e w' ⟨rfl, rfl⟩))
                      go_quiet (fail)
                      go_wp2_with (first | (go_at_call 68; refine (isKey_any _ _).mono ?_; rintro e w' ⟨rfl, rfl⟩) | (go_at_call 69; refine (isDay_any _ _).mono ?_; rintro e w' ⟨rfl, rfl⟩) | (go_at_call 70; refine (between_any _ _ _ _).mono ?_; rintro e w' ⟨rfl, rfl⟩))
                      go_ret
                      exact ⟨retI (HH.out.2.2.1 h2 h3 h4').symm, grown_drewN (grown_alloc hg _) _⟩
                  · have h3' : btw t.ex 0 4000 = false := by simpa using h3
                    clear h3
                    go_wp2_with (first | (go_at_call 68; refine (isKey_any _ _).mono ?_; rintro e w' ⟨rfl, rfl⟩) | (go_at_call 69; refine (isDay_any _ _).mono ?_; rintro e w' ⟨rfl, rfl⟩) | (go_at_call 70; refine (between_any _ _ _ _).mono ?_; rintro e w' ⟨rfl, rfl⟩))
                    go_quiet (fail)
                    go_wp2_with (first | (go_at_call 68; refine (isKey_any _ _).mono ?_; rintro e w' ⟨rfl, rfl⟩) | (go_at_call 69; refine (isDay_any _ _).mono ?_; rintro e w' ⟨rfl, rfl⟩) | (go_at_call 70; refine (between_any _ _ _ _).mono ?_; rintro e w' ⟨rfl, rfl⟩))
                    go_ret
                    exact ⟨retI (HH.out.2.1 h2 h3').symm, grown_drewN (grown_alloc hg _) _⟩
                · have h2' : keyB t.pr = false := by simpa using h2
                  clear h2
                  go_wp2_with (first | (go_at_call 68; refine (isKey_any _ _).mono ?_; rintro e w' ⟨rfl, rfl⟩) | (go_at_call 69; refine (isDay_any _ _).mono ?_; rintro e w' ⟨rfl, rfl⟩) | (go_at_call 70; refine (between_any _ _ _ _).mono ?_; rintro e w' ⟨rfl, rfl⟩))
                  go_quiet (fail)
                  go_wp2_with (first | (go_at_call 68; refine (isKey_any _ _).mono ?_; rintro e w' ⟨rfl, rfl⟩) | (go_at_call 69; refine (isDay_any _ _).mono ?_; rintro e w' ⟨rfl, rfl⟩) | (go_at_call 70; refine (between_any _ _ _ _).mono ?_; rintro e w' ⟨rfl, rfl⟩))
                  go_ret
                  exact ⟨retI (HH.out.1 h2').symm, grown_drewN (grown_alloc hg _) _⟩
        · have h1' : keyB t.id = false := by simpa using h1
          clear h1
          go_wp2_with (first | (go_at_call 68; refine (isKey_any _ _).mono ?_; rintro e w' ⟨rfl, rfl⟩) | (go_at_call 69; refine (isDay_any _ _).mono ?_; rintro e w' ⟨rfl, rfl⟩) | (go_at_call 70; refine (between_any _ _ _ _).mono ?_; rintro e w' ⟨rfl, rfl⟩))
          go_ret
          exact ⟨retI (H.rid HT.out h1').symm, grown_alloc hg _⟩
      · obtain rfl : j = n := by omega
        go_wp2_with fail
        go_ret
        exact ⟨retI (H.done HL.out.symm).symm, hg⟩

end Go.Proofs.YtidfhgpjpieajaaDoor
