/- The walks of the reference's checks of lots and coils. -/
import Derived.Test.YtidfhgpjpieajaaDoorStkB
import Derived.Test.YtidfhgpjpieajaaDoorKeyR
namespace Go.Proofs.YtidfhgpjpieajaaDoor
open Go.RowKit

theorem Blk.four {w : World} {g : Nat} {t : TypeId} {a b c d : Value} (h : Blk w g t #[a, b, c, d]) : w.cell? ⟨g, 0, none⟩ = some a ∧ w.cell? ⟨g, 1, none⟩ = some b ∧ w.cell? ⟨g, 2, none⟩ = some c ∧ w.cell? ⟨g, 3, none⟩ = some d ∧ w.frozen? ⟨g, 0, none⟩ = false ∧ w.frozen? ⟨g, 1, none⟩ = false ∧ w.frozen? ⟨g, 2, none⟩ = false ∧ w.frozen? ⟨g, 3, none⟩ = false :=
  ⟨h.cell 0, h.cell 1, h.cell 2, h.cell 3, h.frozen 0, h.frozen 1, h.frozen 2, h.frozen 3⟩

/-- What is wrong with a lot by itself, but for its Id. -/
def lotFt (t : Lot) : Int := if keyB t.pr = false then 5 else if btw t.ex 0 4000 = false then 1 else if btw t.mn 0 100000 = false then 1 else 0
theorem btw_false {n a b : Int} : btw n a b = false ↔ n < a ∨ b < n := by
  rw [← Bool.not_eq_true, btw_true]; omega

set_option maxRecDepth 100000 in
set_option maxHeartbeats 1000000 in
theorem lotFault_any (t : Lot) (w : World) : Calls Tryd.prog 67 #[.agg #[.string t.id, .string t.pr, .int .i64 t.ex, .int .i64 t.mn]] w fun e w' => e = .returned (.int .i64 (lotFt t)) ∧ w.grownBy w' none := by
  have hg0 := grown_alloc (grown_refl w) (.cells #[.string t.id, .string t.pr, .int .i64 t.ex, .int .i64 t.mn] 51)
  have hB := Blk.new w 51 #[.string t.id, .string t.pr, .int .i64 t.ex, .int .i64 t.mn]
  have k0 := hB.four
  obtain ⟨V, hV⟩ : ∃ V, lotFt t = V := ⟨_, rfl⟩
  rw [hV]
  unfold lotFt at hV
  have hk := fun w => keyOf_any t.pr w
  by_cases h1 : keyB t.pr = true
  · rw [if_neg (by simp [h1])] at hV
    rw [h1] at hk
    have HC := Lib.hid (And.intro hk hB)
    obtain ⟨id, pr, ex, mn⟩ := t
    simp only at *
    clear hk hB h1
    by_cases h2 : ex < 0
    · have HV := Lib.hid (show V = 1 by rw [← hV, if_pos (btw_false.2 (by omega))])
      clear hV
      go_enter Tryd.func67, Tryd.ntmps67
      go_wp2_with fail
      refine (HC.out.1 _).mono ?_
      rintro e w1 ⟨rfl, hg1⟩
      have k1 := (HC.out.2.grown hg1 (by simp)).four
      go_wp2_with fail
      go_ret
      exact ⟨retI HV.out.symm, hg0.trans hg1⟩
    · by_cases h3 : 4000 < ex
      · have HV := Lib.hid (show V = 1 by rw [← hV, if_pos (btw_false.2 (by omega))])
        clear hV
        go_enter Tryd.func67, Tryd.ntmps67
        go_wp2_with fail
        refine (HC.out.1 _).mono ?_
        rintro e w1 ⟨rfl, hg1⟩
        have k1 := (HC.out.2.grown hg1 (by simp)).four
        go_wp2_with fail
        go_ret
        exact ⟨retI HV.out.symm, hg0.trans hg1⟩
      · rw [if_neg (by rw [btw_false]; omega)] at hV
        by_cases h4 : mn < 0
        · have HV := Lib.hid (show V = 1 by rw [← hV, if_pos (btw_false.2 (by omega))])
          clear hV
          go_enter Tryd.func67, Tryd.ntmps67
          go_wp2_with fail
          refine (HC.out.1 _).mono ?_
          rintro e w1 ⟨rfl, hg1⟩
          have k1 := (HC.out.2.grown hg1 (by simp)).four
          go_wp2_with fail
          go_ret
          exact ⟨retI HV.out.symm, hg0.trans hg1⟩
        · by_cases h5 : 100000 < mn
          · have HV := Lib.hid (show V = 1 by rw [← hV, if_pos (btw_false.2 (by omega))])
            clear hV
            go_enter Tryd.func67, Tryd.ntmps67
            go_wp2_with fail
            refine (HC.out.1 _).mono ?_
            rintro e w1 ⟨rfl, hg1⟩
            have k1 := (HC.out.2.grown hg1 (by simp)).four
            go_wp2_with fail
            go_ret
            exact ⟨retI HV.out.symm, hg0.trans hg1⟩
          · have HV := Lib.hid (show V = 0 by rw [← hV, if_neg (by rw [btw_false]; omega)])
            clear hV
            go_enter Tryd.func67, Tryd.ntmps67
            go_wp2_with fail
            refine (HC.out.1 _).mono ?_
            rintro e w1 ⟨rfl, hg1⟩
            have k1 := (HC.out.2.grown hg1 (by simp)).four
            go_wp2_with fail
            go_ret
            exact ⟨retI HV.out.symm, hg0.trans hg1⟩
  · have h1' : keyB t.pr = false := by simpa using h1
    rw [if_pos h1'] at hV
    rw [h1'] at hk
    subst hV
    have HC := Lib.hid (And.intro hk hB)
    clear hk hB h1 h1'
    go_enter Tryd.func67, Tryd.ntmps67
    go_wp2_with fail
    refine (HC.out.1 _).mono ?_
    rintro e w1 ⟨rfl, hg1⟩
    go_wp2_with fail
    go_ret
    exact ⟨rfl, hg0.trans hg1⟩

theorem LotInv.ref {l : List Lot} {j : Nat} {t : Lot} (h : LotInv l j) (ht : l[j]? = some t) (h1 : keyB t.id = true) (hp : LPrevOk l j t) :
    (∀ f, f ≠ 0 → lotFt t = f → lotsF l = f) ∧ (lotFt t = 0 → LotInv l (j + 1)) := by
  have hr := h.rest ht h1 hp
  constructor
  · intro f hf hl
    rw [hr, ← hl]
    unfold lotFt at hl ⊢
    by_cases h2 : keyB t.pr = false
    · rw [if_pos h2, if_pos h2]
    · rw [if_neg h2, if_neg h2]
      rw [if_neg h2] at hl
      by_cases h3 : btw t.ex 0 4000 = false
      · rw [if_pos h3, if_pos h3]
      · rw [if_neg h3, if_neg h3]
        rw [if_neg h3] at hl
        by_cases h4 : btw t.mn 0 100000 = false
        · rw [if_pos h4, if_pos h4]
        · rw [if_neg h4] at hl; exact absurd hl.symm hf
  · intro hl
    unfold lotFt at hl
    by_cases h2 : keyB t.pr = false
    · rw [if_pos h2] at hl; cases hl
    · rw [if_neg h2] at hl
      by_cases h3 : btw t.ex 0 4000 = false
      · rw [if_pos h3] at hl; cases hl
      · rw [if_neg h3] at hl
        by_cases h4 : btw t.mn 0 100000 = false
        · rw [if_pos h4] at hl; cases hl
        · exact h.next ht h1 hp (by simpa using h2) (by simpa using h3) (by simpa using h4)

set_option maxRecDepth 100000 in
set_option maxHeartbeats 2000000 in
theorem refLotsF_any (A : Option Addr) (n c : Nat) (l : List Lot) (w : World) (hr : Rd w 4 A n (lotFlat l)) :
    Calls Tryd.prog 12 #[.slice A n c] w fun e w' => e = .returned (.int .i64 (lotsF l)) ∧ w.grownBy w' none := by
  have hl : l.length = n := by have := hr.1; rw [lotFlat_len] at this; omega
  by_cases h10 : 500 < n
  · go_enter Tryd.func12, Tryd.ntmps12
    go_wp2_with fail
    go_ret
    exact ⟨by simp [lotsF, hl, h10], grown_refl w⟩
  · have h10' : n ≤ 500 := by omega
    clear h10
    have hS : LotInv l 0 := LotInv.start (by omega)
    obtain ⟨V, hV⟩ : ∃ V, lotsF l = V := ⟨_, rfl⟩
    rw [hV]
    have HL := Lib.hid (And.intro hl hV)
    clear hl hV
    go_enter Tryd.func12, Tryd.ntmps12
    go_wp2_with fail
    go_loopg [11] n (fun k i wr => ∃ j : Nat, k + j = n ∧ i = .int .i64 j ∧ w.grownBy wr none ∧ LotInv l j)
    case atStart => exact ⟨0, by omega, rfl, grown_refl w, hS⟩
    case round =>
      obtain ⟨j, hj, rfl, hg, H⟩ := hrel
      by_cases hlt : j < n
      · obtain ⟨b, off, rfl, hb, t, ht, c0, c1, c2, c3⟩ := lot_cells (hr.grown hg) hlt
        have hB := Blk.new wr 51 #[.string t.id, .string t.pr, .int .i64 t.ex, .int .i64 t.mn]
        have hgB := grown_alloc (grown_refl wr) (.cells #[.string t.id, .string t.pr, .int .i64 t.ex, .int .i64 t.mn] 51)
        have hk := fun w => keyOf_any t.id w
        have hft := fun w => lotFault_any t w
        have hprev : (j = 0) ∨ ∃ p t', j = p + 1 ∧ l[p]? = some t' ∧ wr.cell? ⟨b, off + p * 4, none⟩ = some (.string t'.id) := by
          rcases Nat.eq_zero_or_pos j with h | h
          · exact .inl h
          · obtain ⟨p, rfl⟩ : ∃ p, j = p + 1 := ⟨j - 1, by omega⟩
            obtain ⟨b', off', e', _, t', ht', d0, _, _, _⟩ := lot_cells (hr.grown hg) (k := p) (by omega)
            obtain ⟨rfl, rfl⟩ : b = b' ∧ off = off' := by simpa using e'
            exact .inr ⟨p, t', rfl, ht', d0⟩
        by_cases h1 : keyB t.id = true
        · rw [h1] at hk
          have HK := Lib.hid (And.intro hk (And.intro hft (And.intro hB (And.intro hj (And.intro hg (And.intro hgB (fun hp => H.ref ht h1 hp)))))))
          rcases hprev with rfl | ⟨p, t', rfl, ht', d0⟩
          · have HH := Lib.hid (HK.out.2.2.2.2.2.2 (LPrevOk.zero l t))
            simp only [Nat.zero_mul, Nat.add_zero] at c0 c1 c2 c3
            clear hk hft hB hj hg hgB ht H
            go_wp2_with fail
            refine (HK.out.1 _).mono ?_
            rintro e w1 ⟨rfl, hg1⟩
            have kB := (HK.out.2.2.1.grown hg1 (by simp)).four
            go_wp2_with fail
            go_quiet (fail)
            go_wp2_with fail
            refine (HK.out.2.1 _).mono ?_
            rintro e w2 ⟨rfl, hg2⟩
            have hgw := ((HK.out.2.2.2.2.1.trans HK.out.2.2.2.2.2.1).trans hg1)
            by_cases hz : lotFt t = 0
            · have HN := Lib.hid (HH.out.2 hz)
              go_wp2_with fail
              obtain ⟨_, _, _, hj, _⟩ := HK.out
              go_roundg (gk - 1)
              case measure => omega
              case rel => exact ⟨1, by omega, by go_num, (grown_drewN hgw _).trans hg2, HN.out⟩
            · have hz' : (lotFt t != 0) = true := by rw [bne_iff_ne]; exact hz
              have HN := Lib.hid ((HH.out.1 _ hz rfl).symm.trans HL.out.2)
              clear hz
              go_wp2_with fail
              go_ret
              exact ⟨retI HN.out, (grown_drewN hgw _).trans hg2⟩
          · have HO := fun hs => (H.rord ht ht' h1 hs).symm.trans HL.out.2
            have HO2 := Lib.hid HO
            have HP := Lib.hid (fun hs => HK.out.2.2.2.2.2.2 (LPrevOk.succ ht' hs))
            clear hk hft hB hj hg hgB ht H ht' HO
            by_cases hle : Op.bytesLess t.id.toList t'.id.toList = true
            · have HV := Lib.hid (HO2.out (show sLe t.id t'.id = true by unfold sLe; rw [hle]; rfl))
              go_wp2_with fail
              refine (HK.out.1 _).mono ?_
              rintro e w1 ⟨rfl, hg1⟩
              have kB := (HK.out.2.2.1.grown hg1 (by simp)).four
              have d1 := ((grown_alloc (grown_refl wr) (.cells #[.string t.id, .string t.pr, .int .i64 t.ex, .int .i64 t.mn] 51)).trans hg1).cell d0 (by simp)
              go_wp2_with fail
              go_quiet (fail)
              go_wp2_with fail
              go_ret
              exact ⟨retI HV.out, grown_drewN ((HK.out.2.2.2.2.1.trans HK.out.2.2.2.2.2.1).trans hg1) _⟩
            · have hle' : Op.bytesLess t.id.toList t'.id.toList = false := by simpa using hle
              clear hle
              by_cases heq : (t.id.toList == t'.id.toList) = true
              · have HV := Lib.hid (HO2.out (show sLe t.id t'.id = true by unfold sLe; rw [heq]; simp))
                go_wp2_with fail
                refine (HK.out.1 _).mono ?_
                rintro e w1 ⟨rfl, hg1⟩
                have kB := (HK.out.2.2.1.grown hg1 (by simp)).four
                have d1 := ((grown_alloc (grown_refl wr) (.cells #[.string t.id, .string t.pr, .int .i64 t.ex, .int .i64 t.mn] 51)).trans hg1).cell d0 (by simp)
                go_wp2_with fail
                go_quiet (fail)
                go_wp2_with fail
                go_ret
                exact ⟨retI HV.out, grown_drewN ((HK.out.2.2.2.2.1.trans HK.out.2.2.2.2.2.1).trans hg1) _⟩
              · have heq' : (t.id.toList == t'.id.toList) = false := by simpa using heq
                clear heq
                have HH := Lib.hid (HP.out (show sLe t.id t'.id = false by unfold sLe; rw [hle', heq']; rfl))
                go_wp2_with fail
                refine (HK.out.1 _).mono ?_
                rintro e w1 ⟨rfl, hg1⟩
                have kB := (HK.out.2.2.1.grown hg1 (by simp)).four
                have d1 := ((grown_alloc (grown_refl wr) (.cells #[.string t.id, .string t.pr, .int .i64 t.ex, .int .i64 t.mn] 51)).trans hg1).cell d0 (by simp)
                go_wp2_with fail
                go_quiet (fail)
                go_wp2_with fail
                refine (HK.out.2.1 _).mono ?_
                rintro e w2 ⟨rfl, hg2⟩
                have hgw := ((HK.out.2.2.2.2.1.trans HK.out.2.2.2.2.2.1).trans hg1)
                by_cases hz : lotFt t = 0
                · have HN := Lib.hid (HH.out.2 hz)
                  go_wp2_with fail
                  obtain ⟨_, _, _, hj, _⟩ := HK.out
                  go_roundg (gk - 1)
                  case measure => omega
                  case rel => exact ⟨p + 1 + 1, by omega, by go_num, (grown_drewN hgw _).trans hg2, HN.out⟩
                · have hz' : (lotFt t != 0) = true := by rw [bne_iff_ne]; exact hz
                  have HN := Lib.hid ((HH.out.1 _ hz rfl).symm.trans HL.out.2)
                  clear hz
                  go_wp2_with fail
                  go_ret
                  exact ⟨retI HN.out, (grown_drewN hgw _).trans hg2⟩
        · have h1' : keyB t.id = false := by simpa using h1
          rw [h1'] at hk
          have HV := Lib.hid ((H.rid ht h1').symm.trans HL.out.2)
          have HK := Lib.hid (And.intro hk (And.intro hg hgB))
          clear hk hft hB hj hg hgB ht H h1 h1' hprev
          go_wp2_with fail
          refine (HK.out.1 _).mono ?_
          rintro e w1 ⟨rfl, hg1⟩
          go_wp2_with fail
          go_ret
          exact ⟨retI HV.out, (HK.out.2.1.trans HK.out.2.2).trans hg1⟩
      · obtain rfl : j = n := by omega
        have HV := Lib.hid ((H.done HL.out.1.symm).symm.trans HL.out.2)
        clear H
        go_wp2_with fail
        go_ret
        exact ⟨retI HV.out, hg⟩

end Go.Proofs.YtidfhgpjpieajaaDoor
