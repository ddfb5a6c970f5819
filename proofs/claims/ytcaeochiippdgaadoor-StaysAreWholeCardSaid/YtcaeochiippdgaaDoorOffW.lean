/- The walks of checkAllergens, checkOffer, CheckOffers, checkCounts, total, Worth of package shelf. -/
import Derived.Test.YtcaeochiippdgaaDoorOff
import Derived.Test.YtcaeochiippdgaaDoorKey
import Derived.Test.YtcaeochiippdgaaDoorBlk
import Derived.Test.YtcaeochiippdgaaDoorWin
import Derived.StillTailTactics
namespace Go.Proofs.YtcaeochiippdgaaDoor
open Go.RowKit

set_option maxRecDepth 100000 in
set_option maxHeartbeats 1000000 in
theorem checkAllergens_any (A : Option Addr) (n c : Nat) (l : List ByteArray) (w : World) (hr : Rd w 1 A n (strs l)) :
    Calls Tryd.prog 39 #[.slice A n c] w fun e w' => e = .returned (.int .i64 (algF l)) ∧ w.grownBy w' none := by
  have hl : l.length = n := by have := hr.1; rw [strs_len] at this; omega
  by_cases h10 : 10 < n
  · have hv : algF l = 2 := by unfold algF; rw [if_pos (by omega)]
    rw [hv]
    clear hv hl hr
    go_enter Tryd.func39, Tryd.ntmps39
    go_wp2_with fail
    go_ret
    exact ⟨rfl, grown_refl w⟩
  · have h10' : n ≤ 10 := by omega
    have hv : algF l = riFrom none l := by unfold algF; rw [if_neg (by omega)]
    rw [hv]
    obtain ⟨R, hR⟩ : ∃ R, riFrom none l = R := ⟨_, rfl⟩
    rw [hR]
    have HL := Lib.hid (And.intro hl hR)
    clear h10 hv hl hR
    go_enter Tryd.func39, Tryd.ntmps39
    go_wp2_with fail
    go_loopg [10] n (fun k i wr => ∃ j : Nat, k + j = n ∧ i = .int .i64 j ∧ w = wr ∧ RiInv l j)
    case atStart => exact ⟨0, by omega, rfl, rfl, RiInv.start l⟩
    case round =>
      obtain ⟨j, hj, rfl, rfl, H⟩ := hrel
      by_cases hlt : j < n
      · obtain ⟨b, off, rfl, hb, t, ht, c0⟩ := str_cells hr hlt
        have HT := Lib.hid ht
        have HJ := Lib.hid hj
        clear ht hj
        by_cases h1 : keyB t = true
        · rcases j with _ | p
          · have HN := H.next0 HT.out h1
            simp only [Nat.add_zero] at c0
            go_wp2_with fail
            refine (isKey_any _ _).mono ?_
            rw [h1]
            rintro e w' ⟨rfl, rfl⟩
            go_wp2_with fail
            have hj := HJ.out
            go_roundg (gk - 1)
            case measure => omega
            case rel => exact ⟨1, by omega, by go_num, rfl, HN⟩
          · obtain ⟨b', off', e', _, t', ht', d0⟩ := str_cells hr (k := p) (by omega)
            obtain ⟨rfl, rfl⟩ : b = b' ∧ off = off' := by simpa using e'
            have HT' := Lib.hid ht'
            clear ht' e'
            have hpp : (p : Int) + 1 < (n : Int) := by omega
            by_cases hle : Op.bytesLess t.toList t'.toList = true
            · have HO := Lib.hid (H.rord HT.out HT'.out h1 (show sLe t t' = true by unfold sLe; rw [hle]; rfl))
              go_wp2_with fail
              refine (isKey_any _ _).mono ?_
              rw [h1]
              rintro e w' ⟨rfl, rfl⟩
              go_wp2_with fail
              go_ret
              exact ⟨retI (HO.out.symm.trans HL.out.2), grown_refl _⟩
            · have hle' : Op.bytesLess t.toList t'.toList = false := by simpa using hle
              by_cases heq : (t.toList == t'.toList) = true
              · have HO := Lib.hid (H.rord HT.out HT'.out h1 (show sLe t t' = true by unfold sLe; rw [heq]; simp))
                clear hle
                go_wp2_with fail
                refine (isKey_any _ _).mono ?_
                rw [h1]
                rintro e w' ⟨rfl, rfl⟩
                go_wp2_with fail
                go_ret
                exact ⟨retI (HO.out.symm.trans HL.out.2), grown_refl _⟩
              · have heq' : (t.toList == t'.toList) = false := by simpa using heq
                have HN := H.next HT.out HT'.out h1 (by unfold sLe; rw [hle', heq']; rfl)
                clear hle heq
                go_wp2_with fail
                refine (isKey_any _ _).mono ?_
                rw [h1]
                rintro e w' ⟨rfl, rfl⟩
                go_wp2_with fail
                have hj := HJ.out
                go_roundg (gk - 1)
                case measure => omega
                case rel => exact ⟨p + 1 + 1, by omega, by go_num, rfl, HN⟩
        · have h1' : keyB t = false := by simpa using h1
          have HV := Lib.hid (H.rkey HT.out h1')
          go_wp2_with fail
          refine (isKey_any _ _).mono ?_
          rw [h1']
          rintro e w' ⟨rfl, rfl⟩
          clear h1 h1'
          go_wp2_with fail
          go_ret
          exact ⟨retI (HV.out.symm.trans HL.out.2), grown_refl _⟩
      · obtain rfl : j = n := by omega
        go_wp2_with fail
        go_ret
        exact ⟨retI ((H.done HL.out.1.symm).symm.trans HL.out.2), grown_refl _⟩

theorem Blk.five {w : World} {g : Nat} {t : TypeId} {a b c d e : Value} (h : Blk w g t #[a, b, c, d, e]) : w.cell? ⟨g, 0, none⟩ = some a ∧ w.cell? ⟨g, 1, none⟩ = some b ∧ w.cell? ⟨g, 2, none⟩ = some c ∧ w.cell? ⟨g, 3, none⟩ = some d ∧ w.cell? ⟨g, 4, none⟩ = some e :=
  ⟨h.cell 0, h.cell 1, h.cell 2, h.cell 3, h.cell 4⟩

set_option maxRecDepth 100000 in
set_option maxHeartbeats 2000000 in
theorem checkOffer_any (B : Nat) (r : Ofr) (w : World) (hr : OfOk w B r) :
    Calls Tryd.prog 33 #[.agg #[.string r.key, .string r.grp, .slice r.p.A r.p.n r.p.c, .slice r.h.A r.h.n r.h.c, .slice r.t.A r.t.n r.t.c]] w fun e w' => e = .returned (.int .i64 (offBF (offK r))) ∧ w.grownBy w' none := by
  have hlen := hr.len
  obtain ⟨W, hW⟩ : ∃ W, w.alloc (.cells #[.string r.key, .string r.grp, .slice r.p.A r.p.n r.p.c, .slice r.h.A r.h.n r.h.c, .slice r.t.A r.t.n r.t.c] 53) = W := ⟨_, rfl⟩
  have hg : w.grownBy W none := by rw [← hW]; exact grown_alloc (grown_refl w) _
  have hB : Blk W w.heap.size 53 #[.string r.key, .string r.grp, .slice r.p.A r.p.n r.p.c, .slice r.h.A r.h.n r.h.c, .slice r.t.A r.t.n r.t.c] := by rw [← hW]; exact Blk.new w _ _
  have hrW := hr.grown hg
  have hex : offBF (offK r) = if keyB r.grp = false then 5 else if r.ps.length = 0 then 8 else if 10 < r.ps.length then 2 else if allB r.ps (-1000000) 1000000 = false then 1 else if algF r.hs ≠ 0 then algF r.hs else algF r.ts := rfl
  rw [hlen.1] at hex
  obtain ⟨R, hR⟩ : ∃ R, offBF (offK r) = R := ⟨_, rfl⟩
  rw [hR] at hex ⊢
  have HX := Lib.hid (And.intro hex (And.intro hg (And.intro hB (And.intro hrW hW))))
  clear hex hg hB hrW hlen hR hr
  obtain ⟨k0, k1, k2, k3, k4⟩ := HX.out.2.2.1.five
  by_cases h1 : keyB r.grp = true
  · by_cases h2 : r.p.n = 0
    · have hv : R = 8 := by rw [HX.out.1, if_neg (by simp [h1]), if_pos h2]
      have e2 : ((r.p.n : Int) == 0) = true := by simp [h2]
      subst hv
      clear h2
      go_enter Tryd.func33, Tryd.ntmps33
      go_wp2_with fail
      refine (isKey_any _ _).mono ?_
      rw [h1]
      rintro e w' ⟨rfl, rfl⟩
      clear h1
      go_wp2_with fail
      go_ret
      exact ⟨rfl, HX.out.2.1⟩
    · have e2 : ((r.p.n : Int) == 0) = false := by rw [beq_eq_false_iff_ne]; omega
      by_cases h3 : 10 < r.p.n
      · have hv : R = 2 := by rw [HX.out.1, if_neg (by simp [h1]), if_neg h2, if_pos h3]
        have e3 : decide ((10 : Int) < (r.p.n : Int)) = true := by simp; omega
        subst hv
        clear h2 h3
        go_enter Tryd.func33, Tryd.ntmps33
        go_wp2_with fail
        refine (isKey_any _ _).mono ?_
        rw [h1]
        rintro e w' ⟨rfl, rfl⟩
        clear h1
        go_wp2_with fail
        go_ret
        exact ⟨rfl, HX.out.2.1⟩
      · have e3 : decide ((10 : Int) < (r.p.n : Int)) = false := by simp; omega
        have h3' : r.p.n ≤ 10 := by omega
        by_cases h4 : allB r.ps (-1000000) 1000000 = true
        · have hv : R = if algF r.hs ≠ 0 then algF r.hs else algF r.ts := by rw [HX.out.1, if_neg (by simp [h1]), if_neg h2, if_neg h3, if_neg (by simp [h4])]
          have HV := Lib.hid hv
          clear hv h2 h3
          go_enter Tryd.func33, Tryd.ntmps33
          go_wp2_with fail
          refine (isKey_any _ _).mono ?_
          rw [h1]
          rintro e w' ⟨rfl, rfl⟩
          clear h1
          go_wp2_with fail
          refine (allBetween_any r.p.A r.p.n r.p.c r.ps _ _ W HX.out.2.2.2.1.1.1 (by omega)).mono ?_
          rw [h4]
          rintro e w3 ⟨rfl, hg3⟩
          clear h4
          obtain ⟨q0, q1, q2, q3, q4⟩ := (HX.out.2.2.1.grown hg3 (by simp)).five
          go_wp2_with fail
          refine (checkAllergens_any r.h.A r.h.n r.h.c r.hs _ (HX.out.2.2.2.1.grown hg3).2.1.1).mono ?_
          rintro e w4 ⟨rfl, hg4⟩
          have hg34 := hg3.trans hg4
          obtain ⟨u0, u1, u2, u3, u4⟩ := (HX.out.2.2.1.grown hg34 (by simp)).five
          by_cases h5 : algF r.hs = 0
          · rw [h5]
            have hv2 : R = algF r.ts := by rw [HV.out, if_neg (by simp [h5])]
            have HV2 := Lib.hid hv2
            clear h5 hv2
            go_wp2_with fail
            refine (checkAllergens_any r.t.A r.t.n r.t.c r.ts _ (HX.out.2.2.2.1.grown hg34).2.2.1).mono ?_
            rintro e w5 ⟨rfl, hg5⟩
            go_wp2_with fail
            go_ret
            exact ⟨retI HV2.out.symm, (HX.out.2.1.trans hg34).trans hg5⟩
          · have e5 : (algF r.hs != 0) = true := by rw [bne_iff_ne]; exact h5
            have hv2 : R = algF r.hs := by rw [HV.out, if_pos h5]
            have HV2 := Lib.hid hv2
            clear h5 hv2
            go_wp2_with fail
            go_ret
            exact ⟨retI HV2.out.symm, HX.out.2.1.trans hg34⟩
        · have h4' : allB r.ps (-1000000) 1000000 = false := by simpa using h4
          have hv : R = 1 := by rw [HX.out.1, if_neg (by simp [h1]), if_neg h2, if_neg h3, if_pos h4']
          subst hv
          clear h2 h3 h4
          go_enter Tryd.func33, Tryd.ntmps33
          go_wp2_with fail
          refine (isKey_any _ _).mono ?_
          rw [h1]
          rintro e w' ⟨rfl, rfl⟩
          clear h1
          go_wp2_with fail
          refine (allBetween_any r.p.A r.p.n r.p.c r.ps _ _ W HX.out.2.2.2.1.1.1 (by omega)).mono ?_
          rw [h4']
          rintro e w3 ⟨rfl, hg3⟩
          clear h4'
          go_wp2_with fail
          go_ret
          exact ⟨rfl, HX.out.2.1.trans hg3⟩
  · have h1' : keyB r.grp = false := by simpa using h1
    have hv : R = 5 := by rw [HX.out.1, if_pos h1']
    subst hv
    go_enter Tryd.func33, Tryd.ntmps33
    go_wp2_with fail
    refine (isKey_any _ _).mono ?_
    rw [h1']
    rintro e w' ⟨rfl, rfl⟩
    clear h1 h1'
    go_wp2_with fail
    go_ret
    exact ⟨rfl, HX.out.2.1⟩

set_option maxRecDepth 100000 in
set_option maxHeartbeats 2000000 in
theorem checkOffers_any (B : Nat) (A : Option Addr) (c : Nat) (V : List Off) (w : World) (hr : RdO w B A V) :
    Calls Tryd.prog 25 #[.slice A V.length c] w fun e w' => e = .returned (.int .i64 (offsF V)) ∧ w.grownBy w' none := by
  obtain ⟨n, hn⟩ : ∃ n, V.length = n := ⟨_, rfl⟩
  rw [hn]
  obtain ⟨R, hR⟩ : ∃ R, offsF V = R := ⟨_, rfl⟩
  by_cases h10 : 30 < n
  · have hv : offsF V = 2 := by unfold offsF; rw [if_pos (by omega)]
    rw [hv]
    clear hv hn hr hR
    go_enter Tryd.func25, Tryd.ntmps25
    go_wp2_with fail
    go_ret
    exact ⟨rfl, grown_refl w⟩
  · have h10' : n ≤ 30 := by omega
    clear h10
    have hS : OffInv V 0 := OffInv.start (by omega)
    rw [hR]
    have HL := Lib.hid (And.intro hn (And.intro hr hR))
    clear hn hr hR
    go_enter Tryd.func25, Tryd.ntmps25
    go_wp2_with fail
    go_loopg [11] n (fun k i wr => ∃ j : Nat, k + j = n ∧ i = .int .i64 j ∧ w.grownBy wr none ∧ OffInv V j)
    case atStart => exact ⟨0, by omega, rfl, grown_refl w, hS⟩
    case round =>
      obtain ⟨j, hj, rfl, hg, H⟩ := hrel
      clear hS
      by_cases hlt : j < n
      · obtain ⟨b, off, rfl, hb, r, ht, hok, c0, c1, c2, c3, c4⟩ := (HL.out.2.1.grown hg).row (k := j) (by rw [HL.out.1]; exact hlt)
        have HT := Lib.hid ht
        have HJ := Lib.hid hj
        have hgA : w.grownBy (wr.alloc (.cells #[.string r.key, .string r.grp, .slice r.p.A r.p.n r.p.c, .slice r.h.A r.h.n r.h.c, .slice r.t.A r.t.n r.t.c] 53)) none := grown_alloc hg _
        have HG := Lib.hid (And.intro hgA hok)
        clear ht hj hgA hok
        by_cases h1 : keyB r.key = true
        · have HTL := Lib.hid (fun hp => H.tail HT.out h1 hp)
          rcases j with _ | p
          · simp only [Nat.zero_mul, Nat.add_zero] at c0 c1 c2 c3 c4
            have HH := Lib.hid (HTL.out (OPrevOk.zero V (offK r)))
            go_wp2_with fail
            refine (isKey_any _ _).mono ?_
            rw [h1]
            rintro e w' ⟨rfl, rfl⟩
            go_wp2_with fail
            go_quiet (fail)
            go_wp2_with fail
            refine (checkOffer_any B r _ ((HG.out.2.grown (grown_drewN (grown_alloc (grown_refl _) _) _)))).mono ?_
            rintro e w3 ⟨rfl, hg3⟩
            have hg33 := (grown_drewN HG.out.1 _).trans hg3
            by_cases h5 : offBF (offK r) = 0
            · rw [h5]
              have HN := Lib.hid (HH.out.2 h5)
              clear h5
              go_wp2_with fail
              have hj := HJ.out
              go_roundg (gk - 1)
              case measure => omega
              case rel => exact ⟨_, by omega, by go_num, hg33, HN.out⟩
            · have e5 : (offBF (offK r) != 0) = true := by rw [bne_iff_ne]; exact h5
              have HN := Lib.hid (HH.out.1 h5)
              clear h5
              go_wp2_with fail
              go_ret
              exact ⟨retI (HN.out.symm.trans HL.out.2.2), hg33⟩
          · obtain ⟨b', off', e', _, t', ht', _, d0, _⟩ := (HL.out.2.1.grown hg).row (k := p) (by rw [HL.out.1]; omega)
            obtain ⟨rfl, rfl⟩ : b = b' ∧ off = off' := by simpa using e'
            have HT' := Lib.hid ht'
            have hpp : (p : Int) + 1 < (n : Int) := by omega
            clear ht' e'
            by_cases hle : Op.bytesLess r.key.toList t'.key.toList = true
            · have HO := Lib.hid (H.rord HT.out HT'.out h1 (show sLe r.key t'.key = true by unfold sLe; rw [hle]; rfl))
              go_wp2_with fail
              refine (isKey_any _ _).mono ?_
              rw [h1]
              rintro e w' ⟨rfl, rfl⟩
              go_wp2_with fail
              go_quiet (fail)
              go_wp2_with fail
              go_ret
              exact ⟨retI (HO.out.symm.trans HL.out.2.2), grown_drewN HG.out.1 _⟩
            · have hle' : Op.bytesLess r.key.toList t'.key.toList = false := by simpa using hle
              by_cases heq : (r.key.toList == t'.key.toList) = true
              · have HO := Lib.hid (H.rord HT.out HT'.out h1 (show sLe r.key t'.key = true by unfold sLe; rw [heq]; simp))
                clear hle
                go_wp2_with fail
                refine (isKey_any _ _).mono ?_
                rw [h1]
                rintro e w' ⟨rfl, rfl⟩
                go_wp2_with fail
                go_quiet (fail)
                go_wp2_with fail
                go_ret
                exact ⟨retI (HO.out.symm.trans HL.out.2.2), grown_drewN HG.out.1 _⟩
              · have heq' : (r.key.toList == t'.key.toList) = false := by simpa using heq
                have HH := Lib.hid (HTL.out (OPrevOk.succ HT'.out (by show sLe r.key t'.key = false; unfold sLe; rw [hle', heq']; rfl)))
                clear hle heq
                go_wp2_with fail
                refine (isKey_any _ _).mono ?_
                rw [h1]
                rintro e w' ⟨rfl, rfl⟩
                go_wp2_with fail
                go_quiet (fail)
                go_wp2_with fail
                refine (checkOffer_any B r _ ((HG.out.2.grown (grown_drewN (grown_alloc (grown_refl _) _) _)))).mono ?_
                rintro e w3 ⟨rfl, hg3⟩
                have hg33 := (grown_drewN HG.out.1 _).trans hg3
                by_cases h5 : offBF (offK r) = 0
                · rw [h5]
                  have HN := Lib.hid (HH.out.2 h5)
                  clear h5
                  go_wp2_with fail
                  have hj := HJ.out
                  go_roundg (gk - 1)
                  case measure => omega
                  case rel => exact ⟨_, by omega, by go_num, hg33, HN.out⟩
                · have e5 : (offBF (offK r) != 0) = true := by rw [bne_iff_ne]; exact h5
                  have HN := Lib.hid (HH.out.1 h5)
                  clear h5
                  go_wp2_with fail
                  go_ret
                  exact ⟨retI (HN.out.symm.trans HL.out.2.2), hg33⟩
        · have h1' : keyB r.key = false := by simpa using h1
          have HV := Lib.hid (H.rkey HT.out h1')
          go_wp2_with fail
          refine (isKey_any _ _).mono ?_
          rw [h1']
          rintro e w' ⟨rfl, rfl⟩
          clear h1 h1'
          go_wp2_with fail
          go_ret
          exact ⟨retI (HV.out.symm.trans HL.out.2.2), HG.out.1⟩
      · obtain rfl : j = n := by omega
        go_wp2_with fail
        go_ret
        exact ⟨retI ((H.done HL.out.1.symm).symm.trans HL.out.2.2), hg⟩

end Go.Proofs.YtcaeochiippdgaaDoor
