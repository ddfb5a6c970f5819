/- The walks of the reference: RoomOf, PushFault. -/
import Derived.Test.YtidfhgpjpieajaaDoorStkK
import Derived.Test.YtidfhgpjpieajaaDoorRefO
namespace Go.Proofs.YtidfhgpjpieajaaDoor
open Go.RowKit

set_option maxRecDepth 100000 in
set_option maxHeartbeats 2000000 in
theorem roomOf_any (C : Coil) (A : Option Addr) (c : Nat) (w : World) (hr : Rd w 2 A C.ps.length (pcFlat C.ps)) (h : coilF C = 0) :
    Calls Tryd.prog 93 #[.agg #[.string C.pr, .int .i64 C.most, .slice A C.ps.length c]] w fun e w' => e = .returned (.int .i64 (C.most - numP C.ps)) ∧ w.grownBy w' none := by
  obtain ⟨_, hmost, hlen', _, hpok, hsum⟩ := coil_ok h
  have hg0 := grown_alloc (grown_refl w) (.cells #[.string C.pr, .int .i64 C.most, .slice A C.ps.length c] 58)
  have hB := Blk.new w 58 #[.string C.pr, .int .i64 C.most, .slice A C.ps.length c]
  have hps := numP_nonneg hpok
  have hun : ∀ w1 (_ : w.grownBy w1 none), Calls Tryd.prog 87 #[.slice A C.ps.length c] w1 fun e w' => ∃ (A' : Option Addr) (u c' : Nat), e = .returned (.slice A' u c') ∧ (u : Int) = numP C.ps ∧ w1.grownBy w' none := by
    intro w1 h
    refine (units_any A C.ps.length c C.ps w1 (hr.grown h) hlen' hpok).mono ?_
    rintro e w' ⟨v, rfl, hown, hg⟩
    obtain ⟨A', c', rfl, _, _, _, _⟩ := Rd.of_own hown
    exact ⟨A', _, c', rfl, units_len hpok, hg⟩
  obtain ⟨pr, most, ps⟩ := C
  simp only at *
  generalize numP ps = S at *
  generalize ps.length = m at *
  have hw : IntKind.i64.wrap (most - S) = most - S := IntWalk.i64_in _ (by omega)
  have HC := Lib.hid (And.intro hun (And.intro hB hg0))
  obtain ⟨k10, k11, k12, _⟩ := hB.three
  clear hun hB hg0 h hpok hr
  go_enter Tryd.func93, Tryd.ntmps93
  go_wp2_with fail
  generalize w.alloc (.cells #[.string pr, .int .i64 most, .slice A m c] 58) = w1 at *
  go_region_law (first
    | (go_simp; go_at_call 87; refine (HC.out.1 _ (grown_drew HC.out.2.2)).mono ?_; rintro e w4 ⟨A4, u, c4, rfl, hu, hg4⟩; dsimp only; have hgx : w1.grownBy w4 none := (grown_drew (grown_refl w1)).trans hg4; have hwu : IntKind.i64.wrap (most - (u : Int)) = most - S := by { rw [hu]; exact hw }; obtain ⟨k40, k41, k42, _⟩ := (HC.out.2.1.grown hgx (by simp)).three))
  all_goals (
    go_wp2_with fail
    go_ret
    exact ⟨rfl, HC.out.2.2.trans hgx⟩)

set_option maxRecDepth 100000 in
set_option maxHeartbeats 4000000 in
theorem pushFault_any (L : List Lot) (C : Coil) (P : List Pc) (A B D : Option Addr) (c cl n cp : Nat) (w : World) (hr : Rd w 2 A C.ps.length (pcFlat C.ps)) (hlen : C.ps.length ≤ 1000000) (hL : Rd w 4 B L.length (lotFlat L)) (hp : Rd w 2 D n (pcFlat P)) (hn : n ≤ 1000000) :
    Calls Tryd.prog 48 #[.agg #[.string C.pr, .int .i64 C.most, .slice A C.ps.length c], .slice B L.length cl, .slice D n cp] w
      fun e w' => e = .returned (.int .i64 (pushF L C P)) ∧ w.grownBy w' none := by
  have hpl : P.length = n := by have := hp.1; rw [pcFlat_len] at this; omega
  have hg0 := grown_alloc (grown_refl w) (.cells #[.string C.pr, .int .i64 C.most, .slice A C.ps.length c] 58)
  have hB := Blk.new w 58 #[.string C.pr, .int .i64 C.most, .slice A C.ps.length c]
  have hcf := coilsFault_any L C A B c cl _ (hr.grown hg0) hlen (hL.grown hg0)
  have k0 := hB.three
  obtain ⟨V, hV⟩ : ∃ V, pushF L C P = V := ⟨_, rfl⟩
  by_cases hok : lotsF L = 0 ∧ coilF C = 0
  · obtain ⟨h1, h2⟩ := hok
    have hrest := @pushF_rest L C P h1 h2
    rw [hV] at hrest ⊢
    rw [h1, h2] at hcf
    have hz0 : orE 0 0 = 0 := rfl
    rw [hz0] at hcf
    obtain ⟨_, hmost, hlen', _, hpok, hsum⟩ := coil_ok h2
    obtain ⟨hL500, hLok, hLs⟩ := lots_ok h1
    have hps := numP_nonneg hpok
    have hroom := fun w1 (h : w.grownBy w1 none) => roomOf_any C A c w1 (hr.grown h) h2
    have hlo := fun s w1 (h : w.grownBy w1 none) => lotOf_any B L.length cl L s w1 (hL.grown h) (by omega)
    obtain ⟨pr, most, ps⟩ := C
    simp only at *
    generalize numP ps = S1 at *
    generalize ps.length = m at *
    have HC := Lib.hid (And.intro hcf (And.intro hB (And.intro hg0 (And.intro hroom (And.intro hlo (And.intro hrest (And.intro hLok hpl)))))))
    clear hcf hB hg0 hroom hlo hrest hLok hpl hLs h1 h2 hV hpok hr hL
    go_enter Tryd.func48, Tryd.ntmps48
    go_wp2_with fail
    refine HC.out.1.mono ?_
    rintro e w1 ⟨rfl, hg1⟩
    have hB1 := HC.out.2.1.grown hg1 (by simp)
    have hgA := HC.out.2.2.1.trans hg1
    clear hg1
    go_wp2_with fail
    go_loopg [8, 21] n (fun k sv i wr => ∃ j : Nat, k + j = n ∧ i = .int .i64 j ∧ sv = .int .i64 (numP (P.take j)) ∧ Blk wr w.heap.size 58 #[.string pr, .int .i64 most, .slice A m c] ∧ w.grownBy wr none ∧ ∀ t ∈ P.take j, lkF L pr t = 0)
    case atStart => exact ⟨0, by omega, rfl, rfl, hB1, hgA, by simp⟩
    case round =>
      clear hB1 hgA
      obtain ⟨j, hj, rfl, rfl, hB, hg, hz⟩ := hrel
      have hHZ := Lib.hid hz
      clear hz
      by_cases hlt : j < n
      · obtain ⟨b, off, rfl, hb, t, ht, c0, c1⟩ := pc_cells (hp.grown hg) hlt
        obtain ⟨_, _, _, hroom, hlo, hrest, hLok, hpl⟩ := HC.out
        have hat := fun h => (pcsF_at (L := L) (pr := pr) hHZ.out ht h).trans rfl
        have hsm := numP_take ht
        have hbd := numP_bound (l := P.take j) (fun u hu => lkF_ok hLok (hHZ.out u hu))
        rw [List.length_take] at hbd
        have htk : ∀ (_ : lkF L pr t = 0), ∀ u ∈ P.take (j + 1), lkF L pr u = 0 := fun h u hu => by
          rw [take_at ht, List.mem_append] at hu
          rcases hu with hu | hu
          · exact hHZ.out u hu
          · rw [List.mem_singleton.1 hu]; exact h
        have hlk : ∀ V', lkF L pr t = V' → V' ≠ 0 → V = V' := fun V' h h' => by
          have := hat (by omega)
          rw [h] at this
          rw [hrest.1 (by omega), this]
        have hlf : lkF L pr t = lkF L pr t := rfl
        conv at hlf => rhs; unfold lkF
        obtain ⟨lot, mn⟩ := t
        simp only at c0 c1 hlf hsm
        have hgx := grown_alloc hg (.cells #[.string lot, .int .i64 mn] 54)
        have hBx := hB.alloc (.cells #[.string lot, .int .i64 mn] 54)
        have hXx := Blk.new wr 54 #[.string lot, .int .i64 mn]
        have hlo' := hlo lot _ hgx
        have HG := Lib.hid (And.intro hgx (And.intro hBx (And.intro hXx hj)))
        have hsz := hg.size
        have hBl := hB.lt
        clear hgx hBx hXx hroom hlo hrest hLok hpl hat ht hB hg hj
        unfold lotR at hlo'
        cases hlo2 : lotOf L lot with
        | none =>
          rw [hlo2] at hlo' hlf
          have HV := Lib.hid (And.intro hlo' (hlk 8 hlf (by omega)))
          clear hlo' hlk htk hlf
          go_wp2_with fail
          refine HV.out.1.mono ?_
          rintro e w2 ⟨rfl, hg2⟩
          go_wp2_with fail
          go_ret
          exact ⟨retI HV.out.2.symm, grown_alloc (HG.out.1.trans hg2) _⟩
        | some u =>
          rw [hlo2] at hlo' hlf
          obtain ⟨uid, upr, uex, umn⟩ := u
          simp only [Option.getD_some, Option.isSome_some] at hlo'
          simp only at hlf
          by_cases he : (upr.toList == pr.toList) = true
          · rw [if_neg (by unfold sEq; rw [he]; simp)] at hlf
            by_cases hbt : btw mn 1 1000 = true
            · rw [if_neg (by simp [hbt])] at hlf
              obtain ⟨hm1, hm2⟩ := btw_in hbt
              have HV := Lib.hid (And.intro hlo' (And.intro (htk hlf) hsm))
              generalize numP (P.take j) = S0 at *
              clear hlo' hlk htk hlf hsm
              go_wp2_with fail
              refine HV.out.1.mono ?_
              rintro e w2 ⟨rfl, hg2⟩
              have hB2 := HG.out.2.1.grown hg2 (by simp)
              have kb := hB2.three
              have kx := (HG.out.2.2.1.grown hg2 (by simp)).two
              have hl2 := hB2.lt
              have hl3 := hg2.size
              simp only [World.size_alloc] at hl3
              have hl4 : wr.heap.size < w2.heap.size := by omega
              have HB2 := Lib.hid hB2
              clear hB2
              go_wp2_with fail
              obtain ⟨_, htk, hsm⟩ := HV.out
              obtain ⟨hgx, _, _, hj⟩ := HG.out
              go_roundg (gk - 1)
              case measure => omega
              case rel => exact ⟨j + 1, by omega, by go_num, by rw [hsm], HB2.out.alloc _, grown_alloc (hgx.trans hg2) _, htk⟩
            · have hbt' : btw mn 1 1000 = false := by simpa using hbt
              rw [if_pos hbt'] at hlf
              have HV := Lib.hid (And.intro hlo' (hlk 1 hlf (by omega)))
              clear hlo' hlk htk hlf
              have hmm : mn < 1 ∨ (1 ≤ mn ∧ 1000 < mn) := by
                unfold btw at hbt'
                simp only [Bool.and_eq_false_iff, decide_eq_false_iff_not] at hbt'
                omega
              clear hbt hbt'
              rcases hmm with hm1 | ⟨hm1, hm2⟩
              all_goals (
                go_wp2_with fail
                refine HV.out.1.mono ?_
                rintro e w2 ⟨rfl, hg2⟩
                have hB2 := HG.out.2.1.grown hg2 (by simp)
                have kb := hB2.three
                have kx := (HG.out.2.2.1.grown hg2 (by simp)).two
                have hl2 := hB2.lt
                have hl3 := hg2.size
                simp only [World.size_alloc] at hl3
                have hl4 : wr.heap.size < w2.heap.size := by omega
                clear hB2
                go_wp2_with fail
                go_ret
                exact ⟨retI HV.out.2.symm, grown_alloc (HG.out.1.trans hg2) _⟩)
          · have he' : (upr.toList == pr.toList) = false := by simpa using he
            rw [if_pos (show sEq upr pr = false from he')] at hlf
            have HV := Lib.hid (And.intro hlo' (hlk 13 hlf (by omega)))
            clear hlo' hlk htk hlf he
            go_wp2_with fail
            refine HV.out.1.mono ?_
            rintro e w2 ⟨rfl, hg2⟩
            have hB2 := HG.out.2.1.grown hg2 (by simp)
            have kb := hB2.three
            have kx := (HG.out.2.2.1.grown hg2 (by simp)).two
            have hl2 := hB2.lt
            have hl3 := hg2.size
            simp only [World.size_alloc] at hl3
            have hl4 : wr.heap.size < w2.heap.size := by omega
            clear hB2
            go_wp2_with fail
            go_ret
            exact ⟨retI HV.out.2.symm, grown_alloc (HG.out.1.trans hg2) _⟩
      · obtain rfl : j = n := by omega
        obtain ⟨_, _, _, hroom, hlo, hrest, hLok, hpl⟩ := HC.out
        rw [List.take_of_length_le (by omega)] at hHZ ⊢
        have hz0 := pcsF_zero.1 hHZ.out
        have hS2 := numP_bound (fun t ht => lkF_ok hLok (hHZ.out t ht))
        rw [hpl] at hS2
        have hr1 := hrest.2.1 hz0
        have hr2 := hrest.2.2 hz0
        have hro := hroom wr hg
        generalize numP P = S2 at *
        have kb := hB.three
        obtain ⟨S3, h3⟩ : ∃ S3, most - S1 = S3 := ⟨_, rfl⟩
        rw [h3] at hro
        by_cases hf : S3 < S2
        · have HV := Lib.hid (And.intro hro (hr1 (by omega)))
          clear hr1 hr2 hro hroom hlo hrest hLok hpl hB
          go_wp2_with fail
          refine HV.out.1.mono ?_
          rintro e w2 ⟨rfl, hg2⟩
          go_wp2_with fail
          go_ret
          exact ⟨retI HV.out.2.symm, hg.trans hg2⟩
        · have HV := Lib.hid (And.intro hro (hr2 (by omega)))
          have hf' : S2 ≤ S3 := by omega
          clear hr1 hr2 hro hroom hlo hrest hLok hpl hB
          go_wp2_with fail
          refine HV.out.1.mono ?_
          rintro e w2 ⟨rfl, hg2⟩
          go_wp2_with fail
          go_ret
          exact ⟨retI HV.out.2.symm, hg.trans hg2⟩
  · have hVV : orE (lotsF L) (coilF C) = V ∧ V ≠ 0 := by
      rw [← hV]
      unfold pushF orE
      by_cases h1 : lotsF L = 0
      · have h2 : coilF C ≠ 0 := fun h => hok ⟨h1, h⟩
        simp [h1, h2]
      · simp [h1]
    rw [hV]
    rw [hVV.1] at hcf
    have hV' : (V != 0) = true := by rw [bne_iff_ne]; exact hVV.2
    have HC := Lib.hid (And.intro hcf hg0)
    clear hcf hg0 hB hok hVV hV hr hL hp
    go_enter Tryd.func48, Tryd.ntmps48
    go_wp2_with fail
    refine HC.out.1.mono ?_
    rintro e w1 ⟨rfl, hg1⟩
    go_wp2_with fail
    go_ret
    exact ⟨rfl, HC.out.2.trans hg1⟩

end Go.Proofs.YtidfhgpjpieajaaDoor
