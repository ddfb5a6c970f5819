/- The walk of the law LayoutsStay. -/
import Derived.Test.YtahmeemhclfadaaDoorMkVA
import Derived.Test.YtahmeemhclfadaaDoorVst
import Derived.Test.YtahmeemhclfadaaDoorVerR
import Derived.Test.YtahmeemhclfadaaDoorDyF
import Derived.Test.YtahmeemhclfadaaDoorDys
import Derived.Test.YtahmeemhclfadaaDoorShv
import Derived.Test.YtahmeemhclfadaaDoorIn
namespace Go.Proofs.YtahmeemhclfadaaDoor
open Go.RowKit

theorem own_none (v : Value) : v.ownBlock = none ∨ v.ownBlock ≠ none := by cases v.ownBlock with | none => exact .inl rfl | some _ => exact .inr (by simp)
theorem aE_bad {V : List Ver} {d : Int} (h : versF V ≠ 0) : aE V d = versF V := by unfold aE; rw [if_pos h]
theorem aE_ok {V : List Ver} {d : Int} (h : versF V = 0) : aE V d = if btw d 0 4000 = false then 1 else atE V d := by unfold aE; rw [if_neg (by simp [h])]
theorem stE_bad {V : List Ver} {f t : Int} (h : versF V ≠ 0) : stE V f t = versF V := by unfold stE; rw [if_pos h]
theorem stE_ok {V : List Ver} {f t : Int} (h : versF V = 0) : stE V f t = if btw f 0 t = false ∨ 4001 < t then 1 else 0 := by unfold stE; rw [if_neg (by simp [h])]

set_option maxRecDepth 100000 in
set_option maxHeartbeats 4000000 in
theorem layoutsStay_walk (a0 : Option Addr) (len0 cap0 : Nat) (z0 : List Int) (w : World) (w0 : InRow w a0 len0 cap0 z0) :
    Calls Tryd.prog 5 #[.slice a0 len0 cap0] w fun e w' => e = .returned (.bool true) ∧ w.grownBy w' none := by
  obtain ⟨hlen, hs0⟩ := str_start w0
  have hg0 : w.grownBy (w.alloc (.cells #[.slice a0 len0 cap0, .int .i64 0] 25)) none := grown_alloc (grown_refl w) _
  have hz0 : (w.alloc (.cells #[.slice a0 len0 cap0, .int .i64 0] 25)).heap.size = w.heap.size + 1 := by simp
  clear hlen w0
  generalize z0.take len0 = L at *
  go_enter Tryd.func5, Tryd.ntmps5
  go_wp2_with fail
  generalize w.alloc (.cells #[.slice a0 len0 cap0, .int .i64 0] 25) = wA at *
  obtain ⟨bs, hbs⟩ : ∃ bs, bs = w.heap.size := ⟨_, rfl⟩
  rw [← hbs] at hs0 hz0 ⊢
  have HZ := Lib.hid hbs
  clear hbs
  have hbA : bs < wA.heap.size := by omega
  refine (versions_any bs L 0 _ hs0 (by omega)).mono ?_
  rintro e w1 ⟨A, c, rfl, hR1, hs1, hg1⟩
  obtain ⟨hb1, hb2⟩ := versM_bound L 0
  generalize (versM L 0).2 = V at *
  generalize (versM L 0).1 = t1 at *
  go_wp2_with fail
  refine (day_any bs L t1 _ hs1 (by omega)).mono ?_
  rintro e w2 ⟨rfl, hs2, hg2⟩
  generalize dayM L t1 = d at *
  go_wp2_with fail
  refine (pick_lit bs L _ [0, 1, 3, -1] w2 hs2 (by omega) (by decide) (by decide) 3).mono ?_
  rintro e w3 ⟨rfl, hs3, hg3⟩
  have hfr := pk_mem L (t1 + 1 + 1) [0, 1, 3, -1] (by simp)
  simp only [List.mem_cons, List.not_mem_nil, or_false] at hfr
  generalize pk L (t1 + 1 + 1) [0, 1, 3, -1] = fr at *
  go_wp2_with fail
  refine (pick_lit bs L _ [2, 9, 20, 4001, 4002] w3 hs3 (by omega) (by decide) (by decide) 3).mono ?_
  rintro e w4 ⟨rfl, hs4, hg4⟩
  have hto := pk_mem L (t1 + 1 + 1 + 1) [2, 9, 20, 4001, 4002] (by simp)
  simp only [List.mem_cons, List.not_mem_nil, or_false] at hto
  generalize pk L (t1 + 1 + 1 + 1) [2, 9, 20, 4001, 4002] = to at *
  have hg24 := (hg2.trans hg3).trans hg4
  have hR4 := hR1.grown_ hg24 (fun j e => by injection e with e; omega)
  have hgw0 : w.grownBy w4 (some bs) := ((hg0.but (some bs)).trans hg1).trans hg24
  have hgw4 : w.grownBy w4 none := ⟨hgw0.os, hgw0.tape, hgw0.output, hgw0.size, fun k hk _ => hgw0.block k hk (fun e => by injection e with e; have := HZ.out; omega)⟩
  clear hs0 hs1 hs2 hs3 hs4 hg1 hg2 hg3 hg4 hg24 hR1 hg0 hz0 hgw0
  have hV200 : V.length ≤ 200 := by omega
  have hVF := fun wx (h : w4.grownBy wx none) => versionsFault_any wA.heap.size A c V wx (hR4.grown h)
  have hCV := fun wx (h : w4.grownBy wx none) => checkVersions_any wA.heap.size A c V wx (hR4.grown h)
  have hAt := fun wx (h : w4.grownBy wx none) => at_any wA.heap.size A c V d wx (hR4.grown h)
  have hSt := fun wx (h : w4.grownBy wx none) => stays_any wA.heap.size A c V fr to wx (hR4.grown h)
  obtain ⟨N, hN⟩ : ∃ N, V.length = N := ⟨_, rfl⟩
  rw [hN] at hVF hCV hAt hSt ⊢
  have heD : Enters Tryd.prog 83 := enters_of Tryd.func83 (by kernel_rfl) rfl
  have hDF := fun wx => dayFault_one d wx heD
  by_cases hv : versF V = 0
  · have hfr0 : -1 ≤ fr ∧ fr ≤ 3 := by omega
    have hto0 : 2 ≤ to ∧ to ≤ 4002 := by omega
    obtain ⟨hl200, hall, hpw⟩ := vers_ok hv
    have hn0 : ver0 V ≤ 60 := by
      cases V with
      | nil => exact Nat.zero_le _
      | cons x l => have := hall x (by simp); have h1 := this.2.1; have h2 := this.2.2.1; omega
    have hsame : fr ≤ to → slotsV V fr to (ver0 V) = slotsD V fr to (ver0 V) := fun h => by
      by_cases hne : V = []
      · rw [hne]; rfl
      · exact slots_same hpw fr to h hne _
    have hSO : 0 ≤ fr → fr ≤ to → to ≤ 4001 → ∀ wx, w4.grownBy wx none → Calls Tryd.prog 43 #[.slice A N c, .int .i64 fr, .int .i64 to] wx fun e w' => ∃ v, e = .returned v ∧
        w'.ownsRow wx.heap.size 74 4 v (slotsD V fr to (ver0 V)).length (syFlat (slotsD V fr to (ver0 V))) ∧ wx.grownBy w' none := fun h1 h2 h3 wx hg => by
      have := staysOf_any wA.heap.size A c V fr to wx (hR4.grown hg) hV200 (ver0 V) hn0 (fun t ht => (hall t ht).2.1) (.inl rfl) h1 h2 h3
      rw [hN] at this
      exact this
    have hLA := fun wx (h : w4.grownBy wx none) => layoutAt_any wA.heap.size A c V d wx (hR4.grown h) (by omega) (fun t ht => by have := (hall t ht).2.2.1; omega)
    rw [hN] at hLA
    have hLl : (atL V d).length ≤ 1000000 := by
      rcases atE_or V d with h1 | ⟨_, h1⟩
      · rw [atL_len (fun t ht => (hall t ht).2.1) h1]; omega
      · rw [h1]; simp
    have ea := aE_ok (d := d) hv
    have es := stE_ok (f := fr) (t := to) hv
    have HS := Lib.hid (And.intro es (And.intro hn0 (And.intro hsame hSO)))
    have hVF' : ∀ wx, w4.grownBy wx none → Calls Tryd.prog 36 #[.slice A N c] wx fun e w' => e = .returned (.int .i64 0) ∧ wx.grownBy w' none := fun wx h => by have := hVF wx h; rw [hv] at this; exact this
    have hCV' : ∀ wx, w4.grownBy wx none → Calls Tryd.prog 37 #[.slice A N c] wx fun e w' => e = .returned (.int .i64 0) ∧ wx.grownBy w' none := fun wx h => by have := hCV wx h; rw [hv] at this; exact this
    have hfr1 := hfr0.1
    have hfr2 := hfr0.2
    have hto1 := hto0.1
    have hto2 := hto0.2
    have HC := Lib.hid (And.intro hVF' (And.intro hCV' (And.intro hAt (And.intro hSt (And.intro hgw4 (And.intro ea (And.intro hDF (And.intro hLA hLl))))))))
    clear hVF' hCV' hVF hCV hAt hSt hgw4 ea es hR4 hDF heD hN hLA hLl hSO hsame hn0 hall hpw hl200 hfr hto hfr0 hto0 hV200
    go_wp2_with fail
    refine (HC.out.1 _ (grown_refl _)).mono ?_
    rintro e w5 ⟨rfl, hg5⟩
    go_wp2_with fail
    refine (HC.out.2.1 _ hg5).mono ?_
    rintro e w6 ⟨rfl, hg6⟩
    have hg46 := hg5.trans hg6
    clear hg5 hg6
    by_cases hd : btw d 0 4000 = true
    · have ea2 : aE V d = atE V d := by rw [HC.out.2.2.2.2.2.1, if_neg (by simp [hd])]
      have el : aL V d = atL V d := by
        unfold aL
        rcases atE_or V d with h1 | ⟨_, h2⟩
        · rw [ea2, if_pos h1]
        · rw [h2]; split <;> rfl
      have hdf : ∀ wx : World, Calls Tryd.prog 40 #[.slice (some ⟨wx.heap.size, 0, none⟩) 1 1] (wx.alloc (.cells #[.int .i64 d] 3)) fun e w' => e = .returned (.int .i64 0) ∧ wx.grownBy w' none := fun wx => by
        have := HC.out.2.2.2.2.2.2.1 wx
        rw [if_neg (by simp [hd])] at this
        exact this
      have HD := Lib.hid hdf
      obtain ⟨E, hE⟩ : ∃ E, atE V d = E := ⟨_, rfl⟩
      have hEE : (E != E) = false := by simp
      have HE := Lib.hid (And.intro (ea2.trans hE) (And.intro el hE))
      clear hdf ea2 el hd hE
      go_wp2_with fail
      refine (HC.out.2.2.1 _ hg46).mono ?_
      rw [HE.out.1, HE.out.2.1]
      rintro e w7 ⟨v7, rfl, hown7, hg7⟩
      have hg47 := hg46.trans hg7
      go_wp2_with fail
      refine (HC.out.2.2.2.1 _ hg47).mono ?_
      rintro e w8 ⟨v8, rfl, hown8, hg8⟩
      have hg48 := hg47.trans hg8
      have ho7 := hown7.kept hg8 (own_none _)
      go_wp2_with fail
      refine (HD.out _).mono ?_
      rintro e w9 ⟨rfl, hg9⟩
      have hg49 := hg48.trans hg9
      go_wp2_with fail
      refine (HC.out.2.2.2.2.2.2.2.1 _ hg49).mono ?_
      rw [HE.out.2.2]
      rintro e w10 ⟨v10, rfl, hown10, hg10⟩
      have hgx := hg49.trans hg10
      have ho7b := (ho7.kept hg9 (own_none _)).kept hg10 (own_none _)
      obtain ⟨A7, c7, hv7, _, _, hr7, _⟩ := Rd.of_own ho7b
      subst hv7
      obtain ⟨A10, c10, hv10, _, _, hr10, _⟩ := Rd.of_own hown10
      subst hv10
      have heq := equalStr_any A7 A10 _ _ c7 c10 (atL V d) (atL V d) w10 hr7 hr10 HC.out.2.2.2.2.2.2.2.2 HC.out.2.2.2.2.2.2.2.2
      rw [show eqSs (atL V d) (atL V d) = true from by unfold eqSs; simp] at heq
      have hg811 := hg9.trans hg10
      have HQ := Lib.hid heq
      clear heq hr7 hr10 ho7b ho7 hown10 hown7 hg9 hg10 hg7 hg8 hg46 hg47 hg48 hg49
      go_wp2_with fail
      refine HQ.out.mono ?_
      rintro e w11 ⟨rfl, hg11⟩
      have hgy := hgx.trans hg11
      have hg8y := hg811.trans hg11
      clear hgx hg11 hg811 HQ
      by_cases hok : stE V fr to = 0
      · have hbt : btw fr 0 to = true ∧ to ≤ 4001 := by
          rw [HS.out.1] at hok
          split at hok
          · cases hok
          · rename_i h1
            simp only [not_or] at h1
            exact ⟨by simpa using h1.1, by omega⟩
        obtain ⟨x0, x1⟩ := btw_true.1 hbt.1
        have x2 := hbt.2
        have g1 : decide (fr < 0) = false := by simp; omega
        have g2 : decide (to < fr) = false := by simp; omega
        have g3 : decide (4001 < to) = false := by simp; omega
        have hSO := HS.out.2.2.2 x0 x1 x2
        have hsl : stL V fr to = slotsD V fr to (ver0 V) := by unfold stL; rw [if_pos hok]; exact HS.out.2.2.1 x1
        have hlen : (slotsD V fr to (ver0 V)).length ≤ 1000000 := by
          have h1 := slotsD_len V fr to (ver0 V)
          have h2 : ver0 V * (to - fr).toNat ≤ 60 * 4001 := Nat.mul_le_mul HS.out.2.1 (by omega)
          omega
        have ho8 := hown8.kept (hg8y) (own_none _)
        rw [hsl] at ho8
        rw [hok]
        have HO := Lib.hid (And.intro hSO (And.intro ho8 hlen))
        clear hSO ho8 hlen hsl hok hbt x0 x1 x2
        go_wp2_with fail
        refine (lawShelves_any _).mono ?_
        rintro e wS ⟨rfl, hgS⟩
        go_wp2_with fail
        refine (HO.out.1 _ (hgy.trans hgS)).mono ?_
        rintro e wT ⟨vT, rfl, hownT, hgT⟩
        obtain ⟨AT, cT, rfl, _, _, hrT, _⟩ := Rd.of_own hownT
        obtain ⟨A8, c8, hv8, _, _, hr8, _⟩ := Rd.of_own HO.out.2.1
        subst hv8
        go_wp2_with fail
        refine (equalSy_same A8 AT _ c8 cT _ _ (hr8.grown (hgS.trans hgT)) hrT HO.out.2.2).mono ?_
        rintro e wU ⟨rfl, hgU⟩
        go_wp2_with fail
        go_ret
        exact ⟨rfl, HC.out.2.2.2.2.1.trans (((hgy.trans hgS).trans hgT).trans hgU)⟩
      · have hst : stE V fr to = 1 ∧ (btw fr 0 to = false ∨ 4001 < to) := by
          rw [HS.out.1] at hok ⊢
          split at hok
          · rename_i h1; rw [if_pos h1]; exact ⟨rfl, h1⟩
          · exact absurd rfl hok
        rw [hst.1]
        have hbad : fr < 0 ∨ to < fr ∨ 4001 < to := by
          rcases hst.2 with h1 | h1
          · rcases Int.lt_or_le fr 0 with h2 | h2
            · exact .inl h2
            · refine .inr (.inl ?_)
              rcases Int.lt_or_le to fr with h3 | h3
              · exact h3
              · rw [btw_true.2 ⟨h2, h3⟩] at h1; cases h1
          · exact .inr (.inr h1)
        clear hst hok
        by_cases y1 : fr < 0
        · have g1 : decide (fr < 0) = true := by simpa using y1
          clear hbad y1
          go_wp2_with fail
          refine (lawShelves_any _).mono ?_
          rintro e wS ⟨rfl, hgS⟩
          go_wp2_with fail
          go_ret
          exact ⟨rfl, HC.out.2.2.2.2.1.trans (hgy.trans hgS)⟩
        · have g1 : decide (fr < 0) = false := by simpa using y1
          by_cases y2 : to < fr
          · have g2 : decide (to < fr) = true := by simpa using y2
            clear hbad y1 y2
            go_wp2_with fail
            refine (lawShelves_any _).mono ?_
            rintro e wS ⟨rfl, hgS⟩
            go_wp2_with fail
            go_ret
            exact ⟨rfl, HC.out.2.2.2.2.1.trans (hgy.trans hgS)⟩
          · have g2 : decide (to < fr) = false := by simpa using y2
            have g3 : decide (4001 < to) = true := by simp; omega
            clear hbad y1 y2
            go_wp2_with fail
            refine (lawShelves_any _).mono ?_
            rintro e wS ⟨rfl, hgS⟩
            go_wp2_with fail
            go_ret
            exact ⟨rfl, HC.out.2.2.2.2.1.trans (hgy.trans hgS)⟩
    · have hd' : btw d 0 4000 = false := by simpa using hd
      have ea2 : aE V d = 1 := by rw [HC.out.2.2.2.2.2.1, if_pos hd']
      have hdf : ∀ wx : World, Calls Tryd.prog 40 #[.slice (some ⟨wx.heap.size, 0, none⟩) 1 1] (wx.alloc (.cells #[.int .i64 d] 3)) fun e w' => e = .returned (.int .i64 1) ∧ wx.grownBy w' none := fun wx => by
        have := HC.out.2.2.2.2.2.2.1 wx
        rw [if_pos hd'] at this
        exact this
      have HD := Lib.hid hdf
      have HE := Lib.hid ea2
      clear hdf ea2 hd hd'
      go_wp2_with fail
      refine (HC.out.2.2.1 _ hg46).mono ?_
      rw [HE.out]
      rintro e w7 ⟨v7, rfl, _, hg7⟩
      have hg47 := hg46.trans hg7
      go_wp2_with fail
      refine (HC.out.2.2.2.1 _ hg47).mono ?_
      rintro e w8 ⟨v8, rfl, hown8, hg8⟩
      have hg48 := hg47.trans hg8
      go_wp2_with fail
      refine (HD.out _).mono ?_
      rintro e w9 ⟨rfl, hg9⟩
      have hgy := hg48.trans hg9
      have hg8y := hg9
      clear hg9 hg48 hg47 hg46 hg7 hg8
      by_cases hok : stE V fr to = 0
      · have hbt : btw fr 0 to = true ∧ to ≤ 4001 := by
          rw [HS.out.1] at hok
          split at hok
          · cases hok
          · rename_i h1
            simp only [not_or] at h1
            exact ⟨by simpa using h1.1, by omega⟩
        obtain ⟨x0, x1⟩ := btw_true.1 hbt.1
        have x2 := hbt.2
        have g1 : decide (fr < 0) = false := by simp; omega
        have g2 : decide (to < fr) = false := by simp; omega
        have g3 : decide (4001 < to) = false := by simp; omega
        have hSO := HS.out.2.2.2 x0 x1 x2
        have hsl : stL V fr to = slotsD V fr to (ver0 V) := by unfold stL; rw [if_pos hok]; exact HS.out.2.2.1 x1
        have hlen : (slotsD V fr to (ver0 V)).length ≤ 1000000 := by
          have h1 := slotsD_len V fr to (ver0 V)
          have h2 : ver0 V * (to - fr).toNat ≤ 60 * 4001 := Nat.mul_le_mul HS.out.2.1 (by omega)
          omega
        have ho8 := hown8.kept (hg8y) (own_none _)
        rw [hsl] at ho8
        rw [hok]
        have HO := Lib.hid (And.intro hSO (And.intro ho8 hlen))
        clear hSO ho8 hlen hsl hok hbt x0 x1 x2
        go_wp2_with fail
        refine (lawShelves_any _).mono ?_
        rintro e wS ⟨rfl, hgS⟩
        go_wp2_with fail
        refine (HO.out.1 _ (hgy.trans hgS)).mono ?_
        rintro e wT ⟨vT, rfl, hownT, hgT⟩
        obtain ⟨AT, cT, rfl, _, _, hrT, _⟩ := Rd.of_own hownT
        obtain ⟨A8, c8, hv8, _, _, hr8, _⟩ := Rd.of_own HO.out.2.1
        subst hv8
        go_wp2_with fail
        refine (equalSy_same A8 AT _ c8 cT _ _ (hr8.grown (hgS.trans hgT)) hrT HO.out.2.2).mono ?_
        rintro e wU ⟨rfl, hgU⟩
        go_wp2_with fail
        go_ret
        exact ⟨rfl, HC.out.2.2.2.2.1.trans (((hgy.trans hgS).trans hgT).trans hgU)⟩
      · have hst : stE V fr to = 1 ∧ (btw fr 0 to = false ∨ 4001 < to) := by
          rw [HS.out.1] at hok ⊢
          split at hok
          · rename_i h1; rw [if_pos h1]; exact ⟨rfl, h1⟩
          · exact absurd rfl hok
        rw [hst.1]
        have hbad : fr < 0 ∨ to < fr ∨ 4001 < to := by
          rcases hst.2 with h1 | h1
          · rcases Int.lt_or_le fr 0 with h2 | h2
            · exact .inl h2
            · refine .inr (.inl ?_)
              rcases Int.lt_or_le to fr with h3 | h3
              · exact h3
              · rw [btw_true.2 ⟨h2, h3⟩] at h1; cases h1
          · exact .inr (.inr h1)
        clear hst hok
        by_cases y1 : fr < 0
        · have g1 : decide (fr < 0) = true := by simpa using y1
          clear hbad y1
          go_wp2_with fail
          refine (lawShelves_any _).mono ?_
          rintro e wS ⟨rfl, hgS⟩
          go_wp2_with fail
          go_ret
          exact ⟨rfl, HC.out.2.2.2.2.1.trans (hgy.trans hgS)⟩
        · have g1 : decide (fr < 0) = false := by simpa using y1
          by_cases y2 : to < fr
          · have g2 : decide (to < fr) = true := by simpa using y2
            clear hbad y1 y2
            go_wp2_with fail
            refine (lawShelves_any _).mono ?_
            rintro e wS ⟨rfl, hgS⟩
            go_wp2_with fail
            go_ret
            exact ⟨rfl, HC.out.2.2.2.2.1.trans (hgy.trans hgS)⟩
          · have g2 : decide (to < fr) = false := by simpa using y2
            have g3 : decide (4001 < to) = true := by simp; omega
            clear hbad y1 y2
            go_wp2_with fail
            refine (lawShelves_any _).mono ?_
            rintro e wS ⟨rfl, hgS⟩
            go_wp2_with fail
            go_ret
            exact ⟨rfl, HC.out.2.2.2.2.1.trans (hgy.trans hgS)⟩
  · have hb : (versF V != 0) = true := by rw [bne_iff_ne]; exact hv
    have hbb : (versF V != versF V) = false := by simp
    have hbe : (versF V == versF V) = true := by simp
    have ea : aE V d = versF V := aE_bad hv
    have es : stE V fr to = versF V := stE_bad hv
    generalize versF V = f at *
    have HC := Lib.hid (And.intro hVF (And.intro hCV (And.intro hAt (And.intro hSt (And.intro hgw4 (And.intro ea es))))))
    clear hVF hCV hAt hSt hgw4 ea es hv hR4 hDF heD hN
    go_wp2_with fail
    refine (HC.out.1 _ (grown_refl _)).mono ?_
    rintro e w5 ⟨rfl, hg5⟩
    go_wp2_with fail
    refine (HC.out.2.1 _ hg5).mono ?_
    rintro e w6 ⟨rfl, hg6⟩
    have hg46 := hg5.trans hg6
    go_wp2_with fail
    refine (HC.out.2.2.1 _ hg46).mono ?_
    rw [HC.out.2.2.2.2.2.1]
    rintro e w7 ⟨v7, rfl, _, hg7⟩
    have hg47 := hg46.trans hg7
    go_wp2_with fail
    refine (HC.out.2.2.2.1 _ hg47).mono ?_
    rw [HC.out.2.2.2.2.2.2]
    rintro e w8 ⟨v8, rfl, _, hg8⟩
    have hg48 := hg47.trans hg8
    go_wp2_with fail
    refine (lawShelves_any _).mono ?_
    rintro e w9 ⟨rfl, hg9⟩
    go_wp2_with fail
    go_ret
    exact ⟨rfl, HC.out.2.2.2.2.1.trans (hg48.trans hg9)⟩

end Go.Proofs.YtahmeemhclfadaaDoor
