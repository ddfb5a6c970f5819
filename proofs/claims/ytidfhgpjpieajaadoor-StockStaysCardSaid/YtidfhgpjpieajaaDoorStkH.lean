/- The walk of package stock's checkPush. -/
import Derived.Test.YtidfhgpjpieajaaDoorStkG
import Derived.Test.YtidfhgpjpieajaaDoorStkD
import Derived.Deep.RegionWith
import Derived.Deep.RegionLaw
namespace Go.Proofs.YtidfhgpjpieajaaDoor
open Go.RowKit

/-- What is wrong with a piece that is put into a coil of a product. -/
def lkF (L : List Lot) (pr : ByteArray) (x : Pc) : Int :=
  match lotOf L x.lot with
  | none => 8
  | some t => if sEq t.pr pr = false then 13 else if btw x.mn 1 1000 = false then 1 else 0
def pcsF (L : List Lot) (pr : ByteArray) : List Pc → Int
  | [] => 0
  | x :: r => if lkF L pr x ≠ 0 then lkF L pr x else pcsF L pr r
/-- What is wrong with a coil, lots, and pieces that are put into the coil. -/
def pushF (L : List Lot) (C : Coil) (P : List Pc) : Int :=
  if lotsF L ≠ 0 then lotsF L else if coilF C ≠ 0 then coilF C else if pcsF L C.pr P ≠ 0 then pcsF L C.pr P else if C.most < numP C.ps + numP P then 12 else 0
theorem pcsF_at {L : List Lot} {pr : ByteArray} : ∀ {P : List Pc} {j : Nat} {x : Pc}, (∀ t ∈ P.take j, lkF L pr t = 0) → P[j]? = some x → lkF L pr x ≠ 0 → pcsF L pr P = lkF L pr x
  | [], j, x, _, hx, _ => by simp at hx
  | a :: P, 0, x, _, hx, h => by
    obtain rfl : a = x := by simpa using hx
    rw [pcsF, if_pos h]
  | a :: P, j + 1, x, hp, hx, h => by
    rw [pcsF, if_neg (by simpa using hp a (by simp))]
    exact pcsF_at (j := j) (fun t ht => hp t (by rw [List.take_succ_cons]; exact List.mem_cons_of_mem _ ht)) (by simpa using hx) h
theorem pcsF_zero {L : List Lot} {pr : ByteArray} : ∀ {P : List Pc}, (∀ t ∈ P, lkF L pr t = 0) ↔ pcsF L pr P = 0
  | [] => by simp [pcsF]
  | a :: P => by
    rw [pcsF, List.forall_mem_cons, pcsF_zero]
    by_cases h : lkF L pr a = 0
    · simp [h]
    · simp [h]
theorem lotOf_mem {L : List Lot} {s : ByteArray} {t : Lot} (h : lotOf L s = some t) : t ∈ L ∧ t.id = s :=
  ⟨List.mem_of_find?_eq_some h, sEq_iff.1 (by have := List.find?_some h; exact this)⟩
theorem lkF_ok {L : List Lot} {pr : ByteArray} {x : Pc} (hL : ∀ t ∈ L, LotOk t) (h : lkF L pr x = 0) : PcOk x := by
  unfold lkF at h
  cases hl : lotOf L x.lot with
  | none => rw [hl] at h; cases h
  | some t =>
    rw [hl] at h
    simp only at h
    obtain ⟨hm, hid⟩ := lotOf_mem hl
    refine ⟨hid ▸ (hL t hm).1, ?_⟩
    split at h
    · cases h
    · split at h
      · cases h
      · rename_i h2
        have : btw x.mn 1 1000 = true := by simpa using h2
        unfold btw at this
        simp only [Bool.and_eq_true, decide_eq_true_eq] at this
        omega


/-- pushF, past its first two checks. -/
theorem pushF_rest {L : List Lot} {C : Coil} {P : List Pc} (h1 : lotsF L = 0) (h2 : coilF C = 0) :
    (pcsF L C.pr P ≠ 0 → pushF L C P = pcsF L C.pr P) ∧ (pcsF L C.pr P = 0 → C.most < numP C.ps + numP P → pushF L C P = 12) ∧ (pcsF L C.pr P = 0 → ¬ C.most < numP C.ps + numP P → pushF L C P = 0) := by
  unfold pushF
  rw [if_neg (by omega), if_neg (by omega)]
  refine ⟨fun h => by rw [if_pos h], fun h h' => ?_, fun h h' => ?_⟩
  · rw [if_neg (by omega), if_pos h']
  · rw [if_neg (by omega), if_neg h']

set_option maxRecDepth 100000 in
set_option maxHeartbeats 4000000 in
theorem checkPush_ok (L : List Lot) (C : Coil) (P : List Pc) (A B D : Option Addr) (c cl n cp : Nat) (w : World) (hr : Rd w 2 A C.ps.length (pcFlat C.ps)) (hL : Rd w 4 B L.length (lotFlat L)) (hp : Rd w 2 D n (pcFlat P)) (hn : n ≤ 1000000)
    (hx : ∀ t ∈ P, t.lot.size ≤ maxLen) (h1 : lotsF L = 0) (h2 : coilF C = 0) :
    Calls Tryd.prog 94 #[.agg #[.string C.pr, .int .i64 C.most, .slice A C.ps.length c], .slice B L.length cl, .slice D n cp] w
      fun e w' => e = .returned (.int .i64 (pushF L C P)) ∧ w.grownBy w' none := by
  obtain ⟨hL500, hLok, hLs⟩ := lots_ok h1
  obtain ⟨_, hmost, hlen, _, hpok, hsum⟩ := coil_ok h2
  have hpl : P.length = n := by have := hp.1; rw [pcFlat_len] at this; omega
  have hnd := lots_nodup hLs
  have hid : ∀ t ∈ L, t.id.size ≤ maxLen := fun t ht => keyB_size (hLok t ht).1
  have hg0 := grown_alloc (grown_refl w) (.cells #[.string C.pr, .int .i64 C.most, .slice A C.ps.length c] 58)
  have hB := Blk.new w 58 #[.string C.pr, .int .i64 C.most, .slice A C.ps.length c]
  have k0 := hB.three
  have hcl := checkLots_any B L.length cl L _ (hL.grown hg0)
  have hcc := fun w1 (h : w.grownBy w1 none) => checkCoil_any C A c w1 (hr.grown h) (by omega)
  have hby := fun w1 (h : w.grownBy w1 none) => byId_any B L.length cl L w1 (hL.grown h) hL500 hnd hid
  have hn1 := fun w1 (h : w.grownBy w1 none) => number_any A C.ps.length c C.ps w1 (hr.grown h) (by omega) hpok
  have hn2 := fun w1 (h : w.grownBy w1 none) (hk : ∀ t ∈ P, PcOk t) => number_any D n cp P w1 (hp.grown h) hn hk
  have hps := numP_nonneg hpok
  have hrest := @pushF_rest L C P h1 h2
  rw [h1] at hcl
  rw [h2] at hcc
  obtain ⟨V, hV⟩ : ∃ V, pushF L C P = V := ⟨_, rfl⟩
  rw [hV] at hrest ⊢
  obtain ⟨pr, most, ps⟩ := C
  simp only at *
  have HC := Lib.hid (And.intro hcl (And.intro hcc (And.intro hby (And.intro hn1 (And.intro hn2 (And.intro hB (And.intro hrest (And.intro hx (And.intro hLok hpl)))))))))
  generalize hS1 : numP ps = S1 at hn1 hrest hsum hps HC
  generalize hm : ps.length = m at *
  have HM := Lib.hid hm
  clear hcl hcc hby hn1 hn2 hrest hB hx hLok hpl hLs hnd hid hL500 h1 h2 hV hpok hm
  go_enter Tryd.func94, Tryd.ntmps94
  go_wp2_with fail
  refine HC.out.1.mono ?_
  rintro e w1 ⟨rfl, hg1⟩
  have hB1 := HC.out.2.2.2.2.2.1.grown hg1 (by simp)
  have k1 := hB1.three
  have hgg1 := hg0.trans hg1
  go_wp2_with fail
  refine (HC.out.2.1 _ hgg1).mono ?_
  rintro e w2 ⟨rfl, hg2⟩
  have hB2 := hB1.grown hg2 (by simp)
  have k2 := hB2.three
  have hgg2 := hgg1.trans hg2
  clear k1 hB1
  go_wp2_with fail
  refine (HC.out.2.2.1 _ hgg2).mono ?_
  rintro e w3 ⟨g, rfl, hgb, hm3, hg3⟩
  have hB3 := hB2.grown hg3 (by simp)
  have hgg3 := hgg2.trans hg3
  clear k2 hB2
  go_wp2_with fail
  go_loopg [28] n (fun k i wr => ∃ j : Nat, k + j = n ∧ i = .int .i64 j ∧ Blk wr w.heap.size 58 #[.string pr, .int .i64 most, .slice A m c] ∧ MapF strA wr g L.length (byIdF L) ∧ w.grownBy wr none ∧ ∀ t ∈ P.take j, lkF L pr t = 0)
  case atStart => exact ⟨0, by omega, rfl, hB3, hm3, hgg3, by simp⟩
  case round =>
    clear hB3 hm3 hgg3
    obtain ⟨j, hj, rfl, hB, hm, hg, hz⟩ := hrel
    have hHZ := Lib.hid hz
    clear hz
    by_cases hlt : j < n
    · obtain ⟨b, off, rfl, hb, t, ht, c0, c1⟩ := pc_cells (hp.grown hg) hlt
      obtain ⟨hcl, hcc, hby, hn1, hn2, _, hrest, hxs, hLok, hpl⟩ := HC.out
      have hat := fun h => (pcsF_at (L := L) (pr := pr) hHZ.out ht h).trans rfl
      have hxl := hxs t (List.mem_of_getElem? ht)
      have htk : ∀ (_ : lkF L pr t = 0), ∀ u ∈ P.take (j + 1), lkF L pr u = 0 := fun h u hu => by
        rw [take_at ht, List.mem_append] at hu
        rcases hu with hu | hu
        · exact hHZ.out u hu
        · rw [List.mem_singleton.1 hu]; exact h
      have hlk : ∀ V', lkF L pr t = V' → V' ≠ 0 → V = V' := fun V' h h' => by
        have := hat (by omega)
        rw [h] at this
        rw [hrest.1 (by omega), this]
      have hlf : lkF L pr t = lkF L pr t := rfl
      conv at hlf => rhs; unfold lkF
      obtain ⟨lot, mn⟩ := t
      simp only at c0 c1 hxl hlf
      have hlook := (hm.alloc (.cells #[.string lot, .int .i64 mn] 54)).look_ok (t := 130) (e := 51) Tryd.underlying130 (zeroLot _) (x := lot) hxl
      have k0 := hB.three
      have hBl := hB.lt
      unfold byIdF at hlook
      cases hlo : lotOf L lot with
      | none =>
        rw [hlo] at hlook hlf
        have hl' : (Instr.lookup 130 (.map (some g)) (.string lot) true).run Tryd.prog (wr.alloc (.cells #[.string lot, .int .i64 mn] 54)) = .ok (.tuple #[.agg #[.string ByteArray.empty, .string ByteArray.empty, .int .i64 0, .int .i64 0], .bool false]) (wr.alloc (.cells #[.string lot, .int .i64 mn] 54)) := hlook
        have HV := Lib.hid (hlk 8 hlf (by omega))
        clear hlook hcl hcc hby hn1 hn2 hrest hxs hLok hpl hat htk hlk hlf ht hj hm
        go_wp2_with fail
        go_ret
        exact ⟨retI HV.out.symm, grown_alloc (grown_alloc hg _) _⟩
      | some u =>
        rw [hlo] at hlook hlf
        obtain ⟨uid, upr, uex, umn⟩ := u
        have hl' : (Instr.lookup 130 (.map (some g)) (.string lot) true).run Tryd.prog (wr.alloc (.cells #[.string lot, .int .i64 mn] 54)) = .ok (.tuple #[.agg #[.string uid, .string upr, .int .i64 uex, .int .i64 umn], .bool true]) (wr.alloc (.cells #[.string lot, .int .i64 mn] 54)) := hlook
        simp only at hlf
        by_cases he : (upr.toList == pr.toList) = true
        · rw [if_neg (by unfold sEq; rw [he]; simp)] at hlf
          by_cases hbt : btw mn 1 1000 = true
          · rw [if_neg (by simp [hbt])] at hlf
            have HT := Lib.hid (And.intro (htk hlf) (And.intro hj hm))
            clear hlook hcl hcc hby hn1 hn2 hrest hxs hLok hpl hat htk hlk hlf ht hj hm
            go_wp2_with (go_at_call 70; refine (between_any _ _ _ _).mono ?_; rintro e w' ⟨rfl, rfl⟩)
            obtain ⟨htk, hj, hm⟩ := HT.out
            go_roundg (gk - 1)
            case measure => omega
            case rel => exact ⟨j + 1, by omega, by go_num, (hB.alloc _).alloc _, (hm.alloc _).alloc _, grown_alloc (grown_alloc hg _) _, htk⟩
          · have hbt' : btw mn 1 1000 = false := by simpa using hbt
            rw [if_pos hbt'] at hlf
            have HV := Lib.hid (hlk 1 hlf (by omega))
            clear hlook hcl hcc hby hn1 hn2 hrest hxs hLok hpl hat htk hlk hlf ht hj hm hbt
            go_wp2_with (go_at_call 70; refine (between_any _ _ _ _).mono ?_; rintro e w' ⟨rfl, rfl⟩)
            go_ret
            exact ⟨retI HV.out.symm, grown_alloc (grown_alloc hg _) _⟩
        · have he' : (upr.toList == pr.toList) = false := by simpa using he
          rw [if_pos (show sEq upr pr = false from he')] at hlf
          have HV := Lib.hid (hlk 13 hlf (by omega))
          clear hlook hcl hcc hby hn1 hn2 hrest hxs hLok hpl hat htk hlk hlf ht hj hm he
          go_wp2_with fail
          go_ret
          exact ⟨retI HV.out.symm, grown_alloc (grown_alloc hg _) _⟩
    · obtain rfl : j = n := by omega
      obtain ⟨hcl, hcc, hby, hn1, hn2, _, hrest, hxs, hLok, hpl⟩ := HC.out
      rw [List.take_of_length_le (by omega)] at hHZ
      have hz0 := pcsF_zero.1 hHZ.out
      have hk := fun t ht => lkF_ok hLok (hHZ.out t ht)
      have hS2 := numP_bound hk
      rw [hpl] at hS2
      have hnn : ∀ w1 (_ : w.grownBy w1 none) v S (_ : (v = .slice A m c ∧ S = S1) ∨ (v = .slice D j cp ∧ S = numP P)), Calls Tryd.prog 98 #[v] w1 (fun e w' => e = .returned (.int .i64 S) ∧ w1.grownBy w' none) := by
        rintro w1 h v S (⟨rfl, rfl⟩ | ⟨rfl, rfl⟩)
        · exact hn1 w1 h
        · exact hn2 w1 h hk
      have HN := Lib.hid hnn
      clear hnn
      have hr1 := hrest.2.1 hz0
      have hr2 := hrest.2.2 hz0
      generalize numP P = S2 at *
      have hgd : w.grownBy wr.drew none := grown_drew hg
      have hBd : Blk wr.drew w.heap.size 58 #[.string pr, .int .i64 most, .slice A m c] := hB
      have HB := Lib.hid (And.intro hBd hgd)
      have d1 : wr.drew.cell? ⟨w.heap.size, 1, none⟩ = some (.int .i64 most) := hBd.cell 1
      have d2 : wr.drew.cell? ⟨w.heap.size, 2, none⟩ = some (.slice A m c) := hBd.cell 2
      clear hcl hcc hby hn1 hn2 hrest hxs hLok hpl hz0 hk hHZ hB hBd hg hgd hm
      obtain ⟨S3, h3⟩ : ∃ S3, S1 + S2 = S3 := ⟨_, rfl⟩
      have hw : IntKind.i64.wrap (S1 + S2) = S3 := by rw [IntWalk.i64_in _ (by omega)]; exact h3
      rw [h3] at hr1 hr2
      clear h3 hS2
      by_cases hf : most < S3
      · have HV := Lib.hid (hr1 hf)
        clear hr1 hr2
        go_wp2_with fail
        go_region_law (first
          | (go_simp; go_at_call 98; refine (HN.out _ (HB.out.2.trans hg4) _ _ (by first | exact .inl ⟨rfl, rfl⟩ | exact .inr ⟨rfl, rfl⟩)).mono ?_; rintro e w5 ⟨rfl, hg5'⟩; dsimp only; have hg5 := hg4.trans hg5'; have e3 := (HB.out.1.grown hg5 (by simp)).cell 1; have e4 := (HB.out.1.grown hg5 (by simp)).cell 2)
          | (go_simp; go_at_call 98; refine (HN.out _ HB.out.2 _ _ (by first | exact .inl ⟨rfl, rfl⟩ | exact .inr ⟨rfl, rfl⟩)).mono ?_; rintro e w4 ⟨rfl, hg4⟩; dsimp only; have e1 := (HB.out.1.grown hg4 (by simp)).cell 1; have e2 := (HB.out.1.grown hg4 (by simp)).cell 2))
        all_goals (
          go_wp2_with fail
          go_ret
          exact ⟨retI HV.out.symm, HB.out.2.trans hg5⟩)
      · have HV := Lib.hid (hr2 (by omega))
        have hf' : S3 ≤ most := by omega
        clear hr1 hr2
        go_wp2_with fail
        go_region_law (first
          | (go_simp; go_at_call 98; refine (HN.out _ (HB.out.2.trans hg4) _ _ (by first | exact .inl ⟨rfl, rfl⟩ | exact .inr ⟨rfl, rfl⟩)).mono ?_; rintro e w5 ⟨rfl, hg5'⟩; dsimp only; have hg5 := hg4.trans hg5'; have e3 := (HB.out.1.grown hg5 (by simp)).cell 1; have e4 := (HB.out.1.grown hg5 (by simp)).cell 2)
          | (go_simp; go_at_call 98; refine (HN.out _ HB.out.2 _ _ (by first | exact .inl ⟨rfl, rfl⟩ | exact .inr ⟨rfl, rfl⟩)).mono ?_; rintro e w4 ⟨rfl, hg4⟩; dsimp only; have e1 := (HB.out.1.grown hg4 (by simp)).cell 1; have e2 := (HB.out.1.grown hg4 (by simp)).cell 2))
        all_goals (
          go_wp2_with fail
          go_ret
          exact ⟨retI HV.out.symm, HB.out.2.trans hg5⟩)

set_option maxHeartbeats 2000000 in
theorem checkPush_bad (L : List Lot) (C : Coil) (P : List Pc) (A B D : Option Addr) (c cl n cp : Nat) (w : World) (hr : Rd w 2 A C.ps.length (pcFlat C.ps)) (hlen : C.ps.length ≤ 1000000) (hL : Rd w 4 B L.length (lotFlat L)) (hF : ¬ (lotsF L = 0 ∧ coilF C = 0)) :
    Calls Tryd.prog 94 #[.agg #[.string C.pr, .int .i64 C.most, .slice A C.ps.length c], .slice B L.length cl, .slice D n cp] w
      fun e w' => e = .returned (.int .i64 (pushF L C P)) ∧ w.grownBy w' none := by
  have hg0 := grown_alloc (grown_refl w) (.cells #[.string C.pr, .int .i64 C.most, .slice A C.ps.length c] 58)
  have hB := Blk.new w 58 #[.string C.pr, .int .i64 C.most, .slice A C.ps.length c]
  have k0 := hB.three
  have hcl := checkLots_any B L.length cl L _ (hL.grown hg0)
  have hcc := fun w1 (h : w.grownBy w1 none) => checkCoil_any C A c w1 (hr.grown h) hlen
  obtain ⟨V, hV⟩ : ∃ V, pushF L C P = V := ⟨_, rfl⟩
  rw [hV]
  have hV' := hV
  unfold pushF at hV'
  by_cases h1 : lotsF L = 0
  · rw [if_neg (by omega)] at hV'
    have h2 : coilF C ≠ 0 := fun h => hF ⟨h1, h⟩
    rw [if_pos h2] at hV'
    rw [h1] at hcl
    rw [hV'] at h2 hcc
    have h2' : (V != 0) = true := by rw [bne_iff_ne]; exact h2
    have HC := Lib.hid (And.intro hcl (And.intro hcc hB))
    clear hcl hcc hV hV' h1 h2 hF hB
    go_enter Tryd.func94, Tryd.ntmps94
    go_wp2_with fail
    refine HC.out.1.mono ?_
    rintro e w1 ⟨rfl, hg1⟩
    have k1 := (HC.out.2.2.grown hg1 (by simp)).three
    have hgg1 := hg0.trans hg1
    go_wp2_with fail
    refine (HC.out.2.1 _ hgg1).mono ?_
    rintro e w2 ⟨rfl, hg2⟩
    go_wp2_with fail
    go_ret
    exact ⟨rfl, hgg1.trans hg2⟩
  · rw [if_pos h1] at hV'
    rw [hV'] at h1 hcl
    have h1' : (V != 0) = true := by rw [bne_iff_ne]; exact h1
    have HC := Lib.hid hcl
    clear hcl hcc hV hV' h1 hF hB
    go_enter Tryd.func94, Tryd.ntmps94
    go_wp2_with fail
    refine HC.out.mono ?_
    rintro e w1 ⟨rfl, hg1⟩
    go_wp2_with fail
    go_ret
    exact ⟨rfl, hg0.trans hg1⟩

theorem checkPush_any (L : List Lot) (C : Coil) (P : List Pc) (A B D : Option Addr) (c cl n cp : Nat) (w : World) (hr : Rd w 2 A C.ps.length (pcFlat C.ps)) (hlen : C.ps.length ≤ 1000000) (hL : Rd w 4 B L.length (lotFlat L)) (hp : Rd w 2 D n (pcFlat P)) (hn : n ≤ 1000000)
    (hx : ∀ t ∈ P, t.lot.size ≤ maxLen) :
    Calls Tryd.prog 94 #[.agg #[.string C.pr, .int .i64 C.most, .slice A C.ps.length c], .slice B L.length cl, .slice D n cp] w
      fun e w' => e = .returned (.int .i64 (pushF L C P)) ∧ w.grownBy w' none := by
  by_cases h : lotsF L = 0 ∧ coilF C = 0
  · exact checkPush_ok L C P A B D c cl n cp w hr hL hp hn hx h.1 h.2
  · exact checkPush_bad L C P A B D c cl n cp w hr hlen hL h

end Go.Proofs.YtidfhgpjpieajaaDoor
