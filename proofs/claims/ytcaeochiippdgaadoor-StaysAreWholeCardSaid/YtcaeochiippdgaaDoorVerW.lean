/- The walks of isProduct, checkProducts, CheckVersions of package shelf. -/
import Derived.Test.YtcaeochiippdgaaDoorVer
import Derived.Test.YtcaeochiippdgaaDoorKey
import Derived.Test.YtcaeochiippdgaaDoorBlk
namespace Go.Proofs.YtcaeochiippdgaaDoor
open Go.RowKit

theorem isProduct_any (s : ByteArray) (w : World) : Calls Tryd.prog 34 #[.string s] w fun e w' => e = .returned (.bool (wdB s)) ∧ w = w' := by
  by_cases h : s.toList.isEmpty = true
  · have hv : wdB s = true := by unfold wdB; rw [h]; rfl
    rw [hv]
    have h1 : s.toList = [] := by simpa using h
    clear hv
    go_enter Tryd.func34, Tryd.ntmps34
    go_wp2_with fail
    go_ret
    exact ⟨rfl, rfl⟩
  · have h' : s.toList.isEmpty = false := by simpa using h
    have hv : wdB s = keyB s := by unfold wdB; rw [h']; rfl
    rw [hv]
    clear hv h
    go_enter Tryd.func34, Tryd.ntmps34
    go_wp2_with fail
    refine (isKey_any _ _).mono ?_
    rintro e w' ⟨rfl, rfl⟩
    go_wp2_with fail
    go_ret
    exact ⟨rfl, rfl⟩

set_option maxHeartbeats 1000000 in
theorem checkProducts_any (A : Option Addr) (n c : Nat) (l : List ByteArray) (w : World) (hr : Rd w 1 A n (strs l)) (hn : n ≤ 1000000) :
    Calls Tryd.prog 28 #[.slice A n c] w fun e w' => e = .returned (.int .i64 (wordsF l)) ∧ w.grownBy w' none := by
  have hl : l.length = n := by have := hr.1; rw [strs_len] at this; omega
  have HL := Lib.hid hl
  clear hl
  go_enter Tryd.func28, Tryd.ntmps28
  go_wp2_with fail
  go_loopg [7] n (fun k i wr => ∃ j : Nat, k + j = n ∧ i = .int .i64 j ∧ w.grownBy wr none ∧ Hid ((l.take j).all wdB = true))
  case atStart => exact ⟨0, by omega, rfl, grown_refl w, Lib.hid (by simp)⟩
  case round =>
    obtain ⟨j, hj, rfl, hg, H⟩ := hrel
    by_cases hlt : j < n
    · obtain ⟨b, off, rfl, hb, x, hx, c0⟩ := str_cells (hr.grown hg) hlt
      have HX := Lib.hid hx
      have HJ := Lib.hid hj
      clear hx hj
      by_cases hw : wdB x = true
      · have HN := Lib.hid (show (l.take (j + 1)).all wdB = true by rw [take_at HX.out, List.all_append, H.out]; simp [hw])
        go_wp2_with fail
        refine (isProduct_any _ _).mono ?_
        rw [hw]
        rintro e w' ⟨rfl, rfl⟩
        clear hw
        go_wp2_with fail
        have hj := HJ.out
        go_roundg (gk - 1)
        case measure => omega
        case rel => exact ⟨j + 1, by omega, by go_num, hg, HN⟩
      · have hw' : wdB x = false := by simpa using hw
        have HV := Lib.hid (wordsF_bad HX.out hw')
        go_wp2_with fail
        refine (isProduct_any _ _).mono ?_
        rw [hw']
        rintro e w' ⟨rfl, rfl⟩
        clear hw hw'
        go_wp2_with fail
        go_ret
        exact ⟨retI HV.out.symm, hg⟩
    · obtain rfl : j = n := by omega
      go_wp2_with fail
      go_ret
      refine ⟨retI ?_, hg⟩
      have := H.out
      rw [List.take_of_length_le (by rw [HL.out]; omega)] at this
      exact (wordsF_ok this).symm

set_option maxRecDepth 100000 in
set_option maxHeartbeats 4000000 in
theorem checkVersions_any (B : Nat) (A : Option Addr) (c : Nat) (V : List Ver) (w : World) (hr : RdV w B A V) :
    Calls Tryd.prog 17 #[.slice A V.length c] w fun e w' => e = .returned (.int .i64 (versF V)) ∧ w.grownBy w' none := by
  obtain ⟨n, hn⟩ : ∃ n, V.length = n := ⟨_, rfl⟩
  rw [hn]
  by_cases h10 : 200 < n
  · have hv : versF V = 2 := by unfold versF; rw [if_pos (by omega)]
    rw [hv]
    clear hv hn hr
    go_enter Tryd.func17, Tryd.ntmps17
    go_wp2_with fail
    go_ret
    exact ⟨rfl, grown_refl w⟩
  · have h10' : n ≤ 200 := by omega
    clear h10
    have hS : VerInv V 0 := VerInv.start (by omega)
    have HL := Lib.hid hn
    have hr0 : 0 < n → ∃ b off, A = some ⟨b, off, none⟩ ∧ ∃ r : Vr, VrOk w B r ∧ r.n = ver0 V ∧ w.cell? ⟨b, off + 1, none⟩ = some (.slice r.A r.n r.c) := fun h => by
      obtain ⟨b, off, e, _, r, hr1, hr2, _, hr4⟩ := hr.row (k := 0) (by omega)
      refine ⟨b, off, e, r, hr2, ?_, by simpa using hr4⟩
      rw [← hr2.len]
      cases V with
      | nil => simp at hr1
      | cons x l => simp at hr1; rw [hr1]; rfl
    have HR := Lib.hid (And.intro hr hr0)
    clear hn hr hr0
    go_enter Tryd.func17, Tryd.ntmps17
    go_wp2_with fail
    go_loopg [11] n (fun k i wr => ∃ j : Nat, k + j = n ∧ i = .int .i64 j ∧ w.grownBy wr none ∧ VerInv V j)
    case atStart => exact ⟨0, by omega, rfl, grown_refl w, hS⟩
    case round =>
      obtain ⟨j, hj, rfl, hg, H⟩ := hrel
      clear hS
      by_cases hlt : j < n
      · obtain ⟨b, off, rfl, hb, r, ht, hok, c0, c1⟩ := (HR.out.1.grown hg).row (k := j) (by rw [HL.out]; exact hlt)
        obtain ⟨b2, off2, e2, r0, hok0, hr0, d1⟩ := HR.out.2 (by omega)
        obtain ⟨rfl, rfl⟩ : b = b2 ∧ off = off2 := by simpa using e2
        have d1' := hg.cell (a := ⟨b, off + 1, none⟩) d1 (by simp)
        have hkl := hok.len
        have HT := Lib.hid (And.intro ht (And.intro hr0 hkl))
        have HJ := Lib.hid hj
        clear ht hj hr0 hok0 d1 e2 hkl
        by_cases h1 : btw r.f 0 4000 = true
        · have HTL := Lib.hid (fun hp => H.tail HT.out.1 h1 hp)
          have hprev : (j = 0) ∨ ∃ p t', j = p + 1 ∧ V[p]? = some t' ∧ wr.cell? ⟨b, off + p * 2, none⟩ = some (.int .i64 t'.f) := by
            rcases Nat.eq_zero_or_pos j with h | h
            · exact .inl h
            · obtain ⟨p, rfl⟩ : ∃ p, j = p + 1 := ⟨j - 1, by omega⟩
              obtain ⟨b', off', e', _, t', ht', _, d0, _⟩ := (HR.out.1.grown hg).row (k := p) (by rw [HL.out]; omega)
              obtain ⟨rfl, rfl⟩ : b = b' ∧ off = off' := by simpa using e'
              exact .inr ⟨p, verK t', rfl, ht', d0⟩
          rcases hprev with rfl | ⟨p, t', rfl, ht', d0⟩
          · simp only [Nat.zero_mul, Nat.add_zero] at c0 c1
            have HH := Lib.hid (HTL.out (VPrevOk.zero V (verK r)))
            have e0 : r.n = r0.n := by
              have := c1.symm.trans d1'
              injection this with this
              injection this
            have HE := Lib.hid e0
            have hnb : ((r.n : Int) != (r.n : Int)) = false := by simp
            clear e0 d1'
            by_cases h60 : 60 < r.n
            · have HV := Lib.hid (HH.out.1 (by show 60 < r.ks.length; rw [HT.out.2.2]; exact h60))
              go_wp2_with fail
              refine (between_any _ _ _ _).mono ?_
              rw [h1]
              rintro e w' ⟨rfl, rfl⟩
              go_wp2_with fail
              go_quiet (fail)
              go_wp2_with fail
              go_ret
              exact ⟨retI HV.out.symm, grown_drewN (grown_alloc hg _) _⟩
            · have h60' : r.n ≤ 60 := by omega
              clear h60
              go_wp2_with fail
              refine (between_any _ _ _ _).mono ?_
              rw [h1]
              rintro e w' ⟨rfl, rfl⟩
              go_wp2_with fail
              go_quiet (fail)
              go_wp2_with fail
              go_quiet (fail)
              go_wp2_with fail
              refine (checkProducts_any r.A r.n r.c r.ks _ ((hok.1.grown (grown_drewN (grown_alloc (grown_refl _) _) _)) ) (by omega)).mono ?_
              rintro e w1 ⟨rfl, hg1⟩
              have hgg := (grown_drewN (grown_alloc hg _) _ : w.grownBy _ none).trans hg1
              rcases wordsF_or r.ks with h0 | h5
              · rw [h0]
                have HV := Lib.hid (HH.out.2.2.2 (by show r.ks.length ≤ 60; rw [HT.out.2.2]; exact h60') (by show r.ks.length = _; rw [HT.out.2.2, HE.out, HT.out.2.1]) h0)
                clear h0
                go_wp2_with fail
                have hj := HJ.out
                go_roundg (gk - 1)
                case measure => omega
                case rel => exact ⟨_, by omega, by go_num, hgg, HV.out⟩
              · rw [h5]
                have HV := Lib.hid (HH.out.2.2.1 (by show r.ks.length ≤ 60; rw [HT.out.2.2]; exact h60') (by show r.ks.length = _; rw [HT.out.2.2, HE.out, HT.out.2.1]) (by show wordsF r.ks ≠ 0; rw [h5]; decide))
                have HW := Lib.hid (show wordsF (verK r).ks = 5 from h5)
                clear h5
                go_wp2_with fail
                go_ret
                exact ⟨retI (by rw [HV.out, HW.out]), hgg⟩
          · have HT' := Lib.hid ht'
            clear ht'
            by_cases hle : r.f ≤ t'.f
            · have HO := Lib.hid (H.rord HT.out.1 HT'.out h1 hle)
              go_wp2_with fail
              refine (between_any _ _ _ _).mono ?_
              rw [h1]
              rintro e w' ⟨rfl, rfl⟩
              go_wp2_with fail
              go_quiet (fail)
              go_wp2_with fail
              go_ret
              exact ⟨retI HO.out.symm, grown_drewN (grown_alloc hg _) _⟩
            · have hle' : t'.f < r.f := by omega
              clear hle
              have HH := Lib.hid (HTL.out (VPrevOk.succ HT'.out hle'))
              by_cases h60 : 60 < r.n
              · have HV := Lib.hid (HH.out.1 (by show 60 < r.ks.length; rw [HT.out.2.2]; exact h60))
                go_wp2_with fail
                refine (between_any _ _ _ _).mono ?_
                rw [h1]
                rintro e w' ⟨rfl, rfl⟩
                go_wp2_with fail
                go_quiet (fail)
                go_wp2_with fail
                go_ret
                exact ⟨retI HV.out.symm, grown_drewN (grown_alloc hg _) _⟩
              · have h60' : r.n ≤ 60 := by omega
                clear h60
                by_cases hne : r.n = r0.n
                · have hnb : ((r.n : Int) != (r0.n : Int)) = false := by rw [hne]; simp
                  have HE := Lib.hid hne
                  clear hne
                  go_wp2_with fail
                  refine (between_any _ _ _ _).mono ?_
                  rw [h1]
                  rintro e w' ⟨rfl, rfl⟩
                  go_wp2_with fail
                  go_quiet (fail)
                  go_wp2_with fail
                  go_quiet (fail)
                  go_wp2_with fail
                  refine (checkProducts_any r.A r.n r.c r.ks _ ((hok.1.grown (grown_drewN (grown_alloc (grown_refl _) _) _)) ) (by omega)).mono ?_
                  rintro e w1 ⟨rfl, hg1⟩
                  have hgg := (grown_drewN (grown_alloc hg _) _ : w.grownBy _ none).trans hg1
                  rcases wordsF_or r.ks with h0 | h5
                  · rw [h0]
                    have HV := Lib.hid (HH.out.2.2.2 (by show r.ks.length ≤ 60; rw [HT.out.2.2]; exact h60') (by show r.ks.length = _; rw [HT.out.2.2, HE.out, HT.out.2.1]) h0)
                    clear h0
                    go_wp2_with fail
                    have hj := HJ.out
                    go_roundg (gk - 1)
                    case measure => omega
                    case rel => exact ⟨_, by omega, by go_num, hgg, HV.out⟩
                  · rw [h5]
                    have HV := Lib.hid (HH.out.2.2.1 (by show r.ks.length ≤ 60; rw [HT.out.2.2]; exact h60') (by show r.ks.length = _; rw [HT.out.2.2, HE.out, HT.out.2.1]) (by show wordsF r.ks ≠ 0; rw [h5]; decide))
                    have HW := Lib.hid (show wordsF (verK r).ks = 5 from h5)
                    clear h5
                    go_wp2_with fail
                    go_ret
                    exact ⟨retI (by rw [HV.out, HW.out]), hgg⟩
                · have hnb : ((r.n : Int) != (r0.n : Int)) = true := by simp; omega
                  have HV := Lib.hid (HH.out.2.1 (by show r.ks.length ≤ 60; rw [HT.out.2.2]; exact h60') (by show r.ks.length ≠ _; rw [HT.out.2.2, ← HT.out.2.1]; exact hne))
                  clear hne
                  go_wp2_with fail
                  refine (between_any _ _ _ _).mono ?_
                  rw [h1]
                  rintro e w' ⟨rfl, rfl⟩
                  go_wp2_with fail
                  go_quiet (fail)
                  go_wp2_with fail
                  go_quiet (fail)
                  go_wp2_with fail
                  go_ret
                  exact ⟨retI HV.out.symm, grown_drewN (grown_drewN (grown_alloc hg _) _) _⟩
        · have h1' : btw r.f 0 4000 = false := by simpa using h1
          have HV := Lib.hid (H.rarg HT.out.1 h1')
          clear h1
          go_wp2_with fail
          refine (between_any _ _ _ _).mono ?_
          rw [h1']
          rintro e w' ⟨rfl, rfl⟩
          clear h1'
          go_wp2_with fail
          go_ret
          exact ⟨retI HV.out.symm, grown_alloc hg _⟩
      · obtain rfl : j = n := by omega
        go_wp2_with fail
        go_ret
        exact ⟨retI (H.done HL.out.symm).symm, hg⟩

end Go.Proofs.YtcaeochiippdgaaDoor
