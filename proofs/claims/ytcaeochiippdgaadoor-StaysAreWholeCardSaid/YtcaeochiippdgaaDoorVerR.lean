/- The walks of the reference's wordFault, VersionsFault. -/
import Derived.Test.YtcaeochiippdgaaDoorVer
import Derived.Test.YtcaeochiippdgaaDoorKeyR
import Derived.Test.YtcaeochiippdgaaDoorStrF0
import Derived.Test.YtcaeochiippdgaaDoorBlk
namespace Go.Proofs.YtcaeochiippdgaaDoor
open Go.RowKit

theorem wordFault1_any (s : ByteArray) (w : World) : Calls Tryd.prog 23 #[.string s] w fun e w' => e = .returned (.bool (!(wdB s))) ∧ w.grownBy w' none := by
  by_cases h : s.toList.isEmpty = true
  · have hv : wdB s = true := by unfold wdB; rw [h]; rfl
    rw [hv]
    have h1 : s.toList = [] := by simpa using h
    clear hv
    go_enter Tryd.func23, Tryd.ntmps23
    go_wp2_with fail
    go_ret
    exact ⟨rfl, grown_refl w⟩
  · have h' : s.toList.isEmpty = false := by simpa using h
    have hv : wdB s = keyB s := by unfold wdB; rw [h']; rfl
    rw [hv]
    have h2 : (!s.toList.isEmpty) = true := by rw [h']; rfl
    clear hv h
    go_enter Tryd.func23, Tryd.ntmps23
    go_wp2_with fail
    refine (keyOf_any _ _).mono ?_
    rintro e w1 ⟨rfl, hg1⟩
    go_wp2_with fail
    go_ret
    exact ⟨rfl, hg1⟩

theorem wordFault_any (A : Option Addr) (n c : Nat) (l : List ByteArray) (w : World) (hr : Rd w 1 A n (strs l)) (hn : n ≤ 1000000) :
    Calls Tryd.prog 15 #[.slice A n c] w fun e w' => e = .returned (.int .i64 (wordsF l)) ∧ w.grownBy w' none := by
  have he : Enters Tryd.prog 23 := enters_of Tryd.func23 (by kernel_rfl) rfl
  have hc := containsFuncStr0_any 23 (fun s => !(wdB s)) A n c l w hr hn he (fun x w1 _ _ => wordFault1_any x w1)
  have hv : wordsF l = if l.any (fun s => !(wdB s)) = true then 5 else 0 := by
    unfold wordsF
    have : l.all wdB = !(l.any (fun s => !(wdB s))) := by rw [List.not_any_eq_all_not]; simp
    rw [this]
    cases l.any (fun s => !(wdB s)) <;> simp
  rw [hv]
  generalize l.any (fun s => !(wdB s)) = b at *
  have HC := Lib.hid hc
  clear hc hv he
  cases b
  · go_enter Tryd.func15, Tryd.ntmps15
    go_wp2_with fail
    refine HC.out.mono ?_
    rintro e w1 ⟨rfl, hg1⟩
    go_wp2_with fail
    go_ret
    exact ⟨rfl, hg1⟩
  · go_enter Tryd.func15, Tryd.ntmps15
    go_wp2_with fail
    refine HC.out.mono ?_
    rintro e w1 ⟨rfl, hg1⟩
    go_wp2_with fail
    go_ret
    exact ⟨rfl, hg1⟩

set_option maxRecDepth 100000 in
set_option maxHeartbeats 4000000 in
theorem versionsFault_any (B : Nat) (A : Option Addr) (c : Nat) (V : List Ver) (w : World) (hr : RdV w B A V) :
    Calls Tryd.prog 5 #[.slice A V.length c] w fun e w' => e = .returned (.int .i64 (versF V)) ∧ w.grownBy w' none := by
  obtain ⟨n, hn⟩ : ∃ n, V.length = n := ⟨_, rfl⟩
  rw [hn]
  by_cases h10 : 200 < n
  · have hv : versF V = 2 := by unfold versF; rw [if_pos (by omega)]
    rw [hv]
    clear hv hn hr
    go_enter Tryd.func5, Tryd.ntmps5
    go_wp2_with fail
    go_ret
    exact ⟨rfl, grown_refl w⟩
  · have h10' : n ≤ 200 := by omega
    clear h10
    have hS : VerInv V 0 := VerInv.start (by omega)
    have HL := Lib.hid hn
    have hr0 : 0 < n → ∃ b off, A = some ⟨b, off, none⟩ ∧ ∃ r : Vr, VrOk w B r ∧ r.n = ver0 V ∧ w.cell? ⟨b, off + 1, none⟩ = some (.slice r.A r.n r.c) := fun h => by
      obtain ⟨b, off, e, _, r, hr1, hr2, _, hr4⟩ := hr.row (k := 0) (by omega)
      refine ⟨b, off, e, r, hr2, ?_, by simpa using hr4⟩
      rw [← hr2.len]
      cases V with
      | nil => simp at hr1
      | cons x l => simp at hr1; rw [hr1]; rfl
    have HR := Lib.hid (And.intro hr hr0)
    clear hn hr hr0
    go_enter Tryd.func5, Tryd.ntmps5
    go_wp2_with fail
    go_loopg [11] n (fun k i wr => ∃ j : Nat, k + j = n ∧ i = .int .i64 j ∧ w.grownBy wr none ∧ VerInv V j)
    case atStart => exact ⟨0, by omega, rfl, grown_refl w, hS⟩
    case round =>
      obtain ⟨j, hj, rfl, hg, H⟩ := hrel
      clear hS
      by_cases hlt : j < n
      · obtain ⟨b, off, rfl, hb, r, ht, hok, c0, c1⟩ := (HR.out.1.grown hg).row (k := j) (by rw [HL.out]; exact hlt)
        obtain ⟨b2, off2, e2, r0, hok0, hr0, d1⟩ := HR.out.2 (by omega)
        obtain ⟨rfl, rfl⟩ : b = b2 ∧ off = off2 := by simpa using e2
        have d1' := hg.cell (a := ⟨b, off + 1, none⟩) d1 (by simp)
        have hkl := hok.len
        have HT := Lib.hid (And.intro ht (And.intro hr0 hkl))
        have HJ := Lib.hid hj
        clear ht hj hr0 hok0 d1 e2 hkl
        by_cases h1 : btw r.f 0 4000 = true
        · obtain ⟨x0, x1⟩ := btw_true.1 h1
          have g1 : decide (r.f < 0) = false := by simp; omega
          have g2 : decide (4000 < r.f) = false := by simp; omega
          have HTL := Lib.hid (fun hp => H.tail HT.out.1 h1 hp)
          have hprev : (j = 0) ∨ ∃ p t', j = p + 1 ∧ V[p]? = some t' ∧ wr.cell? ⟨b, off + p * 2, none⟩ = some (.int .i64 t'.f) := by
            rcases Nat.eq_zero_or_pos j with h | h
            · exact .inl h
            · obtain ⟨p, rfl⟩ : ∃ p, j = p + 1 := ⟨j - 1, by omega⟩
              obtain ⟨b', off', e', _, t', ht', _, d0, _⟩ := (HR.out.1.grown hg).row (k := p) (by rw [HL.out]; omega)
              obtain ⟨rfl, rfl⟩ : b = b' ∧ off = off' := by simpa using e'
              exact .inr ⟨p, verK t', rfl, ht', d0⟩
          rcases hprev with rfl | ⟨p, t', rfl, ht', d0⟩
          · simp only [Nat.zero_mul, Nat.add_zero] at c0 c1
            have HH := Lib.hid (HTL.out (VPrevOk.zero V (verK r)))
            have e0 : r.n = r0.n := by
              have := c1.symm.trans d1'
              injection this with this
              injection this
            have HE := Lib.hid e0
            have hnb : ((r.n : Int) != (r.n : Int)) = false := by simp
            clear e0 d1'
            by_cases h60 : 60 < r.n
            · have HV := Lib.hid (HH.out.1 (by show 60 < r.ks.length; rw [HT.out.2.2]; exact h60))
              go_wp2_with fail
              go_quiet (fail)
              go_wp2_with fail
              go_ret
              exact ⟨retI HV.out.symm, grown_drewN (grown_alloc hg _) _⟩
            · have h60' : r.n ≤ 60 := by omega
              clear h60
              go_wp2_with fail
              go_quiet (fail)
              go_wp2_with fail
              go_quiet (fail)
              go_wp2_with fail
              refine (wordFault_any r.A r.n r.c r.ks _ ((hok.1.grown (grown_drewN (grown_alloc (grown_refl _) _) _)) ) (by omega)).mono ?_
              rintro e w1 ⟨rfl, hg1⟩
              have hgg := (grown_drewN (grown_alloc hg _) _ : w.grownBy _ none).trans hg1
              rcases wordsF_or r.ks with h0 | h5
              · rw [h0]
                have HV := Lib.hid (HH.out.2.2.2 (by show r.ks.length ≤ 60; rw [HT.out.2.2]; exact h60') (by show r.ks.length = _; rw [HT.out.2.2, HE.out, HT.out.2.1]) h0)
                clear h0
                go_wp2_with fail
                have hj := HJ.out
                go_roundg (gk - 1)
                case measure => omega
                case rel => exact ⟨_, by omega, by go_num, hgg, HV.out⟩
              · rw [h5]
                have HV := Lib.hid (HH.out.2.2.1 (by show r.ks.length ≤ 60; rw [HT.out.2.2]; exact h60') (by show r.ks.length = _; rw [HT.out.2.2, HE.out, HT.out.2.1]) (by show wordsF r.ks ≠ 0; rw [h5]; decide))
                have HW := Lib.hid (show wordsF (verK r).ks = 5 from h5)
                clear h5
                go_wp2_with fail
                go_ret
                exact ⟨retI (by rw [HV.out, HW.out]), hgg⟩
          · have HT' := Lib.hid ht'
            clear ht'
            by_cases hle : r.f ≤ t'.f
            · have HO := Lib.hid (H.rord HT.out.1 HT'.out h1 hle)
              go_wp2_with fail
              go_quiet (fail)
              go_wp2_with fail
              go_ret
              exact ⟨retI HO.out.symm, grown_drewN (grown_alloc hg _) _⟩
            · have hle' : t'.f < r.f := by omega
              clear hle
              have HH := Lib.hid (HTL.out (VPrevOk.succ HT'.out hle'))
              by_cases h60 : 60 < r.n
              · have HV := Lib.hid (HH.out.1 (by show 60 < r.ks.length; rw [HT.out.2.2]; exact h60))
                go_wp2_with fail
                go_quiet (fail)
                go_wp2_with fail
                go_ret
                exact ⟨retI HV.out.symm, grown_drewN (grown_alloc hg _) _⟩
              · have h60' : r.n ≤ 60 := by omega
                clear h60
                by_cases hne : r.n = r0.n
                · have hnb : ((r.n : Int) != (r0.n : Int)) = false := by rw [hne]; simp
                  have HE := Lib.hid hne
                  clear hne
                  go_wp2_with fail
                  go_quiet (fail)
                  go_wp2_with fail
                  go_quiet (fail)
                  go_wp2_with fail
                  refine (wordFault_any r.A r.n r.c r.ks _ ((hok.1.grown (grown_drewN (grown_alloc (grown_refl _) _) _)) ) (by omega)).mono ?_
                  rintro e w1 ⟨rfl, hg1⟩
                  have hgg := (grown_drewN (grown_alloc hg _) _ : w.grownBy _ none).trans hg1
                  rcases wordsF_or r.ks with h0 | h5
                  · rw [h0]
                    have HV := Lib.hid (HH.out.2.2.2 (by show r.ks.length ≤ 60; rw [HT.out.2.2]; exact h60') (by show r.ks.length = _; rw [HT.out.2.2, HE.out, HT.out.2.1]) h0)
                    clear h0
                    go_wp2_with fail
                    have hj := HJ.out
                    go_roundg (gk - 1)
                    case measure => omega
                    case rel => exact ⟨_, by omega, by go_num, hgg, HV.out⟩
                  · rw [h5]
                    have HV := Lib.hid (HH.out.2.2.1 (by show r.ks.length ≤ 60; rw [HT.out.2.2]; exact h60') (by show r.ks.length = _; rw [HT.out.2.2, HE.out, HT.out.2.1]) (by show wordsF r.ks ≠ 0; rw [h5]; decide))
                    have HW := Lib.hid (show wordsF (verK r).ks = 5 from h5)
                    clear h5
                    go_wp2_with fail
                    go_ret
                    exact ⟨retI (by rw [HV.out, HW.out]), hgg⟩
                · have hnb : ((r.n : Int) != (r0.n : Int)) = true := by simp; omega
                  have HV := Lib.hid (HH.out.2.1 (by show r.ks.length ≤ 60; rw [HT.out.2.2]; exact h60') (by show r.ks.length ≠ _; rw [HT.out.2.2, ← HT.out.2.1]; exact hne))
                  clear hne
                  go_wp2_with fail
                  go_quiet (fail)
                  go_wp2_with fail
                  go_quiet (fail)
                  go_wp2_with fail
                  go_ret
                  exact ⟨retI HV.out.symm, grown_drewN (grown_drewN (grown_alloc hg _) _) _⟩
        · have h1' : btw r.f 0 4000 = false := by simpa using h1
          have HV := Lib.hid (H.rarg HT.out.1 h1')
          clear h1'
          by_cases x0 : r.f < 0
          · have g1 : decide (r.f < 0) = true := by simp; omega
            clear h1
            go_wp2_with fail
            go_ret
            exact ⟨retI HV.out.symm, grown_alloc hg _⟩
          · have g1 : decide (r.f < 0) = false := by simp; omega
            have x1 : 4000 < r.f := by
              rw [btw_true] at h1
              omega
            have g2 : decide (4000 < r.f) = true := by simp; omega
            clear h1
            go_wp2_with fail
            go_ret
            exact ⟨retI HV.out.symm, grown_alloc hg _⟩
      · obtain rfl : j = n := by omega
        go_wp2_with fail
        go_ret
        exact ⟨retI (H.done HL.out.symm).symm, hg⟩


end Go.Proofs.YtcaeochiippdgaaDoor
