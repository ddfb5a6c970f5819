/- The walks of the reference's checks of coils. -/
import Derived.Test.YtidfhgpjpieajaaDoorRefK
namespace Go.Proofs.YtidfhgpjpieajaaDoor
open Go.RowKit

set_option maxRecDepth 100000 in
set_option maxHeartbeats 4000000 in
theorem refCoilF_any (C : Coil) (A : Option Addr) (c : Nat) (w : World) (hr : Rd w 2 A C.ps.length (pcFlat C.ps)) (hlen : C.ps.length ≤ 1000000) :
    Calls Tryd.prog 47 #[.agg #[.string C.pr, .int .i64 C.most, .slice A C.ps.length c]] w fun e w' => e = .returned (.int .i64 (coilF C)) ∧ w.grownBy w' none := by
  have hB := Blk.new w 58 #[.string C.pr, .int .i64 C.most, .slice A C.ps.length c]
  have hg0 := grown_alloc (grown_refl w) (.cells #[.string C.pr, .int .i64 C.most, .slice A C.ps.length c] 58)
  have k0 := hB.three
  obtain ⟨V, hV⟩ : ∃ V, coilF C = V := ⟨_, rfl⟩
  rw [hV]
  have hof := @coilF_of C
  rw [hV] at hof
  have hV' := hV
  unfold coilF at hV'
  have hk := fun w => keyOf_any C.pr w
  by_cases h1 : keyB C.pr = true
  · rw [if_neg (by simp [h1])] at hV'
    rw [h1] at hk
    by_cases h2 : btw C.most 0 1000 = true
    · rw [if_neg (by simp [h2])] at hV'
      obtain ⟨hm0, hm1⟩ := btw_true.1 h2
      have hm0' : ¬ C.most < 0 := by omega
      have hm1' : ¬ 1000 < C.most := by omega
      by_cases h3 : C.ps.length ≤ 1000
      · have HO2 := Lib.hid (hof h1 h2 h3)
        clear hof hV hV' h1 h2
        have h3' : ¬ ((1000 : Int) < (C.ps.length : Int)) := by omega
        have hS := PcInv.start C.ps
        obtain ⟨pr, most, ps⟩ := C
        simp only at *
        obtain ⟨n, hn⟩ : ∃ n, ps.length = n := ⟨_, rfl⟩
        rw [hn] at hr hB hg0 k0 h3 h3' hlen ⊢
        have HN := Lib.hid (And.intro hn (And.intro hk (And.intro hB hS)))
        clear hn hk hB hS
        go_enter Tryd.func47, Tryd.ntmps47
        go_wp2_with fail
        refine (HN.out.2.1 _).mono ?_
        rintro e w1 ⟨rfl, hg1⟩
        have hB1 := HN.out.2.2.1.grown hg1 (by simp)
        have k1 := hB1.three
        have hgg1 := hg0.trans hg1
        clear k0 hg0 hg1
        have HB1 := Lib.hid (And.intro hB1 hgg1)
        clear hB1 hgg1
        go_wp2_with fail
        clear k1
        obtain ⟨hB1, hgg1⟩ := HB1.out
        go_loopg [3, 28] n (fun k v i wr => ∃ j : Nat, k + j = n ∧ i = .int .i64 j ∧ v = .int .i64 (numP (ps.take j)) ∧ 0 ≤ numP (ps.take j) ∧ numP (ps.take j) ≤ 1000 * (j : Int) ∧ w.grownBy wr none ∧ Blk wr w.heap.size 58 #[.string pr, .int .i64 most, .slice A n c] ∧ PcInv ps j)
        case atStart => exact ⟨0, by omega, rfl, rfl, by simp [numP], by simp [numP], hgg1, hB1, HN.out.2.2.2⟩
        case round =>
          clear hB1 hgg1 HB1
          obtain ⟨j, hj, rfl, rfl, hv0, hv1, hg, hB, H⟩ := hrel
          have k0 := hB.three
          have hBl := hB.lt
          by_cases hlt : j < n
          · obtain ⟨b, off, rfl, hb, t, ht, c0, c1⟩ := pc_cells (hr.grown hg) hlt
            have hprev : (j = 0) ∨ ∃ p t', j = p + 1 ∧ ps[p]? = some t' ∧ wr.cell? ⟨b, off + p * 2, none⟩ = some (.string t'.lot) := by
              rcases Nat.eq_zero_or_pos j with h | h
              · exact .inl h
              · obtain ⟨p, rfl⟩ : ∃ p, j = p + 1 := ⟨j - 1, by omega⟩
                obtain ⟨b', off', e', _, t', ht', d0, _⟩ := pc_cells (hr.grown hg) (k := p) (by omega)
                obtain ⟨rfl, rfl⟩ : b = b' ∧ off = off' := by simpa using e'
                exact .inr ⟨p, t', rfl, ht', d0⟩
            have hsum := numP_take ht
            generalize numP (ps.take j) = v at *
            have hBx := Blk.new wr 54 #[.string t.lot, .int .i64 t.mn]
            have hgx := grown_alloc (grown_refl wr) (.cells #[.string t.lot, .int .i64 t.mn] 54)
            have hkt := fun w => keyOf_any t.lot w
            by_cases h1t : keyB t.lot = true
            · rw [h1t] at hkt
              have HT := Lib.hid (And.intro hkt (And.intro hBx (And.intro hgx (And.intro hB (And.intro hg (And.intro hj (And.intro hsum (H.tail ht h1t))))))))
              have HP := Lib.hid (fun p (e : j = p + 1) t' (ht' : ps[p]? = some t') => show (pPrev ps j).any (fun q => sEq t.lot q) = sEq t.lot t'.lot by subst e; simp [pPrev, ht'])
              have hjl : (j : Int) < (n : Int) := by omega
              clear hkt hBx hgx hB hg hj hsum ht H
              by_cases hm2 : t.mn < 1
              · have HV := Lib.hid (HO2.out.1 1 (by omega) (HT.out.2.2.2.2.2.2.2.1 (btw_false.2 (by omega))))
                clear hprev
                go_wp2_with fail
                refine (HT.out.1 _).mono ?_
                rintro e w2 ⟨rfl, hg2⟩
                have kx := (HT.out.2.1.grown hg2 (by simp)).two
                have kc := (((HT.out.2.2.2.1.alloc (.cells #[.string t.lot, .int .i64 t.mn] 54))).grown hg2 (by simp)).three
                have hgw := (HT.out.2.2.2.2.1.trans HT.out.2.2.1).trans hg2
                go_wp2_with fail
                go_ret
                exact ⟨retI HV.out.symm, hgw⟩
              · by_cases hm3 : 1000 < t.mn
                · have HV := Lib.hid (HO2.out.1 1 (by omega) (HT.out.2.2.2.2.2.2.2.1 (btw_false.2 (by omega))))
                  clear hprev
                  go_wp2_with fail
                  refine (HT.out.1 _).mono ?_
                  rintro e w2 ⟨rfl, hg2⟩
                  have kx := (HT.out.2.1.grown hg2 (by simp)).two
                  have kc := (((HT.out.2.2.2.1.alloc (.cells #[.string t.lot, .int .i64 t.mn] 54))).grown hg2 (by simp)).three
                  have hgw := (HT.out.2.2.2.2.1.trans HT.out.2.2.1).trans hg2
                  go_wp2_with fail
                  go_ret
                  exact ⟨retI HV.out.symm, hgw⟩
                · have hbt : btw t.mn 1 1000 = true := btw_true.2 (by omega)
                  have HTL := Lib.hid (And.intro (HT.out.2.2.2.2.2.2.2.2.1 hbt) (HT.out.2.2.2.2.2.2.2.2.2 hbt))
                  have hma : 1 ≤ t.mn := by omega
                  have hmb : t.mn ≤ 1000 := by omega
                  clear hbt
                  rcases hprev with rfl | ⟨p, t', rfl, ht', d0⟩
                  · have HN2 := Lib.hid (HTL.out.2 (by simp [pPrev]))
                    simp only [Nat.zero_mul, Nat.add_zero] at c0 c1
                    go_wp2_with fail
                    refine (HT.out.1 _).mono ?_
                    rintro e w2 ⟨rfl, hg2⟩
                    have kx := (HT.out.2.1.grown hg2 (by simp)).two
                    have kc := (((HT.out.2.2.2.1.alloc (.cells #[.string t.lot, .int .i64 t.mn] 54))).grown hg2 (by simp)).three
                    have hgw := (HT.out.2.2.2.2.1.trans HT.out.2.2.1).trans hg2
                    go_wp2_with fail
                    go_quiet (fail)
                    go_wp2_with fail
                    obtain ⟨_, _, _, hB, _, hj, hsum, _⟩ := HT.out
                    go_roundg (gk - 1)
                    case measure => omega
                    case rel => exact ⟨1, by omega, by go_num, by rw [hsum], by rw [hsum]; omega, by rw [hsum]; omega, grown_drewN hgw _, (have hBz := (hB.alloc (.cells #[.string t.lot, .int .i64 t.mn] 54)).grown hg2 (by simp); hBz), HN2.out⟩
                  · have HP2 := Lib.hid (HP.out p rfl t' ht')
                    clear ht'
                    by_cases heq : (t.lot.toList == t'.lot.toList) = true
                    · have HV := Lib.hid (HO2.out.1 3 (by omega) (HTL.out.1 (by rw [HP2.out]; exact heq)))
                      go_wp2_with fail
                      refine (HT.out.1 _).mono ?_
                      rintro e w2 ⟨rfl, hg2⟩
                      have kx := (HT.out.2.1.grown hg2 (by simp)).two
                      have kc := (((HT.out.2.2.2.1.alloc (.cells #[.string t.lot, .int .i64 t.mn] 54))).grown hg2 (by simp)).three
                      have hgw := (HT.out.2.2.2.2.1.trans HT.out.2.2.1).trans hg2
                      have d1 := ((grown_alloc (grown_refl wr) (.cells #[.string t.lot, .int .i64 t.mn] 54)).trans hg2).cell d0 (by simp)
                      go_wp2_with fail
                      go_quiet (fail)
                      go_wp2_with fail
                      go_ret
                      exact ⟨retI HV.out.symm, grown_drewN hgw _⟩
                    · have heq' : (t.lot.toList == t'.lot.toList) = false := by simpa using heq
                      clear heq
                      have HN2 := Lib.hid (HTL.out.2 (by rw [HP2.out]; exact heq'))
                      go_wp2_with fail
                      refine (HT.out.1 _).mono ?_
                      rintro e w2 ⟨rfl, hg2⟩
                      have kx := (HT.out.2.1.grown hg2 (by simp)).two
                      have kc := (((HT.out.2.2.2.1.alloc (.cells #[.string t.lot, .int .i64 t.mn] 54))).grown hg2 (by simp)).three
                      have hgw := (HT.out.2.2.2.2.1.trans HT.out.2.2.1).trans hg2
                      have d1 := ((grown_alloc (grown_refl wr) (.cells #[.string t.lot, .int .i64 t.mn] 54)).trans hg2).cell d0 (by simp)
                      go_wp2_with fail
                      go_quiet (fail)
                      go_wp2_with fail
                      obtain ⟨_, _, _, hB, _, hj, hsum, _⟩ := HT.out
                      go_roundg (gk - 1)
                      case measure => omega
                      case rel => exact ⟨p + 1 + 1, by omega, by go_num, by rw [hsum], by rw [hsum]; omega, by rw [hsum]; omega, grown_drewN hgw _, (have hBz := (hB.alloc (.cells #[.string t.lot, .int .i64 t.mn] 54)).grown hg2 (by simp); hBz), HN2.out⟩
            · have h1t' : keyB t.lot = false := by simpa using h1t
              rw [h1t'] at hkt
              have HV := Lib.hid (HO2.out.1 5 (by omega) (H.rid ht h1t'))
              have HT := Lib.hid (And.intro hkt (And.intro hg hgx))
              clear hkt hBx hgx hB hg hj hsum ht H h1t h1t' hprev
              go_wp2_with fail
              refine (HT.out.1 _).mono ?_
              rintro e w2 ⟨rfl, hg2⟩
              go_wp2_with fail
              go_ret
              exact ⟨retI HV.out.symm, (HT.out.2.1.trans HT.out.2.2).trans hg2⟩
          · obtain rfl : j = n := by omega
            have hz := H.done HN.out.1.symm
            have hvv : numP (ps.take j) = numP ps := by rw [List.take_of_length_le (by have := HN.out.1; omega)]
            rw [hvv] at hv0 hv1 ⊢
            have HZ := Lib.hid hz
            clear hz hB H hj hvv
            by_cases hm : most < numP ps
            · have HV := Lib.hid (HO2.out.2.1 HZ.out hm)
              generalize numP ps = S at *
              go_wp2_with fail
              go_ret
              exact ⟨retI HV.out.symm, hg⟩
            · have HV := Lib.hid (HO2.out.2.2 HZ.out (by omega))
              generalize numP ps = S at *
              go_wp2_with fail
              go_ret
              exact ⟨retI HV.out.symm, hg⟩
      · have h3' : (1000 : Int) < (C.ps.length : Int) := by omega
        rw [if_pos (by omega)] at hV'
        have HV := Lib.hid hV'
        have HK := Lib.hid (And.intro hk hB)
        clear hof hV hV' h1 h2 h3 hk hB
        go_enter Tryd.func47, Tryd.ntmps47
        go_wp2_with fail
        refine (HK.out.1 _).mono ?_
        rintro e w1 ⟨rfl, hg1⟩
        have k1 := (HK.out.2.grown hg1 (by simp)).three
        clear k0
        go_wp2_with fail
        go_ret
        exact ⟨retI HV.out, hg0.trans hg1⟩
    · have h2' : btw C.most 0 1000 = false := by simpa using h2
      rw [if_pos h2'] at hV'
      have HV := Lib.hid hV'
      have HK := Lib.hid (And.intro hk hB)
      have hms := btw_false.1 h2'
      clear hof hV hV' h1 h2 h2' hk hB
      by_cases hm : C.most < 0
      · clear hms
        go_enter Tryd.func47, Tryd.ntmps47
        go_wp2_with fail
        refine (HK.out.1 _).mono ?_
        rintro e w1 ⟨rfl, hg1⟩
        have k1 := (HK.out.2.grown hg1 (by simp)).three
        clear k0
        go_wp2_with fail
        go_ret
        exact ⟨retI HV.out, hg0.trans hg1⟩
      · have hm2 : 1000 < C.most := by omega
        clear hms
        go_enter Tryd.func47, Tryd.ntmps47
        go_wp2_with fail
        refine (HK.out.1 _).mono ?_
        rintro e w1 ⟨rfl, hg1⟩
        have k1 := (HK.out.2.grown hg1 (by simp)).three
        clear k0
        go_wp2_with fail
        go_ret
        exact ⟨retI HV.out, hg0.trans hg1⟩
  · have h1' : keyB C.pr = false := by simpa using h1
    rw [if_pos h1'] at hV'
    rw [h1'] at hk
    have HV := Lib.hid hV'
    have HK := Lib.hid hk
    clear hof hV hV' h1 h1' hk hB
    go_enter Tryd.func47, Tryd.ntmps47
    go_wp2_with fail
    refine (HK.out _).mono ?_
    rintro e w1 ⟨rfl, hg1⟩
    go_wp2_with fail
    go_ret
    exact ⟨retI HV.out, hg0.trans hg1⟩

end Go.Proofs.YtidfhgpjpieajaaDoor
