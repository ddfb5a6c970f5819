/- The walk of the reference SitesFault. -/
import Derived.Test.YtoneebofjbnjpaaDoorSit
import Derived.Test.YtoneebofjbnjpaaDoorBlk
import Derived.Test.YtoneebofjbnjpaaDoorKeyR
namespace Go.Proofs.YtoneebofjbnjpaaDoor
open Go.RowKit

set_option maxRecDepth 100000 in
set_option maxHeartbeats 8000000 in
theorem sitesFault_any (B0 : Nat) (A : Option Addr) (c : Nat) (V : List Sit) (w : World) (hr : RdSi w B0 A V) :
    Calls Tryd.prog 10 #[.slice A V.length c] w fun e w' => e = .returned (.int .i64 (sitF V)) ∧ w.grownBy w' none := by
  obtain ⟨n, hn⟩ : ∃ n, V.length = n := ⟨_, rfl⟩
  rw [hn]
  by_cases h10 : 200 < n
  · have hv : sitF V = 2 := by unfold sitF; rw [if_pos (by omega)]
    rw [hv]
    clear hv hn hr
    go_enter Tryd.func10, Tryd.ntmps10
    go_wp2_with fail
    go_ret
    exact ⟨rfl, grown_refl w⟩
  · have h10' : n ≤ 200 := by omega
    clear h10
    have hS : SitInv V 0 := SitInv.start (by omega)
    have HL := Lib.hid hn
    have HR := Lib.hid hr
    clear hn hr
    go_enter Tryd.func10, Tryd.ntmps10
    go_wp2_with fail
    go_loopg [11] n (fun k i wr => ∃ j : Nat, k + j = n ∧ i = .int .i64 j ∧ w.grownBy wr none ∧ SitInv V j)
    case atStart => exact ⟨0, by omega, rfl, grown_refl w, hS⟩
    case round =>
      obtain ⟨j, hj, rfl, hg, H⟩ := hrel
      clear hS
      by_cases hlt : j < n
      · obtain ⟨b, off, rfl, hb, r, ht, hok, c0, c1, c2⟩ := (HR.out.grown hg).row (k := j) (by rw [HL.out]; exact hlt)
        have hprev : (j = 0) ∨ ∃ p t', j = p + 1 ∧ V[p]? = some t' ∧ wr.cell? ⟨b, off + p * 3, none⟩ = some (.string t'.k) := by
          rcases Nat.eq_zero_or_pos j with h | h
          · exact .inl h
          · obtain ⟨p, rfl⟩ : ∃ p, j = p + 1 := ⟨j - 1, by omega⟩
            obtain ⟨b', off', e', _, t', ht', _, d0, _, _⟩ := (HR.out.grown hg).row (k := p) (by rw [HL.out]; omega)
            obtain ⟨rfl, rfl⟩ : b = b' ∧ off = off' := by simpa using e'
            exact .inr ⟨p, sitK t', rfl, ht', d0⟩
        have hbk := Blk.new wr 75 #[.string r.k, .slice r.A r.n r.c, .slice r.A2 r.n2 r.c2]
        have k0 : (wr.alloc (.cells #[.string r.k, .slice r.A r.n r.c, .slice r.A2 r.n2 r.c2] 75)).cell? ⟨wr.heap.size, 0, none⟩ = some (.string r.k) := hbk.cell 0
        have k1 : (wr.alloc (.cells #[.string r.k, .slice r.A r.n r.c, .slice r.A2 r.n2 r.c2] 75)).cell? ⟨wr.heap.size, 1, none⟩ = some (.slice r.A r.n r.c) := hbk.cell 1
        have k2 : (wr.alloc (.cells #[.string r.k, .slice r.A r.n r.c, .slice r.A2 r.n2 r.c2] 75)).cell? ⟨wr.heap.size, 2, none⟩ = some (.slice r.A2 r.n2 r.c2) := hbk.cell 2
        have hgR := grown_alloc (grown_refl wr) (.cells #[.string r.k, .slice r.A r.n r.c, .slice r.A2 r.n2 r.c2] 75)
        have hlen := hok.len
        have HB := Lib.hid (fun e h1 h0 => H.bad (e := e) ht h1 h0)
        have HG := Lib.hid (fun h1 => H.good ht h1)
        have HO := Lib.hid (And.intro hok (And.intro hlen (And.intro hj hg)))
        clear hbk hj hlen H ht hok
        go_wp2_with fail
        obtain ⟨B, hB⟩ : ∃ B, wr.heap.size = B := ⟨_, rfl⟩
        rw [hB] at k0 k1 k2 ⊢
        generalize wr.alloc (.cells #[.string r.k, .slice r.A r.n r.c, .slice r.A2 r.n2 r.c2] 75) = wb at *
        have HBB := Lib.hid hB
        clear hB c0 c1 c2
        by_cases h1 : keyB r.k = true
        · have HK := Lib.hid h1
          rcases hprev with rfl | ⟨p, t', rfl, ht', d0⟩
          · have HP := Lib.hid (show (sPrev V 0).any (fun p => sLe r.k p) = false from rfl)
            refine (keyOf_any _ _).mono ?_
            rw [HK.out]
            rintro e w9 ⟨rfl, hw9⟩
            have hg9 : wb.grownBy w9 none := hw9
            have z0 := hg9.cell (a := ⟨B, 0, none⟩) k0 (by simp)
            have z1 := hg9.cell (a := ⟨B, 1, none⟩) k1 (by simp)
            have z2 := hg9.cell (a := ⟨B, 2, none⟩) k2 (by simp)
            have hw : w.grownBy w9 none := HO.out.2.2.2.trans (hgR.trans hg9)
            have hok9 := HO.out.1.grown (hgR.trans hg9)
            have HW := Lib.hid (And.intro hw hok9)
            clear hw9 k0 k1 k2 hw hok9
            clear h1
            go_wp2_with fail
            by_cases h3 : r.n = 0
            · have HV := Lib.hid (HB.out 8 (by show sitC _ r.k r.h r.r = _; unfold sitC; rw [if_neg (by simp [HK.out]), if_neg (by rw [HP.out]; simp), if_pos (by rw [HO.out.2.1.1]; exact h3)]) (by decide))
              have h3b : ((r.n : Int) == 0) = true := by simp [h3]
              have h3c : (r.n : Int) = 0 := by omega
              clear h3
              go_quiet (fail)
              go_wp2_with fail
              go_ret
              exact ⟨retI HV.out.symm, (by first | exact HW.out.1 | exact grown_drewN HW.out.1 _ | exact grown_drew HW.out.1)⟩
            · have h3b : ((r.n : Int) == 0) = false := by simp [h3]
              have h3c : ¬ (r.n : Int) = 0 := by omega
              by_cases h4 : 60 < r.n
              · have HV := Lib.hid (HB.out 2 (by show sitC _ r.k r.h r.r = _; unfold sitC; rw [if_neg (by simp [HK.out]), if_neg (by rw [HP.out]; simp), if_neg (by rw [HO.out.2.1.1]; exact h3), if_pos (by rw [HO.out.2.1.1]; exact h4)]) (by decide))
                have h4c : (60 : Int) < (r.n : Int) := by omega
                go_quiet (fail)
                go_wp2_with fail
                go_ret
                exact ⟨retI HV.out.symm, (by first | exact HW.out.1 | exact grown_drewN HW.out.1 _ | exact grown_drew HW.out.1)⟩
              · have h4c : ¬ (60 : Int) < (r.n : Int) := by omega
                by_cases h5 : r.n2 = r.n
                · have h5b : ((r.n2 : Int) != (r.n : Int)) = false := by simp [h5]
                  have h5d : ((r.n : Int) != (r.n2 : Int)) = false := by simp [h5]
                  have h52 : r.n2 ≤ 60 := by omega
                  have H5 := Lib.hid h5
                  clear h5
                  have HN := Lib.hid (show (allB r.h 0 10000 = true ∧ allB r.r 0 1000000 = true → SitInv V (0 + 1)) ∧ (allB r.h 0 10000 = false ∨ allB r.r 0 1000000 = false → sitF V = 1) from ⟨fun h => HG.out (by show sitC _ r.k r.h r.r = _; unfold sitC; rw [if_neg (by simp [HK.out]), if_neg (by rw [HP.out]; simp), if_neg (by rw [HO.out.2.1.1]; exact h3), if_neg (by rw [HO.out.2.1.1]; exact h4), if_neg (by rw [HO.out.2.1.1, HO.out.2.1.2]; simp [H5.out]), if_neg (by simp [h.1]), if_neg (by simp [h.2])]), fun h => HB.out 1 (by show sitC _ r.k r.h r.r = _; unfold sitC; rw [if_neg (by simp [HK.out]), if_neg (by rw [HP.out]; simp), if_neg (by rw [HO.out.2.1.1]; exact h3), if_neg (by rw [HO.out.2.1.1]; exact h4), if_neg (by rw [HO.out.2.1.1, HO.out.2.1.2]; simp [H5.out])]; rcases h with h | h <;> simp [h]) (by decide)⟩)
                  go_quiet (fail)
                  go_wp2_with fail
                  obtain ⟨ko, hko⟩ : ∃ ko : Nat, ko = gk := ⟨_, rfl⟩
                  obtain ⟨m2, hm2⟩ : ∃ m2, r.n2 = m2 := ⟨_, rfl⟩
                  have hn60 : r.n ≤ 60 := by omega
                  have HKO := Lib.hid hko
                  clear hko hm2
                  go_loopg [56] r.n (fun k i wx => ∃ q : Nat, k + q = r.n ∧ i = .int .i64 q ∧ w9.grownBy wx none ∧ Hid (∀ p, p < q → btw (r.h.getD p 0) 0 10000 = true ∧ btw (r.r.getD p 0) 0 1000000 = true))
                  case atStart => exact ⟨0, by omega, rfl, by first | exact grown_refl _ | exact grown_drewN (grown_refl _) _ | exact grown_drew (grown_refl _), Lib.hid fun p hp => by omega⟩
                  case round =>
                    obtain ⟨q, hq, rfl, hgx, HI⟩ := hrel
                    have x1 := hgx.cell (a := ⟨B, 1, none⟩) z1 (by simp)
                    have x2 := hgx.cell (a := ⟨B, 2, none⟩) z2 (by simp)
                    by_cases hlq : q < r.n
                    · have hk9 := HW.out.2.grown hgx
                      obtain ⟨bh, oh, eh, hbh, x, hx, hcx⟩ := int_cells hk9.1.1 hlq
                      obtain ⟨br, og, er, hbr, y, hy, hcy⟩ := int_cells hk9.2.1 (k := q) (by rw [H5.out]; exact hlq)
                      have hlq2 : (q : Int) < (r.n2 : Int) := by rw [H5.out]; omega
                      rw [eh] at x1
                      rw [er] at x2
                      have HX := Lib.hid (And.intro hx hy)
                      clear hk9 eh er hx hy hbh hbr
                      by_cases b1 : btw x 0 10000 = true
                      · have hb1 := btw_true.1 b1
                        have d1 : decide (x < 0) = false := by simp; omega
                        have d2 : decide ((10000 : Int) < x) = false := by simp; omega
                        by_cases b2 : btw y 0 1000000 = true
                        · have hb2 := btw_true.1 b2
                          have d3 : decide (y < 0) = false := by simp; omega
                          have d4 : decide ((1000000 : Int) < y) = false := by simp; omega
                          have HI2 : Hid (∀ p, p < q + 1 → btw (r.h.getD p 0) 0 10000 = true ∧ btw (r.r.getD p 0) 0 1000000 = true) := Lib.hid fun p hp => by
                            by_cases e : p = q
                            · subst e; rw [getD_some HX.out.1, getD_some HX.out.2]; exact ⟨b1, b2⟩
                            · exact HI.out p (by omega)
                          have HBB1 := Lib.hid (And.intro b1 b2)
                          clear b1 b2
                          go_wp2_with fail
                          go_roundg (gk - 1)
                          case measure => omega
                          case rel => exact ⟨q + 1, by omega, by go_num, hgx, HI2⟩
                        · have b2' : btw y 0 1000000 = false := by simpa using b2
                          have HV := Lib.hid (HN.out.2 (.inr (allB_bad HX.out.2 b2')))
                          have hy2 : y < 0 ∨ (0 ≤ y ∧ 1000000 < y) := by
                            have : ¬ (0 ≤ y ∧ y ≤ 1000000) := fun h => b2 (btw_true.2 h)
                            omega
                          clear b1 b2 b2'
                          rcases hy2 with hy2 | ⟨hy3, hy2⟩
                          · have d3 : decide (y < 0) = true := by simpa using hy2
                            go_wp2_with fail
                            go_ret
                            exact ⟨retI HV.out.symm, HW.out.1.trans hgx⟩
                          · have d3 : decide (y < 0) = false := by simp; omega
                            have d4 : decide ((1000000 : Int) < y) = true := by simpa using hy2
                            go_wp2_with fail
                            go_ret
                            exact ⟨retI HV.out.symm, HW.out.1.trans hgx⟩
                      · have b1' : btw x 0 10000 = false := by simpa using b1
                        have HV := Lib.hid (HN.out.2 (.inl (allB_bad HX.out.1 b1')))
                        have hx2 : x < 0 ∨ (0 ≤ x ∧ 10000 < x) := by
                          have : ¬ (0 ≤ x ∧ x ≤ 10000) := fun h => b1 (btw_true.2 h)
                          omega
                        clear b1 b1'
                        rcases hx2 with hx2 | ⟨hx3, hx2⟩
                        · have d1 : decide (x < 0) = true := by simpa using hx2
                          go_wp2_with fail
                          go_ret
                          exact ⟨retI HV.out.symm, HW.out.1.trans hgx⟩
                        · have d1 : decide (x < 0) = false := by simp; omega
                          have d2 : decide ((10000 : Int) < x) = true := by simpa using hx2
                          go_wp2_with fail
                          go_ret
                          exact ⟨retI HV.out.symm, HW.out.1.trans hgx⟩
                    · obtain rfl : q = r.n := by omega
                      have HS := Lib.hid (HN.out.1 ⟨allB_of HO.out.2.1.1 (fun p hp => (HI.out p hp).1), allB_of (HO.out.2.1.2.trans H5.out) (fun p hp => (HI.out p hp).2)⟩)
                      go_wp2_with fail
                      have hj := HO.out.2.2.1
                      have hko := HKO.out
                      go_roundg (ko - 1)
                      case measure => omega
                      case rel => exact ⟨0 + 1, by omega, by go_num, HW.out.1.trans hgx, HS.out⟩
                · have HV := Lib.hid (HB.out 3 (by show sitC _ r.k r.h r.r = _; unfold sitC; rw [if_neg (by simp [HK.out]), if_neg (by rw [HP.out]; simp), if_neg (by rw [HO.out.2.1.1]; exact h3), if_neg (by rw [HO.out.2.1.1]; exact h4), if_pos (by rw [HO.out.2.1.1, HO.out.2.1.2]; exact h5)]) (by decide))
                  have h5b : ((r.n2 : Int) != (r.n : Int)) = true := by simp; omega
                  have h5d : ((r.n : Int) != (r.n2 : Int)) = true := by simp; omega
                  go_quiet (fail)
                  go_wp2_with fail
                  go_ret
                  exact ⟨retI HV.out.symm, (by first | exact HW.out.1 | exact grown_drewN HW.out.1 _ | exact grown_drew HW.out.1)⟩
          · have hT' := sPrev_succ ht'
            have HT' := Lib.hid hT'
            clear ht' hT'
            have d1 := hgR.cell (a := ⟨b, off + p * 3, none⟩) d0 (by simp)
            refine (keyOf_any _ _).mono ?_
            rw [HK.out]
            rintro e w9 ⟨rfl, hw9⟩
            have hg9 : wb.grownBy w9 none := hw9
            have z0 := hg9.cell (a := ⟨B, 0, none⟩) k0 (by simp)
            have z1 := hg9.cell (a := ⟨B, 1, none⟩) k1 (by simp)
            have z2 := hg9.cell (a := ⟨B, 2, none⟩) k2 (by simp)
            have hw : w.grownBy w9 none := HO.out.2.2.2.trans (hgR.trans hg9)
            have hok9 := HO.out.1.grown (hgR.trans hg9)
            have HW := Lib.hid (And.intro hw hok9)
            clear hw9 k0 k1 k2 hw hok9
            have dz := hg9.cell (a := ⟨b, off + p * 3, none⟩) d1 (by simp)
            clear h1 d0 d1
            go_wp2_with fail
            by_cases hle : Op.bytesLess r.k.toList t'.k.toList = true
            · have HV := Lib.hid (HB.out 7 (by show sitC _ r.k r.h r.r = _; unfold sitC; rw [if_neg (by simp [HK.out]), HT'.out, if_pos (by simp [sLe, hle])]) (by decide))
              go_quiet (fail)
              go_wp2_with fail
              go_ret
              exact ⟨retI HV.out.symm, (by first | exact HW.out.1 | exact grown_drewN HW.out.1 _ | exact grown_drew HW.out.1)⟩
            · have hle' : Op.bytesLess r.k.toList t'.k.toList = false := by simpa using hle
              clear hle
              by_cases heq : (r.k.toList == t'.k.toList) = true
              · have HV := Lib.hid (HB.out 7 (by show sitC _ r.k r.h r.r = _; unfold sitC; rw [if_neg (by simp [HK.out]), HT'.out, if_pos (by simp [sLe, heq])]) (by decide))
                go_quiet (fail)
                go_wp2_with fail
                go_ret
                exact ⟨retI HV.out.symm, (by first | exact HW.out.1 | exact grown_drewN HW.out.1 _ | exact grown_drew HW.out.1)⟩
              · have heq' : (r.k.toList == t'.k.toList) = false := by simpa using heq
                clear heq
                have HP := Lib.hid (show (sPrev V (p + 1)).any (fun p => sLe r.k p) = false by rw [HT'.out]; simp [sLe, hle', heq'])
                by_cases h3 : r.n = 0
                · have HV := Lib.hid (HB.out 8 (by show sitC _ r.k r.h r.r = _; unfold sitC; rw [if_neg (by simp [HK.out]), if_neg (by rw [HP.out]; simp), if_pos (by rw [HO.out.2.1.1]; exact h3)]) (by decide))
                  have h3b : ((r.n : Int) == 0) = true := by simp [h3]
                  have h3c : (r.n : Int) = 0 := by omega
                  clear h3
                  go_quiet (fail)
                  go_wp2_with fail
                  go_ret
                  exact ⟨retI HV.out.symm, (by first | exact HW.out.1 | exact grown_drewN HW.out.1 _ | exact grown_drew HW.out.1)⟩
                · have h3b : ((r.n : Int) == 0) = false := by simp [h3]
                  have h3c : ¬ (r.n : Int) = 0 := by omega
                  by_cases h4 : 60 < r.n
                  · have HV := Lib.hid (HB.out 2 (by show sitC _ r.k r.h r.r = _; unfold sitC; rw [if_neg (by simp [HK.out]), if_neg (by rw [HP.out]; simp), if_neg (by rw [HO.out.2.1.1]; exact h3), if_pos (by rw [HO.out.2.1.1]; exact h4)]) (by decide))
                    have h4c : (60 : Int) < (r.n : Int) := by omega
                    go_quiet (fail)
                    go_wp2_with fail
                    go_ret
                    exact ⟨retI HV.out.symm, (by first | exact HW.out.1 | exact grown_drewN HW.out.1 _ | exact grown_drew HW.out.1)⟩
                  · have h4c : ¬ (60 : Int) < (r.n : Int) := by omega
                    by_cases h5 : r.n2 = r.n
                    · have h5b : ((r.n2 : Int) != (r.n : Int)) = false := by simp [h5]
                      have h5d : ((r.n : Int) != (r.n2 : Int)) = false := by simp [h5]
                      have h52 : r.n2 ≤ 60 := by omega
                      have H5 := Lib.hid h5
                      clear h5
                      have HN := Lib.hid (show (allB r.h 0 10000 = true ∧ allB r.r 0 1000000 = true → SitInv V (p + 1 + 1)) ∧ (allB r.h 0 10000 = false ∨ allB r.r 0 1000000 = false → sitF V = 1) from ⟨fun h => HG.out (by show sitC _ r.k r.h r.r = _; unfold sitC; rw [if_neg (by simp [HK.out]), if_neg (by rw [HP.out]; simp), if_neg (by rw [HO.out.2.1.1]; exact h3), if_neg (by rw [HO.out.2.1.1]; exact h4), if_neg (by rw [HO.out.2.1.1, HO.out.2.1.2]; simp [H5.out]), if_neg (by simp [h.1]), if_neg (by simp [h.2])]), fun h => HB.out 1 (by show sitC _ r.k r.h r.r = _; unfold sitC; rw [if_neg (by simp [HK.out]), if_neg (by rw [HP.out]; simp), if_neg (by rw [HO.out.2.1.1]; exact h3), if_neg (by rw [HO.out.2.1.1]; exact h4), if_neg (by rw [HO.out.2.1.1, HO.out.2.1.2]; simp [H5.out])]; rcases h with h | h <;> simp [h]) (by decide)⟩)
                      go_quiet (fail)
                      go_wp2_with fail
                      obtain ⟨ko, hko⟩ : ∃ ko : Nat, ko = gk := ⟨_, rfl⟩
                      obtain ⟨m2, hm2⟩ : ∃ m2, r.n2 = m2 := ⟨_, rfl⟩
                      have hn60 : r.n ≤ 60 := by omega
                      have HKO := Lib.hid hko
                      clear hko hm2
                      go_loopg [56] r.n (fun k i wx => ∃ q : Nat, k + q = r.n ∧ i = .int .i64 q ∧ w9.grownBy wx none ∧ Hid (∀ p, p < q → btw (r.h.getD p 0) 0 10000 = true ∧ btw (r.r.getD p 0) 0 1000000 = true))
                      case atStart => exact ⟨0, by omega, rfl, by first | exact grown_refl _ | exact grown_drewN (grown_refl _) _ | exact grown_drew (grown_refl _), Lib.hid fun p hp => by omega⟩
                      case round =>
                        obtain ⟨q, hq, rfl, hgx, HI⟩ := hrel
                        have x1 := hgx.cell (a := ⟨B, 1, none⟩) z1 (by simp)
                        have x2 := hgx.cell (a := ⟨B, 2, none⟩) z2 (by simp)
                        by_cases hlq : q < r.n
                        · have hk9 := HW.out.2.grown hgx
                          obtain ⟨bh, oh, eh, hbh, x, hx, hcx⟩ := int_cells hk9.1.1 hlq
                          obtain ⟨br, og, er, hbr, y, hy, hcy⟩ := int_cells hk9.2.1 (k := q) (by rw [H5.out]; exact hlq)
                          have hlq2 : (q : Int) < (r.n2 : Int) := by rw [H5.out]; omega
                          rw [eh] at x1
                          rw [er] at x2
                          have HX := Lib.hid (And.intro hx hy)
                          clear hk9 eh er hx hy hbh hbr
                          by_cases b1 : btw x 0 10000 = true
                          · have hb1 := btw_true.1 b1
                            have d1 : decide (x < 0) = false := by simp; omega
                            have d2 : decide ((10000 : Int) < x) = false := by simp; omega
                            by_cases b2 : btw y 0 1000000 = true
                            · have hb2 := btw_true.1 b2
                              have d3 : decide (y < 0) = false := by simp; omega
                              have d4 : decide ((1000000 : Int) < y) = false := by simp; omega
                              have HI2 : Hid (∀ p, p < q + 1 → btw (r.h.getD p 0) 0 10000 = true ∧ btw (r.r.getD p 0) 0 1000000 = true) := Lib.hid fun p hp => by
                                by_cases e : p = q
                                · subst e; rw [getD_some HX.out.1, getD_some HX.out.2]; exact ⟨b1, b2⟩
                                · exact HI.out p (by omega)
                              have HBB1 := Lib.hid (And.intro b1 b2)
                              clear b1 b2
                              go_wp2_with fail
                              go_roundg (gk - 1)
                              case measure => omega
                              case rel => exact ⟨q + 1, by omega, by go_num, hgx, HI2⟩
                            · have b2' : btw y 0 1000000 = false := by simpa using b2
                              have HV := Lib.hid (HN.out.2 (.inr (allB_bad HX.out.2 b2')))
                              have hy2 : y < 0 ∨ (0 ≤ y ∧ 1000000 < y) := by
                                have : ¬ (0 ≤ y ∧ y ≤ 1000000) := fun h => b2 (btw_true.2 h)
                                omega
                              clear b1 b2 b2'
                              rcases hy2 with hy2 | ⟨hy3, hy2⟩
                              · have d3 : decide (y < 0) = true := by simpa using hy2
                                go_wp2_with fail
                                go_ret
                                exact ⟨retI HV.out.symm, HW.out.1.trans hgx⟩
                              · have d3 : decide (y < 0) = false := by simp; omega
                                have d4 : decide ((1000000 : Int) < y) = true := by simpa using hy2
                                go_wp2_with fail
                                go_ret
                                exact ⟨retI HV.out.symm, HW.out.1.trans hgx⟩
                          · have b1' : btw x 0 10000 = false := by simpa using b1
                            have HV := Lib.hid (HN.out.2 (.inl (allB_bad HX.out.1 b1')))
                            have hx2 : x < 0 ∨ (0 ≤ x ∧ 10000 < x) := by
                              have : ¬ (0 ≤ x ∧ x ≤ 10000) := fun h => b1 (btw_true.2 h)
                              omega
                            clear b1 b1'
                            rcases hx2 with hx2 | ⟨hx3, hx2⟩
                            · have d1 : decide (x < 0) = true := by simpa using hx2
                              go_wp2_with fail
                              go_ret
                              exact ⟨retI HV.out.symm, HW.out.1.trans hgx⟩
                            · have d1 : decide (x < 0) = false := by simp; omega
                              have d2 : decide ((10000 : Int) < x) = true := by simpa using hx2
                              go_wp2_with fail
                              go_ret
                              exact ⟨retI HV.out.symm, HW.out.1.trans hgx⟩
                        · obtain rfl : q = r.n := by omega
                          have HS := Lib.hid (HN.out.1 ⟨allB_of HO.out.2.1.1 (fun p hp => (HI.out p hp).1), allB_of (HO.out.2.1.2.trans H5.out) (fun p hp => (HI.out p hp).2)⟩)
                          go_wp2_with fail
                          have hj := HO.out.2.2.1
                          have hko := HKO.out
                          go_roundg (ko - 1)
                          case measure => omega
                          case rel => exact ⟨p + 1 + 1, by omega, by go_num, HW.out.1.trans hgx, HS.out⟩
                    · have HV := Lib.hid (HB.out 3 (by show sitC _ r.k r.h r.r = _; unfold sitC; rw [if_neg (by simp [HK.out]), if_neg (by rw [HP.out]; simp), if_neg (by rw [HO.out.2.1.1]; exact h3), if_neg (by rw [HO.out.2.1.1]; exact h4), if_pos (by rw [HO.out.2.1.1, HO.out.2.1.2]; exact h5)]) (by decide))
                      have h5b : ((r.n2 : Int) != (r.n : Int)) = true := by simp; omega
                      have h5d : ((r.n : Int) != (r.n2 : Int)) = true := by simp; omega
                      go_quiet (fail)
                      go_wp2_with fail
                      go_ret
                      exact ⟨retI HV.out.symm, (by first | exact HW.out.1 | exact grown_drewN HW.out.1 _ | exact grown_drew HW.out.1)⟩
        · have h1' : keyB r.k = false := by simpa using h1
          have HK := Lib.hid h1'
          have HV := Lib.hid (HB.out 5 (by show sitC _ r.k r.h r.r = _; unfold sitC; rw [if_pos h1']) (by decide))
          clear h1 h1' hprev
          refine (keyOf_any _ _).mono ?_
          rw [HK.out]
          rintro e w9 ⟨rfl, hw9⟩
          have hg9 : wb.grownBy w9 none := hw9
          have z0 := hg9.cell (a := ⟨B, 0, none⟩) k0 (by simp)
          have z1 := hg9.cell (a := ⟨B, 1, none⟩) k1 (by simp)
          have z2 := hg9.cell (a := ⟨B, 2, none⟩) k2 (by simp)
          have hw : w.grownBy w9 none := HO.out.2.2.2.trans (hgR.trans hg9)
          have hok9 := HO.out.1.grown (hgR.trans hg9)
          have HW := Lib.hid (And.intro hw hok9)
          clear hw9 k0 k1 k2 hw hok9
          go_wp2_with fail
          go_ret
          exact ⟨retI HV.out.symm, (by first | exact HW.out.1 | exact grown_drewN HW.out.1 _ | exact grown_drew HW.out.1)⟩
      · obtain rfl : j = n := by omega
        have HV := Lib.hid (H.done HL.out.symm)
        clear H
        go_wp2_with fail
        go_ret
        exact ⟨retI HV.out.symm, hg⟩

end Go.Proofs.YtoneebofjbnjpaaDoor
