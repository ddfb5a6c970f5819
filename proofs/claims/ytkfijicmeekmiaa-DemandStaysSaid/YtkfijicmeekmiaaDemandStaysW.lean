/- The walk of the law DemandStays. -/
import Derived.Test.YtkfijicmeekmiaaEqS
import Derived.Test.YtkfijicmeekmiaaDays
import Derived.Test.YtkfijicmeekmiaaHist
import Derived.Test.YtkfijicmeekmiaaKeep
namespace Go.Proofs.Ytkfijicmeekmiaa
open Go.RowKit

set_option maxRecDepth 100000 in
set_option maxHeartbeats 4000000 in
theorem demandStays_walk (a0 : Option Addr) (len0 cap0 : Nat) (z0 : List Int) (w : World) (w0 : InRow w a0 len0 cap0 z0) :
    Calls Try.prog 11 #[.slice a0 len0 cap0] w fun e w' => e = .returned (.bool true) ∧ w.grownBy w' none := by
  have hga := grown_alloc (grown_refl w) (.cells #[.slice a0 len0 cap0, .int .i64 0] 25)
  have hgb := grown_alloc hga (.cells #[.slice a0 len0 cap0, .int .i64 0] 25)
  have hsA0 := (str_new (Q := fun b => b < w.heap.size) w0 (grown_refl w) (fun b h => h)).grown (grown_alloc (grown_refl _) (.cells #[.slice a0 len0 cap0, .int .i64 0] 25)) (by simp)
  have hsB0 := str_new (Q := fun b => b < w.heap.size) w0 hga (fun b h => h)
  have hz1 : (w.alloc (.cells #[.slice a0 len0 cap0, .int .i64 0] 25)).heap.size = w.heap.size + 1 := by simp
  have hz2 : ((w.alloc (.cells #[.slice a0 len0 cap0, .int .i64 0] 25)).alloc (.cells #[.slice a0 len0 cap0, .int .i64 0] 25)).heap.size = w.heap.size + 2 := by simp
  rw [hz1] at hsB0
  clear w0 hga hz1
  generalize z0.take len0 = L at *
  go_enter Try.func11, Try.ntmps11
  go_wp2_with fail
  generalize ((w.alloc (.cells #[.slice a0 len0 cap0, .int .i64 0] 25)).alloc (.cells #[.slice a0 len0 cap0, .int .i64 0] 25)) = wB at *
  obtain ⟨P, hP⟩ : ∃ P : Nat → Prop, P = fun b => b < w.heap.size := ⟨_, rfl⟩
  rw [← hP] at hsA0 hsB0
  have hPne : ∀ b, P b → b ≠ w.heap.size := fun b h => by rw [hP] at h; exact Nat.ne_of_lt h
  clear hP
  obtain ⟨bs, hbs⟩ : ∃ bs, bs = w.heap.size := ⟨_, rfl⟩
  rw [← hbs] at hsA0 hsB0 hz2 hPne ⊢
  have HZ := Lib.hid hbs
  clear hbs
  refine (days_any bs L 0 _ hsA0 (by omega)).mono ?_
  rintro e w3 ⟨vD, rfl, hD3, hsA3, hg3⟩
  have hsB3 := hsB0.other hg3 (by omega) hPne
  have gw3 := grown_below hgb hg3 (fun j hj => .inl (by cases hj; have := HZ.out; omega))
  have hsz3 := hg3.size
  go_wp2_with fail
  refine (days_any (bs + 1) L 0 _ hsB3 (by omega)).mono ?_
  rintro e w4 ⟨vC, rfl, hC4, hsB4, hg4⟩
  obtain ⟨ht1, hn1⟩ := daysM_bound L 0
  generalize (daysM L 0).2 = T at *
  generalize (daysM L 0).1 = t1 at *
  have hsA4 := hsA3.grown hg4 (by intro j e; injection e with e; omega)
  have hD4 := hD3.kept hg4 (own_ne hD3 (by omega))
  have gw4 := grown_below gw3 hg4 (fun j hj => .inl (by cases hj; have := HZ.out; omega))
  have hsz4 := hg4.size
  clear hD3 hsA3 hsB3 hg3 hg4 gw3 hsA0 hsB0 hgb
  go_wp2_with fail
  refine (hist_any bs L t1 _ hsA4 (by omega)).mono ?_
  rintro e w5 ⟨vH, rfl, hH5, hsA5, hg5⟩
  have hsB5 := hsB4.other hg5 (by omega) hPne
  have gw5 := grown_below gw4 hg5 (fun j hj => .inl (by cases hj; have := HZ.out; omega))
  have hD5 := hD4.kept hg5 (own_ne hD4 (by omega))
  have hC5 := hC4.kept hg5 (own_ne hC4 (by omega))
  have hsz5 := hg5.size
  go_wp2_with fail
  refine (hist_any (bs + 1) L t1 _ hsB5 (by omega)).mono ?_
  rintro e w6 ⟨vG, rfl, hG6, hsB6, hg6⟩
  obtain ⟨ht2, hn2⟩ := histM_bound L t1
  generalize (histM L t1).2 = H at *
  generalize (histM L t1).1 = t2 at *
  have hsA6 := hsA5.grown hg6 (by intro j e; injection e with e; omega)
  have gw6 := grown_below gw5 hg6 (fun j hj => .inl (by cases hj; have := HZ.out; omega))
  have hD6 := hD5.kept hg6 (own_ne hD5 (by omega))
  have hC6 := hC5.kept hg6 (own_ne hC5 (by omega))
  have hH6 := hH5.kept hg6 (own_ne hH5 (by omega))
  have hsz6 := hg6.size
  clear hD4 hC4 hD5 hC5 hH5 hsA4 hsB4 hsA5 hsB5 hg5 hg6 gw4 gw5
  go_wp2_with fail
  refine (table_any bs L t2 _ hsA6 (by omega)).mono ?_
  rintro e w7 ⟨At, ct, rfl, hT7, hsA7, hg7⟩
  have hsB7 := hsB6.other hg7 (by omega) hPne
  have gw7 := grown_below gw6 hg7 (fun j hj => .inl (by cases hj; have := HZ.out; omega))
  have hD7 := hD6.kept hg7 (own_ne hD6 (by omega))
  have hC7 := hC6.kept hg7 (own_ne hC6 (by omega))
  have hH7 := hH6.kept hg7 (own_ne hH6 (by omega))
  have hG7 := hG6.kept hg7 (own_ne hG6 (by omega))
  have hsz7 := hg7.size
  go_wp2_with fail
  refine (table_any (bs + 1) L t2 _ hsB7 (by omega)).mono ?_
  rintro e w8 ⟨Au, cu, rfl, hU8, hsB8, hg8⟩
  obtain ⟨⟨ht3, hn3⟩, hrow⟩ := tableM_bound L t2
  generalize (tableM L t2).2 = R at *
  generalize (tableM L t2).1 = t3 at *
  have gw8 := grown_below gw7 hg8 (fun j hj => .inl (by cases hj; have := HZ.out; omega))
  have hD8 := hD7.kept hg8 (own_ne hD7 (by omega))
  have hC8 := hC7.kept hg8 (own_ne hC7 (by omega))
  have hH8 := hH7.kept hg8 (own_ne hH7 (by omega))
  have hG8 := hG7.kept hg8 (own_ne hG7 (by omega))
  have hT8 := hT7.stream hg8 (by omega)
  obtain ⟨AD, cD, rfl, hncD, _, rD, _⟩ := Rd.of_own hD8
  obtain ⟨AC, cC, rfl, _, _, rC, _⟩ := Rd.of_own hC8
  obtain ⟨AH, cH, rfl, hncH, _, rH, _⟩ := Rd.of_own hH8
  obtain ⟨AG, cG, rfl, _, _, rG, _⟩ := Rd.of_own hG8
  clear hD6 hC6 hH6 hG6 hD7 hC7 hH7 hG7 hD8 hC8 hH8 hG8 hsA6 hsB6 hsA7 hsB7 hsB8 hg7 hg8 gw6 gw7 hT7 hsz3 hsz4 hsz5 hsz6 hsz7 hz2 hPne
  go_upto_region 5 with fail
  have bT := (Blk.new w8 70 #[.slice At R.length ct]).alloc (.cells #[.slice Au R.length cu] 70)
  have bU := Blk.new (w8.alloc (.cells #[.slice At R.length ct] 70)) 70 #[.slice Au R.length cu]
  rw [show (w8.alloc (.cells #[.slice At R.length ct] 70)).heap.size = w8.heap.size + 1 from by simp] at bU
  have h8K := grown_alloc (grown_alloc (grown_refl w8) (.cells #[.slice At R.length ct] 70)) (.cells #[.slice Au R.length cu] 70)
  have gK := gw8.trans h8K
  generalize ((w8.alloc (.cells #[.slice At R.length ct] 70)).alloc (.cells #[.slice Au R.length cu] 70)) = wK at *
  generalize w8.heap.size = gA at *
  have rD := rD.grown h8K
  have rC := rC.grown h8K
  have rH := rH.grown h8K
  have rG := rG.grown h8K
  have hT := hT8.grown h8K
  have hU := hU8.grown h8K
  have HK := Lib.hid (And.intro rD (And.intro rC (And.intro rH (And.intro rG (And.intro hT (And.intro hU (And.intro bT (And.intro bU gK))))))))
  have HN := Lib.hid (And.intro hncD hncH)
  clear gw8 h8K gK rD rC rH rG hT hU bT bU hT8 hU8 ht1 ht2 ht3 hncD hncH
  have hH1 : H.length ≤ 100000 := by omega
  go_wp2_with fail
  refine (together_one AH H.length cH H wK HK.out.2.2.1 HN.out.2 hH1).mono ?_
  rintro e w9 ⟨vX, m, X, rfl, hX9, hg9⟩
  obtain ⟨AX, cX, rfl, hmc, hcm, _, _⟩ := Rd.of_own hX9
  have hmm : m ≤ 9223372036854775807 := by unfold maxLen at hcm; omega
  clear hmc hcm
  obtain ⟨F, hF⟩ : ∃ F, F = histF H := ⟨_, rfl⟩
  rw [← hF]
  have HF := Lib.hid hF
  clear hF
  go_wp2_with fail
  go_loopg [49] m (fun k i wr => ∃ (j : Nat) (Y : List Int), k + j = m ∧ i = .int .i64 j ∧ wr.ownsRow wK.heap.size 3 1 (.slice AX m cX) m (ints Y) ∧ wK.grownBy wr none)
  case atStart => exact ⟨0, X, by omega, rfl, hX9, hg9⟩
  case round =>
    clear hX9 hg9
    obtain ⟨j, Y, hj, rfl, hown, hg⟩ := hrel
    by_cases hlt : j < m
    · obtain ⟨g, c, hv, hgb, _⟩ := hown.form (by omega)
      injection hv with hA _ hc
      subst hA hc
      have e0 := own_int hown hlt
      have f0 := hown.frozenAt j
      have t1 := own_int_set hown j (-9)
      have hlt' : (j : Int) < (m : Int) := by omega
      have HJ := Lib.hid (And.intro hj t1)
      clear hj t1 hown
      go_wp2_with fail
      obtain ⟨hj, t1⟩ := HJ.out
      go_roundg (gk - 1)
      case measure => omega
      case rel => exact ⟨j + 1, _, by omega, by go_num, t1, grown_set (p := ⟨g, j, none⟩) hg (.inl hgb) _⟩
    · obtain rfl : j = m := by omega
      clear hown hlt hj
      obtain ⟨n, hn⟩ : ∃ n, n = R.length := ⟨_, rfl⟩
      have hn5 : n ≤ 5 := by omega
      have k0 := (HK.out.2.2.2.2.2.2.1.grown hg (by simp)).cell 0
      rw [← hn] at k0
      have HR := Lib.hid hn
      clear hn
      have hmk := fun w => make_ints n (by omega) w
      go_upto_region 12 with fail
      go_cut [15, 16] (fun v1 v2 wx => ∃ g1 g2, v1 = .slice (some ⟨g1, 0, none⟩) n n ∧ v2 = .slice (some ⟨g2, 0, none⟩) n n ∧ g1 ≠ g2 ∧ wx.ownsRow wK.heap.size 3 1 (.slice (some ⟨g1, 0, none⟩) n n) n (ints (List.replicate n 0)) ∧ wx.ownsRow wK.heap.size 3 1 (.slice (some ⟨g2, 0, none⟩) n n) n (ints (List.replicate n 0)) ∧ wK.grownBy wx none)
      case first =>
        have o1 := own_mono ((made_ints wr n (by omega)).alloc (.cells (madeCells #[.int .i64 0] n) 3)) hg.size
        have o2 := own_mono (made_ints (wr.alloc (.cells (madeCells #[.int .i64 0] n) 3)) n (by omega)) (show wK.heap.size ≤ _ from by have := hg.size; simp; omega)
        rw [show (wr.alloc (.cells (madeCells #[.int .i64 0] n) 3)).heap.size = wr.heap.size + 1 from by simp] at o2
        have hgz := grown_alloc (grown_alloc hg (.cells (madeCells #[.int .i64 0] n) 3)) (.cells (madeCells #[.int .i64 0] n) 3)
        have HO := Lib.hid (And.intro o1 (And.intro o2 hgz))
        clear o1 o2 hgz
        go_wp2_with fail
        go_region
        all_goals
          go_wp2_with fail
          go_meet
          first
          | exact ⟨wr.heap.size, wr.heap.size + 1, rfl, rfl, by omega, HO.out.1, HO.out.2.1, grown_drew HO.out.2.2⟩
          | exact ⟨wr.heap.size + 1, wr.heap.size, rfl, rfl, by omega, HO.out.2.1, HO.out.1, grown_drew HO.out.2.2⟩
      case rest =>
        obtain ⟨g1, g2, rfl, rfl, hne, o1, o2, hgc⟩ := hcut
        clear k0 hmk hg
        have hne2 : g2 ≠ g1 := hne.symm
        go_wp2_with fail
        go_loopg [65] n (fun k i wr => ∃ j : Nat, k + j = n ∧ i = .int .i64 j ∧ wr.ownsRow wK.heap.size 3 1 (.slice (some ⟨g1, 0, none⟩) n n) n (ints (fill (List.replicate n 5) n j)) ∧ wr.ownsRow wK.heap.size 3 1 (.slice (some ⟨g2, 0, none⟩) n n) n (ints (fill (List.replicate n 2) n j)) ∧ wK.grownBy wr none)
        case atStart => exact ⟨0, by omega, rfl, by rw [fill_zero]; exact o1, by rw [fill_zero]; exact o2, hgc⟩
        case round =>
          clear o1 o2 hgc
          obtain ⟨q, hq, rfl, o1, o2, hg⟩ := hrel
          by_cases hlt : q < n
          · have e1 := own_int o1 hlt
            have f1 := o1.frozenAt q
            have e2 := own_int o2 hlt
            have f2 := o2.frozenAt q
            have t1 := own_int_set o1 q 5
            have t2 := own_int_set (o2.kept (grown_set (World.grownBy.refl _ (some g1)) (p := ⟨g1, q, none⟩) (.inr rfl) (.int .i64 5)) (.inr (by simpa [Value.ownBlock] using hne2))) q 2
            rw [fill_set (by simp) hlt (by simp [hlt])] at t1 t2
            have t1' := t1.kept (grown_set (World.grownBy.refl _ (some g2)) (p := ⟨g2, q, none⟩) (.inr rfl) (.int .i64 2)) (.inr (by simpa [Value.ownBlock] using hne))
            have hb1 := (o1.lt g1 rfl).1
            have hb2 := (o2.lt g2 rfl).1
            have HJ := Lib.hid (And.intro hq (And.intro t1' t2))
            clear hq t1 t1' t2 o1 o2
            have hlt' : (q : Int) < (n : Int) := by omega
            go_wp2_with fail
            obtain ⟨hq, t1, t2⟩ := HJ.out
            go_roundg (gk - 1)
            case measure => omega
            case rel => exact ⟨q + 1, by omega, by go_num, t1, t2, grown_set (p := ⟨g2, q, none⟩) (grown_set (p := ⟨g1, q, none⟩) hg (.inl hb1) _) (.inl hb2) _⟩
          · obtain rfl : q = n := by omega
            rw [fill_full (by simp)] at o1 o2
            obtain ⟨W, hW⟩ : ∃ W, W = List.replicate q (5 : Int) := ⟨_, rfl⟩
            obtain ⟨S, hS⟩ : ∃ S, S = List.replicate q (2 : Int) := ⟨_, rfl⟩
            rw [← hW] at o1
            rw [← hS] at o2
            have hWl : W.length = q := by rw [hW]; simp
            have hSl : S.length = q := by rw [hS]; simp
            have rW : Rd wr 1 (some ⟨g1, 0, none⟩) q (ints W) := by
              obtain ⟨_, _, e1, _, _, r1, _⟩ := Rd.of_own o1
              injection e1 with e11 _ _
              rw [e11]; exact r1
            have rS : Rd wr 1 (some ⟨g2, 0, none⟩) q (ints S) := by
              obtain ⟨_, _, e2, _, _, r2, _⟩ := Rd.of_own o2
              injection e2 with e21 _ _
              rw [e21]; exact r2
            have k0 := (HK.out.2.2.2.2.2.2.1.grown hg (by simp)).cell 0
            have hin := instead_own _ At (some ⟨g1, 0, none⟩) (some ⟨g2, 0, none⟩) ct q q q R W S wr (HK.out.2.2.2.2.1.grown hg) (by have := HR.out; omega) hWl hSl (by omega) rW rS
            rw [← HR.out] at hin k0
            have HW := Lib.hid (And.intro hW (And.intro hS (And.intro hWl (And.intro hSl (And.intro rW rS)))))
            have HIN := Lib.hid hin
            clear hW hS hWl hSl rW rS hin o1 o2 hlt hq
            go_wp2_with fail
            refine HIN.out.mono ?_
            rintro e w10 ⟨v1, v2, m2, X1, Y1, rfl, p1, p2, hg10⟩
            obtain ⟨A1, c1, rfl, hmc2, hcm2, _, _⟩ := Rd.of_own p1
            have hmm2 : m2 ≤ 9223372036854775807 := by unfold maxLen at hcm2; omega
            clear hmc2 hcm2
            obtain ⟨A2, c2, rfl, _, _, _, _⟩ := Rd.of_own p2
            obtain ⟨J, hJ⟩ : ∃ J, J = insF R W S := ⟨_, rfl⟩
            rw [← hJ]
            have HJF := Lib.hid hJ
            have HG := Lib.hid hg
            clear hJ HIN k0 hg
            obtain ⟨wM, hwM⟩ : ∃ wM, wM = wr := ⟨_, rfl⟩
            subst hwM
            go_wp2_with fail
            go_loopg [85] m2 (fun k i wr => ∃ (j : Nat) (X Y : List Int), k + j = m2 ∧ i = .int .i64 j ∧ wr.ownsRow wM.heap.size 3 1 (.slice A1 m2 c1) m2 (ints X) ∧ wr.ownsRow wM.heap.size 3 1 (.slice A2 m2 c2) m2 (ints Y) ∧ wM.grownBy wr none)
            case atStart => exact ⟨0, X1, Y1, by omega, rfl, p1, p2, hg10⟩
            case round =>
              clear p1 p2 hg10
              obtain ⟨j, X, Y, hj, rfl, p1, p2, hg⟩ := hrel
              by_cases hlt : j < m2
              · obtain ⟨ga, ca, hv, hgb, _⟩ := p1.form (by omega)
                injection hv with hA _ hc
                subst hA hc
                obtain ⟨gb, cb, hv2, hgb2, _⟩ := p2.form (by omega)
                injection hv2 with hA2 _ hc2
                subst hA2 hc2
                have e1 := own_int p1 hlt
                have f1 := p1.frozenAt j
                have t1 := own_int_set p1 j (-1)
                obtain ⟨Y2, p2'⟩ := own_wrote (g := ga) (i := j) (x := -1) (by omega) p2
                have e2 := own_int p2' hlt
                have f2 := p2'.frozenAt j
                have t2 := own_int_set p2' j (-1)
                obtain ⟨X2, t1'⟩ := own_wrote (g := gb) (i := j) (x := -1) (by omega) t1
                have HJ := Lib.hid (And.intro hj (And.intro t1' t2))
                clear hj t1 t1' t2 p1 p2 p2'
                have hlt' : (j : Int) < (m2 : Int) := by omega
                go_wp2_with fail
                obtain ⟨hj, t1, t2⟩ := HJ.out
                go_roundg (gk - 1)
                case measure => omega
                case rel => exact ⟨j + 1, _, _, by omega, by go_num, t1, t2, grown_set (p := ⟨gb, j, none⟩) (grown_set (p := ⟨ga, j, none⟩) hg (.inl hgb) _) (.inl hgb2) _⟩
              · obtain rfl : j = m2 := by omega
                clear p1 p2 hlt hj
                have hgK := HG.out.trans hg
                have hT4 : T.length ≤ 400 := by omega
                go_wp2_with fail
                refine (uncover_own AD T.length cD T wr (HK.out.1.grown hgK) hT4).mono ?_
                rintro e w11 ⟨v11, f11, rfl, hg11⟩
                have hM11 := hg.trans hg11
                clear hg11 hgK hg
                go_wp2_with fail
                go_loopg [102] q (fun k i wr => ∃ j : Nat, k + j = q ∧ i = .int .i64 j ∧ wM.grownBy wr none)
                case atStart => exact ⟨0, by omega, rfl, hM11⟩
                case round =>
                  clear hM11
                  obtain ⟨j, hj, rfl, hg⟩ := hrel
                  by_cases hlt : j < q
                  · obtain ⟨hW, hS, _, _, rW, rS⟩ := HW.out
                    obtain ⟨b1, off1, e1, _, x, hx, cx⟩ := int_cells (rW.grown hg) hlt
                    obtain ⟨b2, off2, e2, _, y, hy, cy⟩ := int_cells (rS.grown hg) hlt
                    injection e1 with e1
                    injection e1 with e11 e12 _
                    subst e11 e12
                    injection e2 with e2
                    injection e2 with e21 e22 _
                    subst e21 e22
                    obtain rfl : x = 5 := by rw [hW] at hx; simpa [hlt] using hx.symm
                    obtain rfl : y = 2 := by rw [hS] at hy; simpa [hlt] using hy.symm
                    rw [Nat.zero_add] at cx cy
                    have hlt' : (j : Int) < (q : Int) := by omega
                    have HJ := Lib.hid hj
                    clear hj hx hy hW hS rW rS
                    go_wp2_with fail
                    have hj := HJ.out
                    go_roundg (gk - 1)
                    case measure => omega
                    case rel => exact ⟨j + 1, by omega, by go_num, hg⟩
                  · obtain rfl : j = q := by omega
                    have hK := HG.out.trans hg
                    obtain ⟨rD, rC, rH, rG, hT, hU, bT, bU, gK⟩ := HK.out
                    have k0 := (bT.grown hK (by simp)).cell 0
                    have k1 := (bU.grown hK (by simp)).cell 0
                    have hHF := refHistF_any AG H.length cG H wr (rG.grown hK) (by omega)
                    rw [← HF.out] at hHF
                    obtain ⟨_, _, hWl, hSl, rW, rS⟩ := HW.out
                    have hIF := fun w1 (h1 : wr.grownBy w1 none) => refInsF_any _ Au (some ⟨g1, 0, none⟩) (some ⟨g2, 0, none⟩) cu j j R W S w1 ((hU.grown hK).grown h1) (by have := HR.out; omega) (by rw [hWl]; exact (rW.grown hg).grown h1) (by rw [hSl]; exact (rS.grown hg).grown h1) (by intro h; cases h) (by intro h; cases h)
                    rw [hWl, hSl, ← HJF.out] at hIF
                    have hkD := rD.grown hK
                    have hkC := rC.grown hK
                    have hkH := rH.grown hK
                    have hkG := rG.grown hK
                    have hkT := hT.grown hK
                    have hkU := hU.grown hK
                    have hgE := gK.trans hK
                    have hRl : R.length ≤ 1000 := by have := HR.out; omega
                    have hb1 : ((F == 0) == (F == 0)) = true := by simp
                    have hb2 : (J == J) = true := by simp
                    have HX := Lib.hid (And.intro hHF (And.intro hIF (And.intro hkD (And.intro hkC (And.intro hkH (And.intro hkG (And.intro hkT (And.intro hkU hgE))))))))
                    have HB := Lib.hid (And.intro bT bU)
                    have HH2 := Lib.hid (And.intro hK hrow)
                    clear hHF hIF hkD hkC hkH hkG hkT hkU hgE rD rC rH rG hT hU bT bU gK hWl hSl rW rS hK hg hlt hj hrow
                    have hT4 : T.length ≤ 1000 := by omega
                    have hH4 : H.length ≤ 1000000 := by omega
                    go_wp2_with fail
                    refine HX.out.1.mono ?_
                    rintro e w12 ⟨rfl, hg12⟩
                    have k2 := (HB.out.2.grown (HH2.out.1.trans hg12) (by simp)).cell 0
                    go_wp2_with fail
                    refine (HX.out.2.1 _ hg12).mono ?_
                    rintro e w13 ⟨rfl, hg13⟩
                    have h13 := hg12.trans hg13
                    go_wp2_with fail
                    refine (keepDemands_any _).mono ?_
                    rintro e w14 ⟨rfl, hg14⟩
                    have h14 := h13.trans hg14
                    go_wp2_with fail
                    refine (equalSales_same AD AC T.length cD cC T _ (HX.out.2.2.1.grown h14) (HX.out.2.2.2.1.grown h14) hT4).mono ?_
                    rintro e w15 ⟨rfl, hg15⟩
                    have h15 := h14.trans hg15
                    go_wp2_with fail
                    refine (equalInts_any AH AG H.length cH H.length cG H H _ (HX.out.2.2.2.2.1.grown h15) (HX.out.2.2.2.2.2.1.grown h15) hH4 hH4).mono ?_
                    rw [show decide (H = H) = true from by simp]
                    rintro e w16 ⟨rfl, hg16⟩
                    have h16 := h15.trans hg16
                    have k3 := (HB.out.1.grown (HH2.out.1.trans h16) (by simp)).cell 0
                    have k4 := (HB.out.2.grown (HH2.out.1.trans h16) (by simp)).cell 0
                    go_wp2_with fail
                    refine (equalRows_same _ _ At Au ct cu R _ (HX.out.2.2.2.2.2.2.1.grown h16) (HX.out.2.2.2.2.2.2.2.1.grown h16) hRl (fun l hl => by have := HH2.out.2 l hl; omega) (enters_of Try.func22 (by kernel_rfl) rfl)).mono ?_
                    rintro e w17 ⟨rfl, hg17⟩
                    go_wp2_with fail
                    go_ret
                    exact ⟨rfl, (HX.out.2.2.2.2.2.2.2.2.trans h16).trans hg17⟩

end Go.Proofs.Ytkfijicmeekmiaa
