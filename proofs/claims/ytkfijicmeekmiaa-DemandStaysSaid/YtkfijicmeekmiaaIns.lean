/- The walks of checkInstead and Instead. -/
import Derived.Test.YtkfijicmeekmiaaInsP
import Derived.Test.YtkfijicmeekmiaaMade
import Derived.BigRegion
namespace Go.Proofs.Ytkfijicmeekmiaa
open Go.RowKit

set_option maxRecDepth 100000 in
set_option maxHeartbeats 2000000 in
theorem checkInstead_any (base : Nat) (A B C : Option Addr) (c cb cs : Nat) (R : List (List Int)) (W S : List Int) (w : World) (hr : RdT w base A R) (hn : R.length ≤ 100000) (hW : Rd w 1 B W.length (ints W)) (hS : Rd w 1 C S.length (ints S)) (hW1 : W.length ≤ 100000) (hS1 : S.length ≤ 100000) :
    Calls Try.prog 110 #[.agg #[.slice A R.length c], .slice B W.length cb, .slice C S.length cs] w fun e w' => e = .returned (.int .i64 (insF R W S)) ∧ w.grownBy w' none := by
  have hB := Blk.new w 70 #[.slice A R.length c]
  have hg0 := grown_alloc (grown_refl w) (.cells #[.slice A R.length c] 70)
  have c0 := hB.cell 0
  have hct := checkTable_any base A c R _ (hr.grown hg0) hn
  have haW := fun w1 (hg : w.grownBy w1 none) => allBetween_any B W.length cb W 0 1000000 w1 (hW.grown hg) (by omega)
  have haS := fun w1 (hg : w.grownBy w1 none) => allBetween_any C S.length cs S 0 1000000 w1 (hS.grown hg) (by omega)
  obtain ⟨V, hV⟩ : ∃ V, V = insF R W S := ⟨_, rfl⟩
  rw [← hV]
  unfold insF at hV
  generalize tabF R = f at *
  by_cases h1 : f = 0
  · subst h1
    rw [if_neg (by simp)] at hV
    by_cases h2 : W.length = R.length
    · rw [if_neg (by omega)] at hV
      by_cases h3 : S.length = R.length
      · rw [if_neg (by omega)] at hV
        by_cases h4 : allB W 0 1000000 = true
        · rw [if_neg (by simp [h4])] at hV
          rw [h4] at haW
          have HC := Lib.hid (And.intro hct (And.intro haW haS))
          have i2 : ((W.length : Int) != (R.length : Int)) = false := by simp [h2]
          have i3 : ((S.length : Int) != (R.length : Int)) = false := by simp [h3]
          obtain ⟨q, hq⟩ : ∃ q, allB S 0 1000000 = q := ⟨_, rfl⟩
          rw [hq] at hV HC
          have HV := Lib.hid hV
          clear hV hct haW haS h2 h3 h4 hq
          go_enter Try.func110, Try.ntmps110
          go_wp2_with fail
          refine HC.out.1.mono ?_
          rintro e w1 ⟨rfl, hg1⟩
          have c1 := (hB.grown hg1 (by simp)).cell 0
          have hgg1 := hg0.trans hg1
          go_wp2_with fail
          refine (HC.out.2.1 _ hgg1).mono ?_
          rintro e w2 ⟨rfl, hg2⟩
          have hgg2 := hgg1.trans hg2
          go_wp2_with fail
          refine (HC.out.2.2 _ hgg2).mono ?_
          rintro e w3 ⟨rfl, hg3⟩
          have hgg3 := hgg2.trans hg3
          cases q
          · go_wp2_with fail
            go_ret
            exact ⟨retI (by rw [HV.out]; rfl), hgg3⟩
          · go_wp2_with fail
            go_ret
            exact ⟨retI (by rw [HV.out]; rfl), hgg3⟩
        · have h4' : allB W 0 1000000 = false := by simpa using h4
          rw [if_pos h4'] at hV
          rw [h4'] at haW
          have HC := Lib.hid (And.intro hct (And.intro haW haS))
          have i2 : ((W.length : Int) != (R.length : Int)) = false := by simp [h2]
          have i3 : ((S.length : Int) != (R.length : Int)) = false := by simp [h3]
          have HV := Lib.hid hV
          clear hV hct haW haS h2 h3 h4 h4'
          go_enter Try.func110, Try.ntmps110
          go_wp2_with fail
          refine HC.out.1.mono ?_
          rintro e w1 ⟨rfl, hg1⟩
          have c1 := (hB.grown hg1 (by simp)).cell 0
          have hgg1 := hg0.trans hg1
          go_wp2_with fail
          refine (HC.out.2.1 _ hgg1).mono ?_
          rintro e w2 ⟨rfl, hg2⟩
          have hgg2 := hgg1.trans hg2
          go_wp2_with fail
          go_ret
          exact ⟨retI HV.out.symm, hgg2⟩
      · rw [if_pos h3] at hV
        have i2 : ((W.length : Int) != (R.length : Int)) = false := by simp [h2]
        have i3 : ((S.length : Int) != (R.length : Int)) = true := by rw [bne_iff_ne]; omega
        have HC := Lib.hid hct
        have HV := Lib.hid hV
        clear hV hct haW haS h2 h3
        go_enter Try.func110, Try.ntmps110
        go_wp2_with fail
        refine HC.out.mono ?_
        rintro e w1 ⟨rfl, hg1⟩
        have c1 := (hB.grown hg1 (by simp)).cell 0
        have hgg1 := hg0.trans hg1
        go_wp2_with fail
        go_ret
        exact ⟨retI HV.out.symm, hgg1⟩
    · rw [if_pos h2] at hV
      have i2 : ((W.length : Int) != (R.length : Int)) = true := by rw [bne_iff_ne]; omega
      have HC := Lib.hid hct
      have HV := Lib.hid hV
      clear hV hct haW haS h2
      go_enter Try.func110, Try.ntmps110
      go_wp2_with fail
      refine HC.out.mono ?_
      rintro e w1 ⟨rfl, hg1⟩
      have c1 := (hB.grown hg1 (by simp)).cell 0
      have hgg1 := hg0.trans hg1
      go_wp2_with fail
      go_ret
      exact ⟨retI HV.out.symm, hgg1⟩
  · rw [if_pos h1] at hV
    have i1 : (f != 0) = true := by rw [bne_iff_ne]; exact h1
    have HC := Lib.hid hct
    have HV := Lib.hid hV
    clear hV hct haW haS h1
    go_enter Try.func110, Try.ntmps110
    go_wp2_with fail
    refine HC.out.mono ?_
    rintro e w1 ⟨rfl, hg1⟩
    go_wp2_with fail
    go_ret
    exact ⟨retI HV.out.symm, hg0.trans hg1⟩

theorem sold0_at {W S : List Int} {j : Nat} (h : j < W.length) : (sold0 W S)[j]? = some (if W.getD j 0 ≤ S.getD j 0 then W.getD j 0 else S.getD j 0) := by simp [sold0, h]
theorem lost0_at {W S : List Int} {j : Nat} (h : j < W.length) : (lost0 W S)[j]? = some (W.getD j 0 - if W.getD j 0 ≤ S.getD j 0 then W.getD j 0 else S.getD j 0) := by simp [lost0, h]
theorem insM_succ {R : List (List Int)} {S : List Int} {s : List Int × List Int} {i : Nat} {l : List Int} (h : R[i]? = some l) : insM R S s (i + 1) = rowM S l ((insM R S s i).2.getD i 0) i (insM R S s i) l.length := by
  have e : R.getD i [] = l := by rw [List.getD_eq_getElem?_getD, h]; rfl
  rw [insM, e]
theorem rowM_succ (S row : List Int) (left : Int) (i : Nat) (s : List Int × List Int) (j : Nat) : rowM S row left i s (j + 1) = stpM S left (row.getD j 0) i j (rowM S row left i s j) := rfl

set_option maxRecDepth 100000 in
set_option maxHeartbeats 4000000 in
theorem instead_any (base : Nat) (A B C : Option Addr) (c cb cs : Nat) (R : List (List Int)) (W S : List Int) (w : World) (hr : RdT w base A R) (hn : R.length ≤ 100000) (hW : Rd w 1 B W.length (ints W)) (hS : Rd w 1 C S.length (ints S)) (hF : insF R W S = 0) :
    Calls Try.prog 59 #[.agg #[.slice A R.length c], .slice B W.length cb, .slice C S.length cs] w
      fun e w' => ∃ v1 v2, e = .returned (.tuple #[v1, v2, .int .i64 0]) ∧ w'.ownsRow w.heap.size 3 1 v1 W.length (ints (insM R S (sold0 W S, lost0 W S) W.length).1) ∧ w'.ownsRow w.heap.size 3 1 v2 W.length (ints (insM R S (sold0 W S, lost0 W S) W.length).2) ∧ w.grownBy w' none := by
  obtain ⟨hF1, hF2, hF3, hF4, hF5⟩ := insF_ok hF
  obtain ⟨⟨hN0, hN30⟩, hrow⟩ := tabF_ok hF1
  have hall := ins_all hF
  have hbW := allB_ok hF4
  have hbS := allB_ok hF5
  have hBx := Blk.new w 70 #[.slice A R.length c]
  have hg0 := grown_alloc (grown_refl w) (.cells #[.slice A R.length c] 70)
  have c0 := hBx.cell 0
  have hct := checkInstead_any base A B C c cb cs R W S _ (hr.grown hg0) hn (hW.grown hg0) (hS.grown hg0) (by omega) (by omega)
  rw [hF] at hct
  obtain ⟨N, hN⟩ : ∃ N, W.length = N := ⟨_, rfl⟩
  have hRN : R.length = N := by omega
  have hSN : S.length = N := by omega
  rw [hN] at hall
  have hN1 : N ≤ 30 := by omega
  have hN2 : 0 < N := by omega
  have HI := Lib.hid (And.intro hN (And.intro hRN (And.intro hSN (And.intro hbW (And.intro hbS (And.intro hrow hall))))))
  rw [hN, hRN, hSN] at hct
  rw [hN] at hW
  rw [hSN] at hS
  rw [hRN] at hBx hg0 c0
  rw [hN, hRN, hSN]
  have HC := Lib.hid hct
  have hmk := fun w => make_ints N (by omega) w
  clear hF hF1 hF2 hF3 hF4 hF5 hN0 hN30 hrow hall hbW hbS hct hn hN hRN hSN
  go_enter Try.func59, Try.ntmps59
  go_wp2_with fail
  refine HC.out.mono ?_
  rintro e w1 ⟨rfl, hg1⟩
  have hB1 := hBx.grown hg1 (by simp)
  have hgg1 := hg0.trans hg1
  clear HC hBx hg0 c0 hg1
  go_wp2_with fail
  have ho1 := (made_ints w1 N (by omega)).alloc (.cells (madeCells #[.int .i64 0] N) 3)
  have ho2 := made_ints (w1.alloc (.cells (madeCells #[.int .i64 0] N) 3)) N (by omega)
  rw [show (w1.alloc (.cells (madeCells #[.int .i64 0] N) 3)).heap.size = w1.heap.size + 1 from by simp] at ho2
  have hg3 := grown_alloc (grown_alloc hgg1 (.cells (madeCells #[.int .i64 0] N) 3)) (.cells (madeCells #[.int .i64 0] N) 3)
  have hB3 := (hB1.alloc (.cells (madeCells #[.int .i64 0] N) 3)).alloc (.cells (madeCells #[.int .i64 0] N) 3)
  have hsz1 := hgg1.size
  have hBlt := hB1.lt
  generalize ((w1.alloc (.cells (madeCells #[.int .i64 0] N) 3)).alloc (.cells (madeCells #[.int .i64 0] N) 3)) = w3 at *
  generalize w1.heap.size = g at *
  have ho1' := own_mono ho1 hsz1
  have ho2' := own_mono ho2 (show w.heap.size ≤ g + 1 by omega)
  clear ho1 ho2 hmk hB1 hgg1
  have hgg : g + 1 ≠ g := by omega
  have hgg' : g ≠ g + 1 := by omega
  go_loopg [32] N (fun k i wr => ∃ j : Nat, k + j = N ∧ i = .int .i64 j ∧ wr.ownsRow w.heap.size 3 1 (.slice (some ⟨g, 0, none⟩) N N) N (ints (fill (sold0 W S) N j)) ∧ wr.ownsRow w.heap.size 3 1 (.slice (some ⟨g + 1, 0, none⟩) N N) N (ints (fill (lost0 W S) N j)) ∧ Blk wr w.heap.size 70 #[.slice A N c] ∧ w.grownBy wr none)
  case atStart => exact ⟨0, by omega, rfl, by rw [fill_zero]; exact ho1', by rw [fill_zero]; exact ho2', hB3, hg3⟩
  case round =>
    obtain ⟨j, hj, rfl, hoS, hoL, hBr, hg⟩ := hrel
    by_cases hlt : j < N
    · obtain ⟨b1, off1, rfl, hb1, x, hx, cx⟩ := int_cells (hW.grown hg) hlt
      obtain ⟨b2, off2, rfl, hb2, y, hy, cy⟩ := int_cells (hS.grown hg) hlt
      obtain ⟨hN, hRN, hSN, hbW, hbS, _⟩ := HI.out
      have x0 := hbW x (List.mem_of_getElem? hx)
      have y0 := hbS y (List.mem_of_getElem? hy)
      have hs0 := sold0_at (W := W) (S := S) (j := j) (by omega)
      have hl0 := lost0_at (W := W) (S := S) (j := j) (by omega)
      rw [show W.getD j 0 = x from by rw [List.getD_eq_getElem?_getD, hx]; rfl, show S.getD j 0 = y from by rw [List.getD_eq_getElem?_getD, hy]; rfl] at hs0 hl0
      obtain ⟨m, hm⟩ : ∃ m, m = if x ≤ y then x else y := ⟨_, rfl⟩
      rw [← hm] at hs0 hl0
      have hLs : (sold0 W S).length = N := by simp [sold0, hN]
      have hLl : (lost0 W S).length = N := by simp [lost0, hN]
      have s1 := own_int hoS hlt
      have s2 := own_int hoL hlt
      have f1 := hoS.frozenAt j
      have f2 := hoL.frozenAt j
      have t1 := own_int_set hoS j m
      have t2 := own_int_set hoL j (x - m)
      have s3 := own_int t1 hlt
      rw [getD_set (by rw [fill_len hLs (by omega)]; exact hlt), if_pos rfl] at s3
      rw [fill_set hLs hlt hs0] at t1
      rw [fill_set hLl hlt hl0] at t2
      have hk1 := t1.kept (grown_set (World.grownBy.refl _ (some (g + 1))) (p := ⟨g + 1, j, none⟩) (.inr rfl) (.int .i64 (x - m))) (.inr (by simp [Value.ownBlock]))
      have hk2 := (hoL.kept (grown_set (World.grownBy.refl _ (some g)) (p := ⟨g, j, none⟩) (.inr rfl) (.int .i64 m)) (.inr (by simp [Value.ownBlock])))
      have t3 := own_int_set hk2 j (x - m)
      rw [fill_set hLl hlt hl0] at t3
      have HT := Lib.hid (And.intro hk1 (And.intro t3 hj))
      have hgw : w.heap.size ≤ g := hsz1
      clear hN hRN hSN hbW hbS hx hy hs0 hl0 hLs hLl t1 t2 t3 hk1 hk2 hoS hoL hj
      by_cases hmn : x ≤ y
      case' pos =>
        rw [if_pos hmn] at hm
        subst hm
      case' neg =>
        rw [if_neg hmn] at hm
        subst hm
      all_goals
        have hlt' : (j : Int) < (N : Int) := by omega
        go_wp2_with fail
        have hj := HT.out.2.2
        go_roundg (gk - 1)
        case measure => omega
        case rel => exact ⟨j + 1, by omega, by go_num, by first | exact HT.out.1 | (have h1 := HT.out.1; simp only [Int.sub_self] at h1; exact h1), by first | exact HT.out.2.1 | (have h1 := HT.out.2.1; simp only [Int.sub_self] at h1; exact h1), (hBr.far (by simp; omega) _).far (by simp; omega) _, grown_set (grown_set hg (.inl (by simp; omega)) _) (.inl (by simp; omega)) _⟩
    · obtain rfl : j = N := by omega
      rw [fill_full (by simp [sold0, HI.out.1])] at hoS
      rw [fill_full (by simp [lost0, HI.out.1])] at hoL
      clear hlt hj ho1' ho2' hg3 hB3
      have cB := hBr.cell 0
      go_wp2_with fail
      clear cB
      obtain ⟨s0, hs0⟩ : ∃ s0, s0 = (sold0 W S, lost0 W S) := ⟨_, rfl⟩
      rw [show sold0 W S = s0.1 from by rw [hs0]] at hoS
      rw [show lost0 W S = s0.2 from by rw [hs0]] at hoL
      have H0 := Lib.hid hs0
      clear hs0
      go_loopg [59] j (fun k i wr => ∃ r : Nat, k + r = j ∧ i = .int .i64 r ∧ wr.ownsRow w.heap.size 3 1 (.slice (some ⟨g, 0, none⟩) j j) j (ints (insM R S s0 r).1) ∧ wr.ownsRow w.heap.size 3 1 (.slice (some ⟨g + 1, 0, none⟩) j j) j (ints (insM R S s0 r).2) ∧ Blk wr w.heap.size 70 #[.slice A j c] ∧ w.grownBy wr none)
      case atStart => exact ⟨0, by omega, rfl, hoS, hoL, hBr, hg⟩
      case round =>
        clear hoS hoL hBr hg
        obtain ⟨r, hr', rfl, hoS, hoL, hBr, hg⟩ := hrel
        generalize gk = ko at *
        by_cases hlt : r < j
        · obtain ⟨hN, hRN, hSN, hbW, hbS, hrow, hall⟩ := HI.out
          obtain ⟨b, off, rfl, hb, l, hl, Ai, ci, cR, hrl⟩ := hr.row (show r < R.length by omega)
          obtain ⟨hlN, hl0, _, hl100⟩ := hrow r l hl
          have hI := hall r (by omega)
          rw [← H0.out] at hI
          have hsucc := insM_succ (S := S) (s := s0) hl
          have hlf := hI.2.2.2.1 r (by omega)
          have hrows := hI.rows (i := r) (by omega) hlf.1 (Int.le_refl _) (by omega) (fun x hx => (hl0 x hx).1) hl100
          have c1 := own_int hoL hlt
          have cR' := hg.cell cR (by simp)
          have hlj : l.length = j := by omega
          rw [hlj] at cR' hsucc hrl
          generalize insM R S s0 r = s at *
          obtain ⟨lf, hlfe⟩ : ∃ lf, lf = s.2.getD r 0 := ⟨_, rfl⟩
          rw [← hlfe] at hsucc hlf hrows c1
          have HR := Lib.hid (And.intro hsucc (And.intro hrows (And.intro hl0 (And.intro hr' hlj))))
          clear hsucc hrows hl0 hr' hlj hN hRN hSN hbW hbS hrow hall hl100 hlN hI hl hlfe cR hb
          have hrj : (r : Int) < (j : Int) := by omega
          go_wp2_with fail
          go_loopg [70] j (fun k i wr => ∃ m : Nat, k + m = j ∧ i = .int .i64 m ∧ wr.ownsRow w.heap.size 3 1 (.slice (some ⟨g, 0, none⟩) j j) j (ints (rowM S l lf r s m).1) ∧ wr.ownsRow w.heap.size 3 1 (.slice (some ⟨g + 1, 0, none⟩) j j) j (ints (rowM S l lf r s m).2) ∧ Blk wr w.heap.size 70 #[.slice (some ⟨b, off, none⟩) j c] ∧ w.grownBy wr none)
          case atStart => exact ⟨0, by omega, rfl, hoS, hoL, hBr, hg⟩
          case round =>
            clear hoS hoL hBr hg c1 cR'
            obtain ⟨m, hm, rfl, hoS, hoL, hBr, hg⟩ := hrel
            by_cases hltm : m < j
            · obtain ⟨b1, off1, rfl, hb1, p, hp, cp⟩ := int_cells (hrl.grown hg) hltm
              obtain ⟨b2, off2, rfl, hb2, y, hy, cy⟩ := int_cells (hS.grown hg) hltm
              obtain ⟨hsucc, hrows, hl0, hr', hlj⟩ := HR.out
              obtain ⟨hN, hRN, hSN, hbW, hbS, _⟩ := HI.out
              have p0 := hl0 p (List.mem_of_getElem? hp)
              have y0 := hbS y (List.mem_of_getElem? hy)
              obtain ⟨⟨_, _, l3, l4, _⟩, _⟩ := hrows m (by omega)
              obtain ⟨⟨_, _, l3', l4', _⟩, _⟩ := hrows (m + 1) (by omega)
              have a3 := (l3 m (by omega))
              have a4 := l4 r (by omega)
              have a3' := (l3' m (by omega)).2
              have a4' := l4' r (by omega)
              have hst := rowM_succ S l lf r s m
              rw [show l.getD m 0 = p from by rw [List.getD_eq_getElem?_getD, hp]; rfl] at hst
              have hgy : S.getD m 0 = y := by rw [List.getD_eq_getElem?_getD, hy]; rfl
              rw [hst] at a3' a4'
              generalize rowM S l lf r s m = s2 at *
              unfold stpM at hst a3' a4'
              rw [hgy] at hst a3' a4' a3
              have e1 := own_int hoS hltm
              have e2 := own_int hoL (show r < j by omega)
              have f1 := hoS.frozenAt m
              have f2 := hoL.frozenAt r
              have hl1 : s2.1.length = j := by have := hoS.1; simpa [ints] using this
              have hl2 : s2.2.length = j := by have := hoL.1; simpa [ints] using this
              dsimp only at a3' a4'
              rw [getD_set (by omega), if_pos rfl] at a3' a4'
              obtain ⟨so, hso⟩ : ∃ so, so = s2.1.getD m 0 := ⟨_, rfl⟩
              obtain ⟨lo, hlo⟩ : ∃ lo, lo = s2.2.getD r 0 := ⟨_, rfl⟩
              rw [← hso, ← hlo] at hst
              rw [← hso] at a3' a3 e1 a4'
              rw [← hlo] at a4' a4 e2
              have hw0 := (hbW _ (List.mem_of_getElem? (getD_at (l := W) (j := m) (by omega)))).1
              have so0 : 0 ≤ so := by
                have h1 := a3.1
                split at h1 <;> omega
              have k0 := (takM_rng (st := y) hlf.1 p0.1 a3.2).1
              have hq0 : 0 ≤ lf * p := Int.mul_nonneg hlf.1 p0.1
              have hq1 : lf * p ≤ 1000000 * 100 := Int.mul_le_mul hlf.2 p0.2 p0.1 (by omega)
              obtain ⟨q, hq⟩ : ∃ q, q = lf * p / 100 := ⟨_, rfl⟩
              have q0 : 0 ≤ q ∧ q ≤ 1000000 := by omega
              obtain ⟨k, hk⟩ : ∃ k, k = takM lf p y so := ⟨_, rfl⟩
              rw [← hk] at hst a3' a4' k0
              have hk2 : k = if q ≤ y - so then q else y - so := by rw [hk]; unfold takM; rw [hq]
              have wq1 : (lf * p) / 100 = q := hq.symm
              have wq2 : (lf * p).tdiv 100 = q := by rw [Int.tdiv_eq_ediv_of_nonneg hq0, wq1]
              have wq : IntKind.i64.wrap q = q := IntWalk.i64_in _ (by omega)
              have u1 : ∀ n, (wr.drewN n).ownsRow w.heap.size 3 1 (.slice (some ⟨g, 0, none⟩) j j) j (ints s2.1) := fun n => hoS
              have u2 : ∀ n, (wr.drewN n).ownsRow w.heap.size 3 1 (.slice (some ⟨g + 1, 0, none⟩) j j) j (ints s2.2) := fun n => hoL
              have HU := Lib.hid (And.intro u1 (And.intro u2 (And.intro hst (And.intro hm (And.intro hBr hg)))))
              clear u1 u2 hst hm l3 l4 l3' l4' hl1 hl2 hoS hoL hBr hg hso hlo hq hk hgy hp hy hN hRN hSN hbW hbS hl0 hr' hlj hsucc hrows
              have wys : IntKind.i64.wrap (y - so) = y - so := IntWalk.i64_in _ (by omega)
              have wsk : IntKind.i64.wrap (so + k) = so + k := IntWalk.i64_in _ (by omega)
              have wlk : IntKind.i64.wrap (lo - k) = lo - k := IntWalk.i64_in _ (by omega)
              have hgw : w.heap.size ≤ g := hsz1
              have HK2 := Lib.hid hk2
              clear hk2
              by_cases hmn : q ≤ y - so
              case' pos =>
                have hmk : q = k := by rw [HK2.out, if_pos hmn]
              case' neg =>
                have hmk : y - so = k := by rw [HK2.out, if_neg hmn]
              all_goals
                go_wp2_with fail
                go_quiet (fail)
                go_wp2_with fail
                obtain ⟨u1, u2, hst, hm, hBr, hg⟩ := HU.out
                go_roundg (gk - 1)
                case measure => omega
                case rel =>
                  have t1 := own_int_set (u1 nq) m (so + k)
                  have t2 := t1.kept (grown_set (World.grownBy.refl _ (some (g + 1))) (p := ⟨g + 1, r, none⟩) (.inr rfl) (.int .i64 (lo - k))) (.inr (by simp [Value.ownBlock]))
                  have t3 := own_int_set ((u2 nq).kept (grown_set (World.grownBy.refl _ (some g)) (p := ⟨g, m, none⟩) (.inr rfl) (.int .i64 (so + k))) (.inr (by simp [Value.ownBlock]))) r (lo - k)
                  exact ⟨m + 1, by omega, by go_num, by rw [hst]; exact t2, by rw [hst]; exact t3, ((show Blk (wr.drewN nq) w.heap.size _ _ from hBr).far (by simp; omega) _).far (by simp; omega) _, grown_set (grown_set (grown_drewN hg nq) (.inl (by simp; omega)) _) (.inl (by simp; omega)) _⟩
            · obtain rfl : m = j := by omega
              obtain ⟨hsucc, _, _, hr', _⟩ := HR.out
              rw [← hsucc] at hoS hoL
              go_wp2_with fail
              go_roundg (ko - 1)
              case measure => omega
              case rel => exact ⟨r + 1, by omega, by go_num, hoS, hoL, hBr, hg⟩
        · obtain rfl : r = j := by omega
          rw [H0.out] at hoS hoL
          go_wp2_with fail
          go_ret3
          exact ⟨_, _, rfl, hoS, hoL, hg⟩

end Go.Proofs.Ytkfijicmeekmiaa
