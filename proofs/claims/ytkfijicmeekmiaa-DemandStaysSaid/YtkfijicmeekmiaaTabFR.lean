/- The walk of the reference's TableFault. -/
import Derived.Test.YtkfijicmeekmiaaTabF
import Derived.Test.YtkfijicmeekmiaaIdx
namespace Go.Proofs.Ytkfijicmeekmiaa
open Go.RowKit

def tfB (n : Int) : Bool := !btw n 0 100
theorem tabF1_any (x : Int) (w : World) : Calls Try.prog 109 #[.int .i64 x] w fun e w2 => e = .returned (.bool (tfB x)) ∧ w = w2 := by
  by_cases h : x < 0
  · go_enter Try.func109, Try.ntmps109
    go_wp2_with fail
    go_ret
    exact ⟨retB (by rw [Bool.eq_iff_iff]; simp [tfB, btw] <;> omega), rfl⟩
  · have h' : 0 ≤ x := by omega
    clear h
    go_enter Try.func109, Try.ntmps109
    go_wp2_with fail
    go_ret
    exact ⟨retB (by rw [Bool.eq_iff_iff]; simp [tfB, btw] <;> omega), rfl⟩
theorem any_tf (l : List Int) : l.any tfB = !allB l 0 100 := by
  unfold allB tfB
  induction l with
  | nil => rfl
  | cons a r ih => simp [ih]

set_option maxRecDepth 100000 in
set_option maxHeartbeats 2000000 in
theorem refTableF_any (base : Nat) (A : Option Addr) (c : Nat) (R : List (List Int)) (w : World) (hr : RdT w base A R) (hn : R.length ≤ 100000) :
    Calls Try.prog 58 #[.agg #[.slice A R.length c]] w fun e w' => e = .returned (.int .i64 (tabF R)) ∧ w.grownBy w' none := by
  have hB := Blk.new w 70 #[.slice A R.length c]
  have hg0 := grown_alloc (grown_refl w) (.cells #[.slice A R.length c] 70)
  have c0 := hB.cell 0
  obtain ⟨N, hN⟩ : ∃ N, R.length = N := ⟨_, rfl⟩
  have hF : tabF R = if N = 0 then 8 else if 30 < N then 2 else tabG N 0 R := by unfold tabF; rw [hN]
  have hcN : ∀ j, j < N → j < R.length := fun j h => by omega
  rw [hN] at hB c0 hg0 hn ⊢
  rw [hF]
  have HN := Lib.hid hN
  have HL := Lib.hid hcN
  clear hF hN hcN
  by_cases h0 : N = 0
  · rw [if_pos h0]
    subst h0
    go_enter Try.func58, Try.ntmps58
    go_wp2_with fail
    go_ret
    exact ⟨rfl, hg0⟩
  · rw [if_neg h0]
    by_cases h30 : 30 < N
    · rw [if_pos h30]
      have h30' : (30 : Int) < (N : Int) := by omega
      have h0' : ¬ (N : Int) = 0 := by omega
      go_enter Try.func58, Try.ntmps58
      go_wp2_with fail
      go_ret
      exact ⟨rfl, hg0⟩
    · rw [if_neg h30]
      obtain ⟨V, hV⟩ : ∃ V, V = tabG N 0 R := ⟨_, rfl⟩
      rw [← hV]
      have HV := Lib.hid hV
      have h30' : ¬ (30 : Int) < (N : Int) := by omega
      have h0' : ¬ (N : Int) = 0 := by omega
      have h30d : decide ((30 : Int) < (N : Int)) = false := by simp; omega
      clear hV h30
      go_enter Try.func58, Try.ntmps58
      go_wp2_with fail
      generalize w.alloc (.cells #[.slice A N c] 70) = w0 at *
      generalize hgg : w.heap.size = gB at *
      go_loopg [16] N (fun k i wr => ∃ j : Nat, k + j = N ∧ i = .int .i64 j ∧ w.grownBy wr none ∧ Blk wr gB 70 #[.slice A N c] ∧ Hid (tabG N j (R.drop j) = V))
      case atStart => exact ⟨0, by omega, rfl, hg0, hB, Lib.hid (by rw [HV.out]; rfl)⟩
      case round =>
        obtain ⟨j, hj, rfl, hg, hBr, H⟩ := hrel
        by_cases hlt : j < N
        · obtain ⟨b, off, rfl, hb, l, hl, Ai, ci, cR, hrl⟩ := (hr.grown hg).row (HL.out j hlt)
          have hst := tabG_step (N := N) hl
          rw [H.out] at hst
          have hrv := tabRowF_val (N := N) (i := j) (l := l)
          have cB := hBr.cell 0
          generalize tabRowF N j l = rv at *
          have HJ := Lib.hid (And.intro hj hst)
          have hrv0 := hrv.1
          have hrv1 := hrv.2
          clear hj hst hl H hrv
          by_cases e1 : l.length = N
          · have hi1 : (l.length : Int) = (N : Int) := by rw [e1]
            have hjl : (j : Int) < (l.length : Int) := by omega
            have hab := containsFunc_any 109 tfB Ai l.length ci l wr hrl (by omega) (enters_of Try.func109 (by kernel_rfl) rfl) tabF1_any
            rw [any_tf] at hab
            have hll : l.length ≤ 30 := by omega
            by_cases e2 : allB l 0 100 = true
            · obtain ⟨b', off', rfl, hb', x, hx, cx⟩ := int_cells hrl (k := j) (by omega)
              have hgx : l.getD j 0 = x := by rw [List.getD_eq_getElem?_getD, hx]; rfl
              have hbd := allB_ok e2
              have hto := fun w1 (hg : wr.grownBy w1 none) => refSum_any (some ⟨b', off', none⟩) l.length ci l w1 (hrl.grown hg) (by omega) fun x hx => by have := hbd x hx; omega
              have hs := sum_rng (M := 100) (by omega) hbd
              rw [e2] at hab
              have hrv2 := (hrv1 e1).2 e2
              rw [hgx] at hrv2
              generalize l.sum = z at *
              have HC := Lib.hid (And.intro hab hto)
              have hcx := fun w1 (hg : wr.grownBy w1 none) => hg.cell (a := ⟨b', off' + j, none⟩) cx (by simp)
              have hz1 : -1 ≤ z ∧ z ≤ 3000 := by omega
              clear hab hto hgx hbd hs hx hrv0 hrv1
              by_cases e3 : x = 0
              · have hxe : (x != 0) = false := by simp [e3]
                by_cases e4 : 100 < z
                · have HV1 := Lib.hid (show V = 1 by have h1 := HJ.out.2; rw [(hrv2.2 e3).1 e4, if_neg (by decide)] at h1; exact h1)
                  clear hrv2 e1 e2 h0 h30' h30d hB c0 hg0
                  have hcx0 := hcx
                  go_wp2_with fail
                  refine HC.out.1.mono ?_
                  rintro e w1 ⟨rfl, hg1⟩
                  have cx1 := hcx0 _ hg1
                  clear hcx hcx0
                  go_wp2_with fail
                  refine (HC.out.2 _ hg1).mono ?_
                  rintro e w2 ⟨rfl, hg2⟩
                  go_wp2_with fail
                  go_ret
                  exact ⟨retI HV1.out.symm, (hg.trans hg1).trans hg2⟩
                · have e4' : z ≤ 100 := by omega
                  have hnx : tabG N (j + 1) (R.drop (j + 1)) = V := by have h1 := HJ.out.2; rw [(hrv2.2 e3).2 e4, if_pos rfl] at h1; exact h1.symm
                  have HX := Lib.hid hnx
                  clear hnx hrv2 e1 e2 h0 h30' h30d hB c0 hg0
                  have hcx0 := hcx
                  go_wp2_with fail
                  refine HC.out.1.mono ?_
                  rintro e w1 ⟨rfl, hg1⟩
                  have cx1 := hcx0 _ hg1
                  clear hcx hcx0
                  go_wp2_with fail
                  refine (HC.out.2 _ hg1).mono ?_
                  rintro e w2 ⟨rfl, hg2⟩
                  go_wp2_with fail
                  have hj := HJ.out.1
                  go_roundg (gk - 1)
                  case measure => omega
                  case rel => exact ⟨j + 1, by omega, by go_num, (hg.trans hg1).trans hg2, (hBr.grown hg1 (by simp)).grown hg2 (by simp), HX⟩
              · have hxe : (x != 0) = true := by simp [e3]
                have HV1 := Lib.hid (show V = 1 by have h1 := HJ.out.2; rw [hrv2.1 e3, if_neg (by decide)] at h1; exact h1)
                clear hrv2 e1 e2 h0 h30' h30d hB c0 hg0
                have hcx0 := hcx
                go_wp2_with fail
                refine HC.out.1.mono ?_
                rintro e w1 ⟨rfl, hg1⟩
                have cx1 := hcx0 _ hg1
                clear hcx hcx0
                go_wp2_with fail
                go_ret
                exact ⟨retI HV1.out.symm, hg.trans hg1⟩
            · have e2' : allB l 0 100 = false := by simpa using e2
              rw [e2'] at hab
              have HV1 := Lib.hid (show V = 1 by have h1 := HJ.out.2; rw [(hrv1 e1).1 e2', if_neg (by decide)] at h1; exact h1)
              have HC := Lib.hid hab
              clear hrv0 hrv1 e1 e2 e2' h0 h30' h30d hB c0 hg0 hab
              go_wp2_with fail
              refine HC.out.mono ?_
              rintro e w1 ⟨rfl, hg1⟩
              go_wp2_with fail
              go_ret
              exact ⟨retI HV1.out.symm, hg.trans hg1⟩
          · have hi1 : ¬ (l.length : Int) = (N : Int) := by omega
            have hib : ((l.length : Int) != (N : Int)) = true := by rw [bne_iff_ne]; exact hi1
            have HV1 := Lib.hid (show V = 3 by have h1 := HJ.out.2; rw [hrv0 e1, if_neg (by decide)] at h1; exact h1)
            clear hrv0 hrv1 e1 h0 h30' h30d hB c0 hg0
            go_wp2_with fail
            go_ret
            exact ⟨retI HV1.out.symm, hg⟩
        · obtain rfl : j = N := by omega
          have HV1 := Lib.hid (show V = 0 by rw [← H.out, List.drop_of_length_le (by have := HN.out; omega)]; rfl)
          clear H HV h0 h30' h30d hB c0 hg0
          go_wp2_with fail
          go_ret
          exact ⟨retI HV1.out.symm, hg⟩

end Go.Proofs.Ytkfijicmeekmiaa
