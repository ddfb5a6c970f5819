/- What is wrong with a table: the walks of CheckTable and of the reference's TableFault. -/
import Derived.Test.YtkfijicmeekmiaaTabM
import Derived.Test.YtkfijicmeekmiaaHistF
import Derived.Test.YtkfijicmeekmiaaBlk
namespace Go.Proofs.Ytkfijicmeekmiaa
open Go.RowKit

def tabRowF (N i : Nat) (l : List Int) : Int := if l.length ≠ N then 3 else if allB l 0 100 = false then 1 else if l.getD i 0 ≠ 0 then 1 else if 100 < l.sum then 1 else 0
def tabG (N : Nat) : Nat → List (List Int) → Int
  | _, [] => 0
  | i, l :: R => if tabRowF N i l = 0 then tabG N (i + 1) R else tabRowF N i l
def tabF (R : List (List Int)) : Int := if R.length = 0 then 8 else if 30 < R.length then 2 else tabG R.length 0 R
theorem tabG_step {N j : Nat} {R : List (List Int)} {l : List Int} (h : R[j]? = some l) : tabG N j (R.drop j) = if tabRowF N j l = 0 then tabG N (j + 1) (R.drop (j + 1)) else tabRowF N j l := by
  rw [drop_at h]; rfl

theorem tabRowF_val {N i : Nat} {l : List Int} : (l.length ≠ N → tabRowF N i l = 3) ∧ (l.length = N → (allB l 0 100 = false → tabRowF N i l = 1) ∧ (allB l 0 100 = true → (l.getD i 0 ≠ 0 → tabRowF N i l = 1) ∧ (l.getD i 0 = 0 → (100 < l.sum → tabRowF N i l = 1) ∧ (¬ 100 < l.sum → tabRowF N i l = 0)))) := by
  unfold tabRowF
  refine ⟨fun h => by rw [if_pos h], fun h1 => ?_⟩
  rw [if_neg (by omega)]
  refine ⟨fun h => by rw [if_pos h], fun h2 => ?_⟩
  rw [if_neg (by simp [h2])]
  refine ⟨fun h => by rw [if_pos h], fun h3 => ?_⟩
  rw [if_neg (by simpa using h3)]
  exact ⟨fun h => by rw [if_pos h], fun h => by rw [if_neg h]⟩

theorem tabG_ok {N : Nat} : ∀ {R : List (List Int)} {i : Nat}, tabG N i R = 0 → ∀ k l, R[k]? = some l → tabRowF N (i + k) l = 0
  | [], _, _, k, l, h => by simp at h
  | r :: R, i, h, k, l, hk => by
    unfold tabG at h
    by_cases hr : tabRowF N i r = 0
    · rw [if_pos hr] at h
      cases k with
      | zero => simp at hk; subst hk; exact hr
      | succ k =>
        have := tabG_ok h k l (by simpa using hk)
        rw [show i + (k + 1) = i + 1 + k from by omega]; exact this
    · rw [if_neg hr] at h; exact absurd h hr
theorem tabF_ok {R : List (List Int)} (h : tabF R = 0) : (0 < R.length ∧ R.length ≤ 30) ∧ ∀ (k : Nat) (l : List Int), R[k]? = some l → l.length = R.length ∧ (∀ x ∈ l, 0 ≤ x ∧ x ≤ 100) ∧ l.getD k 0 = 0 ∧ l.sum ≤ 100 := by
  unfold tabF at h
  by_cases h1 : R.length = 0
  · rw [if_pos h1] at h; omega
  · rw [if_neg h1] at h
    by_cases h2 : 30 < R.length
    · rw [if_pos h2] at h; omega
    · rw [if_neg h2] at h
      refine ⟨by omega, fun k l hl => ?_⟩
      have h3 := tabG_ok h k l hl
      rw [Nat.zero_add] at h3
      unfold tabRowF at h3
      by_cases e1 : l.length ≠ R.length
      · rw [if_pos e1] at h3; omega
      · rw [if_neg e1] at h3
        by_cases e2 : allB l 0 100 = false
        · rw [if_pos e2] at h3; omega
        · rw [if_neg e2] at h3
          by_cases e3 : l.getD k 0 ≠ 0
          · rw [if_pos e3] at h3; omega
          · rw [if_neg e3] at h3
            by_cases e4 : 100 < l.sum
            · rw [if_pos e4] at h3; omega
            · exact ⟨by omega, allB_ok (by simpa using e2), by omega, by omega⟩

set_option maxRecDepth 100000 in
set_option maxHeartbeats 2000000 in
theorem checkTable_any (base : Nat) (A : Option Addr) (c : Nat) (R : List (List Int)) (w : World) (hr : RdT w base A R) (hn : R.length ≤ 100000) :
    Calls Try.prog 57 #[.agg #[.slice A R.length c]] w fun e w' => e = .returned (.int .i64 (tabF R)) ∧ w.grownBy w' none := by
  have hB := Blk.new w 70 #[.slice A R.length c]
  have hg0 := grown_alloc (grown_refl w) (.cells #[.slice A R.length c] 70)
  have c0 := hB.cell 0
  obtain ⟨N, hN⟩ : ∃ N, R.length = N := ⟨_, rfl⟩
  have hF : tabF R = if N = 0 then 8 else if 30 < N then 2 else tabG N 0 R := by unfold tabF; rw [hN]
  have hcN : ∀ j, j < N → j < R.length := fun j h => by omega
  rw [hN] at hB c0 hg0 hn ⊢
  rw [hF]
  have HN := Lib.hid hN
  have HL := Lib.hid hcN
  clear hF hN hcN
  by_cases h0 : N = 0
  · rw [if_pos h0]
    subst h0
    go_enter Try.func57, Try.ntmps57
    go_wp2_with fail
    go_ret
    exact ⟨rfl, hg0⟩
  · rw [if_neg h0]
    by_cases h30 : 30 < N
    · rw [if_pos h30]
      have h30' : (30 : Int) < (N : Int) := by omega
      have h0' : ¬ (N : Int) = 0 := by omega
      go_enter Try.func57, Try.ntmps57
      go_wp2_with fail
      go_ret
      exact ⟨rfl, hg0⟩
    · rw [if_neg h30]
      obtain ⟨V, hV⟩ : ∃ V, V = tabG N 0 R := ⟨_, rfl⟩
      rw [← hV]
      have HV := Lib.hid hV
      have h30' : ¬ (30 : Int) < (N : Int) := by omega
      have h0' : ¬ (N : Int) = 0 := by omega
      have h30d : decide ((30 : Int) < (N : Int)) = false := by simp; omega
      clear hV h30
      go_enter Try.func57, Try.ntmps57
      go_wp2_with fail
      generalize w.alloc (.cells #[.slice A N c] 70) = w0 at *
      generalize hgg : w.heap.size = gB at *
      go_loopg [16] N (fun k i wr => ∃ j : Nat, k + j = N ∧ i = .int .i64 j ∧ w.grownBy wr none ∧ Blk wr gB 70 #[.slice A N c] ∧ Hid (tabG N j (R.drop j) = V))
      case atStart => exact ⟨0, by omega, rfl, hg0, hB, Lib.hid (by rw [HV.out]; rfl)⟩
      case round =>
        obtain ⟨j, hj, rfl, hg, hBr, H⟩ := hrel
        by_cases hlt : j < N
        · obtain ⟨b, off, rfl, hb, l, hl, Ai, ci, cR, hrl⟩ := (hr.grown hg).row (HL.out j hlt)
          have hst := tabG_step (N := N) hl
          rw [H.out] at hst
          have hrv := tabRowF_val (N := N) (i := j) (l := l)
          have cB := hBr.cell 0
          generalize tabRowF N j l = rv at *
          have HJ := Lib.hid (And.intro hj hst)
          have hrv0 := hrv.1
          have hrv1 := hrv.2
          clear hj hst hl H hrv
          by_cases e1 : l.length = N
          · have hi1 : (l.length : Int) = (N : Int) := by rw [e1]
            have hjl : (j : Int) < (l.length : Int) := by omega
            have hab := allBetween_any Ai l.length ci l 0 100 wr hrl (by omega)
            have hll : l.length ≤ 30 := by omega
            by_cases e2 : allB l 0 100 = true
            · obtain ⟨b', off', rfl, hb', x, hx, cx⟩ := int_cells hrl (k := j) (by omega)
              have hgx : l.getD j 0 = x := by rw [List.getD_eq_getElem?_getD, hx]; rfl
              have hbd := allB_ok e2
              have hto := fun w1 (hg : wr.grownBy w1 none) => total_any (some ⟨b', off', none⟩) l.length ci l w1 (hrl.grown hg) (by omega) fun x hx => by have := hbd x hx; omega
              have hs := sum_rng (M := 100) (by omega) hbd
              rw [e2] at hab
              have hrv2 := (hrv1 e1).2 e2
              rw [hgx] at hrv2
              generalize l.sum = z at *
              have HC := Lib.hid (And.intro hab hto)
              have hcx := fun w1 (hg : wr.grownBy w1 none) => hg.cell (a := ⟨b', off' + j, none⟩) cx (by simp)
              have hz1 : -1 ≤ z ∧ z ≤ 3000 := by omega
              clear hab hto hgx hbd hs hx hrv0 hrv1
              by_cases e3 : x = 0
              · have hxe : (x != 0) = false := by simp [e3]
                by_cases e4 : 100 < z
                · have HV1 := Lib.hid (show V = 1 by have h1 := HJ.out.2; rw [(hrv2.2 e3).1 e4, if_neg (by decide)] at h1; exact h1)
                  clear hrv2 e1 e2 h0 h30' h30d hB c0 hg0
                  have hcx0 := hcx
                  go_wp2_with fail
                  refine HC.out.1.mono ?_
                  rintro e w1 ⟨rfl, hg1⟩
                  have cx1 := hcx0 _ hg1
                  clear hcx hcx0
                  go_wp2_with fail
                  refine (HC.out.2 _ hg1).mono ?_
                  rintro e w2 ⟨rfl, hg2⟩
                  go_wp2_with fail
                  go_ret
                  exact ⟨retI HV1.out.symm, (hg.trans hg1).trans hg2⟩
                · have e4' : z ≤ 100 := by omega
                  have hnx : tabG N (j + 1) (R.drop (j + 1)) = V := by have h1 := HJ.out.2; rw [(hrv2.2 e3).2 e4, if_pos rfl] at h1; exact h1.symm
                  have HX := Lib.hid hnx
                  clear hnx hrv2 e1 e2 h0 h30' h30d hB c0 hg0
                  have hcx0 := hcx
                  go_wp2_with fail
                  refine HC.out.1.mono ?_
                  rintro e w1 ⟨rfl, hg1⟩
                  have cx1 := hcx0 _ hg1
                  clear hcx hcx0
                  go_wp2_with fail
                  refine (HC.out.2 _ hg1).mono ?_
                  rintro e w2 ⟨rfl, hg2⟩
                  go_wp2_with fail
                  have hj := HJ.out.1
                  go_roundg (gk - 1)
                  case measure => omega
                  case rel => exact ⟨j + 1, by omega, by go_num, (hg.trans hg1).trans hg2, (hBr.grown hg1 (by simp)).grown hg2 (by simp), HX⟩
              · have hxe : (x != 0) = true := by simp [e3]
                have HV1 := Lib.hid (show V = 1 by have h1 := HJ.out.2; rw [hrv2.1 e3, if_neg (by decide)] at h1; exact h1)
                clear hrv2 e1 e2 h0 h30' h30d hB c0 hg0
                have hcx0 := hcx
                go_wp2_with fail
                refine HC.out.1.mono ?_
                rintro e w1 ⟨rfl, hg1⟩
                have cx1 := hcx0 _ hg1
                clear hcx hcx0
                go_wp2_with fail
                go_ret
                exact ⟨retI HV1.out.symm, hg.trans hg1⟩
            · have e2' : allB l 0 100 = false := by simpa using e2
              rw [e2'] at hab
              have HV1 := Lib.hid (show V = 1 by have h1 := HJ.out.2; rw [(hrv1 e1).1 e2', if_neg (by decide)] at h1; exact h1)
              have HC := Lib.hid hab
              clear hrv0 hrv1 e1 e2 e2' h0 h30' h30d hB c0 hg0 hab
              go_wp2_with fail
              refine HC.out.mono ?_
              rintro e w1 ⟨rfl, hg1⟩
              go_wp2_with fail
              go_ret
              exact ⟨retI HV1.out.symm, hg.trans hg1⟩
          · have hi1 : ¬ (l.length : Int) = (N : Int) := by omega
            have hib : ((l.length : Int) != (N : Int)) = true := by rw [bne_iff_ne]; exact hi1
            have HV1 := Lib.hid (show V = 3 by have h1 := HJ.out.2; rw [hrv0 e1, if_neg (by decide)] at h1; exact h1)
            clear hrv0 hrv1 e1 h0 h30' h30d hB c0 hg0
            go_wp2_with fail
            go_ret
            exact ⟨retI HV1.out.symm, hg⟩
        · obtain rfl : j = N := by omega
          have HV1 := Lib.hid (show V = 0 by rw [← H.out, List.drop_of_length_le (by have := HN.out; omega)]; rfl)
          clear H HV h0 h30' h30d hB c0 hg0
          go_wp2_with fail
          go_ret
          exact ⟨retI HV1.out.symm, hg⟩

end Go.Proofs.Ytkfijicmeekmiaa
