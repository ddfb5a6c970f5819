/- The walks of the reference's TubesFault, TotalOf; of amountFault, coillaw's vends, slices.Equal over numbers. -/
import Derived.Test.YtoaeflegcfecaaaEq
import Derived.Test.YtoaeflegcfecaaaGreedy
namespace Go.Proofs.Ytoaeflegcfecaaa
open Go.RowKit

set_option maxHeartbeats 1000000 in
theorem refTubesFault_any (A : Option Addr) (n c : Nat) (l : List Tub) (w : World) (hr : Rd w 3 A n (tubFlat l)) :
    Calls Try.prog 10 #[.slice A n c] w fun e w' => e = .returned (.int .i64 (tubFault l)) ∧ w.grownBy w' none := by
  have hl : l.length = n := by have := hr.1; rw [tubFlat_len] at this; omega
  by_cases h10 : 10 < n
  · have h10' : (10 : Int) < (n : Int) := by omega
    go_enter Try.func10, Try.ntmps10
    go_wp2_with fail
    go_ret
    exact ⟨by simp [tubFault, hl, h10], grown_refl w⟩
  · have h10' : n ≤ 10 := by omega
    clear h10
    have hS : TubInv l 0 := TubInv.start (by omega)
    have HL := Lib.hid hl
    clear hl
    go_enter Try.func10, Try.ntmps10
    go_wp2_with fail
    go_loopg [10] n (fun k i wr => ∃ j : Nat, k + j = n ∧ i = .int .i64 j ∧ w.grownBy wr none ∧ TubInv l j)
    case atStart => exact ⟨0, by omega, rfl, grown_refl w, hS⟩
    case round =>
      obtain ⟨j, hj, rfl, hg, H⟩ := hrel
      by_cases hlt : j < n
      · obtain ⟨b, off, rfl, hb, t, ht, c0, c1, c2⟩ := tub_cells (hr.grown hg) hlt
        have HT := Lib.hid ht
        clear ht
        have HJ := Lib.hid hj
        clear hj
        by_cases hv1 : t.v < 1
        · have h1 : btw t.v 1 10000 = false := by simp [btw]; omega
          have HB := Lib.hid h1
          clear h1
          go_wp2_with fail
          go_ret
          exact ⟨retI (H.r1 HT.out HB.out).symm, grown_alloc hg _⟩
        · by_cases hv2 : 10000 < t.v
          · have h1 : btw t.v 1 10000 = false := by simp [btw]; omega
            have HB := Lib.hid h1
            clear h1
            go_wp2_with fail
            go_ret
            exact ⟨retI (H.r1 HT.out HB.out).symm, grown_alloc hg _⟩
          · have h1 : btw t.v 1 10000 = true := btw_true.2 ⟨by omega, by omega⟩
            have d1 : decide (t.v < 1) = false := by simp; omega
            have d2 : decide (10000 < t.v) = false := by simp; omega
            have HB := Lib.hid h1
            clear h1 hv1 hv2
            have hcase : (j = 0) ∨ ∃ p, j = p + 1 := by
              rcases Nat.eq_zero_or_pos j with h | h
              · exact .inl h
              · exact .inr ⟨j - 1, by omega⟩
            rcases hcase with hj0 | ⟨p, hjp⟩
            · subst hj0
              simp only [Nat.zero_mul, Nat.add_zero] at c0 c1 c2
              have HPV := Lib.hid (PrevOk.zero l t)
              have htail : t.m < 0 ∨ (0 ≤ t.m ∧ 1000 < t.m) ∨ (0 ≤ t.m ∧ t.m ≤ 1000 ∧ t.c < 0) ∨ (0 ≤ t.m ∧ t.m ≤ 1000 ∧ 0 ≤ t.c ∧ t.m < t.c) ∨ (0 ≤ t.m ∧ t.m ≤ 1000 ∧ 0 ≤ t.c ∧ t.c ≤ t.m) := by omega
              rcases htail with e1 | ⟨e1, e2⟩ | ⟨e1, e2, e3⟩ | ⟨e1, e2, e3, e4⟩ | ⟨e1, e2, e3, e4⟩
              · have HM := Lib.hid (show btw t.m 0 1000 = false by simp [btw]; omega)
                go_wp2_with fail
                go_quiet (fail)
                go_wp2_with fail
                go_ret
                exact ⟨retI (H.rm HT.out HB.out HPV.out HM.out).symm, grown_drewN (grown_alloc hg _) _⟩
              · have HM := Lib.hid (show btw t.m 0 1000 = false by simp [btw]; omega)
                go_wp2_with fail
                go_quiet (fail)
                go_wp2_with fail
                go_ret
                exact ⟨retI (H.rm HT.out HB.out HPV.out HM.out).symm, grown_drewN (grown_alloc hg _) _⟩
              · have HM := Lib.hid (show btw t.m 0 1000 = true from btw_true.2 ⟨e1, e2⟩)
                have HC := Lib.hid (show btw t.c 0 t.m = false by simp [btw]; omega)
                go_wp2_with fail
                go_quiet (fail)
                go_wp2_with fail
                go_ret
                exact ⟨retI (H.rc HT.out HB.out HPV.out HM.out HC.out).symm, grown_drewN (grown_alloc hg _) _⟩
              · have HM := Lib.hid (show btw t.m 0 1000 = true from btw_true.2 ⟨e1, e2⟩)
                have HC := Lib.hid (show btw t.c 0 t.m = false by simp [btw]; omega)
                go_wp2_with fail
                go_quiet (fail)
                go_wp2_with fail
                go_ret
                exact ⟨retI (H.rc HT.out HB.out HPV.out HM.out HC.out).symm, grown_drewN (grown_alloc hg _) _⟩
              · have HM := Lib.hid (show btw t.m 0 1000 = true from btw_true.2 ⟨e1, e2⟩)
                have HC := Lib.hid (show btw t.c 0 t.m = true from btw_true.2 ⟨e3, e4⟩)
                go_wp2_with fail
                go_quiet (fail)
                go_wp2_with fail
                have hj := HJ.out
                go_roundg (gk - 1)
                case measure => omega
                case rel => exact ⟨0 + 1, by omega, by go_num, grown_drewN (grown_alloc hg _) _, H.next HT.out HB.out HPV.out HM.out HC.out⟩
            · subst hjp
              obtain ⟨b', off', e', _, t', ht', g0, _, _⟩ := tub_cells (hr.grown hg) (k := p) (by omega)
              obtain ⟨rfl, rfl⟩ : b = b' ∧ off = off' := by simpa using e'
              have HT' := Lib.hid ht'
              clear ht' e'
              by_cases h2 : t.v ≤ t'.v
              · go_wp2_with fail
                go_quiet (fail)
                go_wp2_with fail
                go_ret
                exact ⟨retI (H.r7 HT.out HT'.out HB.out h2).symm, grown_drewN (grown_alloc hg _) _⟩
              · have HPV := Lib.hid (PrevOk.succ HT'.out (show t'.v < t.v by omega))
                have hpn : decide (t.v ≤ t'.v) = false := by simpa using h2
                have htail : t.m < 0 ∨ (0 ≤ t.m ∧ 1000 < t.m) ∨ (0 ≤ t.m ∧ t.m ≤ 1000 ∧ t.c < 0) ∨ (0 ≤ t.m ∧ t.m ≤ 1000 ∧ 0 ≤ t.c ∧ t.m < t.c) ∨ (0 ≤ t.m ∧ t.m ≤ 1000 ∧ 0 ≤ t.c ∧ t.c ≤ t.m) := by omega
                rcases htail with e1 | ⟨e1, e2⟩ | ⟨e1, e2, e3⟩ | ⟨e1, e2, e3, e4⟩ | ⟨e1, e2, e3, e4⟩
                · have HM := Lib.hid (show btw t.m 0 1000 = false by simp [btw]; omega)
                  go_wp2_with fail
                  go_quiet (fail)
                  go_wp2_with fail
                  go_ret
                  exact ⟨retI (H.rm HT.out HB.out HPV.out HM.out).symm, grown_drewN (grown_alloc hg _) _⟩
                · have HM := Lib.hid (show btw t.m 0 1000 = false by simp [btw]; omega)
                  go_wp2_with fail
                  go_quiet (fail)
                  go_wp2_with fail
                  go_ret
                  exact ⟨retI (H.rm HT.out HB.out HPV.out HM.out).symm, grown_drewN (grown_alloc hg _) _⟩
                · have HM := Lib.hid (show btw t.m 0 1000 = true from btw_true.2 ⟨e1, e2⟩)
                  have HC := Lib.hid (show btw t.c 0 t.m = false by simp [btw]; omega)
                  go_wp2_with fail
                  go_quiet (fail)
                  go_wp2_with fail
                  go_ret
                  exact ⟨retI (H.rc HT.out HB.out HPV.out HM.out HC.out).symm, grown_drewN (grown_alloc hg _) _⟩
                · have HM := Lib.hid (show btw t.m 0 1000 = true from btw_true.2 ⟨e1, e2⟩)
                  have HC := Lib.hid (show btw t.c 0 t.m = false by simp [btw]; omega)
                  go_wp2_with fail
                  go_quiet (fail)
                  go_wp2_with fail
                  go_ret
                  exact ⟨retI (H.rc HT.out HB.out HPV.out HM.out HC.out).symm, grown_drewN (grown_alloc hg _) _⟩
                · have HM := Lib.hid (show btw t.m 0 1000 = true from btw_true.2 ⟨e1, e2⟩)
                  have HC := Lib.hid (show btw t.c 0 t.m = true from btw_true.2 ⟨e3, e4⟩)
                  go_wp2_with fail
                  go_quiet (fail)
                  go_wp2_with fail
                  have hj := HJ.out
                  go_roundg (gk - 1)
                  case measure => omega
                  case rel => exact ⟨p + 1 + 1, by omega, by go_num, grown_drewN (grown_alloc hg _) _, H.next HT.out HB.out HPV.out HM.out HC.out⟩
      · obtain rfl : j = n := by omega
        go_wp2_with fail
        go_ret
        exact ⟨retI (by rw [H.done HL.out.symm]), hg⟩

set_option maxHeartbeats 400000 in
theorem refTotal_ok (A : Option Addr) (n c : Nat) (l : List Tub) (w : World) (hr : Rd w 3 A n (tubFlat l)) (hf : tubFault l = 0) :
    Calls Try.prog 16 #[.slice A n c] w fun e w' => e = .returned (.int .i64 (totalOf l)) ∧ w.grownBy w' none := by
  have hl : l.length = n := by have := hr.1; rw [tubFlat_len] at this; omega
  obtain ⟨hlen, hright, _⟩ := right_of hf
  have hn : n ≤ 10 := by omega
  have HL := Lib.hid hl
  have HR := Lib.hid hright
  clear hf hl hright
  go_enter Try.func16, Try.ntmps16
  go_wp2_with fail
  go_loopg [3, 8] n (fun k s i wr => ∃ j : Nat, k + j = n ∧ i = .int .i64 j ∧ s = .int .i64 (totalOf (l.take j)) ∧ w.grownBy wr none)
  case atStart => exact ⟨0, by omega, rfl, rfl, grown_refl w⟩
  case round =>
    obtain ⟨j, hj, rfl, rfl, hg⟩ := hrel
    by_cases hlt : j < n
    · obtain ⟨b, off, rfl, hb, t, ht, c0, c1, c2⟩ := tub_cells (hr.grown hg) hlt
      have hsum := total_take ht
      obtain ⟨h1, h2, h3, h4, h5⟩ := HR.out t (List.mem_of_getElem? ht)
      have hp : 0 ≤ t.v * t.c := Int.mul_nonneg (by omega) h3
      have hq : t.v * t.c ≤ 10000 * 1000 := Int.mul_le_mul h2 (by omega) h3 (by omega)
      have hb2 := totalOf_bound (l.take j) (fun x hx => HR.out x (List.mem_of_mem_take hx))
      have hb3 : ((l.take j).length : Int) ≤ 10 := by simp; omega
      generalize totalOf (l.take j) = s at *
      have HS := Lib.hid hsum
      have HJ := Lib.hid hj
      clear hsum hj ht
      go_wp2_with fail
      have hj := HJ.out
      go_roundg (gk - 1)
      case measure => omega
      case rel => exact ⟨j + 1, by omega, by go_num, by rw [HS.out], grown_alloc hg _⟩
    · obtain rfl : j = n := by omega
      go_wp2_with fail
      go_ret
      exact ⟨by rw [List.take_of_length_le (by have := HL.out; omega)]; rfl, hg⟩

/-- What is wrong with an amount. -/
def amtF (x : Int) : Int := if btw x 0 20000 = false then 1 else 0
theorem amountFault_any (x : Int) (w : World) : Calls Try.prog 17 #[.int .i64 x] w fun e w' => e = .returned (.int .i64 (amtF x)) ∧ w = w' := by
  by_cases h1 : x < 0
  · have h : amtF x = 1 := by unfold amtF; rw [if_pos (by simp [btw]; omega)]
    rw [h]
    clear h
    go_enter Try.func17, Try.ntmps17
    go_wp2_with fail
    go_ret
    exact ⟨rfl, rfl⟩
  · by_cases h2 : 20000 < x
    · have h : amtF x = 1 := by unfold amtF; rw [if_pos (by simp [btw]; omega)]
      rw [h]
      clear h
      go_enter Try.func17, Try.ntmps17
      go_wp2_with fail
      go_ret
      exact ⟨rfl, rfl⟩
    · have h : amtF x = 0 := by unfold amtF; rw [if_neg (by simp [btw]; omega)]
      rw [h]
      clear h
      go_enter Try.func17, Try.ntmps17
      go_wp2_with fail
      go_ret
      exact ⟨rfl, rfl⟩

set_option maxHeartbeats 400000 in
theorem lawVends_any (w : World) :
    Calls Try.prog 15 #[] w fun e w' => e = .returned (.bool true) ∧ w.grownBy w' none := by
  go_enter Try.func15, Try.ntmps15
  go_wp2_with fail
  refine (total_ok _ 1 1 [⟨10, 3, 5⟩] _ (rd_newT w ⟨10, 3, 5⟩ _) (by decide)).mono ?_
  rintro e w1 ⟨rfl, hg1⟩
  rw [show totalOf [⟨10, 3, 5⟩] = 30 from rfl]
  go_wp2_with fail
  go_ret
  exact ⟨rfl, (grown_alloc (grown_refl w) _).trans hg1⟩

set_option maxHeartbeats 400000 in
theorem greedy_bad (A : Option Addr) (n c : Nat) (l : List Tub) (x : Int) (w : World) (hr : Rd w 3 A n (tubFlat l)) (hf : amtFault l x ≠ 0) :
    Calls Try.prog 14 #[.slice A n c, .int .i64 x] w fun e w' => e = .returned (.tuple #[.slice none 0 0, .int .i64 0, .int .i64 (amtFault l x)]) ∧ w.grownBy w' none := by
  have hc := checkAmount_any A n c l x w hr
  have hb : (amtFault l x != 0) = true := by rw [bne_iff_ne]; exact hf
  generalize amtFault l x = f at *
  have HC := Lib.hid hc
  clear hc hf
  refine (callsIn_wide (n := 3)).1 ?_
  refine callsIn_of_wp_marks Try.func14 rfl trivial ?_ rfl
  simp only [Try.ntmps14, List.size_toArray, List.length_cons, List.length_nil, Nat.reduceAdd, Nat.reduceSub, Array.replicate_succ, Array.replicate_zero, List.push_toArray, List.append_toArray, List.nil_append, List.cons_append]
  refine wpIn_wide.2 ?_
  go_wp2_with fail
  refine HC.out.mono ?_
  rintro e w1 ⟨rfl, hg1⟩
  go_wp2_with fail
  exact ⟨_, results_tmp3 rfl _ _ _, rfl, hg1⟩

end Go.Proofs.Ytoaeflegcfecaaa
