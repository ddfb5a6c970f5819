/- The walks of the reference's DoubtsFault, of Doubts with an error. -/
import Derived.Test.YtoaeflegcfecaaaDoubtsF
namespace Go.Proofs.Ytoaeflegcfecaaa
open Go.RowKit

/-- The error of numbers of doubts. -/
def dbtF (l1 l2 : List Int) : Int := if allB (l1 ++ l2) 1 20000 then 0 else 1
theorem allB_app (l1 l2 : List Int) (a b : Int) : allB (l1 ++ l2) a b = (allB l1 a b && allB l2 a b) := by simp [allB]

set_option maxHeartbeats 800000 in
theorem refDoubtsFault_any (B C : Option Addr) (np cp nt ct : Nat) (l1 l2 : List Int) (w : World) (hr1 : Rd w 1 B np (ints l1)) (hr2 : Rd w 1 C nt (ints l2)) (hB : B = none → cp = 0) (hC : C = none → ct = 0) (hnp : np ≤ 60) (hnt : nt ≤ 20) :
    Calls Try.prog 34 #[.slice B np cp, .slice C nt ct] w fun e w' => e = .returned (.int .i64 (dbtF l1 l2)) ∧ w.grownBy w' none := by
  have hl1 : l1.length = np := by have := hr1.1; simpa [ints] using this
  have hl2 : l2.length = nt := by have := hr2.1; simpa [ints] using this
  have HC := Lib.hid (concat_any B C np cp nt ct l1 l2 w hr1 hr2 hB hC hnp (by omega))
  have HR := Lib.hid (show dbtF l1 l2 = if allB (l1 ++ l2) 1 20000 then 0 else 1 from rfl)
  have hlen : (l1 ++ l2).length = np + nt := by simp [hl1, hl2]
  generalize l1 ++ l2 = l at *
  generalize dbtF l1 l2 = res at *
  have HL := Lib.hid hlen
  have d1 : decide ((60 : Int) < (np : Int)) = false := by simp; omega
  have d2 : decide ((20 : Int) < (nt : Int)) = false := by simp; omega
  clear hl1 hl2 hlen hr1 hr2 hB hC
  go_enter Try.func34, Try.ntmps34
  go_wp2_with fail
  refine HC.out.mono ?_
  rintro e w1 ⟨v, rfl, hown, hg1⟩
  clear d1 d2
  obtain ⟨n, hn⟩ : ∃ n, n = np + nt := ⟨_, rfl⟩
  rw [← hn] at hown
  have hn80 : n ≤ 80 := by omega
  have HN := Lib.hid hn
  clear hn
  obtain ⟨A, c, rfl, _, _, hr, _⟩ := Rd.of_own hown
  clear hown
  go_wp2_with fail
  go_loopg [20] n (fun k i wr => ∃ j : Nat, k + j = n ∧ i = .int .i64 j ∧ w1.grownBy wr none ∧ Hid (allB (l.drop j) 1 20000 = allB l 1 20000))
  case atStart => exact ⟨0, by omega, rfl, grown_refl w1, Lib.hid (by simp)⟩
  case round =>
    obtain ⟨j, hj, rfl, hg, H⟩ := hrel
    by_cases hlt : j < n
    · obtain ⟨b', off, rfl, hb, x, hx, c0⟩ := int_cells (hr.grown hg) hlt
      have HS := Lib.hid (allB_step (a := 1) (b := 20000) hx)
      have HJ := Lib.hid hj
      clear hx hj
      by_cases h1 : x < 1
      · have HX := Lib.hid (show btw x 1 20000 = false by unfold btw; simp; omega)
        go_wp2_with fail
        go_ret
        refine ⟨?_, hg1.trans hg⟩
        rw [HR.out, ← H.out, HS.out, HX.out]; rfl
      · by_cases h2 : (20000 : Int) < x
        · have HX := Lib.hid (show btw x 1 20000 = false by unfold btw; simp; omega)
          go_wp2_with fail
          go_ret
          refine ⟨?_, hg1.trans hg⟩
          rw [HR.out, ← H.out, HS.out, HX.out]; rfl
        · have HX := Lib.hid (show btw x 1 20000 = true by unfold btw; simp; omega)
          go_wp2_with fail
          have hj := HJ.out
          go_roundg (gk - 1)
          case measure => omega
          case rel => exact ⟨j + 1, by omega, by go_num, hg, Lib.hid (by rw [← H.out, HS.out, HX.out]; rfl)⟩
    · obtain rfl : j = n := by omega
      go_wp2_with fail
      go_ret
      refine ⟨?_, hg1.trans hg⟩
      rw [HR.out, ← H.out, List.drop_of_length_le (by have := HL.out; have := HN.out; omega)]
      rfl

theorem doubts_tub (A B C : Option Addr) (n c np cp nt ct : Nat) (l : List Tub) (w : World) (hr : Rd w 3 A n (tubFlat l)) (hf : tubFault l ≠ 0) :
    Calls Try.prog 31 #[.slice A n c, .slice B np cp, .slice C nt ct] w fun e w' => e = .returned (.tuple #[.slice none 0 0, .int .i64 (tubFault l)]) ∧ w.grownBy w' none := by
  have hc := checkTubes_any A n c l w hr
  generalize tubFault l = f at *
  have hb : (f != 0) = true := by rw [bne_iff_ne]; exact hf
  have HC := Lib.hid hc
  clear hc hf
  go_enter Try.func31, Try.ntmps31
  go_wp2_with fail
  refine HC.out.mono ?_
  rintro e w1 ⟨rfl, hg1⟩
  go_wp2_with fail
  go_ret2
  exact ⟨rfl, hg1⟩

theorem doubts_num (A B C : Option Addr) (n c np cp nt ct : Nat) (l : List Tub) (l1 l2 : List Int) (w : World) (hr : Rd w 3 A n (tubFlat l)) (hf : tubFault l = 0) (hr1 : Rd w 1 B np (ints l1)) (hr2 : Rd w 1 C nt (ints l2)) (hnp : np ≤ 60) (hnt : nt ≤ 20)
    (hd : dbtF l1 l2 ≠ 0) :
    Calls Try.prog 31 #[.slice A n c, .slice B np cp, .slice C nt ct] w fun e w' => e = .returned (.tuple #[.slice none 0 0, .int .i64 1]) ∧ w.grownBy w' none := by
  have hc := checkTubes_any A n c l w hr
  rw [hf] at hc
  have had : (allB l1 1 20000 && allB l2 1 20000) = false := by
    rw [← allB_app]
    by_cases h : allB (l1 ++ l2) 1 20000 = true
    · exact absurd (by unfold dbtF; rw [if_pos h]) hd
    · simpa using h
  have HC := Lib.hid hc
  have d1 : decide ((60 : Int) < (np : Int)) = false := by simp; omega
  have d2 : decide ((20 : Int) < (nt : Int)) = false := by simp; omega
  clear hc hf hd
  by_cases h1 : allB l1 1 20000 = true
  · have h2 : allB l2 1 20000 = false := by simpa [h1] using had
    have H := Lib.hid (And.intro h1 h2)
    clear h1 h2 had
    go_enter Try.func31, Try.ntmps31
    go_wp2_with fail
    refine HC.out.mono ?_
    rintro e w1 ⟨rfl, hg1⟩
    go_wp2_with fail
    refine (allBetween_any B np cp l1 1 20000 _ (hr1.grown hg1) (by omega)).mono ?_
    rw [H.out.1]
    rintro e w2 ⟨rfl, hg2⟩
    go_wp2_with fail
    refine (allBetween_any C nt ct l2 1 20000 _ ((hr2.grown hg1).grown hg2) (by omega)).mono ?_
    rw [H.out.2]
    rintro e w3 ⟨rfl, hg3⟩
    go_wp2_with fail
    go_ret2
    exact ⟨rfl, (hg1.trans hg2).trans hg3⟩
  · have h1 : allB l1 1 20000 = false := by simpa using h1
    have H := Lib.hid h1
    clear h1 had
    go_enter Try.func31, Try.ntmps31
    go_wp2_with fail
    refine HC.out.mono ?_
    rintro e w1 ⟨rfl, hg1⟩
    go_wp2_with fail
    refine (allBetween_any B np cp l1 1 20000 _ (hr1.grown hg1) (by omega)).mono ?_
    rw [H.out]
    rintro e w2 ⟨rfl, hg2⟩
    go_wp2_with fail
    go_ret2
    exact ⟨rfl, hg1.trans hg2⟩

end Go.Proofs.Ytoaeflegcfecaaa
