/- The walk of Together. -/
import Derived.Test.YtkfijicmeekmiaaPlus
namespace Go.Proofs.Ytkfijicmeekmiaa
open Go.RowKit

/-- The histogram of k + 1 days. -/
def togP (one : List Int) : Nat → List Int
  | 0 => one
  | k + 1 => cv (togP one k) one
def pw (s : Int) : Nat → Int
  | 0 => 1
  | k + 1 => pw s k * s
def togE (l : List Int) (days : Int) : Int :=
  if histF l ≠ 0 then histF l else if btw days 1 7 = false then 1 else if 2001 < ((trN l : Int) - 1) * days + 1 ∨ fitB l.sum days.toNat 1 = false then 2 else 0
def togL (l : List Int) (days : Int) : List Int := togP (l.take (trN l)) (days.toNat - 1)

theorem togP_len {one : List Int} (h : 0 < one.length) (k : Nat) : (togP one k).length = (one.length - 1) * (k + 1) + 1 := by
  induction k with
  | zero => simp [togP]; omega
  | succ k ih =>
    simp only [togP]
    rw [cv_len, ih, Nat.mul_add (one.length - 1) (k + 1) 1]
    omega
theorem togP_sum {one : List Int} (h : 0 < one.length) (k : Nat) : (togP one k).sum = pw one.sum (k + 1) := by
  induction k with
  | zero => simp [togP, pw]
  | succ k ih =>
    simp only [togP]
    rw [cv_sum h, ih]
    rfl
theorem togP_nonneg {one : List Int} (h : ∀ y ∈ one, 0 ≤ y) (k : Nat) : ∀ y ∈ togP one k, 0 ≤ y := by
  induction k with
  | zero => exact h
  | succ k ih => exact cvOut_nonneg ih h _ _
theorem fit_pw {s : Int} {d j : Nat} (h : fitB s d (pw s j) = true) : ∀ i, i < d → pw s (j + i + 1) ≤ 1000000000 := by
  induction d generalizing j with
  | zero => intro i hi; omega
  | succ d ih =>
    simp only [fitB] at h
    split at h
    · cases h
    · rename_i h0
      intro i hi
      rcases i with _ | i
      · show pw s j * s ≤ _
        omega
      · have := ih (j := j + 1) h i (by omega)
        rwa [show j + 1 + i + 1 = j + (i + 1) + 1 from by omega] at this
theorem tr_pos {l : List Int} (h : 0 < l.sum) : 0 < trN l := by
  rcases Nat.eq_zero_or_pos (trN l) with h0 | h0
  · have := trN_sum l
    rw [h0] at this
    simp at this
    omega
  · exact h0

/-- The facts of a histogram that may be added. -/
theorem tog_ok {l : List Int} {days : Int} (h : togE l days = 0) : histF l = 0 ∧ (1 ≤ days ∧ days ≤ 7) ∧ (trN l - 1) * days.toNat + 1 ≤ 2001 ∧ (∀ i, i < days.toNat → pw l.sum (i + 1) ≤ 1000000000) ∧ fitB l.sum days.toNat 1 = true := by
  unfold togE at h
  by_cases h1 : histF l ≠ 0
  · rw [if_pos h1] at h; exact absurd h h1
  · rw [if_neg h1] at h
    have h1' : histF l = 0 := by omega
    by_cases h2 : btw days 1 7 = false
    · rw [if_pos h2] at h; omega
    · rw [if_neg h2] at h
      obtain ⟨d0, d1⟩ := btw_true.1 (show btw days 1 7 = true from by simpa using h2)
      by_cases h3 : 2001 < ((trN l : Int) - 1) * days + 1 ∨ fitB l.sum days.toNat 1 = false
      · rw [if_pos h3] at h; omega
      · have h4 : fitB l.sum days.toNat 1 = true := by
          cases hb : fitB l.sum days.toNat 1
          · exact absurd (.inr hb) h3
          · rfl
        have hp := tr_pos (histF_ok h1').2.2.1
        refine ⟨h1', ⟨d0, d1⟩, ?_, fun i hi => ?_, h4⟩
        · have h5 : ¬ 2001 < ((trN l : Int) - 1) * days + 1 := fun h => h3 (.inl h)
          have e : (((trN l - 1) * days.toNat + 1 : Nat) : Int) = ((trN l : Int) - 1) * days + 1 := by
            rw [Int.natCast_add, Int.natCast_mul, show ((trN l - 1 : Nat) : Int) = (trN l : Int) - 1 from by omega, show ((days.toNat : Nat) : Int) = days from by omega]
            rfl
          omega
        · have := fit_pw (j := 0) h4 i hi
          rwa [Nat.zero_add] at this

set_option maxRecDepth 100000 in
set_option maxHeartbeats 1000000 in
theorem together_ok (A : Option Addr) (n c : Nat) (l : List Int) (days : Int) (w : World) (hr : Rd w 1 A n (ints l)) (hnc : n ≤ c) (hn : n ≤ 100000) (ht : togE l days = 0) :
    Calls Try.prog 40 #[.slice A n c, .int .i64 days] w fun e w' => ∃ v, e = .returned (.tuple #[v, .int .i64 0]) ∧ w'.ownsRow w.heap.size 3 1 v (togL l days).length (ints (togL l days)) ∧ w.grownBy w' none := by
  have hl : l.length = n := by have := hr.1; simpa [ints] using this
  obtain ⟨hf, ⟨d0, d1⟩, hlen, hpw, hfit⟩ := tog_ok ht
  obtain ⟨f1, f2, f3, f4⟩ := histF_ok hf
  have hp := tr_pos f3
  have hle := trN_le l
  have hck := checkHist_any A n c l w hr hn
  rw [hf] at hck
  have hbt := between_any days 1 7
  rw [btw_true.2 ⟨d0, d1⟩] at hbt
  have htr := fun w1 (hg : w.grownBy w1 none) => trim_any A n c l w1 (hr.grown hg) hn hnc
  have htt := fun w1 (hg : w.grownBy w1 none) => total_any A n c l w1 (hr.grown hg) (by omega) fun x hx => by have := f2 x hx; omega
  obtain ⟨d, rfl⟩ : ∃ d : Nat, days = d := ⟨days.toNat, by omega⟩
  rw [show ((d : Int)).toNat = d from by omega] at hlen hpw hfit
  have hft := fun w => fits_any l.sum d w ⟨by omega, f4⟩ (by omega)
  rw [hfit] at hft
  have hone : (l.take (trN l)).length = trN l := by rw [List.length_take]; omega
  have hclo := fun w1 (hg : w.grownBy w1 none) => cloneInts_any A (trN l) c (l.take (trN l)) w1 ((hr.grown hg).pre (by omega)) (by omega)
  have hrd1 := fun w1 (hg : w.grownBy w1 none) => (hr.grown hg).pre (k := trN l) (by omega)
  have hL : togL l d = togP (l.take (trN l)) (d - 1) := by unfold togL; rw [show ((d : Int)).toNat = d from by omega]
  have hos := trN_sum l
  have hpos : ∀ y ∈ l.take (trN l), 0 ≤ y ∧ y ≤ 1000000000 := fun y hy => f2 y (List.mem_of_mem_take hy)
  generalize l.take (trN l) = one at *
  rw [hL]
  clear hL
  have hj : ∀ j, j < d → (togP one j).length ≤ 2001 ∧ 0 < (togP one j).length ∧ (∀ y ∈ togP one j, 0 ≤ y ∧ y ≤ 1000000000) ∧ (j + 1 < d → (togP one j).sum * one.sum ≤ 1000000000) := by
    intro j hj
    have e1 := togP_len (one := one) (by omega) j
    have e2 := togP_sum (one := one) (by omega) j
    have e3 := togP_nonneg (fun y hy => (hpos y hy).1) j
    have e4 : (one.length - 1) * (j + 1) ≤ (one.length - 1) * d := Nat.mul_le_mul_left _ (by omega)
    rw [hone] at e4 e1
    refine ⟨by omega, by omega, fun y hy => ⟨e3 y hy, ?_⟩, fun hlt => ?_⟩
    · have := le_sum e3 y hy
      have := hpw j hj
      rw [e2, hos] at *
      omega
    · have := hpw (j + 1) hlt
      rw [e2, hos]
      exact this
  have hlo : (0 : Int) ≤ ((trN l : Int) - 1) * d ∧ ((trN l : Int) - 1) * d + 1 ≤ 2001 := by
    have e : (((trN l - 1) * d + 1 : Nat) : Int) = ((trN l : Int) - 1) * d + 1 := by
      rw [Int.natCast_add, Int.natCast_mul, show ((trN l - 1 : Nat) : Int) = (trN l : Int) - 1 from by omega]; rfl
    omega
  have htn : trN l ≤ 2001 := by omega
  generalize trN l = m at *
  generalize l.sum = s at *
  have hd : decide ((2001 : Int) < ((m : Int) - 1) * d + 1) = false := by simp; omega
  have hd2 : ¬ (2001 : Int) < ((m : Int) - 1) * d + 1 := by omega
  have HC := Lib.hid (And.intro hck (And.intro hbt (And.intro htr (And.intro htt (And.intro hft (And.intro hclo (And.intro hrd1 (And.intro hj (And.intro hpos hone)))))))))
  clear hck hbt htr htt hft hclo hrd1 hj hpos hone hf hlen hpw hfit f1 f2 f3 f4 hos ht hl hle
  go_enter Try.func40, Try.ntmps40
  go_wp2_with fail
  refine HC.out.1.mono ?_
  rintro e w1 ⟨rfl, hg1⟩
  go_wp2_with fail
  refine (HC.out.2.1 _).mono ?_
  rintro e w' ⟨rfl, rfl⟩
  go_wp2_with fail
  refine (HC.out.2.2.1 _ hg1).mono ?_
  rintro e w2 ⟨rfl, hg2⟩
  have hg02 := hg1.trans hg2
  go_wp2_with fail
  refine (HC.out.2.2.2.1 _ hg02).mono ?_
  rintro e w3 ⟨rfl, hg3⟩
  have hg03 := hg02.trans hg3
  go_wp2_with fail
  refine (HC.out.2.2.2.2.1 _).mono ?_
  rintro e w4 ⟨rfl, hg4⟩
  have hg04 := hg03.trans hg4
  go_wp2_with fail
  refine (HC.out.2.2.2.2.2.1 _ hg04).mono ?_
  rintro e w5 ⟨v5, rfl, hown5, hg5⟩
  have hg05 := hg04.trans hg5
  have hown5' := own_mono hown5 hg04.size
  clear hg1 hg2 hg02 hg3 hg03 hg4 hg5 hown5
  go_wp2_with fail
  go_loopg [8, 37] (d - 1) (fun k v ii wr => ∃ j : Nat, k + j + 1 = d ∧ ii = .int .i64 j ∧ wr.ownsRow w.heap.size 3 1 v (togP one j).length (ints (togP one j)) ∧ w.grownBy wr none)
  case atStart => exact ⟨0, by omega, rfl, by
    have h := hown5'
    rw [← HC.out.2.2.2.2.2.2.2.2.2] at h
    exact h, hg05⟩
  case round =>
    obtain ⟨j, hj, rfl, hown, hg⟩ := hrel
    by_cases hlt : j + 1 < d
    · obtain ⟨j0, j1, j2, j3⟩ := HC.out.2.2.2.2.2.2.2.1 j (by omega)
      obtain ⟨AS, cS, rfl, _, _, hrS, _⟩ := Rd.of_own hown
      have hpl := plus_any AS A (togP one j).length m cS c (togP one j) one wr hrS (HC.out.2.2.2.2.2.2.1 _ hg) ⟨j1, j0⟩ ⟨by omega, htn⟩ j2 HC.out.2.2.2.2.2.2.2.2.1 (j3 hlt)
      have hlt2 : (j : Int) < (d : Int) - 1 := by omega
      have hnx : (togP one (j + 1)).length = (togP one j).length + m - 1 := by
        show (cv (togP one j) one).length = _
        rw [cv_len, HC.out.2.2.2.2.2.2.2.2.2]
      have hnx2 : togP one (j + 1) = cv (togP one j) one := rfl
      have HJ := Lib.hid (And.intro hj (And.intro hnx (And.intro hpl hnx2)))
      generalize (togP one j).length = ln at *
      clear hj hnx hpl hnx2 j0 j1 j2 j3 hrS hown
      go_wp2_with fail
      refine HJ.out.2.2.1.mono ?_
      rintro e w6 ⟨v6, rfl, hown6, hg6⟩
      go_wp2_with fail
      obtain ⟨hj, hnx, -, hnx2⟩ := HJ.out
      go_roundg (gk - 1)
      case measure => omega
      case rel => exact ⟨j + 1, by omega, by go_num, by rw [hnx, hnx2]; exact own_mono hown6 hg.size, hg.trans hg6⟩
    · have hde := Lib.hid (show d - 1 = j from by omega)
      have hlt2 : ¬ (j : Int) < (d : Int) - 1 := by omega
      have hd3 : decide ((j : Int) < (d : Int) - 1) = false := by simpa using hlt2
      go_wp2_with fail
      go_ret2
      rw [hde.out]
      exact ⟨_, rfl, hown, hg⟩

set_option maxRecDepth 100000 in
set_option maxHeartbeats 1000000 in
theorem together_bad (A : Option Addr) (n c : Nat) (l : List Int) (days : Int) (w : World) (hr : Rd w 1 A n (ints l)) (hnc : n ≤ c) (hn : n ≤ 100000) (hdd : -100 ≤ days ∧ days ≤ 100) (ht : togE l days ≠ 0) :
    Calls Try.prog 40 #[.slice A n c, .int .i64 days] w fun e w' => e = .returned (.tuple #[.slice none 0 0, .int .i64 (togE l days)]) ∧ w.grownBy w' none := by
  have hl : l.length = n := by have := hr.1; simpa [ints] using this
  have hck := checkHist_any A n c l w hr hn
  obtain ⟨V, hV⟩ : ∃ V, V = togE l days := ⟨_, rfl⟩
  rw [← hV] at ht ⊢
  unfold togE at hV
  by_cases hf : histF l = 0
  · rw [if_neg (by omega)] at hV
    rw [hf] at hck
    have hbt := between_any days 1 7
    by_cases hb : btw days 1 7 = false
    · rw [if_pos hb] at hV
      rw [hb] at hbt
      have HC := Lib.hid (And.intro hck (And.intro hbt hV))
      clear hck hbt hV hf hb hl ht
      go_enter Try.func40, Try.ntmps40
      go_wp2_with fail
      refine HC.out.1.mono ?_
      rintro e w1 ⟨rfl, hg1⟩
      go_wp2_with fail
      refine (HC.out.2.1 _).mono ?_
      rintro e w' ⟨rfl, rfl⟩
      go_wp2_with fail
      go_ret2
      exact ⟨by rw [HC.out.2.2]; rfl, hg1⟩
    · rw [if_neg hb] at hV
      have hb' : btw days 1 7 = true := by simpa using hb
      obtain ⟨d0, d1⟩ := btw_true.1 hb'
      rw [hb'] at hbt
      have h2 : 2001 < ((trN l : Int) - 1) * days + 1 ∨ fitB l.sum days.toNat 1 = false := by
        by_cases h : 2001 < ((trN l : Int) - 1) * days + 1 ∨ fitB l.sum days.toNat 1 = false
        · exact h
        · rw [if_neg h] at hV; exact absurd hV ht
      rw [if_pos h2] at hV
      obtain ⟨f1, f2, f3, f4⟩ := histF_ok hf
      have hle := trN_le l
      have hp := tr_pos f3
      have htr := fun w1 (hg : w.grownBy w1 none) => trim_any A n c l w1 (hr.grown hg) hn hnc
      have htt := fun w1 (hg : w.grownBy w1 none) => total_any A n c l w1 (hr.grown hg) (by omega) fun x hx => by have := f2 x hx; omega
      obtain ⟨d, rfl⟩ : ∃ d : Nat, days = d := ⟨days.toNat, by omega⟩
      rw [show ((d : Int)).toNat = d from by omega] at h2
      have hft := fun w => fits_any l.sum d w ⟨by omega, f4⟩ (by omega)
      have htn : trN l ≤ 2001 := by omega
      have hlo : (0 : Int) ≤ ((trN l : Int) - 1) * d := Int.mul_nonneg (by omega) (by omega)
      have hhi : ((trN l : Int) - 1) * d ≤ 2001 * 7 := Int.mul_le_mul (by omega) (by omega) (by omega) (by omega)
      generalize trN l = m at *
      generalize l.sum = s at *
      by_cases h3 : 2001 < ((m : Int) - 1) * d + 1
      · have hd : decide ((2001 : Int) < ((m : Int) - 1) * d + 1) = true := by simpa using h3
        have HC := Lib.hid (And.intro hck (And.intro hbt (And.intro htr hV)))
        clear hck hbt htr hV hf hb hl ht htt hft f1 f2 f3 f4 h2
        go_enter Try.func40, Try.ntmps40
        go_wp2_with fail
        refine HC.out.1.mono ?_
        rintro e w1 ⟨rfl, hg1⟩
        go_wp2_with fail
        refine (HC.out.2.1 _).mono ?_
        rintro e w' ⟨rfl, rfl⟩
        go_wp2_with fail
        refine (HC.out.2.2.1 _ hg1).mono ?_
        rintro e w2 ⟨rfl, hg2⟩
        go_wp2_with fail
        go_ret2
        exact ⟨by rw [HC.out.2.2.2]; rfl, hg1.trans hg2⟩
      · have hd : decide ((2001 : Int) < ((m : Int) - 1) * d + 1) = false := by simpa using h3
        have h4 : fitB s d 1 = false := by rcases h2 with h | h; exact absurd h h3; exact h
        rw [h4] at hft
        have HC := Lib.hid (And.intro hck (And.intro hbt (And.intro htr (And.intro htt (And.intro hft hV)))))
        clear hck hbt htr hV hf hb hl ht htt hft f1 f2 f3 f4 h2
        go_enter Try.func40, Try.ntmps40
        go_wp2_with fail
        refine HC.out.1.mono ?_
        rintro e w1 ⟨rfl, hg1⟩
        go_wp2_with fail
        refine (HC.out.2.1 _).mono ?_
        rintro e w' ⟨rfl, rfl⟩
        go_wp2_with fail
        refine (HC.out.2.2.1 _ hg1).mono ?_
        rintro e w2 ⟨rfl, hg2⟩
        have hg02 := hg1.trans hg2
        go_wp2_with fail
        refine (HC.out.2.2.2.1 _ hg02).mono ?_
        rintro e w3 ⟨rfl, hg3⟩
        have hg03 := hg02.trans hg3
        go_wp2_with fail
        refine (HC.out.2.2.2.2.1 _).mono ?_
        rintro e w4 ⟨rfl, hg4⟩
        go_wp2_with fail
        go_ret2
        exact ⟨by rw [HC.out.2.2.2.2.2]; rfl, hg03.trans hg4⟩
  · rw [if_pos hf] at hV
    have hne : (histF l != 0) = true := by rw [bne_iff_ne]; exact hf
    generalize histF l = f at *
    have HC := Lib.hid (And.intro hck hV)
    clear hck hV hf hl ht
    go_enter Try.func40, Try.ntmps40
    go_wp2_with fail
    refine HC.out.1.mono ?_
    rintro e w1 ⟨rfl, hg1⟩
    go_wp2_with fail
    go_ret2
    exact ⟨by rw [HC.out.2]; rfl, hg1⟩

end Go.Proofs.Ytkfijicmeekmiaa
