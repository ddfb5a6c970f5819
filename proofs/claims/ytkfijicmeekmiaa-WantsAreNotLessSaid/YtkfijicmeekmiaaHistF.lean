/- The walks of total, CheckHistogram, of the reference's sum and HistogramFault. -/
import Derived.Test.YtkfijicmeekmiaaIdx
namespace Go.Proofs.Ytkfijicmeekmiaa
open Go.RowKit

theorem sum_take {l : List Int} {j : Nat} {x : Int} (h : l[j]? = some x) : (l.take (j + 1)).sum = (l.take j).sum + x := by
  rw [take_at h, List.sum_append]; simp
theorem sum_rng {M : Int} (hM : 0 ≤ M) : ∀ {l : List Int}, (∀ x ∈ l, 0 ≤ x ∧ x ≤ M) → 0 ≤ l.sum ∧ l.sum ≤ M * l.length
  | [], _ => by simp
  | a :: l, h => by
    obtain ⟨h1, h2⟩ := sum_rng hM (l := l) fun x hx => h x (by simp [hx])
    obtain ⟨h3, h4⟩ := h a (by simp)
    have e : M * ((a :: l).length : Int) = M * (l.length : Int) + M := by
      rw [List.length_cons, show ((l.length + 1 : Nat) : Int) = (l.length : Int) + 1 from by omega, Int.mul_add, Int.mul_one]
    rw [List.sum_cons, e]; omega
theorem sum_abs {M : Int} (hM : 0 ≤ M) : ∀ {l : List Int}, (∀ x ∈ l, -M ≤ x ∧ x ≤ M) → -(M * l.length) ≤ l.sum ∧ l.sum ≤ M * l.length
  | [], _ => by simp
  | a :: l, h => by
    obtain ⟨h1, h2⟩ := sum_abs hM (l := l) fun x hx => h x (by simp [hx])
    obtain ⟨h3, h4⟩ := h a (by simp)
    have e : M * ((a :: l).length : Int) = M * (l.length : Int) + M := by
      rw [List.length_cons, show ((l.length + 1 : Nat) : Int) = (l.length : Int) + 1 from by omega, Int.mul_add, Int.mul_one]
    rw [List.sum_cons, e]; omega

set_option maxHeartbeats 400000 in
theorem total_any (A : Option Addr) (n c : Nat) (l : List Int) (w : World) (hr : Rd w 1 A n (ints l)) (hn : n ≤ 1000000) (hb : ∀ x ∈ l, -1000000000 ≤ x ∧ x ≤ 1000000000) :
    Calls Try.prog 95 #[.slice A n c] w fun e w' => e = .returned (.int .i64 l.sum) ∧ w.grownBy w' none := by
  have hl : l.length = n := by have := hr.1; simpa [ints] using this
  have HL := Lib.hid (And.intro hl hb)
  clear hl hb
  go_enter Try.func95, Try.ntmps95
  go_wp2_with fail
  go_loopg [3, 8] n (fun k z i wr => ∃ j : Nat, k + j = n ∧ i = .int .i64 j ∧ z = .int .i64 (l.take j).sum ∧ w.grownBy wr none)
  case atStart => exact ⟨0, by omega, rfl, rfl, grown_refl w⟩
  case round =>
    obtain ⟨j, hj, rfl, rfl, hg⟩ := hrel
    by_cases hlt : j < n
    · obtain ⟨b, off, rfl, hb, x, hx, c0⟩ := int_cells (hr.grown hg) hlt
      have hst := sum_take hx
      obtain ⟨x0, x1⟩ := HL.out.2 x (List.mem_of_getElem? hx)
      obtain ⟨z0, z1⟩ := sum_abs (M := 1000000000) (by omega) (l := l.take j) fun x hx => HL.out.2 x (List.mem_of_mem_take hx)
      have z2 : (l.take j).length ≤ 1000000 := by rw [List.length_take]; omega
      generalize (l.take j).sum = z at *
      have z3 : -1000000000000000 ≤ z := by omega
      have z4 : z ≤ 1000000000000000 := by omega
      have HS := Lib.hid (And.intro hst hj)
      clear hst hj hx z0 z1 z2
      go_wp2_with fail
      obtain ⟨hst, hj⟩ := HS.out
      go_roundg (gk - 1)
      case measure => omega
      case rel => exact ⟨j + 1, by omega, by go_num, by rw [hst], hg⟩
    · obtain rfl : j = n := by omega
      go_wp2_with fail
      go_ret
      exact ⟨by rw [List.take_of_length_le (by have := HL.out.1; omega)]; rfl, hg⟩

set_option maxHeartbeats 400000 in
theorem refSum_any (A : Option Addr) (n c : Nat) (l : List Int) (w : World) (hr : Rd w 1 A n (ints l)) (hn : n ≤ 1000000) (hb : ∀ x ∈ l, -1000000000 ≤ x ∧ x ≤ 1000000000) :
    Calls Try.prog 94 #[.slice A n c] w fun e w' => e = .returned (.int .i64 l.sum) ∧ w.grownBy w' none := by
  have hl : l.length = n := by have := hr.1; simpa [ints] using this
  have HL := Lib.hid (And.intro hl hb)
  clear hl hb
  go_enter Try.func94, Try.ntmps94
  go_wp2_with fail
  go_loopg [3, 8] n (fun k z i wr => ∃ j : Nat, k + j = n ∧ i = .int .i64 j ∧ z = .int .i64 (l.take j).sum ∧ w.grownBy wr none)
  case atStart => exact ⟨0, by omega, rfl, rfl, grown_refl w⟩
  case round =>
    obtain ⟨j, hj, rfl, rfl, hg⟩ := hrel
    by_cases hlt : j < n
    · obtain ⟨b, off, rfl, hb, x, hx, c0⟩ := int_cells (hr.grown hg) hlt
      have hst := sum_take hx
      obtain ⟨x0, x1⟩ := HL.out.2 x (List.mem_of_getElem? hx)
      obtain ⟨z0, z1⟩ := sum_abs (M := 1000000000) (by omega) (l := l.take j) fun x hx => HL.out.2 x (List.mem_of_mem_take hx)
      have z2 : (l.take j).length ≤ 1000000 := by rw [List.length_take]; omega
      generalize (l.take j).sum = z at *
      have z3 : -1000000000000000 ≤ z := by omega
      have z4 : z ≤ 1000000000000000 := by omega
      have HS := Lib.hid (And.intro hst hj)
      clear hst hj hx z0 z1 z2
      go_wp2_with fail
      obtain ⟨hst, hj⟩ := HS.out
      go_roundg (gk - 1)
      case measure => omega
      case rel => exact ⟨j + 1, by omega, by go_num, by rw [hst], hg⟩
    · obtain rfl : j = n := by omega
      go_wp2_with fail
      go_ret
      exact ⟨by rw [List.take_of_length_le (by have := HL.out.1; omega)]; rfl, hg⟩

/-- What is wrong with a histogram. -/
def histF (h : List Int) : Int := if 2001 < h.length then 2 else if allB h 0 1000000000 = false then 1 else if h.sum = 0 then 8 else if 1000000000 < h.sum then 2 else 0
theorem histF_ok {h : List Int} (hf : histF h = 0) : h.length ≤ 2001 ∧ (∀ x ∈ h, 0 ≤ x ∧ x ≤ 1000000000) ∧ 0 < h.sum ∧ h.sum ≤ 1000000000 := by
  unfold histF at hf
  by_cases h1 : 2001 < h.length
  · rw [if_pos h1] at hf; omega
  · rw [if_neg h1] at hf
    by_cases h2 : allB h 0 1000000000 = false
    · rw [if_pos h2] at hf; omega
    · rw [if_neg h2] at hf
      have h2' : ∀ x ∈ h, 0 ≤ x ∧ x ≤ 1000000000 := by
        intro x hx
        have h3 : allB h 0 1000000000 = true := by simpa using h2
        unfold allB at h3
        exact btw_true.1 (List.all_eq_true.1 h3 x hx)
      have h4 := sum_rng (M := 1000000000) (by omega) h2'
      by_cases h5 : h.sum = 0
      · rw [if_pos h5] at hf; omega
      · rw [if_neg h5] at hf
        by_cases h6 : 1000000000 < h.sum
        · rw [if_pos h6] at hf; omega
        · exact ⟨by omega, h2', by omega, by omega⟩

theorem allB_ok {h : List Int} {a b : Int} (h3 : allB h a b = true) : ∀ x ∈ h, a ≤ x ∧ x ≤ b := by
  intro x hx
  unfold allB at h3
  exact btw_true.1 (List.all_eq_true.1 h3 x hx)

set_option maxRecDepth 100000 in
set_option maxHeartbeats 1000000 in
theorem checkHist_any (A : Option Addr) (n c : Nat) (l : List Int) (w : World) (hr : Rd w 1 A n (ints l)) (hn : n ≤ 100000) :
    Calls Try.prog 39 #[.slice A n c] w fun e w' => e = .returned (.int .i64 (histF l)) ∧ w.grownBy w' none := by
  have hl : l.length = n := by have := hr.1; simpa [ints] using this
  by_cases h1 : 2001 < n
  · have hv : histF l = 2 := by unfold histF; rw [if_pos (by omega)]
    rw [hv]
    clear hv hl
    go_enter Try.func39, Try.ntmps39
    go_wp2_with fail
    go_ret
    exact ⟨rfl, grown_refl w⟩
  · have hab := allBetween_any A n c l 0 1000000000 w hr (by omega)
    by_cases h2 : allB l 0 1000000000 = true
    · have ht := fun w1 (hg : w.grownBy w1 none) => total_any A n c l w1 (hr.grown hg) (by omega) fun x hx => by have := allB_ok h2 x hx; omega
      have hs := sum_rng (M := 1000000000) (by omega) (allB_ok h2)
      have hv : histF l = if l.sum = 0 then 8 else if 1000000000 < l.sum then 2 else 0 := by unfold histF; rw [if_neg (by omega), if_neg (by simp [h2])]
      rw [h2] at hab
      rw [hv]
      generalize l.sum = z at *
      have HC := Lib.hid (And.intro hab ht)
      clear hab ht hv h2 hl
      have h1' : ¬ 2001 < n := h1
      have hcz : z = 0 ∨ (z ≠ 0 ∧ 1000000000 < z) ∨ (z ≠ 0 ∧ z ≤ 1000000000) := by omega
      rcases hcz with rfl | ⟨hz, hz2⟩ | ⟨hz, hz2⟩
      case' inl => rw [if_pos rfl]
      case' inr.inl =>
        rw [if_neg hz, if_pos hz2]
        have hzz : (z == 0) = false := by rw [beq_eq_false_iff_ne]; exact hz
      case' inr.inr =>
        rw [if_neg hz, if_neg (by omega)]
        have hzz : (z == 0) = false := by rw [beq_eq_false_iff_ne]; exact hz
      all_goals
        go_enter Try.func39, Try.ntmps39
        go_wp2_with fail
        refine HC.out.1.mono ?_
        rintro e w1 ⟨rfl, hg1⟩
        go_wp2_with fail
        refine (HC.out.2 _ hg1).mono ?_
        rintro e w2 ⟨rfl, hg2⟩
        go_wp2_with fail
        go_ret
        exact ⟨rfl, hg1.trans hg2⟩
    · have h2' : allB l 0 1000000000 = false := by simpa using h2
      have hv : histF l = 1 := by unfold histF; rw [if_neg (by omega), if_pos h2']
      rw [hv]
      rw [h2'] at hab
      have HC := Lib.hid hab
      clear hab hv h2 h2' hl
      go_enter Try.func39, Try.ntmps39
      go_wp2_with fail
      refine HC.out.mono ?_
      rintro e w1 ⟨rfl, hg1⟩
      go_wp2_with fail
      go_ret
      exact ⟨rfl, hg1⟩

def hfB (n : Int) : Bool := !btw n 0 1000000000
theorem histF1_any (x : Int) (w : World) : Calls Try.prog 93 #[.int .i64 x] w fun e w2 => e = .returned (.bool (hfB x)) ∧ w = w2 := by
  by_cases h : x < 0
  · go_enter Try.func93, Try.ntmps93
    go_wp2_with fail
    go_ret
    exact ⟨retB (by rw [Bool.eq_iff_iff]; simp [hfB, btw] <;> omega), rfl⟩
  · have h' : 0 ≤ x := by omega
    clear h
    go_enter Try.func93, Try.ntmps93
    go_wp2_with fail
    go_ret
    exact ⟨retB (by rw [Bool.eq_iff_iff]; simp [hfB, btw] <;> omega), rfl⟩
theorem any_hf (l : List Int) : l.any hfB = !allB l 0 1000000000 := by
  unfold allB hfB
  induction l with
  | nil => rfl
  | cons a r ih => simp [ih]

set_option maxRecDepth 100000 in
set_option maxHeartbeats 1000000 in
theorem refHistF_any (A : Option Addr) (n c : Nat) (l : List Int) (w : World) (hr : Rd w 1 A n (ints l)) (hn : n ≤ 100000) :
    Calls Try.prog 38 #[.slice A n c] w fun e w' => e = .returned (.int .i64 (histF l)) ∧ w.grownBy w' none := by
  have hl : l.length = n := by have := hr.1; simpa [ints] using this
  by_cases h1 : 2001 < n
  · have hv : histF l = 2 := by unfold histF; rw [if_pos (by omega)]
    rw [hv]
    clear hv hl
    have h1' : (2001 : Int) < (n : Int) := by omega
    go_enter Try.func38, Try.ntmps38
    go_wp2_with fail
    go_ret
    exact ⟨rfl, grown_refl w⟩
  · have hab := containsFunc_any 93 hfB A n c l w hr (by omega) (enters_of Try.func93 (by kernel_rfl) rfl) histF1_any
    rw [any_hf] at hab
    have h1d : decide ((2001 : Int) < (n : Int)) = false := by simp; omega
    by_cases h2 : allB l 0 1000000000 = true
    · have ht := fun w1 (hg : w.grownBy w1 none) => refSum_any A n c l w1 (hr.grown hg) (by omega) fun x hx => by have := allB_ok h2 x hx; omega
      have hs := sum_rng (M := 1000000000) (by omega) (allB_ok h2)
      have hv : histF l = if l.sum = 0 then 8 else if 1000000000 < l.sum then 2 else 0 := by unfold histF; rw [if_neg (by omega), if_neg (by simp [h2])]
      rw [h2] at hab
      rw [hv]
      generalize l.sum = z at *
      have HC := Lib.hid (And.intro hab ht)
      clear hab ht hv h2 hl
      have hcz : z = 0 ∨ (z ≠ 0 ∧ 1000000000 < z) ∨ (z ≠ 0 ∧ z ≤ 1000000000) := by omega
      rcases hcz with rfl | ⟨hz, hz2⟩ | ⟨hz, hz2⟩
      · rw [if_pos rfl]
        go_enter Try.func38, Try.ntmps38
        go_wp2_with fail
        refine HC.out.1.mono ?_
        rintro e w1 ⟨rfl, hg1⟩
        go_wp2_with fail
        refine (HC.out.2 _ hg1).mono ?_
        rintro e w2 ⟨rfl, hg2⟩
        go_wp2_with fail
        go_ret
        exact ⟨rfl, hg1.trans hg2⟩
      case' inr.inl =>
        rw [if_neg hz, if_pos hz2]
        have hzz : (z == 0) = false := by rw [beq_eq_false_iff_ne]; exact hz
      case' inr.inr =>
        rw [if_neg hz, if_neg (by omega)]
        have hzz : (z == 0) = false := by rw [beq_eq_false_iff_ne]; exact hz
      all_goals
        go_enter Try.func38, Try.ntmps38
        go_wp2_with fail
        refine HC.out.1.mono ?_
        rintro e w1 ⟨rfl, hg1⟩
        go_wp2_with fail
        refine (HC.out.2 _ hg1).mono ?_
        rintro e w2 ⟨rfl, hg2⟩
        go_wp2_with fail
        refine (HC.out.2 _ (hg1.trans hg2)).mono ?_
        rintro e w3 ⟨rfl, hg3⟩
        go_wp2_with fail
        go_ret
        exact ⟨rfl, (hg1.trans hg2).trans hg3⟩
    · have h2' : allB l 0 1000000000 = false := by simpa using h2
      have hv : histF l = 1 := by unfold histF; rw [if_neg (by omega), if_pos h2']
      rw [hv]
      rw [h2'] at hab
      have HC := Lib.hid hab
      clear hab hv h2 h2' hl
      go_enter Try.func38, Try.ntmps38
      go_wp2_with fail
      refine HC.out.mono ?_
      rintro e w1 ⟨rfl, hg1⟩
      go_wp2_with fail
      go_ret
      exact ⟨rfl, hg1⟩

end Go.Proofs.Ytkfijicmeekmiaa
