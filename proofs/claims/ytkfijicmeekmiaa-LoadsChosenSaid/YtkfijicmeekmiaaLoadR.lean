/- The walks of the reference's ExpectedOf, ProfitOf, OrderOf. -/
import Derived.Test.YtkfijicmeekmiaaLoadO
namespace Go.Proofs.Ytkfijicmeekmiaa
open Go.RowKit

theorem exAt_rng {h : List Int} (hh : ∀ x ∈ h, 0 ≤ x) (j : Nat) : 0 ≤ exAt h j ∧ exAt h j ≤ h.sum * j := by
  have h3 : moreN h 0 ≤ h.sum := by
    have := (drop_sum_le hh 0).2
    rwa [List.drop_zero] at this
  induction j with
  | zero => simp [exAt]
  | succ j ih =>
    have h1 := more_mono hh (Nat.zero_le j)
    have e : h.sum * ((j + 1 : Nat) : Int) = h.sum * j + h.sum := by rw [show ((j + 1 : Nat) : Int) = (j : Int) + 1 from by omega, Int.mul_add, Int.mul_one]
    rw [e]
    simp only [exAt]
    omega

set_option maxRecDepth 100000 in
set_option maxHeartbeats 1000000 in
theorem expectedOf_any (A : Option Addr) (n c : Nat) (l : List Int) (load : Nat) (w : World) (hr : Rd w 1 A n (ints l)) (hnc : n ≤ c) (hf : histF l = 0) (hload : load ≤ 2001) :
    Calls Try.prog 51 #[.slice A n c, .int .i64 load] w fun e w' => e = .returned (frac (lowN (slOf l load) l.sum) (lowD (slOf l load) l.sum)) ∧ w.grownBy w' none := by
  have hl : l.length = n := by have := hr.1; simpa [ints] using this
  obtain ⟨f1, f2, f3, f4⟩ := histF_ok hf
  have hpos : ∀ x ∈ l, 0 ≤ x := fun x hx => (f2 x hx).1
  have hb : ∀ x ∈ l, -1000000000 ≤ x ∧ x ≤ 1000000000 := fun x hx => by have := f2 x hx; omega
  have hmt := fun (k : Nat) (hk : k ≤ n) w1 (hg : w.grownBy w1 none) => moreThan_any A n c l k w1 (hr.grown hg) (by omega) hnc hb hk
  have ht := fun w1 (hg : w.grownBy w1 none) => refSum_any A n c l w1 (hr.grown hg) (by omega) hb
  have hrng := slOf_rng hpos (load := load) hload
  have hlo := fun w => refPart_any (slOf l load) l.sum w (by omega) (by omega) f3 (by omega)
  have hmin : slOf l load = exAt l (min load n) := by rw [slOf_min, hl]
  have hex : ∀ j, j ≤ 2001 → 0 ≤ exAt l j ∧ exAt l j ≤ 2001000000000 := by
    intro j hj
    have h1 := exAt_rng hpos j
    have h2 := mul_abs (x := l.sum) (y := (j : Int)) (K := 2001) (by omega) (by omega)
    omega
  have hmo : ∀ j, 0 ≤ moreN l j ∧ moreN l j ≤ l.sum := by
    intro j
    have h1 := more_mono hpos (Nat.zero_le j)
    have h3 : moreN l 0 ≤ l.sum := by
      have := (drop_sum_le hpos 0).2
      rwa [List.drop_zero] at this
    omega
  have hn : n ≤ 2001 := by omega
  generalize slOf l load = z at *
  generalize l.sum = d at *
  generalize lowN z d = a at *
  generalize lowD z d = b at *
  have HC := Lib.hid (And.intro hmt (And.intro ht (And.intro hlo (And.intro hmin (And.intro hex hmo)))))
  clear hmt ht hlo hmin hex hmo hf f1 f2 hpos hb hrng hl hr
  have hcases : load ≤ n ∨ n < load := by omega
  rcases hcases with hle | hle
  · have hL : min load n = load := by omega
    go_enter Try.func51, Try.ntmps51
    go_wp2_with fail
    have hB0 := Blk.new w 31 #[.int .i64 0, .int .i64 0]
    have hg0 := grown_alloc (grown_refl w) (.cells #[.int .i64 0, .int .i64 0] 31)
    generalize w.alloc (.cells #[.int .i64 0, .int .i64 0] 31) = W at *
    go_loopg [5, 6] load (fun k y i wr => ∃ j j1 : Nat, k + j = load ∧ j1 = j + 1 ∧ i = .int .i64 j1 ∧ y = .int .i64 (exAt l j) ∧ W.grownBy wr none)
    case atStart => exact ⟨0, 1, by omega, rfl, rfl, rfl, grown_refl W⟩
    case round =>
      obtain ⟨j, j1, hj, hj1, rfl, rfl, hg⟩ := hrel
      obtain ⟨x0, x1⟩ := HC.out.2.2.2.2.1 j (by omega)
      by_cases hlt : j1 ≤ load
      · have hst : exAt l (j + 1) = exAt l j + moreN l j := rfl
        have hmj : (l.drop j1).sum = moreN l j := by rw [hj1]; rfl
        obtain ⟨m0, m1⟩ := HC.out.2.2.2.2.2 j
        have hcall := HC.out.1 j1 (by omega) wr (hg0.trans hg)
        rw [hmj] at hcall
        rw [← hj1] at hst
        generalize exAt l j = y at *
        generalize moreN l j = x at *
        have HS := Lib.hid (And.intro hst (And.intro hj (And.intro hj1 hcall)))
        clear hst hj hj1 hcall hmj
        go_wp2_with fail
        refine HS.out.2.2.2.mono ?_
        rintro e w1 ⟨rfl, hg1⟩
        go_wp2_with fail
        obtain ⟨hst, hj, hj1, -⟩ := HS.out
        go_roundg (gk - 1)
        case measure => omega
        case rel => exact ⟨j1, j1 + 1, by omega, rfl, by go_num, by rw [hst], hg.trans hg1⟩
      · obtain rfl : j = load := by omega
        have hm := HC.out.2.2.2.1
        rw [hL] at hm
        have HM := Lib.hid (And.intro hm (And.intro hj1 hL))
        have hlt' : ¬ (j1 : Int) ≤ (j : Int) := by omega
        clear hm hj1 hj hL
        go_wp2_with fail
        refine (HC.out.2.1 _ (hg0.trans hg)).mono ?_
        rintro e w1 ⟨rfl, hg1⟩
        rw [← HM.out.1]
        go_wp2_with fail
        refine (HC.out.2.2.1 _).mono ?_
        rintro e w2 ⟨rfl, hg2⟩
        have hgg := (hg.trans hg1).trans hg2
        have hB3 := hB0.grown hgg (by simp)
        obtain ⟨e0, e1, f0, f1⟩ := hB3.two
        unfold frac
        go_wp2_with fail
        refine bodyPost_ret (results_cell_row rfl _ _ w.heap.size _ _ _ _ rfl ((hB3.set_ 0 (.int .i64 a)).set_ 1 (.int .i64 b)) Try.underlying31 rfl (by kernel_rfl)) rfl ?_
        exact ⟨rfl, grown_set (p := ⟨w.heap.size, 1, none⟩) (grown_set (p := ⟨w.heap.size, 0, none⟩) (hg0.trans hgg) (.inl (Nat.le_refl _)) _) (.inl (Nat.le_refl _)) _⟩
  · have hL : min load n = n := by omega
    go_enter Try.func51, Try.ntmps51
    go_wp2_with fail
    have hB0 := Blk.new w 31 #[.int .i64 0, .int .i64 0]
    have hg0 := grown_alloc (grown_refl w) (.cells #[.int .i64 0, .int .i64 0] 31)
    generalize w.alloc (.cells #[.int .i64 0, .int .i64 0] 31) = W at *
    go_loopg [5, 6] n (fun k y i wr => ∃ j j1 : Nat, k + j = n ∧ j1 = j + 1 ∧ i = .int .i64 j1 ∧ y = .int .i64 (exAt l j) ∧ W.grownBy wr none)
    case atStart => exact ⟨0, 1, by omega, rfl, rfl, rfl, grown_refl W⟩
    case round =>
      obtain ⟨j, j1, hj, hj1, rfl, rfl, hg⟩ := hrel
      obtain ⟨x0, x1⟩ := HC.out.2.2.2.2.1 j (by omega)
      by_cases hlt : j1 ≤ n
      · have hst : exAt l (j + 1) = exAt l j + moreN l j := rfl
        have hmj : (l.drop j1).sum = moreN l j := by rw [hj1]; rfl
        obtain ⟨m0, m1⟩ := HC.out.2.2.2.2.2 j
        have hcall := HC.out.1 j1 (by omega) wr (hg0.trans hg)
        rw [hmj] at hcall
        rw [← hj1] at hst
        generalize exAt l j = y at *
        generalize moreN l j = x at *
        have HS := Lib.hid (And.intro hst (And.intro hj (And.intro hj1 hcall)))
        clear hst hj hj1 hcall hmj
        go_wp2_with fail
        refine HS.out.2.2.2.mono ?_
        rintro e w1 ⟨rfl, hg1⟩
        go_wp2_with fail
        obtain ⟨hst, hj, hj1, -⟩ := HS.out
        go_roundg (gk - 1)
        case measure => omega
        case rel => exact ⟨j1, j1 + 1, by omega, rfl, by go_num, by rw [hst], hg.trans hg1⟩
      · obtain rfl : j = n := by omega
        have hm := HC.out.2.2.2.1
        rw [hL] at hm
        have HM := Lib.hid (And.intro hm (And.intro hj1 hL))
        have hlt' : ¬ (j1 : Int) ≤ (j : Int) := by omega
        clear hm hj1 hj hL
        go_wp2_with fail
        refine (HC.out.2.1 _ (hg0.trans hg)).mono ?_
        rintro e w1 ⟨rfl, hg1⟩
        rw [← HM.out.1]
        go_wp2_with fail
        refine (HC.out.2.2.1 _).mono ?_
        rintro e w2 ⟨rfl, hg2⟩
        have hgg := (hg.trans hg1).trans hg2
        have hB3 := hB0.grown hgg (by simp)
        obtain ⟨e0, e1, f0, f1⟩ := hB3.two
        unfold frac
        go_wp2_with fail
        refine bodyPost_ret (results_cell_row rfl _ _ w.heap.size _ _ _ _ rfl ((hB3.set_ 0 (.int .i64 a)).set_ 1 (.int .i64 b)) Try.underlying31 rfl (by kernel_rfl)) rfl ?_
        exact ⟨rfl, grown_set (p := ⟨w.heap.size, 1, none⟩) (grown_set (p := ⟨w.heap.size, 0, none⟩) (hg0.trans hgg) (.inl (Nat.le_refl _)) _) (.inl (Nat.le_refl _)) _⟩

set_option maxRecDepth 100000 in
set_option maxHeartbeats 1000000 in
theorem profitOfV_any (A : Option Addr) (n c : Nat) (l : List Int) (load : Nat) (m u : Int) (w : World) (hr : Rd w 1 A n (ints l)) (hf : histF l = 0) (hload : load ≤ 2001) (hm : 0 ≤ m ∧ m ≤ 10000) (hu : 0 ≤ u ∧ u ≤ 10000) :
    Calls Try.prog 52 #[.slice A n c, .int .i64 load, .int .i64 m, .int .i64 u] w fun e w' => e = .returned (frac (lowN (prOf l load m u) l.sum) (lowD (prOf l load m u) l.sum)) ∧ w.grownBy w' none := by
  have hl : l.length = n := by have := hr.1; simpa [ints] using this
  obtain ⟨f1, f2, f3, f4⟩ := histF_ok hf
  have hpos : ∀ x ∈ l, 0 ≤ x := fun x hx => (f2 x hx).1
  have hb : ∀ x ∈ l, -1000000000 ≤ x ∧ x ≤ 1000000000 := fun x hx => by have := f2 x hx; omega
  have hp := fun w1 (hg : w.grownBy w1 none) => profitOf_any A n c l load m u w1 (hr.grown hg) (by omega) f2 f4 hload hm hu
  have ht := fun w1 (hg : w.grownBy w1 none) => refSum_any A n c l w1 (hr.grown hg) (by omega) hb
  have hprng := prOf_rng hpos hload hm hu
  have hlo := fun w => refPart_any (prOf l load m u) l.sum w (by omega) (by omega) f3 (by omega)
  generalize prOf l load m u = z at *
  generalize l.sum = d at *
  generalize lowN z d = a at *
  generalize lowD z d = b at *
  have HC := Lib.hid (And.intro hp (And.intro ht hlo))
  clear hp ht hlo hf f1 f2 hpos hb hprng hl hr
  go_enter Try.func52, Try.ntmps52
  go_wp2_with fail
  have hB0 := Blk.new w 31 #[.int .i64 0, .int .i64 0]
  have hg0 := grown_alloc (grown_refl w) (.cells #[.int .i64 0, .int .i64 0] 31)
  generalize w.alloc (.cells #[.int .i64 0, .int .i64 0] 31) = W at *
  refine (HC.out.1 _ hg0).mono ?_
  rintro e w1 ⟨rfl, hg1⟩
  go_wp2_with fail
  refine (HC.out.2.1 _ (hg0.trans hg1)).mono ?_
  rintro e w2 ⟨rfl, hg2⟩
  go_wp2_with fail
  refine (HC.out.2.2 _).mono ?_
  rintro e w3 ⟨rfl, hg3⟩
  have hgg := (hg1.trans hg2).trans hg3
  have hB3 := hB0.grown hgg (by simp)
  obtain ⟨e0, e1, f0, f1⟩ := hB3.two
  unfold frac
  go_wp2_with fail
  refine bodyPost_ret (results_cell_row rfl _ _ w.heap.size _ _ _ _ rfl ((hB3.set_ 0 (.int .i64 a)).set_ 1 (.int .i64 b)) Try.underlying31 rfl (by kernel_rfl)) rfl ?_
  exact ⟨rfl, grown_set (p := ⟨w.heap.size, 1, none⟩) (grown_set (p := ⟨w.heap.size, 0, none⟩) (hg0.trans hgg) (.inl (Nat.le_refl _)) _) (.inl (Nat.le_refl _)) _⟩

set_option maxRecDepth 100000 in
set_option maxHeartbeats 1000000 in
theorem orderOf_any (A : Option Addr) (n c : Nat) (l : List Int) (most : Nat) (m u : Int) (w : World) (hr : Rd w 1 A n (ints l)) (hf : histF l = 0) (hmost : most ≤ 2001) (hm : 0 ≤ m ∧ m ≤ 10000) (hu : 0 ≤ u ∧ u ≤ 10000) :
    Calls Try.prog 53 #[.slice A n c, .int .i64 most, .int .i64 m, .int .i64 u] w fun e w' => e = .returned (.int .i64 (ordA l m u most)) ∧ w.grownBy w' none := by
  have hl : l.length = n := by have := hr.1; simpa [ints] using this
  obtain ⟨f1, f2, f3, f4⟩ := histF_ok hf
  have hpos : ∀ x ∈ l, 0 ≤ x := fun x hx => (f2 x hx).1
  have hp := fun (load : Nat) (hload : load ≤ 2001) w1 (hg : w.grownBy w1 none) => profitOf_any A n c l load m u w1 (hr.grown hg) (by omega) f2 f4 hload hm hu
  have hle : ∀ j, ordA l m u j ≤ j := fun j => (ordA_ok hpos (by omega) j).1
  have HC := Lib.hid (And.intro hp hle)
  clear hp hle hf f1 f2 f3 f4 hpos hl hr
  go_enter Try.func53, Try.ntmps53
  go_wp2_with fail
  go_loopg [9, 10] most (fun k b i wr => ∃ j j1 : Nat, k + j = most ∧ j1 = j + 1 ∧ i = .int .i64 j1 ∧ b = .int .i64 (ordA l m u j) ∧ w.grownBy wr none)
  case atStart => exact ⟨0, 1, by omega, rfl, rfl, rfl, grown_refl w⟩
  case round =>
    obtain ⟨j, j1, hj, hj1, rfl, rfl, hg⟩ := hrel
    by_cases hlt : j1 ≤ most
    · have hst : ordA l m u j1 = if prOf l (ordA l m u j) m u < prOf l j1 m u then j1 else ordA l m u j := by rw [hj1]; rfl
      have hb := HC.out.2 j
      generalize ordA l m u j = b at *
      have hc1 := HC.out.1 j1 (by omega) wr hg
      have hc2 := fun w1 (hg1 : wr.grownBy w1 none) => HC.out.1 b (by omega) w1 (hg.trans hg1)
      generalize prOf l b m u = y at *
      generalize prOf l j1 m u = x at *
      by_cases hxy : y < x
      · rw [if_pos hxy] at hst
        have HS := Lib.hid (And.intro hst (And.intro hj (And.intro hj1 (And.intro hc1 hc2))))
        clear hst hj hj1 hc1 hc2
        go_wp2_with fail
        refine HS.out.2.2.2.1.mono ?_
        rintro e w1 ⟨rfl, hg1⟩
        go_wp2_with fail
        refine (HS.out.2.2.2.2 _ hg1).mono ?_
        rintro e w2 ⟨rfl, hg2⟩
        go_wp2_with fail
        obtain ⟨hst, hj, hj1, -⟩ := HS.out
        go_roundg (gk - 1)
        case measure => omega
        case rel => exact ⟨j1, j1 + 1, by omega, rfl, by go_num, by rw [hst], (hg.trans hg1).trans hg2⟩
      · rw [if_neg hxy] at hst
        have HS := Lib.hid (And.intro hst (And.intro hj (And.intro hj1 (And.intro hc1 hc2))))
        clear hst hj hj1 hc1 hc2
        go_wp2_with fail
        refine HS.out.2.2.2.1.mono ?_
        rintro e w1 ⟨rfl, hg1⟩
        go_wp2_with fail
        refine (HS.out.2.2.2.2 _ hg1).mono ?_
        rintro e w2 ⟨rfl, hg2⟩
        go_wp2_with fail
        obtain ⟨hst, hj, hj1, -⟩ := HS.out
        go_roundg (gk - 1)
        case measure => omega
        case rel => exact ⟨j1, j1 + 1, by omega, rfl, by go_num, by rw [hst], (hg.trans hg1).trans hg2⟩
    · obtain rfl : j = most := by omega
      have hlt' : ¬ (j1 : Int) ≤ (j : Int) := by omega
      have HJ := Lib.hid (And.intro hj hj1)
      clear hj hj1
      go_wp2_with fail
      go_ret
      exact ⟨rfl, hg⟩

end Go.Proofs.Ytkfijicmeekmiaa
