/- The walks of Rate and Least, of the reference's RateOf and LeastRate. -/
import Derived.Test.YtkfijicmeekmiaaMean
import Derived.Test.YtkfijicmeekmiaaChkD
namespace Go.Proofs.Ytkfijicmeekmiaa
open Go.RowKit

/-- lasted; all days. -/
def lastB (t : Sal) : Bool := !t.o
def allD (_ : Sal) : Bool := true

theorem lasted_any (x : Sal) (w : World) : Calls Try.prog 72 #[.agg #[.int .i64 x.d, .int .i64 x.s, .bool x.o]] w fun e w' => e = .returned (.bool (lastB x)) ∧ w.grownBy w' none := by
  obtain ⟨xd, xs, xo⟩ := x
  go_enter Try.func72, Try.ntmps72
  go_wp2_with fail
  go_ret
  exact ⟨rfl, grown_alloc (grown_refl w) _⟩
theorem least1_any (x : Sal) (w : World) : Calls Try.prog 73 #[.agg #[.int .i64 x.d, .int .i64 x.s, .bool x.o]] w fun e w' => e = .returned (.bool (allD x)) ∧ w.grownBy w' none := by
  go_enter Try.func73, Try.ntmps73
  go_wp2_with fail
  go_ret
  exact ⟨rfl, grown_alloc (grown_refl w) _⟩
theorem refAll_any (x : Sal) (w : World) : Calls Try.prog 78 #[.agg #[.int .i64 x.d, .int .i64 x.s, .bool x.o]] w fun e w' => e = .returned (.bool (allD x)) ∧ w.grownBy w' none := by
  go_enter Try.func78, Try.ntmps78
  go_wp2_with fail
  go_ret
  exact ⟨rfl, grown_alloc (grown_refl w) _⟩

theorem meanLast (A : Option Addr) (n c : Nat) (l : List Sal) (w : World) (hr : Rd w 3 A n (salFlat l)) (hn : n ≤ 400) (hb : ∀ t ∈ l, 0 ≤ t.s ∧ t.s ≤ 1000) :
    Calls Try.prog 71 #[.slice A n c, .func (.func 72) #[] #[]] w fun e w' => e = .returned (meanV lastB l) ∧ w.grownBy w' none :=
  mean0_any _ lastB A n c l w hr hn hb (enters_of Try.func72 (by kernel_rfl) rfl) fun x w1 _ => lasted_any x w1

theorem meanAll (A : Option Addr) (n c : Nat) (l : List Sal) (w : World) (hr : Rd w 3 A n (salFlat l)) (hn : n ≤ 400) (hb : ∀ t ∈ l, 0 ≤ t.s ∧ t.s ≤ 1000) :
    Calls Try.prog 71 #[.slice A n c, .func (.func 73) #[] #[]] w fun e w' => e = .returned (meanV allD l) ∧ w.grownBy w' none :=
  mean0_any _ allD A n c l w hr hn hb (enters_of Try.func73 (by kernel_rfl) rfl) fun x w1 _ => least1_any x w1

/-- What Rate answers. -/
def rateV (p : Sal → Bool) (l : List Sal) : Value := if dayFault l ≠ 0 then .tuple #[frac 0 0, .int .i64 (dayFault l)] else .tuple #[frac (meanN p l) (meanD p l), .int .i64 (if cntP p l = 0 then 8 else 0)]

theorem mean_zero {p : Sal → Bool} {l : List Sal} (h : decide (cntP p l ≠ 0) = false) : meanN p l = 0 ∧ meanD p l = 0 := by
  have h0 : cntP p l = 0 := by simpa using h
  simp [meanN, meanD, h0]

set_option maxRecDepth 100000 in
set_option maxHeartbeats 400000 in
theorem rate_any (A : Option Addr) (n c : Nat) (l : List Sal) (w : World) (hr : Rd w 3 A n (salFlat l)) (hn : n ≤ 400) :
    Calls Try.prog 15 #[.slice A n c] w fun e w' => e = .returned (rateV lastB l) ∧ w.grownBy w' none := by
  have hck := fun w1 (hg : w.grownBy w1 none) => checkDays_any A n c l w1 (hr.grown hg) hn
  have hg0 := grown_alloc (grown_refl w) (.cells #[.int .i64 0, .int .i64 0] 31)
  have hB0 := Blk.new w 31 #[.int .i64 0, .int .i64 0]
  by_cases h0 : dayFault l = 0
  · have hv : rateV lastB l = .tuple #[frac (meanN lastB l) (meanD lastB l), .int .i64 (if cntP lastB l = 0 then 8 else 0)] := by unfold rateV; rw [if_neg (by simp [h0])]
    obtain ⟨_, hok⟩ := days_ok h0
    have hm := fun w1 (hg : w.grownBy w1 none) => meanLast A n c l w1 (hr.grown hg) hn fun t ht => (hok t ht).2
    have hz := mean_zero (p := lastB) (l := l)
    have ho : (if decide (cntP lastB l ≠ 0) = true then (0 : Int) else 8) = if cntP lastB l = 0 then 8 else 0 := by
      by_cases h : cntP lastB l = 0 <;> simp [h]
    rw [hv, ← ho]
    unfold meanV at hm
    have hon := fun w => orNone_any (meanN lastB l) (meanD lastB l) (decide (cntP lastB l ≠ 0)) w hz
    generalize meanN lastB l = a at *
    generalize meanD lastB l = b at *
    generalize decide (cntP lastB l ≠ 0) = ok at *
    rw [h0] at hck
    generalize (if ok = true then (0 : Int) else 8) = ec at *
    have HC := Lib.hid (And.intro hck (And.intro hm hon))
    clear hck hm hon h0 hok hv ho hz
    go_enter Try.func15, Try.ntmps15
    go_wp2_with fail
    refine (HC.out.1 _ hg0).mono ?_
    rintro e w1 ⟨rfl, hg1⟩
    have hgg1 := hg0.trans hg1
    go_wp2_with fail
    refine (HC.out.2.1 _ hgg1).mono ?_
    rintro e w2 ⟨rfl, hg2⟩
    have hgg2 := hgg1.trans hg2
    go_wp2_with fail
    refine (HC.out.2.2 _).mono ?_
    rintro e w3 ⟨rfl, hg3⟩
    have hB3 := hB0.grown ((hg1.trans hg2).trans hg3) (by simp)
    have hgg3 := hgg2.trans hg3
    obtain ⟨e0, e1, f0, f1⟩ := hB3.two
    unfold frac
    go_wp2_with fail
    refine bodyPost_ret (results_row_tmp rfl _ _ w.heap.size _ _ _ _ rfl ((hB3.set_ 0 (.int .i64 a)).set_ 1 (.int .i64 b)) Try.underlying31 rfl (by kernel_rfl)) rfl ?_
    exact ⟨rfl, grown_set (p := ⟨w.heap.size, 1, none⟩) (grown_set (p := ⟨w.heap.size, 0, none⟩) hgg3 (.inl (Nat.le_refl _)) _) (.inl (Nat.le_refl _)) _⟩
  · have hv : rateV lastB l = .tuple #[frac 0 0, .int .i64 (dayFault l)] := by unfold rateV; rw [if_pos h0]
    rw [hv]
    have hne : (dayFault l != 0) = true := by rw [bne_iff_ne]; exact h0
    generalize dayFault l = f at *
    have HC := Lib.hid hck
    clear hck h0 hv
    go_enter Try.func15, Try.ntmps15
    go_wp2_with fail
    refine (HC.out _ hg0).mono ?_
    rintro e w1 ⟨rfl, hg1⟩
    have hB1 := hB0.grown hg1 (by simp)
    have hgg1 := hg0.trans hg1
    obtain ⟨e0, e1, f0, f1⟩ := hB1.two
    go_wp2_with fail
    refine bodyPost_ret (results_row_tmp rfl _ _ w.heap.size _ _ _ _ rfl ((hB1.set_ 0 (.int .i64 0)).set_ 1 (.int .i64 0)) Try.underlying31 rfl (by kernel_rfl)) rfl ?_
    exact ⟨rfl, grown_set (p := ⟨w.heap.size, 1, none⟩) (grown_set (p := ⟨w.heap.size, 0, none⟩) hgg1 (.inl (Nat.le_refl _)) _) (.inl (Nat.le_refl _)) _⟩

set_option maxRecDepth 100000 in
set_option maxHeartbeats 400000 in
theorem least_any (A : Option Addr) (n c : Nat) (l : List Sal) (w : World) (hr : Rd w 3 A n (salFlat l)) (hn : n ≤ 400) :
    Calls Try.prog 16 #[.slice A n c] w fun e w' => e = .returned (rateV allD l) ∧ w.grownBy w' none := by
  have hck := fun w1 (hg : w.grownBy w1 none) => checkDays_any A n c l w1 (hr.grown hg) hn
  have hg0 := grown_alloc (grown_refl w) (.cells #[.int .i64 0, .int .i64 0] 31)
  have hB0 := Blk.new w 31 #[.int .i64 0, .int .i64 0]
  by_cases h0 : dayFault l = 0
  · have hv : rateV allD l = .tuple #[frac (meanN allD l) (meanD allD l), .int .i64 (if cntP allD l = 0 then 8 else 0)] := by unfold rateV; rw [if_neg (by simp [h0])]
    obtain ⟨_, hok⟩ := days_ok h0
    have hm := fun w1 (hg : w.grownBy w1 none) => meanAll A n c l w1 (hr.grown hg) hn fun t ht => (hok t ht).2
    have hz := mean_zero (p := allD) (l := l)
    have ho : (if decide (cntP allD l ≠ 0) = true then (0 : Int) else 8) = if cntP allD l = 0 then 8 else 0 := by
      by_cases h : cntP allD l = 0 <;> simp [h]
    rw [hv, ← ho]
    unfold meanV at hm
    have hon := fun w => orNone_any (meanN allD l) (meanD allD l) (decide (cntP allD l ≠ 0)) w hz
    generalize meanN allD l = a at *
    generalize meanD allD l = b at *
    generalize decide (cntP allD l ≠ 0) = ok at *
    rw [h0] at hck
    generalize (if ok = true then (0 : Int) else 8) = ec at *
    have HC := Lib.hid (And.intro hck (And.intro hm hon))
    clear hck hm hon h0 hok hv ho hz
    go_enter Try.func16, Try.ntmps16
    go_wp2_with fail
    refine (HC.out.1 _ hg0).mono ?_
    rintro e w1 ⟨rfl, hg1⟩
    have hgg1 := hg0.trans hg1
    go_wp2_with fail
    refine (HC.out.2.1 _ hgg1).mono ?_
    rintro e w2 ⟨rfl, hg2⟩
    have hgg2 := hgg1.trans hg2
    go_wp2_with fail
    refine (HC.out.2.2 _).mono ?_
    rintro e w3 ⟨rfl, hg3⟩
    have hB3 := hB0.grown ((hg1.trans hg2).trans hg3) (by simp)
    have hgg3 := hgg2.trans hg3
    obtain ⟨e0, e1, f0, f1⟩ := hB3.two
    unfold frac
    go_wp2_with fail
    refine bodyPost_ret (results_row_tmp rfl _ _ w.heap.size _ _ _ _ rfl ((hB3.set_ 0 (.int .i64 a)).set_ 1 (.int .i64 b)) Try.underlying31 rfl (by kernel_rfl)) rfl ?_
    exact ⟨rfl, grown_set (p := ⟨w.heap.size, 1, none⟩) (grown_set (p := ⟨w.heap.size, 0, none⟩) hgg3 (.inl (Nat.le_refl _)) _) (.inl (Nat.le_refl _)) _⟩
  · have hv : rateV allD l = .tuple #[frac 0 0, .int .i64 (dayFault l)] := by unfold rateV; rw [if_pos h0]
    rw [hv]
    have hne : (dayFault l != 0) = true := by rw [bne_iff_ne]; exact h0
    generalize dayFault l = f at *
    have HC := Lib.hid hck
    clear hck h0 hv
    go_enter Try.func16, Try.ntmps16
    go_wp2_with fail
    refine (HC.out _ hg0).mono ?_
    rintro e w1 ⟨rfl, hg1⟩
    have hB1 := hB0.grown hg1 (by simp)
    have hgg1 := hg0.trans hg1
    obtain ⟨e0, e1, f0, f1⟩ := hB1.two
    go_wp2_with fail
    refine bodyPost_ret (results_row_tmp rfl _ _ w.heap.size _ _ _ _ rfl ((hB1.set_ 0 (.int .i64 0)).set_ 1 (.int .i64 0)) Try.underlying31 rfl (by kernel_rfl)) rfl ?_
    exact ⟨rfl, grown_set (p := ⟨w.heap.size, 1, none⟩) (grown_set (p := ⟨w.heap.size, 0, none⟩) hgg1 (.inl (Nat.le_refl _)) _) (.inl (Nat.le_refl _)) _⟩

theorem refRateOf_all (A : Option Addr) (n c : Nat) (l : List Sal) (w : World) (hr : Rd w 3 A n (salFlat l)) (hn : n ≤ 400) (hb : ∀ t ∈ l, 0 ≤ t.s ∧ t.s ≤ 1000) :
    Calls Try.prog 77 #[.slice A n c, .func (.func 78) #[] #[]] w fun e w' => e = .returned (meanV lastB l) ∧ w.grownBy w' none := by
  have h := rateOf0_any _ allD A n c l w hr hn hb (enters_of Try.func78 (by kernel_rfl) rfl) fun x w1 _ => refAll_any x w1
  rw [show (fun t : Sal => !t.o && allD t) = lastB from by funext t; simp [allD, lastB]] at h
  exact h

set_option maxRecDepth 100000 in
set_option maxHeartbeats 400000 in
theorem refRate_any (A : Option Addr) (n c : Nat) (l : List Sal) (w : World) (hr : Rd w 3 A n (salFlat l)) (hn : n ≤ 400) (hf : dayFault l = 0) :
    Calls Try.prog 20 #[.slice A n c] w fun e w' => e = .returned (rateV lastB l) ∧ w.grownBy w' none := by
  have hv : rateV lastB l = .tuple #[frac (meanN lastB l) (meanD lastB l), .int .i64 (if cntP lastB l = 0 then 8 else 0)] := by unfold rateV; rw [if_neg (by simp [hf])]
  obtain ⟨_, hok⟩ := days_ok hf
  have hm := fun w1 (hg : w.grownBy w1 none) => refRateOf_all A n c l w1 (hr.grown hg) hn fun t ht => (hok t ht).2
  have hz := mean_zero (p := lastB) (l := l)
  rw [hv]
  unfold meanV at hm
  have hg0 := grown_alloc (grown_refl w) (.cells #[.int .i64 0, .int .i64 0] 31)
  have hB0 := Blk.new w 31 #[.int .i64 0, .int .i64 0]
  by_cases h0 : cntP lastB l = 0
  · obtain ⟨a0, b0⟩ := hz (by simp [h0])
    rw [a0, b0, show decide (cntP lastB l ≠ 0) = false from by simp [h0]] at hm
    rw [a0, b0, if_pos h0]
    have HC := Lib.hid hm
    clear hm hz h0 a0 b0 hv hok hf
    go_enter Try.func20, Try.ntmps20
    go_wp2_with fail
    refine (HC.out _ hg0).mono ?_
    rintro e w1 ⟨rfl, hg1⟩
    have hB1 := (hB0.grown hg1 (by simp)).alloc (.cells #[.int .i64 0, .int .i64 0] 31)
    have hgg1 := grown_alloc (hg0.trans hg1) (.cells #[.int .i64 0, .int .i64 0] 31)
    obtain ⟨e0, e1, f0, f1⟩ := hB1.two
    unfold frac
    go_wp2_with fail
    refine bodyPost_ret (results_row_tmp rfl _ _ w.heap.size _ _ _ _ rfl ((hB1.set_ 0 (.int .i64 0)).set_ 1 (.int .i64 0)) Try.underlying31 rfl (by kernel_rfl)) rfl ?_
    exact ⟨rfl, grown_set (p := ⟨w.heap.size, 1, none⟩) (grown_set (p := ⟨w.heap.size, 0, none⟩) hgg1 (.inl (Nat.le_refl _)) _) (.inl (Nat.le_refl _)) _⟩
  · rw [show decide (cntP lastB l ≠ 0) = true from by simp [h0]] at hm
    rw [if_neg h0]
    generalize meanN lastB l = a at *
    generalize meanD lastB l = b at *
    have HC := Lib.hid hm
    clear hm hz h0 hv hok hf
    go_enter Try.func20, Try.ntmps20
    go_wp2_with fail
    refine (HC.out _ hg0).mono ?_
    rintro e w1 ⟨rfl, hg1⟩
    have hB1 := (hB0.grown hg1 (by simp)).alloc (.cells #[.int .i64 a, .int .i64 b] 31)
    have hgg1 := grown_alloc (hg0.trans hg1) (.cells #[.int .i64 a, .int .i64 b] 31)
    obtain ⟨e0, e1, f0, f1⟩ := hB1.two
    unfold frac
    go_wp2_with fail
    refine bodyPost_ret (results_row_tmp rfl _ _ w.heap.size _ _ _ _ rfl ((hB1.set_ 0 (.int .i64 a)).set_ 1 (.int .i64 b)) Try.underlying31 rfl (by kernel_rfl)) rfl ?_
    exact ⟨rfl, grown_set (p := ⟨w.heap.size, 1, none⟩) (grown_set (p := ⟨w.heap.size, 0, none⟩) hgg1 (.inl (Nat.le_refl _)) _) (.inl (Nat.le_refl _)) _⟩

set_option maxRecDepth 100000 in
set_option maxHeartbeats 400000 in
theorem refLeast_any (A : Option Addr) (n c : Nat) (l : List Sal) (w : World) (hr : Rd w 3 A n (salFlat l)) (hn : n ≤ 400) (hf : dayFault l = 0) :
    Calls Try.prog 21 #[.slice A n c] w fun e w' => e = .returned (rateV allD l) ∧ w.grownBy w' none := by
  have hl : l.length = n := by have := hr.1; rw [salFlat_len] at this; omega
  have hv : rateV allD l = .tuple #[frac (meanN allD l) (meanD allD l), .int .i64 (if cntP allD l = 0 then 8 else 0)] := by unfold rateV; rw [if_neg (by simp [hf])]
  obtain ⟨_, hok⟩ := days_ok hf
  have hcn : cntP allD l = n := by
    unfold cntP
    rw [show l.filter allD = l from List.filter_eq_self.2 (fun _ _ => rfl), hl]
  rw [hv]
  have hg0 := grown_alloc (grown_refl w) (.cells #[.int .i64 0, .int .i64 0] 31)
  have hB0 := Blk.new w 31 #[.int .i64 0, .int .i64 0]
  by_cases h0 : n = 0
  · subst h0
    obtain ⟨a0, b0⟩ := mean_zero (p := allD) (l := l) (by rw [hcn]; rfl)
    rw [a0, b0, if_pos hcn]
    clear a0 b0 hv hok hf hcn
    go_enter Try.func21, Try.ntmps21
    go_wp2_with fail
    refine bodyPost_ret (results_row_tmp rfl _ _ w.heap.size _ _ _ _ rfl hB0 Try.underlying31 rfl (by kernel_rfl)) rfl ?_
    exact ⟨rfl, hg0⟩
  · have ha : meanN allD l = lowN (sumP allD l) n := by unfold meanN; rw [if_neg (by omega), hcn]
    have hb : meanD allD l = lowD (sumP allD l) n := by unfold meanD; rw [if_neg (by omega), hcn]
    rw [ha, hb, if_neg (by omega)]
    have HL := Lib.hid (And.intro hl (And.intro hok hcn))
    clear hv hf ha hb hl hok hcn
    go_enter Try.func21, Try.ntmps21
    go_wp2_with fail
    have hz0 : (w.alloc (.cells #[.int .i64 0, .int .i64 0] 31)).heap.size = w.heap.size + 1 := by simp
    generalize w.alloc (.cells #[.int .i64 0, .int .i64 0] 31) = w0 at *
    go_loopg [4, 13] n (fun k s i wr => ∃ j : Nat, k + j = n ∧ i = .int .i64 j ∧ s = .int .i64 (sumP allD (l.take j)) ∧ w0.grownBy wr none)
    case atStart => exact ⟨0, by omega, rfl, rfl, grown_refl w0⟩
    case round =>
      obtain ⟨j, hj, rfl, rfl, hg⟩ := hrel
      by_cases hlt : j < n
      · obtain ⟨b, off, rfl, hb, t, ht, c0, c1, c2⟩ := sal_cells ((hr.grown hg0).grown hg) hlt
        have hs := sumP_step (p := allD) ht
        obtain ⟨s0, s1⟩ := sumP_bound (p := allD) (l := l.take j) fun t ht => (HL.out.2.1 t (List.mem_of_mem_take ht)).2
        have s2 : (l.take j).length ≤ 400 := by rw [List.length_take]; omega
        have ht1 := (HL.out.2.1 t (List.mem_of_getElem? ht)).2
        generalize sumP allD (l.take j) = s at *
        have s3 : s ≤ 400000 := by omega
        rw [show (if allD t = true then t.s else 0) = t.s from rfl] at hs
        have HS := Lib.hid (And.intro hs hj)
        clear hs hj ht s2 s1
        have hgb := grown_alloc hg (.cells #[.int .i64 t.d, .int .i64 t.s, .bool t.o] 79)
        go_wp2_with fail
        obtain ⟨hs, hj⟩ := HS.out
        go_roundg (gk - 1)
        case measure => omega
        case rel => exact ⟨j + 1, by omega, by go_num, by rw [hs], hgb⟩
      · obtain rfl : j = n := by omega
        rw [List.take_of_length_le (by have := HL.out.1; omega)]
        have hB := hB0.grown hg (by simp)
        obtain ⟨e0, e1, f0, f1⟩ := hB.two
        have hgw := hg0.trans hg
        obtain ⟨s0, s1⟩ := sumP_bound (p := allD) (l := l) fun t ht => (HL.out.2.1 t ht).2
        have s2 : l.length ≤ 400 := by rw [HL.out.1]; omega
        have hcall := fun w => refPart_any (sumP allD l) j w (by omega) (by omega) (by omega) (by omega)
        have HC := Lib.hid hcall
        clear hcall s1 s2 hB0 hg0 hg e0 e1 f0 f1
        go_wp2_with fail
        refine (HC.out _).mono ?_
        rintro e w3 ⟨rfl, hg3⟩
        have hB3 := hB.grown hg3 (by simp)
        obtain ⟨e0, e1, f0, f1⟩ := hB3.two
        obtain ⟨y1, hy1⟩ : ∃ y, y = lowN (sumP allD l) j := ⟨_, rfl⟩
        obtain ⟨y2, hy2⟩ : ∃ y, y = lowD (sumP allD l) j := ⟨_, rfl⟩
        rw [← hy1, ← hy2]
        have HY := Lib.hid (And.intro hy1 hy2)
        clear hy1 hy2 HC
        unfold frac
        go_wp2_with fail
        refine bodyPost_ret (results_row_tmp rfl _ _ w.heap.size _ _ _ _ rfl ((hB3.set_ 0 (.int .i64 y1)).set_ 1 (.int .i64 y2)) Try.underlying31 rfl (by kernel_rfl)) rfl ?_
        rw [← HY.out.1, ← HY.out.2]
        exact ⟨rfl, grown_set (p := ⟨w.heap.size, 1, none⟩) (grown_set (p := ⟨w.heap.size, 0, none⟩) (hgw.trans hg3) (.inl (Nat.le_refl _)) _) (.inl (Nat.le_refl _)) _⟩

end Go.Proofs.Ytkfijicmeekmiaa
