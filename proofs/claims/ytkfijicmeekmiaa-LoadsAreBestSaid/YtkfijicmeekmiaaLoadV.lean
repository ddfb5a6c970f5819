/- The walks of Expected, Profit, Order. -/
import Derived.Test.YtkfijicmeekmiaaLoadC
import Derived.Test.YtkfijicmeekmiaaOver
import Derived.Test.YtkfijicmeekmiaaBlk
namespace Go.Proofs.Ytkfijicmeekmiaa
open Go.RowKit

theorem slOf_rng {h : List Int} (hh : ∀ x ∈ h, 0 ≤ x) {load : Nat} (hl : load ≤ 2001) : 0 ≤ slOf h load ∧ slOf h load ≤ 2001 * h.sum := by
  have := sl_rng hh hl h.length (Nat.le_refl _)
  rwa [List.take_of_length_le (Nat.le_refl _)] at this
theorem prOf_rng {h : List Int} (hh : ∀ x ∈ h, 0 ≤ x) {load : Nat} (hl : load ≤ 2001) {m w : Int} (hm : 0 ≤ m ∧ m ≤ 10000) (hw : 0 ≤ w ∧ w ≤ 10000) :
    -(20010000 * h.sum) ≤ prOf h load m w ∧ prOf h load m w ≤ 20010000 * h.sum := by
  have := pr_rng hh hl hm hw h.length (Nat.le_refl _)
  rwa [List.take_of_length_le (Nat.le_refl _)] at this

/-- What Expected answers of a load. -/
def expV (h : List Int) (load : Int) : Value :=
  if orE (histF h) (if btw load 0 2001 then 0 else 1) ≠ 0 then .tuple #[frac 0 0, .int .i64 (orE (histF h) (if btw load 0 2001 then 0 else 1))]
  else .tuple #[frac (lowN (slOf h load.toNat) h.sum) (lowD (slOf h load.toNat) h.sum), .int .i64 0]

set_option maxRecDepth 100000 in
set_option maxHeartbeats 1000000 in
theorem expected_any (A : Option Addr) (n c : Nat) (l : List Int) (load : Int) (w : World) (hr : Rd w 1 A n (ints l)) (hn : n ≤ 100000) :
    Calls Try.prog 46 #[.slice A n c, .int .i64 load] w fun e w' => e = .returned (expV l load) ∧ w.grownBy w' none := by
  have hl : l.length = n := by have := hr.1; simpa [ints] using this
  have hck := fun w1 (hg : w.grownBy w1 none) => checkLoad_any A n c l load w1 (hr.grown hg) hn
  have hg0 := grown_alloc (grown_refl w) (.cells #[.int .i64 0, .int .i64 0] 31)
  have hB0 := Blk.new w 31 #[.int .i64 0, .int .i64 0]
  obtain ⟨V, hV⟩ : ∃ V, V = expV l load := ⟨_, rfl⟩
  rw [← hV]
  unfold expV at hV
  by_cases h0 : orE (histF l) (if btw load 0 2001 then 0 else 1) = 0
  · rw [if_neg (by simp [h0])] at hV
    rw [h0] at hck
    obtain ⟨hf, hq⟩ := orE_zero h0
    obtain ⟨f1, f2, f3, f4⟩ := histF_ok hf
    have hq' : btw load 0 2001 = true := by
      by_cases hb : btw load 0 2001 = true
      · exact hb
      · rw [if_neg hb] at hq; omega
    obtain ⟨q1, q2⟩ := btw_true.1 hq'
    obtain ⟨ld, rfl⟩ : ∃ ld : Nat, load = ld := ⟨load.toNat, by omega⟩
    rw [show ((ld : Int)).toNat = ld from by omega] at hV
    have hs := fun w1 (hg : w.grownBy w1 none) => sales_any A n c l ld w1 (hr.grown hg) (by omega) f2 f4 (by omega)
    have ht := fun w1 (hg : w.grownBy w1 none) => total_any A n c l w1 (hr.grown hg) (by omega) fun x hx => by have := f2 x hx; omega
    have hrng := slOf_rng (fun x hx => (f2 x hx).1) (load := ld) (by omega)
    have hlo := fun w => lowest_any (slOf l ld) l.sum w (by omega) (by omega) f3 (by omega)
    generalize slOf l ld = z at *
    generalize l.sum = d at *
    generalize lowN z d = a at *
    generalize lowD z d = b at *
    have HC := Lib.hid (And.intro hck (And.intro hs (And.intro ht (And.intro hlo hV))))
    clear hck hs ht hlo hV h0 hq hf hq' f1 f2 f3 f4 hrng hl
    go_enter Try.func46, Try.ntmps46
    go_wp2_with fail
    refine (HC.out.1 _ hg0).mono ?_
    rintro e w1 ⟨rfl, hg1⟩
    have hgg1 := hg0.trans hg1
    go_wp2_with fail
    refine (HC.out.2.1 _ hgg1).mono ?_
    rintro e w2 ⟨rfl, hg2⟩
    have hgg2 := hgg1.trans hg2
    go_wp2_with fail
    refine (HC.out.2.2.1 _ hgg2).mono ?_
    rintro e w3 ⟨rfl, hg3⟩
    have hgg3 := hgg2.trans hg3
    go_wp2_with fail
    refine (HC.out.2.2.2.1 _).mono ?_
    rintro e w4 ⟨rfl, hg4⟩
    have hgg4 := hgg3.trans hg4
    have hB3 := hB0.grown (((hg1.trans hg2).trans hg3).trans hg4) (by simp)
    obtain ⟨e0, e1, f0, f1⟩ := hB3.two
    unfold frac at *
    go_wp2_with fail
    refine bodyPost_ret (results_row_tmp rfl _ _ w.heap.size _ _ _ _ rfl ((hB3.set_ 0 (.int .i64 a)).set_ 1 (.int .i64 b)) Try.underlying31 rfl (by kernel_rfl)) rfl ?_
    exact ⟨by rw [HC.out.2.2.2.2]; rfl, grown_set (p := ⟨w.heap.size, 1, none⟩) (grown_set (p := ⟨w.heap.size, 0, none⟩) hgg4 (.inl (Nat.le_refl _)) _) (.inl (Nat.le_refl _)) _⟩
  · rw [if_pos h0] at hV
    have hne : (orE (histF l) (if btw load 0 2001 then 0 else 1) != 0) = true := by rw [bne_iff_ne]; exact h0
    generalize orE (histF l) (if btw load 0 2001 then 0 else 1) = f at *
    have HC := Lib.hid (And.intro hck hV)
    clear hck hV h0 hl
    go_enter Try.func46, Try.ntmps46
    go_wp2_with fail
    refine (HC.out.1 _ hg0).mono ?_
    rintro e w1 ⟨rfl, hg1⟩
    have hB1 := hB0.grown hg1 (by simp)
    have hgg1 := hg0.trans hg1
    obtain ⟨e0, e1, f0, f1⟩ := hB1.two
    go_wp2_with fail
    refine bodyPost_ret (results_row_tmp rfl _ _ w.heap.size _ _ _ _ rfl ((hB1.set_ 0 (.int .i64 0)).set_ 1 (.int .i64 0)) Try.underlying31 rfl (by kernel_rfl)) rfl ?_
    exact ⟨by rw [HC.out.2]; rfl, grown_set (p := ⟨w.heap.size, 1, none⟩) (grown_set (p := ⟨w.heap.size, 0, none⟩) hgg1 (.inl (Nat.le_refl _)) _) (.inl (Nat.le_refl _)) _⟩

/-- What Profit answers. -/
def proV (h : List Int) (load m u : Int) : Value :=
  if orE (histF h) (moneyF load m u) ≠ 0 then .tuple #[frac 0 0, .int .i64 (orE (histF h) (moneyF load m u))]
  else .tuple #[frac (lowN (prOf h load.toNat m u) h.sum) (lowD (prOf h load.toNat m u) h.sum), .int .i64 0]

set_option maxRecDepth 100000 in
set_option maxHeartbeats 1000000 in
theorem profit_any (A : Option Addr) (n c : Nat) (l : List Int) (load m u : Int) (w : World) (hr : Rd w 1 A n (ints l)) (hn : n ≤ 100000) :
    Calls Try.prog 47 #[.slice A n c, .int .i64 load, .int .i64 m, .int .i64 u] w fun e w' => e = .returned (proV l load m u) ∧ w.grownBy w' none := by
  have hl : l.length = n := by have := hr.1; simpa [ints] using this
  have hck := fun w1 (hg : w.grownBy w1 none) => checkUnit_any A n c l load m u w1 (hr.grown hg) hn
  have hg0 := grown_alloc (grown_refl w) (.cells #[.int .i64 0, .int .i64 0] 31)
  have hB0 := Blk.new w 31 #[.int .i64 0, .int .i64 0]
  obtain ⟨V, hV⟩ : ∃ V, V = proV l load m u := ⟨_, rfl⟩
  rw [← hV]
  unfold proV at hV
  by_cases h0 : orE (histF l) (moneyF load m u) = 0
  · rw [if_neg (by simp [h0])] at hV
    rw [h0] at hck
    obtain ⟨hf, hq⟩ := orE_zero h0
    obtain ⟨f1, f2, f3, f4⟩ := histF_ok hf
    obtain ⟨⟨q1, q2⟩, hm, hu⟩ := money_ok hq
    obtain ⟨ld, rfl⟩ : ∃ ld : Nat, load = ld := ⟨load.toNat, by omega⟩
    rw [show ((ld : Int)).toNat = ld from by omega] at hV
    have hs := fun w1 (hg : w.grownBy w1 none) => sales_any A n c l ld w1 (hr.grown hg) (by omega) f2 f4 (by omega)
    have ht := fun w1 (hg : w.grownBy w1 none) => total_any A n c l w1 (hr.grown hg) (by omega) fun x hx => by have := f2 x hx; omega
    have hrng := slOf_rng (fun x hx => (f2 x hx).1) (load := ld) (by omega)
    have hprng := prOf_rng (fun x hx => (f2 x hx).1) (load := ld) (by omega) hm hu
    have heq := prOf_eq l ld m u
    have hlo := fun w => lowest_any (prOf l ld m u) l.sum w (by omega) (by omega) f3 (by omega)
    obtain ⟨p0, p1⟩ := mul_abs (x := l.sum) (y := (ld : Int)) (K := 2001) (by omega) (by omega)
    have p2 : 0 ≤ (ld : Int) * l.sum := Int.mul_nonneg (by omega) (by omega)
    rw [Int.mul_comm l.sum (ld : Int)] at p0 p1
    obtain ⟨s0, s1⟩ := mul_abs (x := slOf l ld) (y := m) (K := 10000) (by omega) (by omega)
    rw [Int.mul_comm (slOf l ld) m] at s0 s1
    generalize slOf l ld = z at *
    generalize l.sum = d at *
    have s2 := prOf_rng (fun x hx => (f2 x hx).1) (load := ld) (by omega) hm hu
    generalize prOf l ld m u = y at *
    generalize lowN y d = a at *
    generalize lowD y d = b at *
    have s3 : -20010000000000000 ≤ m * z := by omega
    have s4 : m * z ≤ 20010000000000000 := by omega
    obtain ⟨s7, s8⟩ := mul_abs (x := u) (y := (ld : Int) * d - z) (K := 2001000000000) hu.1 (by omega)
    have s5 : -40020000000000000 ≤ u * ((ld : Int) * d - z) := by omega
    have s6 : u * ((ld : Int) * d - z) ≤ 40020000000000000 := by omega
    have p4 : (ld : Int) * d ≤ 2001000000000 := by omega
    have z0 : 0 ≤ z := by omega
    have z1 : z ≤ 2001000000000 := by omega
    have HC := Lib.hid (And.intro hck (And.intro hs (And.intro ht (And.intro hlo (And.intro hV heq)))))
    clear hck hs ht hlo hV h0 hq hf f1 f2 f3 f4 hrng hl heq p0 p1 s0 s1 hprng s2 s7 s8
    go_enter Try.func47, Try.ntmps47
    go_wp2_with fail
    refine (HC.out.1 _ hg0).mono ?_
    rintro e w1 ⟨rfl, hg1⟩
    have hgg1 := hg0.trans hg1
    go_wp2_with fail
    refine (HC.out.2.2.1 _ hgg1).mono ?_
    rintro e w2 ⟨rfl, hg2⟩
    have hgg2 := hgg1.trans hg2
    go_wp2_with fail
    refine (HC.out.2.1 _ hgg2).mono ?_
    rintro e w3 ⟨rfl, hg3⟩
    have hgg3 := hgg2.trans hg3
    go_wp2_with fail
    rw [HC.out.2.2.2.2.2]
    refine (HC.out.2.2.2.1 _).mono ?_
    rintro e w4 ⟨rfl, hg4⟩
    have hgg4 := hgg3.trans hg4
    have hB3 := hB0.grown (((hg1.trans hg2).trans hg3).trans hg4) (by simp)
    obtain ⟨e0, e1, f0, f1⟩ := hB3.two
    unfold frac at *
    go_wp2_with fail
    refine bodyPost_ret (results_row_tmp rfl _ _ w.heap.size _ _ _ _ rfl ((hB3.set_ 0 (.int .i64 a)).set_ 1 (.int .i64 b)) Try.underlying31 rfl (by kernel_rfl)) rfl ?_
    exact ⟨by rw [HC.out.2.2.2.2.1]; rfl, grown_set (p := ⟨w.heap.size, 1, none⟩) (grown_set (p := ⟨w.heap.size, 0, none⟩) hgg4 (.inl (Nat.le_refl _)) _) (.inl (Nat.le_refl _)) _⟩
  · rw [if_pos h0] at hV
    have hne : (orE (histF l) (moneyF load m u) != 0) = true := by rw [bne_iff_ne]; exact h0
    generalize orE (histF l) (moneyF load m u) = f at *
    have HC := Lib.hid (And.intro hck hV)
    clear hck hV h0 hl
    go_enter Try.func47, Try.ntmps47
    go_wp2_with fail
    refine (HC.out.1 _ hg0).mono ?_
    rintro e w1 ⟨rfl, hg1⟩
    have hB1 := hB0.grown hg1 (by simp)
    have hgg1 := hg0.trans hg1
    obtain ⟨e0, e1, f0, f1⟩ := hB1.two
    go_wp2_with fail
    refine bodyPost_ret (results_row_tmp rfl _ _ w.heap.size _ _ _ _ rfl ((hB1.set_ 0 (.int .i64 0)).set_ 1 (.int .i64 0)) Try.underlying31 rfl (by kernel_rfl)) rfl ?_
    exact ⟨by rw [HC.out.2]; rfl, grown_set (p := ⟨w.heap.size, 1, none⟩) (grown_set (p := ⟨w.heap.size, 0, none⟩) hgg1 (.inl (Nat.le_refl _)) _) (.inl (Nat.le_refl _)) _⟩

end Go.Proofs.Ytkfijicmeekmiaa
