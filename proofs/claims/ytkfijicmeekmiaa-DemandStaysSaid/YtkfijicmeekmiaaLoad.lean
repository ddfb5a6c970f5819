/- The walks of sales, checkLoad, checkUnit, and of the reference's profitOf, moreThan, MoneyFault. -/
import Derived.Test.YtkfijicmeekmiaaLoadP
namespace Go.Proofs.Ytkfijicmeekmiaa
open Go.RowKit

theorem mul_abs {x y K : Int} (hx : 0 ≤ x) (hy : -K ≤ y ∧ y ≤ K) : -(K * x) ≤ x * y ∧ x * y ≤ K * x := by
  have h1 := Int.mul_le_mul_of_nonneg_left hy.1 hx
  have h2 := Int.mul_le_mul_of_nonneg_left hy.2 hx
  rw [Int.mul_neg] at h1
  rw [Int.mul_comm K x]
  exact ⟨h1, h2⟩
theorem take_sum {l : List Int} (hl : ∀ x ∈ l, 0 ≤ x) (j : Nat) : 0 ≤ (l.take j).sum ∧ (l.take j).sum ≤ l.sum := by
  have h := (drop_sum_le hl j).1
  have h2 := (drop_sum_le (h := l.take j) (fun x hx => hl x (List.mem_of_mem_take hx)) 0).1
  have e : (l.take j).sum + (l.drop j).sum = l.sum := by rw [← List.sum_append, List.take_append_drop]
  rw [List.drop_zero] at h2
  omega
theorem sl_rng {h : List Int} (hh : ∀ x ∈ h, 0 ≤ x) {load : Nat} (hl : load ≤ 2001) (j : Nat) (hj : j ≤ h.length) : 0 ≤ slAt h load j ∧ slAt h load j ≤ 2001 * (h.take j).sum := by
  induction j with
  | zero => simp [slAt]
  | succ j ih =>
    have hx : h[j]? = some (h.getD j 0) := by simp [List.getD, show j < h.length from by omega]
    rw [sum_take hx]
    have h0 := hh _ (List.mem_of_getElem? hx)
    have := ih (by omega)
    have h1 := mul_abs (y := (min j load : Nat)) (K := 2001) h0 (by omega)
    have h2 : 0 ≤ h.getD j 0 * (min j load : Nat) := Int.mul_nonneg h0 (by omega)
    simp only [slAt]
    omega
/-- What one unit's number brings of a load. -/
theorem un_rng {m w : Int} (hm : 0 ≤ m ∧ m ≤ 10000) (hw : 0 ≤ w ∧ w ≤ 10000) {load k : Nat} (hl : load ≤ 2001) (hk : k ≤ load) :
    (0 ≤ m * k ∧ m * k ≤ 20010000) ∧ (0 ≤ w * ((load : Int) - k) ∧ w * ((load : Int) - k) ≤ 20010000) := by
  have h1 := mul_abs (x := (k : Int)) (y := m) (K := 10000) (by omega) (by omega)
  have h2 : 0 ≤ m * (k : Int) := Int.mul_nonneg hm.1 (by omega)
  have h3 := mul_abs (x := (load : Int) - k) (y := w) (K := 10000) (by omega) (by omega)
  have h4 : 0 ≤ w * ((load : Int) - k) := Int.mul_nonneg hw.1 (by omega)
  rw [Int.mul_comm (k : Int) m] at h1
  rw [Int.mul_comm ((load : Int) - k) w] at h3
  omega
theorem pr_rng {h : List Int} (hh : ∀ x ∈ h, 0 ≤ x) {load : Nat} (hl : load ≤ 2001) {m w : Int} (hm : 0 ≤ m ∧ m ≤ 10000) (hw : 0 ≤ w ∧ w ≤ 10000) (j : Nat) (hj : j ≤ h.length) :
    -(20010000 * (h.take j).sum) ≤ prAt h load m w j ∧ prAt h load m w j ≤ 20010000 * (h.take j).sum := by
  induction j with
  | zero => simp [prAt]
  | succ j ih =>
    have hx : h[j]? = some (h.getD j 0) := by simp [List.getD, show j < h.length from by omega]
    rw [sum_take hx]
    have h0 := hh _ (List.mem_of_getElem? hx)
    have := ih (by omega)
    have h2 := un_rng hm hw (load := load) (k := min j load) hl (by omega)
    have h1 := mul_abs (y := m * (min j load : Nat) - w * ((load : Int) - (min j load : Nat))) (K := 20010000) h0 (by omega)
    simp only [prAt]
    omega

set_option maxHeartbeats 1000000 in
theorem sales_any (A : Option Addr) (n c : Nat) (l : List Int) (load : Nat) (w : World) (hr : Rd w 1 A n (ints l)) (hn : n ≤ 2001) (hb : ∀ x ∈ l, 0 ≤ x ∧ x ≤ 1000000000) (hs : l.sum ≤ 1000000000) (hload : load ≤ 2001) :
    Calls Try.prog 102 #[.slice A n c, .int .i64 load] w fun e w' => e = .returned (.int .i64 (slOf l load)) ∧ w.grownBy w' none := by
  have hl : l.length = n := by have := hr.1; simpa [ints] using this
  have HL := Lib.hid (And.intro hl (And.intro hb hs))
  clear hl hb hs
  go_enter Try.func102, Try.ntmps102
  go_wp2_with fail
  go_loopg [5, 10] n (fun k z i wr => ∃ j : Nat, k + j = n ∧ i = .int .i64 j ∧ z = .int .i64 (slAt l load j) ∧ w.grownBy wr none)
  case atStart => exact ⟨0, by omega, rfl, rfl, grown_refl w⟩
  case round =>
    obtain ⟨j, hj, rfl, rfl, hg⟩ := hrel
    by_cases hlt : j < n
    · obtain ⟨b, off, rfl, hb, x, hx, c0⟩ := int_cells (hr.grown hg) hlt
      have hxd : l.getD j 0 = x := by simp [List.getD, hx]
      have hst : slAt l load (j + 1) = slAt l load j + x * (min j load : Nat) := by simp only [slAt]; rw [hxd]
      obtain ⟨x0, x1⟩ := HL.out.2.1 x (List.mem_of_getElem? hx)
      obtain ⟨z0, z1⟩ := sl_rng (fun x hx => (HL.out.2.1 x hx).1) hload j (by rw [HL.out.1]; omega)
      obtain ⟨s0, s1⟩ := take_sum (fun x hx => (HL.out.2.1 x hx).1) j
      have hs := HL.out.2.2
      generalize slAt l load j = z at *
      have z2 : z ≤ 2001000000000 := by omega
      obtain ⟨q0, q1⟩ := mul_abs (y := (min j load : Nat)) (K := 2001) x0 (by omega)
      by_cases hjl : j ≤ load
      · rw [show min j load = j from by omega] at hst q0 q1
        have q2 : x * (j : Int) ≤ 2001000000000 := by omega
        have q3 : -2001000000000 ≤ x * (j : Int) := by omega
        have HS := Lib.hid (And.intro hst hj)
        clear hst hj hx hxd z1 s0 s1 hs q0 q1
        go_wp2_with fail
        obtain ⟨hst, hj⟩ := HS.out
        go_roundg (gk - 1)
        case measure => omega
        case rel => exact ⟨j + 1, by omega, by go_num, by rw [hst], hg⟩
      · rw [show min j load = load from by omega] at hst q0 q1
        have q2 : x * (load : Int) ≤ 2001000000000 := by omega
        have q3 : -2001000000000 ≤ x * (load : Int) := by omega
        have hjl' : load < j := by omega
        have HS := Lib.hid (And.intro hst hj)
        clear hst hj hx hxd z1 s0 s1 hs q0 q1
        go_wp2_with fail
        obtain ⟨hst, hj⟩ := HS.out
        go_roundg (gk - 1)
        case measure => omega
        case rel => exact ⟨j + 1, by omega, by go_num, by rw [hst], hg⟩
    · obtain rfl : j = n := by omega
      go_wp2_with fail
      go_ret
      exact ⟨by unfold slOf; rw [HL.out.1]; rfl, hg⟩

set_option maxHeartbeats 1000000 in
theorem profitOf_any (A : Option Addr) (n c : Nat) (l : List Int) (load : Nat) (m u : Int) (w : World) (hr : Rd w 1 A n (ints l)) (hn : n ≤ 2001) (hb : ∀ x ∈ l, 0 ≤ x ∧ x ≤ 1000000000) (hs : l.sum ≤ 1000000000) (hload : load ≤ 2001)
    (hm : 0 ≤ m ∧ m ≤ 10000) (hu : 0 ≤ u ∧ u ≤ 10000) :
    Calls Try.prog 104 #[.slice A n c, .int .i64 load, .int .i64 m, .int .i64 u] w fun e w' => e = .returned (.int .i64 (prOf l load m u)) ∧ w.grownBy w' none := by
  have hl : l.length = n := by have := hr.1; simpa [ints] using this
  have HL := Lib.hid (And.intro hl (And.intro hb hs))
  clear hl hb hs
  go_enter Try.func104, Try.ntmps104
  go_wp2_with fail
  go_loopg [9, 14] n (fun k z i wr => ∃ j : Nat, k + j = n ∧ i = .int .i64 j ∧ z = .int .i64 (prAt l load m u j) ∧ w.grownBy wr none)
  case atStart => exact ⟨0, by omega, rfl, rfl, grown_refl w⟩
  case round =>
    obtain ⟨j, hj, rfl, rfl, hg⟩ := hrel
    by_cases hlt : j < n
    · obtain ⟨b, off, rfl, hb, x, hx, c0⟩ := int_cells (hr.grown hg) hlt
      have hxd : l.getD j 0 = x := by simp [List.getD, hx]
      have hst : prAt l load m u (j + 1) = prAt l load m u j + x * (m * (min j load : Nat) - u * ((load : Int) - (min j load : Nat))) := by simp only [prAt]; rw [hxd]
      obtain ⟨x0, x1⟩ := HL.out.2.1 x (List.mem_of_getElem? hx)
      obtain ⟨z0, z1⟩ := pr_rng (fun x hx => (HL.out.2.1 x hx).1) hload hm hu j (by rw [HL.out.1]; omega)
      obtain ⟨s0, s1⟩ := take_sum (fun x hx => (HL.out.2.1 x hx).1) j
      have hs := HL.out.2.2
      generalize prAt l load m u j = z at *
      have z2 : z ≤ 20010000000000000 := by omega
      have z3 : -20010000000000000 ≤ z := by omega
      obtain ⟨⟨p0, p1⟩, p2, p3⟩ := un_rng hm hu (load := load) (k := min j load) hload (by omega)
      obtain ⟨q0, q1⟩ := mul_abs (y := m * (min j load : Nat) - u * ((load : Int) - (min j load : Nat))) (K := 20010000) x0 (by omega)
      by_cases hjl : j ≤ load
      · rw [show min j load = j from by omega] at *
        have q2 : x * (m * (j : Int) - u * ((load : Int) - j)) ≤ 20010000000000000 := by omega
        have q3 : -20010000000000000 ≤ x * (m * (j : Int) - u * ((load : Int) - j)) := by omega
        have HS := Lib.hid (And.intro hst hj)
        clear hst hj hx hxd z0 z1 s0 s1 hs q0 q1
        go_wp2_with fail
        obtain ⟨hst, hj⟩ := HS.out
        go_roundg (gk - 1)
        case measure => omega
        case rel => exact ⟨j + 1, by omega, by go_num, by rw [hst], hg⟩
      · rw [show min j load = load from by omega, Int.sub_self, Int.mul_zero] at *
        rw [Int.sub_zero] at hst q0 q1
        have q2 : x * (m * (load : Int)) ≤ 20010000000000000 := by omega
        have q3 : -20010000000000000 ≤ x * (m * (load : Int)) := by omega
        have hjl' : load < j := by omega
        have HS := Lib.hid (And.intro hst hj)
        clear hst hj hx hxd z0 z1 s0 s1 hs q0 q1
        go_wp2_with fail
        obtain ⟨hst, hj⟩ := HS.out
        go_roundg (gk - 1)
        case measure => omega
        case rel => exact ⟨j + 1, by omega, by go_num, by rw [hst], hg⟩
    · obtain rfl : j = n := by omega
      go_wp2_with fail
      go_ret
      exact ⟨by unfold prOf; rw [HL.out.1]; rfl, hg⟩

end Go.Proofs.Ytkfijicmeekmiaa
