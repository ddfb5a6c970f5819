/- The walks of slices.IndexFunc, ContainsFunc over numbers; of the reference's SettleFault; of worth. -/
import Derived.Test.YtoaeflegcfecaaaVendC
import Derived.Test.YtoaeflegcfecaaaIdx
import Derived.Shelf.Abstract
namespace Go.Proofs.Ytoaeflegcfecaaa
open Go.RowKit

def coinBadB (n : Int) : Bool := !btw n 0 10000
theorem settleFault1_any (x : Int) (w : World) :
    Calls Try.prog 59 #[.int .i64 x] w fun e w2 => e = .returned (.bool (coinBadB x)) ∧ w = w2 := by
  by_cases h : x < 0
  · go_enter Try.func59, Try.ntmps59
    go_wp2_with fail
    go_ret
    exact ⟨retB (by rw [Bool.eq_iff_iff]; simp [coinBadB, btw] <;> omega), rfl⟩
  · have h' : 0 ≤ x := by omega
    clear h
    go_enter Try.func59, Try.ntmps59
    go_wp2_with fail
    go_ret
    exact ⟨retB (by rw [Bool.eq_iff_iff]; simp [coinBadB, btw] <;> omega), rfl⟩

theorem any_bad (l : List Int) : l.any coinBadB = !allB l 0 10000 := by
  unfold allB coinBadB
  induction l with
  | nil => rfl
  | cons a r ih => simp [ih]

/-- The reference's SettleFault. -/
def refSettleFault (l : List Tub) (add : List Int) : Int := if add.length ≠ l.length then 3 else if allB add 0 10000 = false then 1 else 0

set_option maxHeartbeats 400000 in
theorem refSettleFault_any (A B : Option Addr) (n c m d : Nat) (l : List Tub) (add : List Int) (w : World) (hr : Rd w 3 A n (tubFlat l)) (ha : Rd w 1 B m (ints add)) (hm : m ≤ 100000) (hn : n ≤ 100000) :
    Calls Try.prog 33 #[.slice A n c, .slice B m d] w fun e w' => e = .returned (.int .i64 (refSettleFault l add)) ∧ w.grownBy w' none := by
  have hl : l.length = n := by have := hr.1; rw [tubFlat_len] at this; omega
  have hla : add.length = m := by have := ha.1; simp [ints] at this; omega
  by_cases h1 : m = n
  · subst h1
    have hs : refSettleFault l add = if allB add 0 10000 = false then 1 else 0 := by simp [refSettleFault, hl, hla]
    rw [hs]
    have hc := containsFunc_any 59 coinBadB B m d add w ha (by omega) (enters_of Try.func59 (by kernel_rfl) rfl) settleFault1_any
    rw [any_bad] at hc
    generalize allB add 0 10000 = b at *
    have HC := Lib.hid hc
    clear hc hl hla hs
    go_enter Try.func33, Try.ntmps33
    go_wp2_with fail
    refine HC.out.mono ?_
    rintro e w1 ⟨rfl, hg1⟩
    cases b
    · go_wp2_with fail
      go_ret
      exact ⟨rfl, hg1⟩
    · go_wp2_with fail
      go_ret
      exact ⟨rfl, hg1⟩
  · have hs : refSettleFault l add = 3 := by simp [refSettleFault, hl, hla, h1]
    rw [hs]
    have hb : ((m : Int) != (n : Int)) = true := by rw [bne_iff_ne]; omega
    clear hs hl hla h1
    go_enter Try.func33, Try.ntmps33
    go_wp2_with fail
    go_ret
    exact ⟨rfl, grown_refl w⟩

/-- What numbers of coins are worth. -/
def worthOf (l : List Tub) (add : List Int) : Nat → Int
  | 0 => 0
  | j + 1 => worthOf l add j + add.getD j 0 * (l.getD j ⟨0, 0, 0⟩).v

set_option maxHeartbeats 400000 in
theorem worth_any (A B : Option Addr) (n c m d : Nat) (l : List Tub) (add : List Int) (w : World) (hr : Rd w 3 A n (tubFlat l)) (ha : Rd w 1 B m (ints add)) (hm : m ≤ n) (hn : n ≤ 100)
    (hright : ∀ t ∈ l, 0 ≤ t.v ∧ t.v ≤ 10000) (hadd : ∀ x ∈ add, -1000000 ≤ x ∧ x ≤ 1000000) :
    Calls Try.prog 42 #[.slice A n c, .slice B m d] w fun e w' => e = .returned (.int .i64 (worthOf l add m)) ∧ w.grownBy w' none := by
  have HR := Lib.hid hright
  have HX := Lib.hid hadd
  clear hright hadd
  go_enter Try.func42, Try.ntmps42
  go_wp2_with fail
  go_loopg [5, 10] m (fun k s i wr => ∃ j : Nat, k + j = m ∧ i = .int .i64 j ∧ s = .int .i64 (worthOf l add j) ∧ w.grownBy wr none ∧ (-(j : Int) * 10000000000 ≤ worthOf l add j ∧ worthOf l add j ≤ j * 10000000000))
  case atStart => exact ⟨0, by omega, rfl, rfl, grown_refl w, by simp [worthOf]⟩
  case round =>
    obtain ⟨j, hj, rfl, rfl, hg, hb1, hb2⟩ := hrel
    by_cases hlt : j < m
    · obtain ⟨b, off, rfl, hb, t, ht, c0, c1, c2⟩ := tub_cells (hr.grown hg) (k := j) (by omega)
      obtain ⟨b', off', rfl, hb', x, hx, d0⟩ := int_cells (ha.grown hg) hlt
      have hjn : (j : Int) < (n : Int) := by omega
      obtain ⟨t1, t2⟩ := HR.out t (List.mem_of_getElem? ht)
      obtain ⟨x1, x2⟩ := HX.out x (List.mem_of_getElem? hx)
      have hW : worthOf l add (j + 1) = worthOf l add j + x * t.v := by simp [worthOf, List.getD, ht, hx]
      have p1 : x * t.v ≤ 1000000 * 10000 := Int.le_trans (Int.mul_le_mul_of_nonneg_right x2 t1) (Int.mul_le_mul_of_nonneg_left t2 (by omega))
      have p0 : -(1000000 * 10000) ≤ x * t.v := by
        have h1 : -1000000 * t.v ≤ x * t.v := Int.mul_le_mul_of_nonneg_right x1 t1
        have h2 : -1000000 * t.v ≥ -(1000000 * 10000) := by omega
        omega
      generalize worthOf l add j = s at *
      have HW := Lib.hid hW
      have HJ := Lib.hid hj
      clear hW hj ht hx
      go_wp2_with fail
      have hj := HJ.out
      go_roundg (gk - 1)
      case measure => omega
      case rel => exact ⟨j + 1, by omega, by go_num, by rw [HW.out], hg, by rw [HW.out]; omega⟩
    · obtain rfl : j = m := by omega
      go_wp2_with fail
      go_ret
      exact ⟨rfl, hg⟩

end Go.Proofs.Ytoaeflegcfecaaa
