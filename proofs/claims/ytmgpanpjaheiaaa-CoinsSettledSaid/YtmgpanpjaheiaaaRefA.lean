/- The walks of slices.IndexFunc, ContainsFunc over numbers; of the reference's SettleFault; of worth. -/
import Derived.Test.YtmgpanpjaheiaaaVendC
import Derived.Shelf.Abstract
namespace Go.Proofs.Ytmgpanpjaheiaaa
open Go.RowKit

/-- slices.IndexFunc as a number. -/
def idxI (p : Int → Bool) (l : List Int) : Int := match l.findIdx? p with | some k => k | none => -1
def IdxInv (p : Int → Bool) (l : List Int) (j : Nat) : Prop := ∀ i x, i < j → l[i]? = some x → p x = false

theorem IdxInv.next {p : Int → Bool} {l : List Int} {j : Nat} {x : Int} (h : IdxInv p l j) (hx : l[j]? = some x) (hp : p x = false) : IdxInv p l (j + 1) := by
  intro i y hi hy
  rcases Nat.lt_or_ge i j with h1 | h1
  · exact h i y h1 hy
  · obtain rfl : i = j := by omega
    rw [hx] at hy; cases hy; exact hp
theorem IdxInv.found {p : Int → Bool} {l : List Int} {j : Nat} {x : Int} (h : IdxInv p l j) (hx : l[j]? = some x) (hp : p x = true) : idxI p l = j := by
  obtain ⟨hj, e⟩ := List.getElem?_eq_some_iff.1 hx
  unfold idxI
  have : l.findIdx? p = some j := by
    rw [List.findIdx?_eq_some_iff_getElem]
    refine ⟨hj, by rw [e]; exact hp, fun i hi => ?_⟩
    have := h i l[i] hi (List.getElem?_eq_getElem _)
    simp [this]
  rw [this]
theorem IdxInv.done {p : Int → Bool} {l : List Int} (h : IdxInv p l l.length) : idxI p l = -1 := by
  unfold idxI
  have : l.findIdx? p = none := by
    rw [List.findIdx?_eq_none_iff]
    intro x hx
    obtain ⟨i, hi, e⟩ := List.getElem_of_mem hx
    exact h i x hi (by rw [← e]; exact List.getElem?_eq_getElem _)
  rw [this]

set_option maxHeartbeats 400000 in
theorem indexFunc_any (g : Nat) (p : Int → Bool) (A : Option Addr) (n c : Nat) (l : List Int) (w : World) (hr : Rd w 1 A n (ints l)) (hn : n ≤ 1000000) (he : Enters Try.prog g)
    (hf : ∀ x w1, Calls Try.prog g #[.int .i64 x] w1 fun e w2 => e = .returned (.bool (p x)) ∧ w1 = w2) :
    Calls Try.prog 75 #[.slice A n c, .func (.func g) #[] #[]] w fun e w' => e = .returned (.int .i64 (idxI p l)) ∧ w.grownBy w' none := by
  have hl : l.length = n := by have := hr.1; simp [ints] at this; omega
  have HL := Lib.hid hl
  have HF := Lib.hid hf
  have he' : ∀ (args : Array Value) (w : World), (callFunc g args).run Try.prog w = .ok (.enter g args) w := he
  clear hl hf he
  go_enter Try.func75, Try.ntmps75
  go_wp2_with fail
  go_loopg [8] n (fun k i wr => ∃ j : Nat, k + j = n ∧ i = .int .i64 j ∧ w.grownBy wr none ∧ IdxInv p l j)
  case atStart => exact ⟨0, by omega, rfl, grown_refl w, fun i x h => absurd h (by omega)⟩
  case round =>
    obtain ⟨j, hj, rfl, hg, H⟩ := hrel
    by_cases hlt : j < n
    · obtain ⟨b', off, rfl, hb, x, hx, c0⟩ := int_cells (hr.grown hg) hlt
      have HX := Lib.hid hx
      have HJ := Lib.hid hj
      clear hx hj
      go_wp2_with fail
      refine (HF.out x _).mono ?_
      rintro e w1 ⟨rfl, rfl⟩
      by_cases hp : p x = true
      · go_wp2_with fail
        go_ret
        exact ⟨retI (H.found HX.out hp).symm, hg⟩
      · have hp' : p x = false := by simpa using hp
        clear hp
        go_wp2_with fail
        have hj := HJ.out
        go_roundg (gk - 1)
        case measure => omega
        case rel => exact ⟨j + 1, by omega, by go_num, hg, H.next HX.out hp'⟩
    · obtain rfl : j = n := by omega
      go_wp2_with fail
      go_ret
      exact ⟨retI (by rw [← HL.out] at H; exact H.done.symm), hg⟩

theorem idxI_any (p : Int → Bool) (l : List Int) : decide (0 ≤ idxI p l) = l.any p := by
  unfold idxI
  cases h : l.findIdx? p with
  | none =>
    rw [List.findIdx?_eq_none_iff] at h
    have : l.any p = false := by rw [List.any_eq_false]; intro x hx; simp [h x hx]
    rw [this]; rfl
  | some k =>
    rw [List.findIdx?_eq_some_iff_getElem] at h
    obtain ⟨hk, hp, _⟩ := h
    have : l.any p = true := List.any_eq_true.2 ⟨_, List.getElem_mem hk, hp⟩
    rw [this]; simp

set_option maxHeartbeats 400000 in
theorem containsFunc_any (g : Nat) (p : Int → Bool) (A : Option Addr) (n c : Nat) (l : List Int) (w : World) (hr : Rd w 1 A n (ints l)) (hn : n ≤ 1000000) (he : Enters Try.prog g)
    (hf : ∀ x w1, Calls Try.prog g #[.int .i64 x] w1 fun e w2 => e = .returned (.bool (p x)) ∧ w1 = w2) :
    Calls Try.prog 58 #[.slice A n c, .func (.func g) #[] #[]] w fun e w' => e = .returned (.bool (l.any p)) ∧ w.grownBy w' none := by
  have hc := indexFunc_any g p A n c l w hr hn he hf
  rw [← idxI_any]
  generalize idxI p l = k at *
  have HC := Lib.hid hc
  clear hc hf he
  go_enter Try.func58, Try.ntmps58
  go_wp2_with fail
  refine HC.out.mono ?_
  rintro e w1 ⟨rfl, hg1⟩
  go_wp2_with fail
  go_ret
  exact ⟨rfl, hg1⟩

def coinBadB (n : Int) : Bool := !btw n 0 10000
theorem settleFault1_any (x : Int) (w : World) :
    Calls Try.prog 59 #[.int .i64 x] w fun e w2 => e = .returned (.bool (coinBadB x)) ∧ w = w2 := by
  by_cases h : x < 0
  · go_enter Try.func59, Try.ntmps59
    go_wp2_with fail
    go_ret
    exact ⟨retB (by rw [Bool.eq_iff_iff]; simp [coinBadB, btw] <;> omega), rfl⟩
  · have h' : 0 ≤ x := by omega
    clear h
    go_enter Try.func59, Try.ntmps59
    go_wp2_with fail
    go_ret
    exact ⟨retB (by rw [Bool.eq_iff_iff]; simp [coinBadB, btw] <;> omega), rfl⟩

theorem any_bad (l : List Int) : l.any coinBadB = !allB l 0 10000 := by
  unfold allB coinBadB
  induction l with
  | nil => rfl
  | cons a r ih => simp [ih]

/-- The reference's SettleFault. -/
def refSettleFault (l : List Tub) (add : List Int) : Int := if add.length ≠ l.length then 3 else if allB add 0 10000 = false then 1 else 0

set_option maxHeartbeats 400000 in
theorem refSettleFault_any (A B : Option Addr) (n c m d : Nat) (l : List Tub) (add : List Int) (w : World) (hr : Rd w 3 A n (tubFlat l)) (ha : Rd w 1 B m (ints add)) (hm : m ≤ 100000) (hn : n ≤ 100000) :
    Calls Try.prog 33 #[.slice A n c, .slice B m d] w fun e w' => e = .returned (.int .i64 (refSettleFault l add)) ∧ w.grownBy w' none := by
  have hl : l.length = n := by have := hr.1; rw [tubFlat_len] at this; omega
  have hla : add.length = m := by have := ha.1; simp [ints] at this; omega
  by_cases h1 : m = n
  · subst h1
    have hs : refSettleFault l add = if allB add 0 10000 = false then 1 else 0 := by simp [refSettleFault, hl, hla]
    rw [hs]
    have hc := containsFunc_any 59 coinBadB B m d add w ha (by omega) (enters_of Try.func59 (by kernel_rfl) rfl) settleFault1_any
    rw [any_bad] at hc
    generalize allB add 0 10000 = b at *
    have HC := Lib.hid hc
    clear hc hl hla hs
    go_enter Try.func33, Try.ntmps33
    go_wp2_with fail
    refine HC.out.mono ?_
    rintro e w1 ⟨rfl, hg1⟩
    cases b
    · go_wp2_with fail
      go_ret
      exact ⟨rfl, hg1⟩
    · go_wp2_with fail
      go_ret
      exact ⟨rfl, hg1⟩
  · have hs : refSettleFault l add = 3 := by simp [refSettleFault, hl, hla, h1]
    rw [hs]
    have hb : ((m : Int) != (n : Int)) = true := by rw [bne_iff_ne]; omega
    clear hs hl hla h1
    go_enter Try.func33, Try.ntmps33
    go_wp2_with fail
    go_ret
    exact ⟨rfl, grown_refl w⟩

/-- What numbers of coins are worth. -/
def worthOf (l : List Tub) (add : List Int) : Nat → Int
  | 0 => 0
  | j + 1 => worthOf l add j + add.getD j 0 * (l.getD j ⟨0, 0, 0⟩).v

set_option maxHeartbeats 400000 in
theorem worth_any (A B : Option Addr) (n c m d : Nat) (l : List Tub) (add : List Int) (w : World) (hr : Rd w 3 A n (tubFlat l)) (ha : Rd w 1 B m (ints add)) (hm : m ≤ n) (hn : n ≤ 100)
    (hright : ∀ t ∈ l, 0 ≤ t.v ∧ t.v ≤ 10000) (hadd : ∀ x ∈ add, -1000000 ≤ x ∧ x ≤ 1000000) :
    Calls Try.prog 42 #[.slice A n c, .slice B m d] w fun e w' => e = .returned (.int .i64 (worthOf l add m)) ∧ w.grownBy w' none := by
  have HR := Lib.hid hright
  have HX := Lib.hid hadd
  clear hright hadd
  go_enter Try.func42, Try.ntmps42
  go_wp2_with fail
  go_loopg [5, 10] m (fun k s i wr => ∃ j : Nat, k + j = m ∧ i = .int .i64 j ∧ s = .int .i64 (worthOf l add j) ∧ w.grownBy wr none ∧ (-(j : Int) * 10000000000 ≤ worthOf l add j ∧ worthOf l add j ≤ j * 10000000000))
  case atStart => exact ⟨0, by omega, rfl, rfl, grown_refl w, by simp [worthOf]⟩
  case round =>
    obtain ⟨j, hj, rfl, rfl, hg, hb1, hb2⟩ := hrel
    by_cases hlt : j < m
    · obtain ⟨b, off, rfl, hb, t, ht, c0, c1, c2⟩ := tub_cells (hr.grown hg) (k := j) (by omega)
      obtain ⟨b', off', rfl, hb', x, hx, d0⟩ := int_cells (ha.grown hg) hlt
      have hjn : (j : Int) < (n : Int) := by omega
      obtain ⟨t1, t2⟩ := HR.out t (List.mem_of_getElem? ht)
      obtain ⟨x1, x2⟩ := HX.out x (List.mem_of_getElem? hx)
      have hW : worthOf l add (j + 1) = worthOf l add j + x * t.v := by simp [worthOf, List.getD, ht, hx]
      have p1 : x * t.v ≤ 1000000 * 10000 := Int.le_trans (Int.mul_le_mul_of_nonneg_right x2 t1) (Int.mul_le_mul_of_nonneg_left t2 (by omega))
      have p0 : -(1000000 * 10000) ≤ x * t.v := by
        have h1 : -1000000 * t.v ≤ x * t.v := Int.mul_le_mul_of_nonneg_right x1 t1
        have h2 : -1000000 * t.v ≥ -(1000000 * 10000) := by omega
        omega
      generalize worthOf l add j = s at *
      have HW := Lib.hid hW
      have HJ := Lib.hid hj
      clear hW hj ht hx
      go_wp2_with fail
      have hj := HJ.out
      go_roundg (gk - 1)
      case measure => omega
      case rel => exact ⟨j + 1, by omega, by go_num, by rw [HW.out], hg, by rw [HW.out]; omega⟩
    · obtain rfl : j = m := by omega
      go_wp2_with fail
      go_ret
      exact ⟨rfl, hg⟩

end Go.Proofs.Ytmgpanpjaheiaaa
