/- The walks of slices.IndexFunc, ContainsFunc over numbers. -/
import Derived.Test.YtbkcadkfcjmpiaaDoorTerms
import Derived.Shelf.Abstract
namespace Go.Proofs.YtbkcadkfcjmpiaaDoor
open Go.RowKit

/-- slices.IndexFunc as a number. -/
def idxI (p : Int → Bool) (l : List Int) : Int := match l.findIdx? p with | some k => k | none => -1
def IdxInv (p : Int → Bool) (l : List Int) (j : Nat) : Prop := ∀ i x, i < j → l[i]? = some x → p x = false

theorem IdxInv.next {p : Int → Bool} {l : List Int} {j : Nat} {x : Int} (h : IdxInv p l j) (hx : l[j]? = some x) (hp : p x = false) : IdxInv p l (j + 1) := by
  intro i y hi hy
  rcases Nat.lt_or_ge i j with h1 | h1
  · exact h i y h1 hy
  · obtain rfl : i = j := by omega
    rw [hx] at hy; cases hy; exact hp
theorem IdxInv.found {p : Int → Bool} {l : List Int} {j : Nat} {x : Int} (h : IdxInv p l j) (hx : l[j]? = some x) (hp : p x = true) : idxI p l = j := by
  obtain ⟨hj, e⟩ := List.getElem?_eq_some_iff.1 hx
  unfold idxI
  have : l.findIdx? p = some j := by
    rw [List.findIdx?_eq_some_iff_getElem]
    refine ⟨hj, by rw [e]; exact hp, fun i hi => ?_⟩
    have := h i l[i] hi (List.getElem?_eq_getElem _)
    simp [this]
  rw [this]
theorem IdxInv.done {p : Int → Bool} {l : List Int} (h : IdxInv p l l.length) : idxI p l = -1 := by
  unfold idxI
  have : l.findIdx? p = none := by
    rw [List.findIdx?_eq_none_iff]
    intro x hx
    obtain ⟨i, hi, e⟩ := List.getElem_of_mem hx
    exact h i x hi (by rw [← e]; exact List.getElem?_eq_getElem _)
  rw [this]

set_option maxHeartbeats 400000 in
theorem indexFunc_any (g : Nat) (p : Int → Bool) (A : Option Addr) (n c : Nat) (l : List Int) (w : World) (hr : Rd w 1 A n (ints l)) (hn : n ≤ 1000000) (he : Enters Tryd.prog g)
    (hf : ∀ x w1, Calls Tryd.prog g #[.int .i64 x] w1 fun e w2 => e = .returned (.bool (p x)) ∧ w1 = w2) :
    Calls Tryd.prog 85 #[.slice A n c, .func (.func g) #[] #[]] w fun e w' => e = .returned (.int .i64 (idxI p l)) ∧ w.grownBy w' none := by
  have hl : l.length = n := by have := hr.1; simp [ints] at this; omega
  have HL := Lib.hid hl
  have HF := Lib.hid hf
  have he' : ∀ (args : Array Value) (w : World), (callFunc g args).run Tryd.prog w = .ok (.enter g args) w := he
  clear hl hf he
  go_enter Tryd.func85, Tryd.ntmps85
  go_wp2_with fail
  go_loopg [8] n (fun k i wr => ∃ j : Nat, k + j = n ∧ i = .int .i64 j ∧ w.grownBy wr none ∧ IdxInv p l j)
  case atStart => exact ⟨0, by omega, rfl, grown_refl w, fun i x h => absurd h (by omega)⟩
  case round =>
    obtain ⟨j, hj, rfl, hg, H⟩ := hrel
    by_cases hlt : j < n
    · obtain ⟨b', off, rfl, hb, x, hx, c0⟩ := int_cells (hr.grown hg) hlt
      have HX := Lib.hid hx
      have HJ := Lib.hid hj
      clear hx hj
      go_wp2_with fail
      refine (HF.out x _).mono ?_
      rintro e w1 ⟨rfl, rfl⟩
      by_cases hp : p x = true
      · go_wp2_with fail
        go_ret
        exact ⟨retI (H.found HX.out hp).symm, hg⟩
      · have hp' : p x = false := by simpa using hp
        clear hp
        go_wp2_with fail
        have hj := HJ.out
        go_roundg (gk - 1)
        case measure => omega
        case rel => exact ⟨j + 1, by omega, by go_num, hg, H.next HX.out hp'⟩
    · obtain rfl : j = n := by omega
      go_wp2_with fail
      go_ret
      exact ⟨retI (by rw [← HL.out] at H; exact H.done.symm), hg⟩

theorem idxI_any (p : Int → Bool) (l : List Int) : decide (0 ≤ idxI p l) = l.any p := by
  unfold idxI
  cases h : l.findIdx? p with
  | none =>
    rw [List.findIdx?_eq_none_iff] at h
    have : l.any p = false := by rw [List.any_eq_false]; intro x hx; simp [h x hx]
    rw [this]; rfl
  | some k =>
    rw [List.findIdx?_eq_some_iff_getElem] at h
    obtain ⟨hk, hp, _⟩ := h
    have : l.any p = true := List.any_eq_true.2 ⟨_, List.getElem_mem hk, hp⟩
    rw [this]; simp

set_option maxHeartbeats 400000 in
theorem containsFunc_any (g : Nat) (p : Int → Bool) (A : Option Addr) (n c : Nat) (l : List Int) (w : World) (hr : Rd w 1 A n (ints l)) (hn : n ≤ 1000000) (he : Enters Tryd.prog g)
    (hf : ∀ x w1, Calls Tryd.prog g #[.int .i64 x] w1 fun e w2 => e = .returned (.bool (p x)) ∧ w1 = w2) :
    Calls Tryd.prog 60 #[.slice A n c, .func (.func g) #[] #[]] w fun e w' => e = .returned (.bool (l.any p)) ∧ w.grownBy w' none := by
  have hc := indexFunc_any g p A n c l w hr hn he hf
  rw [← idxI_any]
  generalize idxI p l = k at *
  have HC := Lib.hid hc
  clear hc hf he
  go_enter Tryd.func60, Tryd.ntmps60
  go_wp2_with fail
  refine HC.out.mono ?_
  rintro e w1 ⟨rfl, hg1⟩
  go_wp2_with fail
  go_ret
  exact ⟨rfl, hg1⟩

/-! ### A closure that has captured one variable -/

set_option maxHeartbeats 400000 in
theorem indexFunc1_any (g : Nat) (cv : Value) (p : Int → Bool) (A : Option Addr) (n c : Nat) (l : List Int) (w : World) (hr : Rd w 1 A n (ints l)) (hn : n ≤ 1000000) (he : Enters Tryd.prog g)
    (hf : ∀ x w1, w.grownBy w1 none → Calls Tryd.prog g #[.int .i64 x, cv] w1 fun e w2 => e = .returned (.bool (p x)) ∧ w1 = w2) :
    Calls Tryd.prog 85 #[.slice A n c, .func (.func g) #[] #[cv]] w fun e w' => e = .returned (.int .i64 (idxI p l)) ∧ w.grownBy w' none := by
  have hl : l.length = n := by have := hr.1; simp [ints] at this; omega
  have HL := Lib.hid hl
  have HF := Lib.hid hf
  have he' : ∀ (args : Array Value) (w : World), (callFunc g args).run Tryd.prog w = .ok (.enter g args) w := he
  clear hl hf he
  go_enter Tryd.func85, Tryd.ntmps85
  go_wp2_with fail
  go_loopg [8] n (fun k i wr => ∃ j : Nat, k + j = n ∧ i = .int .i64 j ∧ w.grownBy wr none ∧ IdxInv p l j)
  case atStart => exact ⟨0, by omega, rfl, grown_refl w, fun i x h => absurd h (by omega)⟩
  case round =>
    obtain ⟨j, hj, rfl, hg, H⟩ := hrel
    by_cases hlt : j < n
    · obtain ⟨b', off, rfl, hb, x, hx, c0⟩ := int_cells (hr.grown hg) hlt
      have HX := Lib.hid hx
      have HJ := Lib.hid hj
      clear hx hj
      go_wp2_with fail
      refine (HF.out x _ hg).mono ?_
      rintro e w1 ⟨rfl, rfl⟩
      by_cases hp : p x = true
      · go_wp2_with fail
        go_ret
        exact ⟨retI (H.found HX.out hp).symm, hg⟩
      · have hp' : p x = false := by simpa using hp
        clear hp
        go_wp2_with fail
        have hj := HJ.out
        go_roundg (gk - 1)
        case measure => omega
        case rel => exact ⟨j + 1, by omega, by go_num, hg, H.next HX.out hp'⟩
    · obtain rfl : j = n := by omega
      go_wp2_with fail
      go_ret
      exact ⟨retI (by rw [← HL.out] at H; exact H.done.symm), hg⟩

set_option maxHeartbeats 400000 in
theorem containsFunc1_any (g : Nat) (cv : Value) (p : Int → Bool) (A : Option Addr) (n c : Nat) (l : List Int) (w : World) (hr : Rd w 1 A n (ints l)) (hn : n ≤ 1000000) (he : Enters Tryd.prog g)
    (hf : ∀ x w1, w.grownBy w1 none → Calls Tryd.prog g #[.int .i64 x, cv] w1 fun e w2 => e = .returned (.bool (p x)) ∧ w1 = w2) :
    Calls Tryd.prog 60 #[.slice A n c, .func (.func g) #[] #[cv]] w fun e w' => e = .returned (.bool (l.any p)) ∧ w.grownBy w' none := by
  have hc := indexFunc1_any g cv p A n c l w hr hn he hf
  rw [← idxI_any]
  generalize idxI p l = k at *
  have HC := Lib.hid hc
  clear hc hf he
  go_enter Tryd.func60, Tryd.ntmps60
  go_wp2_with fail
  refine HC.out.mono ?_
  rintro e w1 ⟨rfl, hg1⟩
  go_wp2_with fail
  go_ret
  exact ⟨rfl, hg1⟩

end Go.Proofs.YtbkcadkfcjmpiaaDoor
