/- Words of the law DemandStays: Equal of sales, EqualFunc of rows; Together of one day, Instead, Uncover, whatever they answer. -/
import Derived.Test.YtkfijicmeekmiaaTakS
import Derived.Test.YtkfijicmeekmiaaEqF
import Derived.Test.YtkfijicmeekmiaaTog
import Derived.Test.YtkfijicmeekmiaaUncov
import Derived.Test.YtkfijicmeekmiaaIdx
namespace Go.Proofs.Ytkfijicmeekmiaa
open Go.RowKit

set_option maxRecDepth 100000 in
set_option maxHeartbeats 1000000 in
theorem equalSales_same (A B : Option Addr) (n c d : Nat) (X : List Sal) (w : World) (hr : Rd w 3 A n (salFlat X)) (hr2 : Rd w 3 B n (salFlat X)) (hn : n ≤ 1000) :
    Calls Try.prog 65 #[.slice A n c, .slice B n d] w fun e w' => e = .returned (.bool true) ∧ w.grownBy w' none := by
  go_enter Try.func65, Try.ntmps65
  go_wp2_with fail
  go_loopg [13] n (fun k i wr => ∃ j : Nat, k + j = n ∧ i = .int .i64 j ∧ Dr w wr)
  case atStart => exact ⟨0, by omega, rfl, Dr.refl w⟩
  case round =>
    obtain ⟨j, hj, rfl, hg⟩ := hrel
    by_cases hlt : j < n
    · obtain ⟨b, off, rfl, _, t, ht, c0, c1, c2⟩ := sal_cells (hr.grown hg.grown) hlt
      obtain ⟨b', off', rfl, _, t', ht', d0, d1, d2⟩ := sal_cells (hr2.grown hg.grown) hlt
      obtain rfl : t = t' := by rw [ht] at ht'; injection ht'
      obtain ⟨x, y, z⟩ := t
      have hlt' : (j : Int) < (n : Int) := by omega
      have HJ := Lib.hid hj
      clear hj ht ht'
      go_wp2_with fail
      go_quiet (fail)
      go_wp2_with fail
      have hj := HJ.out
      go_roundg (gk - 1)
      case measure => omega
      case rel => exact ⟨j + 1, by omega, by go_num, hg.more _⟩
    · obtain rfl : j = n := by omega
      go_wp2_with fail
      go_ret
      exact ⟨rfl, hg.grown⟩

set_option maxRecDepth 100000 in
set_option maxHeartbeats 1000000 in
theorem equalRows_same (base base2 : Nat) (A B : Option Addr) (c d : Nat) (R : List (List Int)) (w : World) (hr : RdT w base A R) (hr2 : RdT w base2 B R) (hn : R.length ≤ 1000) (hl : ∀ l ∈ R, l.length ≤ 1000) (he : Enters Try.prog 22) :
    Calls Try.prog 66 #[.slice A R.length c, .slice B R.length d, .func (.func 22) #[] #[]] w fun e w' => e = .returned (.bool true) ∧ w.grownBy w' none := by
  have he' : ∀ (args : Array Value) (w : World), (callFunc 22 args).run Try.prog w = .ok (.enter 22 args) w := he
  obtain ⟨N, hN⟩ : ∃ N, R.length = N := ⟨_, rfl⟩
  have HL := Lib.hid (And.intro hl hN)
  rw [hN] at hn ⊢
  clear he hl hN
  go_enter Try.func66, Try.ntmps66
  go_wp2_with fail
  go_loopg [17] N (fun k i wr => ∃ j : Nat, k + j = N ∧ i = .int .i64 j ∧ w.grownBy wr none)
  case atStart => exact ⟨0, by omega, rfl, grown_refl w⟩
  case round =>
    obtain ⟨j, hj, rfl, hg⟩ := hrel
    by_cases hlt : j < N
    · obtain ⟨b, off, rfl, _, l, hl, Ai, ci, cR, hrl⟩ := (hr.grown hg).row (k := j) (by have := HL.out.2; omega)
      obtain ⟨b', off', rfl, _, l', hl', Ai', ci', cR', hrl'⟩ := (hr2.grown hg).row (k := j) (by have := HL.out.2; omega)
      obtain rfl : l = l' := by rw [hl] at hl'; injection hl'
      have hll := HL.out.1 l (List.mem_of_getElem? hl)
      have heq := equalInts_any Ai Ai' l.length ci l.length ci' l l wr hrl hrl' (by omega) (by omega)
      rw [show decide (l = l) = true from by simp] at heq
      have HQ := Lib.hid (And.intro heq hj)
      clear heq hj hl hl'
      go_wp2_with fail
      refine HQ.out.1.mono ?_
      rintro e w1 ⟨rfl, hg1⟩
      go_wp2_with fail
      have hj := HQ.out.2
      go_roundg (gk - 1)
      case measure => omega
      case rel => exact ⟨j + 1, by omega, by go_num, hg.trans hg1⟩
    · obtain rfl : j = N := by omega
      go_wp2_with fail
      go_ret
      exact ⟨rfl, hg⟩

theorem togE_one (l : List Int) : togE l 1 = histF l := by
  unfold togE
  by_cases h : histF l = 0
  · rw [if_neg (by omega), if_neg (by simp [btw]), h]
    obtain ⟨h1, h2, h3, h4⟩ := histF_ok h
    have ht := trN_le l
    have hb : fitB l.sum (1 : Int).toNat 1 = true := by
      show (if 1000000000 < 1 * l.sum then false else true) = true
      rw [if_neg (by omega)]
    rw [if_neg]
    rintro (h | h)
    · omega
    · rw [hb] at h; cases h
  · rw [if_pos h]

theorem together_one (A : Option Addr) (n c : Nat) (l : List Int) (w : World) (hr : Rd w 1 A n (ints l)) (hnc : n ≤ c) (hn : n ≤ 100000) :
    Calls Try.prog 40 #[.slice A n c, .int .i64 1] w fun e w' => ∃ v m X, e = .returned (.tuple #[v, .int .i64 (histF l)]) ∧ w'.ownsRow w.heap.size 3 1 v m (ints X) ∧ w.grownBy w' none := by
  by_cases h : togE l 1 = 0
  · refine (together_ok A n c l 1 w hr hnc hn h).mono ?_
    rintro e w' ⟨v, rfl, ho, hg⟩
    rw [togE_one] at h
    rw [h]
    exact ⟨v, _, _, rfl, ho, hg⟩
  · refine (together_bad A n c l 1 w hr hnc hn (by omega) h).mono ?_
    rintro e w' ⟨rfl, hg⟩
    rw [togE_one]
    exact ⟨_, 0, [], rfl, World.ownsRow_nil _ _ _ _, hg⟩

theorem instead_own (base : Nat) (A B C : Option Addr) (c cb cs n : Nat) (R : List (List Int)) (W S : List Int) (w : World) (hr : RdT w base A R) (hn : R.length ≤ 1000) (hWn : W.length = n) (hSn : S.length = n) (hn1 : n ≤ 1000) (hW : Rd w 1 B n (ints W)) (hS : Rd w 1 C n (ints S)) :
    Calls Try.prog 59 #[.agg #[.slice A R.length c], .slice B n cb, .slice C n cs] w
      fun e w' => ∃ v1 v2 m X Y, e = .returned (.tuple #[v1, v2, .int .i64 (insF R W S)]) ∧ w'.ownsRow w.heap.size 3 1 v1 m (ints X) ∧ w'.ownsRow w.heap.size 3 1 v2 m (ints Y) ∧ w.grownBy w' none := by
  subst hWn
  have hS' := hS
  rw [← hSn] at hS'
  by_cases h : insF R W S = 0
  · have h1 := instead_any base A B C c cb cs R W S w hr (by omega) hW hS' h
    rw [hSn] at h1
    refine h1.mono ?_
    rintro e w' ⟨v1, v2, rfl, h1, h2, hg⟩
    rw [h]
    exact ⟨v1, v2, _, _, _, rfl, h1, h2, hg⟩
  · have h1 := instead_bad base A B C c cb cs R W S w hr (by omega) hW hS' (by omega) (by omega) h
    rw [hSn] at h1
    refine h1.mono ?_
    rintro e w' ⟨rfl, hg⟩
    exact ⟨_, _, 0, [], [], rfl, World.ownsRow_nil _ _ _ _, World.ownsRow_nil _ _ _ _, hg⟩

theorem uncover_own (A : Option Addr) (n c : Nat) (l : List Sal) (w : World) (hr : Rd w 3 A n (salFlat l)) (hn : n ≤ 400) :
    Calls Try.prog 17 #[.slice A n c] w fun e w' => ∃ v f, e = .returned (.tuple #[v, .int .i64 f]) ∧ w.grownBy w' none := by
  by_cases h : dayFault l = 0
  · refine (uncover_any A n c l w hr hn h).mono ?_
    rintro e w' ⟨v, rfl, _, hg⟩
    exact ⟨v, 0, rfl, hg⟩
  · refine (uncover_bad A n c l w hr hn h).mono ?_
    rintro e w' ⟨rfl, hg⟩
    exact ⟨_, _, rfl, hg⟩

/-- A write into some row leaves a row of as many numbers. -/
theorem own_wrote {w : World} {base g i n : Nat} {v : Value} {l : List Int} {x : Int} (h0 : 0 < n) (h : w.ownsRow base 3 1 v n (ints l)) :
    ∃ l', (w.setCell ⟨g, i, none⟩ (.int .i64 x)).ownsRow base 3 1 v n (ints l') := by
  obtain ⟨g2, c2, rfl, _, _⟩ := h.form h0
  by_cases e : g2 = g
  · subst e; exact ⟨_, own_int_set h i x⟩
  · exact ⟨l, h.kept (grown_set (World.grownBy.refl w (some g)) (.inr rfl) _) (.inr (by simpa [Value.ownBlock] using e))⟩

end Go.Proofs.Ytkfijicmeekmiaa
