/- The walks of trim and of the reference's trimmed. -/
import Derived.Test.YtkfijicmeekmiaaLoadC
import Derived.Test.YtkfijicmeekmiaaClone
import Derived.BigQuiet
namespace Go.Proofs.Ytkfijicmeekmiaa
open Go.RowKit

/-- How many of the first j numbers stay without the zeros at the end. -/
def trA (l : List Int) : Nat → Nat
  | 0 => 0
  | j + 1 => if l.getD j 0 = 0 then trA l j else j + 1
def trN (l : List Int) : Nat := trA l l.length
theorem trA_le (l : List Int) (j : Nat) : trA l j ≤ j := by
  induction j with
  | zero => exact Nat.le_refl _
  | succ j ih => simp only [trA]; split <;> omega
theorem trN_le (l : List Int) : trN l ≤ l.length := trA_le l _
theorem trA_last (l : List Int) (j : Nat) : 0 < trA l j → l.getD (trA l j - 1) 0 ≠ 0 := by
  induction j with
  | zero => intro h; simp [trA] at h
  | succ j ih =>
    simp only [trA]
    split
    · exact ih
    · rename_i h; intro _; simpa using h
theorem trA_zero (l : List Int) (j i : Nat) (h : trA l j ≤ i) (hi : i < j) : l.getD i 0 = 0 := by
  induction j with
  | zero => omega
  | succ j ih =>
    simp only [trA] at h
    split at h
    · rename_i h0
      by_cases e : i = j
      · rw [e]; exact h0
      · exact ih h (by omega)
    · omega
theorem trA_sum (l : List Int) (j : Nat) (hj : j ≤ l.length) : (l.take (trA l j)).sum = (l.take j).sum := by
  induction j with
  | zero => rfl
  | succ j ih =>
    have hx : l[j]? = some (l.getD j 0) := by simp [List.getD, show j < l.length from by omega]
    simp only [trA]
    split
    · rename_i h; rw [ih (by omega), sum_take hx, h]; omega
    · rfl
theorem trN_sum (l : List Int) : (l.take (trN l)).sum = l.sum := by
  unfold trN; rw [trA_sum l _ (Nat.le_refl _), List.take_of_length_le (Nat.le_refl _)]

theorem Rd.pre {w : World} {A : Option Addr} {n : Nat} {l : List Int} (h : Rd w 1 A n (ints l)) {k : Nat} (hk : k ≤ n) : Rd w 1 A k (ints (l.take k)) := by
  have hl := h.1
  refine ⟨by simp [ints] at *; omega, fun hn => ?_⟩
  obtain ⟨b, off, e, hb, hc⟩ := h.2 (by omega)
  refine ⟨b, off, e, hb, fun j u hu => hc j u ?_⟩
  simp only [ints, List.map_take, List.getElem?_take] at hu ⊢
  split at hu
  · exact hu
  · cases hu

set_option maxRecDepth 100000 in
set_option maxHeartbeats 1000000 in
theorem trim_any (A : Option Addr) (n c : Nat) (l : List Int) (w : World) (hr : Rd w 1 A n (ints l)) (hn : n ≤ 100000) (hnc : n ≤ c) :
    Calls Try.prog 92 #[.slice A n c] w fun e w' => e = .returned (.slice A (trN l) c) ∧ w.grownBy w' none := by
  have hl : l.length = n := by have := hr.1; simpa [ints] using this
  have HL := Lib.hid hl
  have HT : Hid (trN l = trA l n) := Lib.hid (by unfold trN; rw [hl])
  clear hl
  go_enter Try.func92, Try.ntmps92
  go_wp2_with fail
  go_loopg [3] n (fun k i wr => ∃ j : Nat, k = j ∧ j ≤ n ∧ i = .int .i64 j ∧ w.grownBy wr none ∧ Hid (trA l j = trA l n))
  case atStart => exact ⟨n, rfl, Nat.le_refl _, rfl, grown_refl w, Lib.hid rfl⟩
  case round =>
    obtain ⟨j, hj, hjn, rfl, hg, HJ⟩ := hrel
    rcases j with _ | p
    · simp only [Int.natCast_zero]
      have hd : decide ((0 : Int) < 0) = false := by simp
      go_wp2_with fail
      go_ret
      exact ⟨by rw [HT.out, ← HJ.out]; rfl, hg⟩
    · obtain ⟨j, hjp⟩ : ∃ j, j = p + 1 := ⟨_, rfl⟩
      have hp : p < n := by omega
      obtain ⟨b, off, rfl, hb, x, hx, c0⟩ := int_cells (hr.grown hg) hp
      have hst : trA l (p + 1) = if x = 0 then trA l p else p + 1 := by simp only [trA]; rw [show l.getD p 0 = x from by simp [List.getD, hx]]
      rw [← hjp] at hst HJ hj hjn ⊢
      have hj0 : (0 : Int) < (j : Int) := by omega
      have hjw : IntKind.i64.wrap ((j : Int) - 1) = (p : Int) := by rw [IntWalk.i64_in _ (by omega)]; omega
      by_cases hx0 : x = 0
      · rw [if_pos hx0] at hst
        have HS := Lib.hid (And.intro hst (And.intro hjp hj))
        subst hx0
        clear hst hjp hx hj
        go_wp2_with fail
        obtain ⟨hst, hjp, hj⟩ := HS.out
        go_roundg p
        case measure => omega
        case rel => exact ⟨p, rfl, by omega, rfl, hg, Lib.hid (by rw [← hst]; exact HJ.out)⟩
      · rw [if_neg hx0] at hst
        have hx1 : (x == 0) = false := by rw [beq_eq_false_iff_ne]; exact hx0
        have HS := Lib.hid (And.intro hst (And.intro hjp hj))
        clear hst hjp hx hj
        go_wp2_with fail
        go_ret
        exact ⟨by rw [HT.out, ← HJ.out, HS.out.1]; rfl, hg⟩

set_option maxRecDepth 100000 in
set_option maxHeartbeats 1000000 in
theorem trimmed_any (A : Option Addr) (n c : Nat) (l : List Int) (w : World) (hr : Rd w 1 A n (ints l)) (hn : n ≤ 100000) (hnc : n ≤ c) :
    Calls Try.prog 99 #[.slice A n c] w fun e w' => ∃ v, e = .returned v ∧ w'.ownsRow w.heap.size 3 1 v (trN l) (ints (l.take (trN l))) ∧ w.grownBy w' none := by
  have hl : l.length = n := by have := hr.1; simpa [ints] using this
  have hle := trN_le l
  have hcl := fun w1 (hg : w.grownBy w1 none) => cloneInts_any A (trN l) c (l.take (trN l)) w1 ((hr.grown hg).pre (by omega)) (by omega)
  have HL := Lib.hid (And.intro hl hcl)
  have HT : Hid (trN l = trA l n) := Lib.hid (by unfold trN; rw [hl])
  clear hl hcl hle
  go_enter Try.func99, Try.ntmps99
  go_wp2_with fail
  go_loopg [0] n (fun k v wr => ∃ j : Nat, k = j ∧ j ≤ n ∧ v = .slice A j c ∧ w.grownBy wr none ∧ Hid (trA l j = trA l n))
  case atStart => exact ⟨n, rfl, Nat.le_refl _, rfl, grown_refl w, Lib.hid rfl⟩
  case round =>
    obtain ⟨j, hj, hjn, rfl, hg, HJ⟩ := hrel
    rcases j with _ | p
    · have hd : decide ((0 : Int) < 0) = false := by simp
      go_wp2_with fail
      have hcl := HL.out.2 _ hg
      have e0 : trN l = 0 := by rw [HT.out, ← HJ.out]; rfl
      rw [e0] at hcl
      have E0 := Lib.hid e0
      clear e0
      refine hcl.mono ?_
      rintro e w1 ⟨v1, rfl, hown1, hg1⟩
      go_wp2_with fail
      go_ret
      rw [E0.out]
      exact ⟨_, rfl, own_mono hown1 hg.size, hg.trans hg1⟩
    · obtain ⟨j, hjp⟩ : ∃ j, j = p + 1 := ⟨_, rfl⟩
      have hp : p < n := by omega
      obtain ⟨b, off, rfl, hb, x, hx, c0⟩ := int_cells (hr.grown hg) hp
      have hst : trA l (p + 1) = if x = 0 then trA l p else p + 1 := by simp only [trA]; rw [show l.getD p 0 = x from by simp [List.getD, hx]]
      rw [← hjp] at hst HJ hj hjn ⊢
      have hj0 : (0 : Int) < (j : Int) := by omega
      have hpj : p < j := by omega
      have hjw : IntKind.i64.wrap ((j : Int) - 1) = (p : Int) := by rw [IntWalk.i64_in _ (by omega)]; omega
      by_cases hx0 : x = 0
      · rw [if_pos hx0] at hst
        have HS := Lib.hid (And.intro hst (And.intro hjp hj))
        subst hx0
        have hpc : p ≤ c := by omega
        clear hst hjp hx hj
        go_wp2_with fail
        obtain ⟨hst, hjp, hj⟩ := HS.out
        go_roundg p
        case measure => omega
        case rel => exact ⟨p, rfl, by omega, rfl, hg, Lib.hid (by rw [← hst]; exact HJ.out)⟩
      · rw [if_neg hx0] at hst
        have hx1 : (x == 0) = false := by rw [beq_eq_false_iff_ne]; exact hx0
        have HS := Lib.hid (And.intro hst (And.intro hjp hj))
        clear hst hjp hx hj
        go_wp2_with fail
        have hcl := HL.out.2 _ hg
        have e0 : trN l = j := by rw [HT.out, ← HJ.out, HS.out.1]
        rw [e0] at hcl
        have E0 := Lib.hid e0
        clear e0
        refine hcl.mono ?_
        rintro e w1 ⟨v1, rfl, hown1, hg1⟩
        go_wp2_with fail
        go_ret
        rw [E0.out]
        exact ⟨_, rfl, own_mono hown1 hg.size, hg.trans hg1⟩

end Go.Proofs.Ytkfijicmeekmiaa
