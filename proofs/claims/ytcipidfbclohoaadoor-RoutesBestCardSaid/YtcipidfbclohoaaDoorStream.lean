/- The walks of the stream of raw numbers: Below, Next, Flip, Pick. -/
import Derived.Test.YtcipidfbclohoaaDoorProg
import Derived.Test.YtcipidfbclohoaaDoorMem
namespace Go.Proofs.YtcipidfbclohoaaDoor
open Go.RowKit

def belowI (x n : Int) : Int := if n < 1 then 0 else x % n

theorem belowI_nonneg (x n : Int) : 0 ≤ belowI x n := by
  unfold belowI; split
  · omega
  · exact Int.emod_nonneg _ (by omega)
theorem belowI_lt (x n : Int) (h : 1 ≤ n) : belowI x n < n := by
  unfold belowI; rw [if_neg (by omega)]; exact Int.emod_lt_of_pos _ (by omega)

theorem belowI_pos {x n : Int} (hn : 1 ≤ n) (h : x.tmod n < 0) : x.tmod n + n = belowI x n := by
  unfold belowI; rw [if_neg (by omega)]
  have h3 := Int.emod_nonneg x (b := n) (by omega)
  rw [Int.tmod_eq_emod] at h ⊢
  split at h
  · omega
  · rename_i hc; rw [if_neg hc]; omega
theorem belowI_zero {x n : Int} (hn : 1 ≤ n) (h : 0 ≤ x.tmod n) : x.tmod n = belowI x n := by
  unfold belowI; rw [if_neg (by omega)]
  have h3 := Int.emod_lt_of_pos x (b := n) (by omega)
  rw [Int.tmod_eq_emod] at h ⊢
  split at h
  · rename_i hc; rw [if_pos hc]; omega
  · omega

set_option maxHeartbeats 400000 in
theorem below_any (x n : Int) (w : World) (hn1 : n ≤ 1099511627776) :
    Calls Tryd.prog 56 #[.int .i64 x, .int .i64 n] w fun e w' => e = .returned (.int .i64 (belowI x n)) ∧ w = w' := by
  by_cases hn : 1 ≤ n
  · have hb : -n < x.tmod n := Int.lt_tmod_of_pos x (by omega)
    go_enter Tryd.func56, Tryd.ntmps56
    go_wp2
    · have h : x.tmod n < 0 := by assumption
      go_ret
      exact ⟨retI (belowI_pos hn h), rfl⟩
    · have h : 0 ≤ x.tmod n := by assumption
      go_ret
      exact ⟨retI (belowI_zero hn h), rfl⟩
  · have h : n < 1 := by omega
    go_enter Tryd.func56, Tryd.ntmps56
    go_wp2
    go_ret
    exact ⟨retI (by simp [belowI, h]), rfl⟩

/-- The stream lies in block bs: its numbers, of whose block Q holds, and how many it has handed out. -/
def StrQ (Q : Nat → Prop) (w : World) (bs : Nat) (L : List Int) (t : Nat) : Prop :=
  ∃ A c, w.heap[bs]? = some (.cells #[.slice A L.length c, .int .i64 t] 25 (0, 0)) ∧ L.length ≤ maxLen ∧
    (L ≠ [] → ∃ b off, A = some ⟨b, off, none⟩ ∧ b < bs ∧ Q b ∧ ∀ j x, L[j]? = some x → w.cell? ⟨b, off + j, none⟩ = some (.int .i64 x))
abbrev Str (w : World) (bs : Nat) (L : List Int) (t : Nat) : Prop := StrQ (fun _ => True) w bs L t

variable {Q : Nat → Prop}

theorem StrQ.grown {w w' : World} {bs : Nat} {L : List Int} {t : Nat} {row : Option Nat} (h : StrQ Q w bs L t) (hg : w.grownBy w' row) (hr : ∀ j, row = some j → bs < j) : StrQ Q w' bs L t := by
  obtain ⟨A, c, hb, hl, hc⟩ := h
  have hlt : bs < w.heap.size := by
    rcases Nat.lt_or_ge bs w.heap.size with h | h
    · exact h
    · rw [Array.getElem?_eq_none h] at hb; cases hb
  refine ⟨A, c, (hg.block bs hlt (fun e => by have := hr bs e.symm; omega)).trans hb, hl, fun hne => ?_⟩
  obtain ⟨b, off, e, hbb, hq, hcc⟩ := hc hne
  exact ⟨b, off, e, hbb, hq, fun j x hx => hg.cell (a := ⟨b, off + j, none⟩) (hcc j x hx) (fun e => by have := hr b e.symm; omega)⟩

/-- A call with another stream, whose block is not that of the numbers. -/
theorem StrQ.other {w w' : World} {bs : Nat} {L : List Int} {t j : Nat} (h : StrQ Q w bs L t) (hg : w.grownBy w' (some j)) (hj : bs ≠ j) (hq : ∀ b, Q b → b ≠ j) : StrQ Q w' bs L t := by
  obtain ⟨A, c, hb, hl, hc⟩ := h
  have hlt : bs < w.heap.size := by
    rcases Nat.lt_or_ge bs w.heap.size with h | h
    · exact h
    · rw [Array.getElem?_eq_none h] at hb; cases hb
  refine ⟨A, c, (hg.block bs hlt (fun e => by injection e with e; exact hj e)).trans hb, hl, fun hne => ?_⟩
  obtain ⟨b, off, e, hbb, hqb, hcc⟩ := hc hne
  exact ⟨b, off, e, hbb, hqb, fun j x hx => hg.cell (a := ⟨b, off + j, none⟩) (hcc j x hx) (fun e => by injection e with e; exact hq b hqb e)⟩

theorem StrQ.lt {w : World} {bs : Nat} {L : List Int} {t : Nat} (h : StrQ Q w bs L t) : bs < w.heap.size := by
  obtain ⟨A, c, hb, _⟩ := h
  rcases Nat.lt_or_ge bs w.heap.size with h | h
  · exact h
  · rw [Array.getElem?_eq_none h] at hb; cases hb

theorem StrQ.set {w : World} {bs : Nat} {L : List Int} {t : Nat} (h : StrQ Q w bs L t) (t' : Nat) : StrQ Q (w.setCell ⟨bs, 1, none⟩ (.int .i64 t')) bs L t' := by
  obtain ⟨A, c, hb, hl, hc⟩ := h
  refine ⟨A, c, by simp [World.setCell, Array.getElem?_modify, hb], hl, fun hne => ?_⟩
  obtain ⟨b, off, e, hbb, hq, hcc⟩ := hc hne
  exact ⟨b, off, e, hbb, hq, fun j x hx => (World.cell?_setCell_other (w := w) (a := ⟨bs, 1, none⟩) (b := ⟨b, off + j, none⟩) (v := _) (by simp)).trans (hcc j x hx)⟩

theorem StrQ.drewN {w : World} {bs : Nat} {L : List Int} {t : Nat} (h : StrQ Q w bs L t) (n : Nat) : StrQ Q (w.drewN n) bs L t := h

/-- The number that Next(n) hands out, when t were handed out before. -/
def nx (L : List Int) (t : Nat) (n : Int) : Int :=
  if L.length = 0 then belowI (((t : Int) + 1) * 7919) n
  else belowI (belowI (L.getD (t % L.length) 0) 1073741824 + ((t / L.length : Nat) : Int) * (7919 + ((t % L.length : Nat) : Int))) n

set_option maxHeartbeats 400000 in
theorem next_any (bs : Nat) (L : List Int) (t : Nat) (n : Int) (w : World) (hs : StrQ Q w bs L t) (ht : t ≤ 1000000) (hn1 : n ≤ 1099511627776) :
    Calls Tryd.prog 29 #[.pointer (some ⟨bs, 0, none⟩), .int .i64 n] w fun e w' => e = .returned (.int .i64 (nx L t n)) ∧ StrQ Q w' bs L (t + 1) ∧ w.grownBy w' (some bs) := by
  have hs0 := hs
  obtain ⟨A, c, hb, hl, hc⟩ := hs
  have c0 : w.cell? ⟨bs, 0, none⟩ = some (.slice A L.length c) := by simp [World.cell?, hb]
  have c1 : w.cell? ⟨bs, 1, none⟩ = some (.int .i64 t) := by simp [World.cell?, hb]
  have f1 : w.frozen? ⟨bs, 1, none⟩ = false := by simp [World.frozen?, hb]
  unfold maxLen at hl
  by_cases h0 : L.length = 0
  · have hL : L = [] := List.eq_nil_of_length_eq_zero h0
    subst hL
    clear hc hb h0
    simp only [List.length_nil] at c0
    go_enter Tryd.func29, Tryd.ntmps29
    go_wp2_with (go_at_call 56; refine (below_any _ _ _ (by omega)).mono ?_; rintro e w' ⟨rfl, rfl⟩)
    go_ret
    refine ⟨retI (by simp [nx]), ?_, grown_set (World.grownBy.refl w (some bs)) (.inr rfl) _⟩
    have := hs0.set (t + 1)
    simpa using this
  · obtain ⟨b, off, rfl, hbb, _, hcc⟩ := hc (by intro e; simp [e] at h0)
    have hpos : 0 < L.length := by omega
    have hm : t % L.length < L.length := Nat.mod_lt _ hpos
    have hq : t / L.length ≤ 1000000 := Nat.le_trans (Nat.div_le_self _ _) ht
    have hmt : t % L.length ≤ 1000000 := Nat.le_trans (Nat.mod_le _ _) ht
    have hcell := hcc (t % L.length) _ (List.getElem?_eq_getElem hm)
    have hnx : nx L t n = belowI (belowI L[t % L.length] 1073741824 + ((t / L.length : Nat) : Int) * (7919 + ((t % L.length : Nat) : Int))) n := by
      unfold nx; rw [if_neg h0]; simp [List.getD, hm]
    have HN := Lib.hid hnx
    have hb0 := belowI_nonneg L[t % L.length] 1073741824
    have hb1 := belowI_lt L[t % L.length] 1073741824 (by omega)
    clear hb hc hcc hnx
    generalize L[t % L.length] = x at *
    have er : (t : Int) % (L.length : Int) = ((t % L.length : Nat) : Int) := by simp
    have eq : (t : Int) / (L.length : Int) = ((t / L.length : Nat) : Int) := by simp
    have er' : (t : Int).tmod (L.length : Int) = ((t % L.length : Nat) : Int) := by rw [Int.tmod_eq_emod_of_nonneg (by omega)]; simp
    have eq' : (t : Int).tdiv (L.length : Int) = ((t / L.length : Nat) : Int) := by rw [Int.tdiv_eq_ediv_of_nonneg (by omega)]; simp
    generalize t % L.length = r at *
    generalize t / L.length = q at *
    have hp0 : 0 ≤ (q : Int) * (7919 + (r : Int)) := Int.mul_nonneg (by omega) (by omega)
    have hp1 : (q : Int) * (7919 + (r : Int)) ≤ 1000000 * 1007919 := Int.mul_le_mul (by omega) (by omega) (by omega) (by omega)
    have hne : ((L.length : Int) == 0) = false := by rw [beq_eq_false_iff_ne]; omega
    clear h0
    go_enter Tryd.func29, Tryd.ntmps29
    go_wp2_with fail
    go_quiet (fail)
    go_wp2_with fail
    go_quiet (fail)
    go_wp2_with fail
    refine (below_any _ _ _ (by omega)).mono ?_
    rintro e w' ⟨rfl, rfl⟩
    go_wp2_with fail
    refine (below_any _ _ _ hn1).mono ?_
    rintro e w' ⟨rfl, rfl⟩
    go_wp2_with fail
    go_ret
    refine ⟨retI HN.out.symm, ?_, ?_⟩
    · refine StrQ.drewN ?_ _
      simpa using hs0.set (t + 1)
    · exact grown_drewN (grown_set (p := ⟨bs, 1, none⟩) (World.grownBy.refl w (some bs)) (.inr rfl) _) _

set_option maxHeartbeats 400000 in
theorem flip_any (bs : Nat) (L : List Int) (t : Nat) (n : Int) (w : World) (hs : StrQ Q w bs L t) (ht : t ≤ 1000000) (hn1 : n ≤ 1099511627776) :
    Calls Tryd.prog 30 #[.pointer (some ⟨bs, 0, none⟩), .int .i64 n] w fun e w' => e = .returned (.bool (nx L t n == 0)) ∧ StrQ Q w' bs L (t + 1) ∧ w.grownBy w' (some bs) := by
  go_enter Tryd.func30, Tryd.ntmps30
  go_wp2_with fail
  refine (next_any bs L t n _ hs ht hn1).mono ?_
  rintro e w' ⟨rfl, hs1, hg⟩
  go_wp2_with fail
  go_ret
  exact ⟨rfl, hs1, hg⟩

/-- A slice of numbers. -/
def ints (l : List Int) : List Value := l.map (Value.int .i64)

set_option maxHeartbeats 400000 in
theorem pick_any (bs : Nat) (L : List Int) (t : Nat) (A : Option Addr) (c : Nat) (l : List Int) (w : World) (hs : StrQ Q w bs L t) (ht : t ≤ 1000000) (hl : l ≠ []) (hl1 : l.length ≤ 100000)
    (hr : Rd w 1 A l.length (ints l)) (hne : ∀ a, A = some a → a.block ≠ bs) :
    Calls Tryd.prog 7 #[.pointer (some ⟨bs, 0, none⟩), .slice A l.length c] w
      fun e w' => e = .returned (.int .i64 (l.getD (nx L t l.length).toNat 0)) ∧ StrQ Q w' bs L (t + 1) ∧ w.grownBy w' (some bs) := by
  have hpos : 0 < l.length := by cases l with | nil => exact absurd rfl hl | cons => simp
  obtain ⟨b, off, rfl, hb, hc⟩ := hr.2 hpos
  have hbne : b ≠ bs := hne _ rfl
  have h0 : 0 ≤ nx L t l.length := by unfold nx; split <;> exact belowI_nonneg _ _
  have h1 : nx L t l.length < l.length := by unfold nx; split <;> exact belowI_lt _ _ (by omega)
  obtain ⟨k, hk⟩ := Int.eq_ofNat_of_zero_le h0
  have hk1 : k < l.length := by omega
  have hcell := hc k (.int .i64 l[k]) (by simp [ints, List.getElem?_eq_getElem hk1])
  go_enter Tryd.func7, Tryd.ntmps7
  clear hc hr hne hl h0 h1
  have HK := Lib.hid hk
  clear hk
  go_wp2_with fail
  refine (next_any bs L t _ _ hs ht (by omega)).mono ?_
  rw [HK.out]
  rintro e w' ⟨rfl, hs1, hg⟩
  have hc1 := hg.cell (a := ⟨b, off + k, none⟩) hcell (by simp; exact hbne)
  go_wp2_with fail
  go_ret
  exact ⟨retI (by simp [HK.out, List.getD, hk1]), hs1, hg⟩

end Go.Proofs.YtcipidfbclohoaaDoor
