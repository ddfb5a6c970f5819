/- The walks of settle and Settle. -/
import Derived.Test.YtoaeflegcfecaaaVendB
namespace Go.Proofs.Ytoaeflegcfecaaa
open Go.RowKit

def setOne (t : Tub) (a : Int) : Tub := ⟨t.v, t.c + min a (t.m - t.c), t.m⟩
def overOne (t : Tub) (a : Int) : Int := (a - min a (t.m - t.c)) * t.v
def setT (l : List Tub) (add : List Int) : Nat → List Tub
  | 0 => l
  | j + 1 => (setT l add j).set j (setOne (l.getD j ⟨0, 0, 0⟩) (add.getD j 0))
def overT (l : List Tub) (add : List Int) : Nat → Int
  | 0 => 0
  | j + 1 => overT l add j + overOne (l.getD j ⟨0, 0, 0⟩) (add.getD j 0)

theorem setT_len (l : List Tub) (add : List Int) (j : Nat) : (setT l add j).length = l.length := by
  induction j with
  | zero => rfl
  | succ j ih => simp [setT, ih]
theorem setT_at (l : List Tub) (add : List Int) (j k : Nat) (h : j ≤ k) : (setT l add j)[k]? = l[k]? := by
  induction j with
  | zero => rfl
  | succ j ih => simp only [setT]; rw [List.getElem?_set_ne (by omega)]; exact ih (by omega)

theorem tubFlat_set (l : List Tub) (j : Nat) (t : Tub) (c : Int) (h : l[j]? = some t) : tubFlat (l.set j ⟨t.v, c, t.m⟩) = (tubFlat l).set (j * 3 + 1) (.int .i64 c) := by
  induction l generalizing j with
  | nil => simp at h
  | cons a l ih =>
    cases j with
    | zero =>
      simp at h; subst h
      simp [tubFlat, tubCells]
    | succ j =>
      have := ih j (by simpa using h)
      have e : (j + 1) * 3 + 1 = j * 3 + 1 + 1 + 1 + 1 := by omega
      simp only [List.set_cons_succ, tubFlat, List.flatMap_cons] at *
      rw [this, e]
      simp [tubCells]

theorem overT_bound (l : List Tub) (add : List Int) (hl : ∀ t ∈ l, RightT t) (ha : ∀ x ∈ add, 0 ≤ x ∧ x ≤ 20000) (j : Nat) (hj : j ≤ l.length) (hja : l.length = add.length) :
    0 ≤ overT l add j ∧ overT l add j ≤ j * 200000000 := by
  induction j with
  | zero => simp [overT]
  | succ j ih =>
    have := ih (by omega)
    have h1 : l.getD j ⟨0, 0, 0⟩ = l[j] := by simp [List.getD, show j < l.length from by omega]
    have h2 : add.getD j 0 = add[j] := by simp [List.getD, show j < add.length from by omega]
    simp only [overT, h1, h2, overOne]
    obtain ⟨r1, r2, r3, r4, r5⟩ := hl l[j] (List.getElem_mem _)
    obtain ⟨a1, a2⟩ := ha add[j] (List.getElem_mem _)
    generalize l[j] = t at *
    generalize add[j] = x at *
    have p0 : 0 ≤ (x - min x (t.m - t.c)) * t.v := Int.mul_nonneg (by omega) (by omega)
    have p1 : (x - min x (t.m - t.c)) * t.v ≤ 20000 * 10000 := Int.mul_le_mul (by omega) (by omega) (by omega) (by omega)
    omega

set_option maxHeartbeats 400000 in
theorem settle_any (A B : Option Addr) (n c d : Nat) (l : List Tub) (add : List Int) (w : World) (hr : Rd w 3 A n (tubFlat l)) (ha : Rd w 1 B n (ints add)) (hn : n ≤ 10)
    (hright : ∀ t ∈ l, RightT t) (hadd : ∀ x ∈ add, 0 ≤ x ∧ x ≤ 20000) :
    Calls Try.prog 56 #[.slice A n c, .slice B n d] w
      fun e w' => ∃ v, e = .returned (.tuple #[v, .int .i64 (overT l add n)]) ∧ w'.ownsRow w.heap.size 70 3 v n (tubFlat (setT l add n)) ∧ w.grownBy w' none := by
  have hl : l.length = n := by have := hr.1; rw [tubFlat_len] at this; omega
  have hla : add.length = n := by have := ha.1; simp [ints] at this; omega
  have HL := Lib.hid hl
  have HA := Lib.hid hla
  have HR := Lib.hid hright
  have HX := Lib.hid hadd
  clear hl hla hright hadd
  go_enter Try.func56, Try.ntmps56
  go_wp2_with fail
  refine (cloneTubes_any A n c l w hr (by omega)).mono ?_
  rintro e w1 ⟨v, rfl, hown, hg1⟩
  obtain ⟨V, cap, rfl, hnc, hcm, hrv, hvb⟩ := Rd.of_own hown
  go_wp2_with fail
  go_loopg [7, 15] n (fun k s i wr => ∃ j : Nat, k + j = n ∧ i = .int .i64 j ∧ s = .int .i64 (overT l add j) ∧ wr.ownsRow w.heap.size 70 3 (.slice V n cap) n (tubFlat (setT l add j)) ∧ w.grownBy wr none)
  case atStart => exact ⟨0, by omega, rfl, rfl, hown, hg1⟩
  case round =>
    obtain ⟨j, hj, rfl, rfl, hown2, hg⟩ := hrel
    by_cases hlt : j < n
    · obtain ⟨b, off, rfl, hb, t, ht, c0, c1, c2⟩ := tub_cells (hr.grown hg) hlt
      obtain ⟨b', off', rfl, hb', x, hx, d0⟩ := int_cells (ha.grown hg) hlt
      have hbw' : b' < w.heap.size := by
        obtain ⟨b2, off2, e2, h2, _⟩ := ha.2 (by omega)
        cases e2; exact h2
      obtain ⟨g, cap', hv, hgb, hglt⟩ := hown2.form (by omega)
      obtain ⟨rfl, rfl⟩ : V = some ⟨g, 0, none⟩ ∧ cap = cap' := by simpa using hv
      have hc1 := hown2.cellAt (j * 3 + 1) (by omega)
      have hst : (setT l add j)[j]? = some t := by rw [setT_at l add j j (Nat.le_refl _)]; exact ht
      rw [tubFlat_at _ j 1 (by rw [setT_len, HL.out]; exact hlt) (by omega)] at hc1
      obtain ⟨r1, r2, r3, r4, r5⟩ := HR.out t (List.mem_of_getElem? ht)
      obtain ⟨x1, x2⟩ := HX.out x (List.mem_of_getElem? hx)
      have hc1' : wr.cell? ⟨g, j * 3 + 1, none⟩ = some (.int .i64 t.c) := by
        rw [hc1, (List.getElem?_eq_some_iff.1 hst).2]; rfl
      have hfr := hown2.frozenAt (j * 3 + 1)
      have hov := overT_bound l add HR.out HX.out j (by have := HL.out; omega) (by rw [HL.out, HA.out])
      have hst2 := (hown2.alloc (.cells #[.int .i64 t.v, .int .i64 t.c, .int .i64 t.m] 70)).stored (j * 3 + 1) (.int .i64 (t.c + min x (t.m - t.c)))
      have hT : setT l add (j + 1) = (setT l add j).set j ⟨t.v, t.c + min x (t.m - t.c), t.m⟩ := by simp [setT, List.getD, ht, hx, setOne]
      have hO : overT l add (j + 1) = overT l add j + (x - min x (t.m - t.c)) * t.v := by simp [overT, List.getD, ht, hx, overOne]
      have p0 : 0 ≤ (x - min x (t.m - t.c)) * t.v := Int.mul_nonneg (by omega) (by omega)
      have p1 : (x - min x (t.m - t.c)) * t.v ≤ 20000 * 10000 := Int.mul_le_mul (by omega) (by omega) (by omega) (by omega)
      have hs3 := tubFlat_set (setT l add j) j t (t.c + min x (t.m - t.c)) hst
      clear hc1 hst ht hx hv
      have hlt' : (j : Int) < (n : Int) := by omega
      have w1 : IntKind.i64.wrap (t.m - t.c) = t.m - t.c := IntWalk.i64_in _ (by omega)
      by_cases hm : x ≤ t.m - t.c
      case' pos => rw [show min x (t.m - t.c) = x from by omega] at *
      case' neg =>
        rw [show min x (t.m - t.c) = t.m - t.c from by omega] at *
        have w2 : IntKind.i64.wrap (x - (t.m - t.c)) = x - (t.m - t.c) := IntWalk.i64_in _ (by omega)
        have w3 : IntKind.i64.wrap ((x - (t.m - t.c)) * t.v) = (x - (t.m - t.c)) * t.v := IntWalk.i64_in _ (by omega)
        have w4 : IntKind.i64.wrap (overT l add j + (x - (t.m - t.c)) * t.v) = overT l add j + (x - (t.m - t.c)) * t.v := IntWalk.i64_in _ (by omega)
      all_goals
        generalize overT l add j = ov at *
        have HT := Lib.hid hT
        have HO := Lib.hid hO
        have HJ := Lib.hid hj
        have HS3 := Lib.hid hs3
        have HS2 := Lib.hid hst2
        clear hT hO hj hs3 hst2
        go_wp2_with fail
        go_quiet (fail)
        have hne1 : g ≠ b' := by omega
        go_wp2_with fail
        go_quiet (fail)
        go_wp2_with fail
        have hj := HJ.out
        go_roundg (gk - 1)
        case measure => omega
        case rel =>
          refine ⟨j + 1, by omega, by go_num, by rw [HO.out]; try simp, ?_, ?_⟩
          · rw [HT.out, HS3.out]
            exact HS2.out.1
          · exact grown_drewN (grown_set (p := ⟨g, j * 3 + 1, none⟩) (grown_drewN (grown_alloc hg _) _) (.inl hgb) _) _
    · obtain rfl : j = n := by omega
      go_wp2_with fail
      go_ret2
      exact ⟨_, rfl, hown2, hg⟩

theorem allB_mem {l : List Int} {a b : Int} (h : allB l a b = true) : ∀ x ∈ l, a ≤ x ∧ x ≤ b := by
  intro x hx
  have := List.all_eq_true.1 h x hx
  exact btw_true.1 this

/-- What Settle says is wrong. -/
def settleFault (l : List Tub) (add : List Int) : Int :=
  if tubFault l ≠ 0 then tubFault l else if add.length ≠ l.length then 3 else if allB add 0 10000 = false then 1 else 0

set_option maxHeartbeats 400000 in
theorem settle_bad (A B : Option Addr) (n c m d : Nat) (l : List Tub) (add : List Int) (w : World) (hr : Rd w 3 A n (tubFlat l)) (ha : Rd w 1 B m (ints add)) (hm : m ≤ 100000)
    (hf : settleFault l add ≠ 0) :
    Calls Try.prog 30 #[.slice A n c, .slice B m d] w
      fun e w' => e = .returned (.tuple #[.slice none 0 0, .int .i64 0, .int .i64 (settleFault l add)]) ∧ w.grownBy w' none := by
  have hl : l.length = n := by have := hr.1; rw [tubFlat_len] at this; omega
  have hla : add.length = m := by have := ha.1; simp [ints] at this; omega
  by_cases h0 : tubFault l = 0
  · obtain ⟨hlen, _, _⟩ := right_of h0
    by_cases h1 : m = n
    · have h2 : allB add 0 10000 = false := by
        by_cases h3 : allB add 0 10000 = false
        · exact h3
        · exact absurd (by simp [settleFault, h0, hl, hla, h1, h3]) hf
      have hs : settleFault l add = 1 := by simp [settleFault, h0, hl, hla, h1, h2]
      rw [hs]
      have HS := Lib.hid (And.intro h0 (And.intro h1 h2))
      subst h1
      clear hs hf h0 h2 hl hla
      go_enter Try.func30, Try.ntmps30
      go_wp2_with fail
      refine (checkTubes_any A m c l w hr).mono ?_
      rw [HS.out.1]
      rintro e w1 ⟨rfl, hg1⟩
      go_wp2_with fail
      refine (allBetween_any B m d add 0 10000 _ (ha.grown hg1) (by omega)).mono ?_
      rw [HS.out.2.2]
      rintro e w2 ⟨rfl, hg2⟩
      go_wp2_with fail
      go_ret3
      exact ⟨rfl, hg1.trans hg2⟩
    · have hs : settleFault l add = 3 := by simp [settleFault, h0, hl, hla, h1]
      rw [hs]
      have hb : ((m : Int) != (n : Int)) = true := by rw [bne_iff_ne]; omega
      have HS := Lib.hid h0
      clear hs hf h0 hl hla h1
      go_enter Try.func30, Try.ntmps30
      go_wp2_with fail
      refine (checkTubes_any A n c l w hr).mono ?_
      rw [HS.out]
      rintro e w1 ⟨rfl, hg1⟩
      go_wp2_with fail
      go_ret3
      exact ⟨rfl, hg1⟩
  · have hs : settleFault l add = tubFault l := by simp [settleFault, h0]
    rw [hs]
    have hb : (tubFault l != 0) = true := by rw [bne_iff_ne]; exact h0
    have hc := checkTubes_any A n c l w hr
    clear hs hf
    generalize tubFault l = f at *
    have HC := Lib.hid hc
    clear hc hl hla h0
    go_enter Try.func30, Try.ntmps30
    go_wp2_with fail
    refine HC.out.mono ?_
    rintro e w1 ⟨rfl, hg1⟩
    go_wp2_with fail
    go_ret3
    exact ⟨rfl, hg1⟩

set_option maxHeartbeats 400000 in
theorem settle_ok (A B : Option Addr) (n c m d : Nat) (l : List Tub) (add : List Int) (w : World) (hr : Rd w 3 A n (tubFlat l)) (ha : Rd w 1 B m (ints add))
    (hf : settleFault l add = 0) :
    Calls Try.prog 30 #[.slice A n c, .slice B m d] w
      fun e w' => ∃ v, e = .returned (.tuple #[v, .int .i64 (overT l add n), .int .i64 0]) ∧ w'.ownsRow w.heap.size 70 3 v n (tubFlat (setT l add n)) ∧ w.grownBy w' none := by
  have hl : l.length = n := by have := hr.1; rw [tubFlat_len] at this; omega
  have hla : add.length = m := by have := ha.1; simp [ints] at this; omega
  have h0 : tubFault l = 0 := by
    by_cases h : tubFault l = 0
    · exact h
    · simp [settleFault, h] at hf
  have h1 : m = n := by
    by_cases h : m = n
    · exact h
    · simp [settleFault, h0, hl, hla, h] at hf
  have h2 : allB add 0 10000 = true := by
    by_cases h : allB add 0 10000 = true
    · exact h
    · simp [settleFault, h0, hl, hla, h1, h] at hf
  obtain ⟨hlen, hright, _⟩ := right_of h0
  have hadd := allB_mem h2
  subst h1
  have HS := Lib.hid (And.intro h0 (And.intro hright (And.intro h2 hadd)))
  have hm10 : m ≤ 10 := by omega
  clear hf h0 h2 hl hla hright hadd hlen
  go_enter Try.func30, Try.ntmps30
  go_wp2_with fail
  refine (checkTubes_any A m c l w hr).mono ?_
  rw [HS.out.1]
  rintro e w1 ⟨rfl, hg1⟩
  go_wp2_with fail
  refine (allBetween_any B m d add 0 10000 _ (ha.grown hg1) (by omega)).mono ?_
  rw [HS.out.2.2.1]
  rintro e w2 ⟨rfl, hg2⟩
  go_wp2_with fail
  refine (settle_any A B m c d l add _ ((hr.grown hg1).grown hg2) ((ha.grown hg1).grown hg2) hm10 HS.out.2.1 (fun x hx => by have := HS.out.2.2.2 x hx; omega)).mono ?_
  rintro e w3 ⟨v, rfl, hown, hg3⟩
  go_wp2_with fail
  go_ret3
  exact ⟨_, rfl, own_mono hown (by have := hg1.size; have := hg2.size; omega), (hg1.trans hg2).trans hg3⟩

end Go.Proofs.Ytoaeflegcfecaaa
