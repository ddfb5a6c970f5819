/- The walks of Smooth and of the reference's SmoothFault, SmoothOf, down. -/
import Derived.Test.YtkfijicmeekmiaaChkD
import Derived.Test.YtkfijicmeekmiaaMade
import Derived.Test.YtkfijicmeekmiaaGcd
namespace Go.Proofs.Ytkfijicmeekmiaa
open Go.RowKit

/-- One day further. -/
def smStep (num den : Int) (last : Int) (t : Sal) : Int := if t.o then max last (1000 * t.s) else (last * (den - num) + 1000 * t.s * num) / den
def smLast (num den : Int) (l : List Sal) (j : Nat) : Int := (l.take j).foldl (smStep num den) (1000 * (l.headD default).s)
def smL (num den : Int) (l : List Sal) : List Int := (List.range l.length).map fun j => smLast num den l (j + 1)
theorem smLast_succ {num den : Int} {l : List Sal} {j : Nat} {t : Sal} (h : l[j]? = some t) : smLast num den l (j + 1) = smStep num den (smLast num den l j) t := by
  unfold smLast; rw [take_at h, List.foldl_append]; rfl
theorem smL_at {num den : Int} {l : List Sal} {j : Nat} (h : j < l.length) : (smL num den l)[j]? = some (smLast num den l (j + 1)) := by simp [smL, h]
theorem smL_len (num den : Int) (l : List Sal) : (smL num den l).length = l.length := by simp [smL]

theorem smStep_rng {num den last : Int} {t : Sal} (hd : 0 < den) (hn : 0 ≤ num ∧ num ≤ den) (hl : 0 ≤ last ∧ last ≤ 1000000) (ht : 0 ≤ t.s ∧ t.s ≤ 1000) : 0 ≤ smStep num den last t ∧ smStep num den last t ≤ 1000000 := by
  unfold smStep
  split
  · omega
  · have h1 : 0 ≤ last * (den - num) := Int.mul_nonneg hl.1 (by omega)
    have h2 : last * (den - num) ≤ 1000000 * (den - num) := Int.mul_le_mul_of_nonneg_right hl.2 (by omega)
    have h3 : 0 ≤ 1000 * t.s * num := Int.mul_nonneg (by omega) hn.1
    have h4 : 1000 * t.s * num ≤ 1000000 * num := Int.mul_le_mul_of_nonneg_right (by omega) hn.1
    have h5 : 1000000 * (den - num) + 1000000 * num = 1000000 * den := by rw [← Int.mul_add]; congr 1; omega
    refine ⟨Int.ediv_nonneg (by omega) (by omega), ?_⟩
    have := Int.ediv_le_ediv hd (show last * (den - num) + 1000 * t.s * num ≤ 1000000 * den from by omega)
    rw [Int.mul_ediv_cancel _ (by omega)] at this
    exact this
theorem smLast_rng {num den : Int} {l : List Sal} (hd : 0 < den) (hn : 0 ≤ num ∧ num ≤ den) (h : ∀ t ∈ l, 0 ≤ t.s ∧ t.s ≤ 1000) (j : Nat) : 0 ≤ smLast num den l j ∧ smLast num den l j ≤ 1000000 := by
  induction j with
  | zero =>
    cases l with
    | nil => simp [smLast]; exact ⟨by decide, by decide⟩
    | cons a l =>
      have := h a (by simp)
      simp [smLast]; omega
  | succ j ih =>
    rcases Nat.lt_or_ge j l.length with hj | hj
    · rw [smLast_succ (List.getElem?_eq_getElem hj)]
      exact smStep_rng hd hn ih (h _ (List.getElem_mem hj))
    · have : smLast num den l (j + 1) = smLast num den l j := by
        unfold smLast; rw [List.take_of_length_le (by omega), List.take_of_length_le hj]
      rw [this]; exact ih

/-- What is wrong with the arguments of Smooth. -/
def smFault (l : List Sal) (num den : Int) : Int := if btw den 1 1000 = false ∨ btw num 0 den = false then 1 else if l = [] then 8 else 0

theorem sm_ok {l : List Sal} {num den : Int} (h : smFault l num den = 0) : btw den 1 1000 = true ∧ btw num 0 den = true ∧ l ≠ [] := by
  unfold smFault at h
  by_cases h1 : btw den 1 1000 = false ∨ btw num 0 den = false
  · rw [if_pos h1] at h; omega
  · rw [if_neg h1] at h
    by_cases h2 : l = []
    · rw [if_pos h2] at h; omega
    · refine ⟨?_, ?_, h2⟩
      · cases hb : btw den 1 1000 with
        | true => rfl
        | false => exact absurd (.inl hb) h1
      · cases hb : btw num 0 den with
        | true => rfl
        | false => exact absurd (.inr hb) h1

set_option maxRecDepth 100000 in
set_option maxHeartbeats 1000000 in
theorem smooth_ok (A : Option Addr) (n c : Nat) (l : List Sal) (num den : Int) (w : World) (hr : Rd w 3 A n (salFlat l)) (hn : n ≤ 400) (hf : dayFault l = 0) (hs : smFault l num den = 0) :
    Calls Try.prog 28 #[.slice A n c, .int .i64 num, .int .i64 den] w fun e w' => ∃ v, e = .returned (.tuple #[v, .int .i64 0]) ∧ w'.ownsRow w.heap.size 3 1 v n (ints (smL num den l)) ∧ w.grownBy w' none := by
  have hl : l.length = n := by have := hr.1; rw [salFlat_len] at this; omega
  obtain ⟨hb1, hb2, hne⟩ := sm_ok hs
  obtain ⟨d0, d1⟩ := btw_true.1 hb1
  obtain ⟨m0, m1⟩ := btw_true.1 hb2
  have hn0 : 0 < n := by
    cases l with
    | nil => exact absurd rfl hne
    | cons => simp at hl; omega
  have hck := checkDays_any A n c l w hr hn
  rw [hf] at hck
  obtain ⟨_, hok⟩ := days_ok hf
  have hmk := make_ints n (by omega)
  have hrng := smLast_rng (num := num) (den := den) (l := l) (by omega) ⟨m0, m1⟩ fun t ht => (hok t ht).2
  have hXl : (smL num den l).length = n := by rw [smL_len, hl]
  have hX := fun j (hj : j < l.length) => smL_at (num := num) (den := den) hj
  obtain ⟨b0, off0, rfl, hb0, t0, ht0, a0, a1, a2⟩ := sal_cells hr hn0
  have h0 : smLast num den l 0 = 1000 * t0.s := by
    unfold smLast
    cases l with
    | nil => simp at ht0
    | cons x l => simp at ht0; subst ht0; rfl
  have ht0s := (hok t0 (List.mem_of_getElem? ht0)).2
  have hsucc := fun (j : Nat) (t : Sal) (h : l[j]? = some t) => smLast_succ (num := num) (den := den) h
  simp only [Nat.zero_mul, Nat.add_zero] at a0 a1 a2
  have hni : ((n : Int) == 0) = false := by rw [beq_eq_false_iff_ne]; omega
  have hnp : (0 : Int) < (n : Int) := by omega
  have hdn : ¬ den = 0 := by omega
  have hdn2 : (den == 0) = false := by rw [beq_eq_false_iff_ne]; exact hdn
  generalize smL num den l = X at *
  generalize smLast num den l = SL at *
  have HC := Lib.hid (And.intro hck (And.intro hl (And.intro hXl (And.intro hok (And.intro h0 (And.intro hb1 hb2))))))
  have HX := Lib.hid (And.intro hX (And.intro hsucc hrng))
  clear hck hl hXl hok hX hrng h0 ht0 hf hs hb1 hb2 hne hsucc hb0
  go_enter Try.func28, Try.ntmps28
  go_wp2_with fail
  refine HC.out.1.mono ?_
  rintro e w1 ⟨rfl, hg1⟩
  have hg2 := grown_alloc hg1 (.cells (madeCells #[.int .i64 0] n) 3)
  have a1' := hg2.cell a1 (by simp)
  go_wp2_with fail
  refine (between_any _ _ _ _).mono ?_
  rw [HC.out.2.2.2.2.2.1]
  rintro e w' ⟨rfl, rfl⟩
  go_wp2_with fail
  refine (between_any _ _ _ _).mono ?_
  rw [HC.out.2.2.2.2.2.2]
  rintro e w' ⟨rfl, rfl⟩
  go_wp2_with fail
  have hown0 := made_ints w1 n (by omega)
  have hsz0 := hg1.size
  generalize w1.alloc (.cells (madeCells #[.int .i64 0] n) 3) = w3 at *
  obtain ⟨g, hge⟩ : ∃ g, g = w1.heap.size := ⟨_, rfl⟩
  rw [← hge] at hown0 hsz0 ⊢
  clear hmk hge hg1 a0 a1 a2 a1'
  go_loopg [10, 40] n (fun k z i wr => ∃ j : Nat, k + j = n ∧ i = .int .i64 j ∧ z = .int .i64 (SL j) ∧ wr.ownsRow g 3 1 (.slice (some ⟨g, 0, none⟩) n n) n (ints (fill X n j)) ∧ w.grownBy wr none)
  case atStart => exact ⟨0, by omega, rfl, by rw [HC.out.2.2.2.2.1], by rw [fill_zero]; exact hown0, hg2⟩
  case round =>
    obtain ⟨j, hj, rfl, rfl, hown, hg⟩ := hrel
    by_cases hlt : j < n
    · obtain ⟨bb, off, hbe, hb, t, ht, c0, c1, c2⟩ := sal_cells (hr.grown hg) hlt
      injection hbe with hbe
      injection hbe with hb1 hb2 _
      subst hb1
      subst hb2
      obtain ⟨s0, s1⟩ := (HC.out.2.2.2.1 t (List.mem_of_getElem? ht)).2
      have hUj := HX.out.1 j (by rw [HC.out.2.1]; exact hlt)
      have hst := fill_set (n := n) HC.out.2.2.1 hlt hUj
      obtain ⟨z0, z1⟩ := HX.out.2.2 j
      have hz2 := HX.out.2.1 j t ht
      obtain ⟨y0, y1⟩ := HX.out.2.2 (j + 1)
      obtain ⟨g', cap', hv, hgb, hglt⟩ := hown.form (by omega)
      cases hv
      have hgne : g ≠ wr.heap.size := by omega
      have e0 := own_int hown hlt
      have f0 := hown.frozenAt j
      have o1 := own_int_set hown j (SL (j + 1))
      generalize hS1 : SL (j + 1) = y at *
      generalize SL j = z at *
      have HS1 := Lib.hid hS1
      have hlt' : (j : Int) < (n : Int) := by omega
      have HS := Lib.hid (And.intro hst (And.intro hj o1))
      clear hst hj o1 hUj ht hown hS1
      by_cases ho : t.o = true
      · have hmx : y = max z (1000 * t.s) := by rw [hz2]; unfold smStep; rw [if_pos ho]
        clear hz2
        generalize t.o = to at *
        subst ho
        by_cases hle : z < 1000 * t.s
        · have HZ : Hid (y = 1000 * t.s) := Lib.hid (by omega)
          clear hmx
          go_wp2_with fail
          have hst := HS.out.1
          have hj := HS.out.2.1
          have o1 := HS.out.2.2
          rw [HZ.out] at o1
          go_roundg (gk - 1)
          case measure => omega
          case rel => exact ⟨j + 1, by omega, by go_num, by rw [HS1.out, HZ.out], by rw [← hst, HZ.out]; exact o1.alloc _, grown_alloc (grown_set (p := ⟨g, j, none⟩) hg (.inl hsz0) _) _⟩
        · have HZ : Hid (y = z) := Lib.hid (by omega)
          clear hmx
          go_wp2_with fail
          have hst := HS.out.1
          have hj := HS.out.2.1
          have o1 := HS.out.2.2
          rw [HZ.out] at o1
          go_roundg (gk - 1)
          case measure => omega
          case rel => exact ⟨j + 1, by omega, by go_num, by rw [HS1.out, HZ.out], by rw [← hst, HZ.out]; exact o1.alloc _, grown_alloc (grown_set (p := ⟨g, j, none⟩) hg (.inl hsz0) _) _⟩
      · have ho' : t.o = false := by simpa using ho
        have hmx : y = (z * (den - num) + 1000 * t.s * num) / den := by rw [hz2]; unfold smStep; rw [if_neg ho]
        clear hz2 ho
        generalize t.o = to at *
        subst ho'
        have p1 : 0 ≤ z * (den - num) := Int.mul_nonneg z0 (by omega)
        have p2 : z * (den - num) ≤ 1000000 * 1000 := Int.mul_le_mul z1 (by omega) (by omega) (by omega)
        have p3 : 0 ≤ 1000 * t.s * num := Int.mul_nonneg (by omega) m0
        have p4 : 1000 * t.s * num ≤ 1000000 * 1000 := Int.mul_le_mul (by omega) (by omega) (by omega) (by omega)
        have hdv : (z * (den - num) + 1000 * t.s * num).tdiv den = y := by rw [hmx, Int.tdiv_eq_ediv_of_nonneg (by omega)]
        have w1y : IntKind.i64.wrap y = y := IntWalk.i64_in _ (by omega)
        clear hmx
        go_wp2_with fail
        have hst := HS.out.1
        have hj := HS.out.2.1
        have o1 := HS.out.2.2
        go_roundg (gk - 1)
        case measure => omega
        case rel => exact ⟨j + 1, by omega, by go_num, by rw [HS1.out], by rw [← hst]; exact o1.alloc _, grown_alloc (grown_set (p := ⟨g, j, none⟩) hg (.inl hsz0) _) _⟩
    · obtain rfl : j = n := by omega
      rw [fill_full HC.out.2.2.1] at hown
      go_wp2_with fail
      go_ret2
      exact ⟨_, rfl, own_mono hown (by omega), hg⟩

set_option maxRecDepth 100000 in
set_option maxHeartbeats 400000 in
theorem smooth_bad (A : Option Addr) (n c : Nat) (l : List Sal) (num den : Int) (w : World) (hr : Rd w 3 A n (salFlat l)) (hn : n ≤ 400) (hf : dayFault l ≠ 0) :
    Calls Try.prog 28 #[.slice A n c, .int .i64 num, .int .i64 den] w fun e w' => e = .returned (.tuple #[.slice none 0 0, .int .i64 (dayFault l)]) ∧ w.grownBy w' none := by
  have hck := checkDays_any A n c l w hr hn
  have hne : (dayFault l != 0) = true := by rw [bne_iff_ne]; exact hf
  generalize dayFault l = f at *
  have HC := Lib.hid hck
  clear hck hf
  go_enter Try.func28, Try.ntmps28
  go_wp2_with fail
  refine HC.out.mono ?_
  rintro e w1 ⟨rfl, hg1⟩
  go_wp2_with fail
  go_ret2
  exact ⟨rfl, hg1⟩

set_option maxRecDepth 100000 in
set_option maxHeartbeats 400000 in
theorem smooth_err (A : Option Addr) (n c : Nat) (l : List Sal) (num den : Int) (w : World) (hr : Rd w 3 A n (salFlat l)) (hn : n ≤ 400) (hf : dayFault l = 0) (hs : smFault l num den ≠ 0) :
    Calls Try.prog 28 #[.slice A n c, .int .i64 num, .int .i64 den] w fun e w' => e = .returned (.tuple #[.slice none 0 0, .int .i64 (smFault l num den)]) ∧ w.grownBy w' none := by
  have hl : l.length = n := by have := hr.1; rw [salFlat_len] at this; omega
  have hck := checkDays_any A n c l w hr hn
  rw [hf] at hck
  have HC := Lib.hid hck
  clear hck
  by_cases h1 : btw den 1 1000 = true
  · by_cases h2 : btw num 0 den = true
    · have hle : l = [] := by
        refine Decidable.byContradiction fun hne => hs ?_
        unfold smFault; rw [if_neg (by rw [h1, h2]; simp), if_neg hne]
      subst hle
      have hv : smFault [] num den = 8 := by unfold smFault; rw [if_neg (by rw [h1, h2]; simp)]; rfl
      obtain rfl : n = 0 := by simpa using hl.symm
      rw [hv]
      have HB := Lib.hid (And.intro h1 h2)
      clear hs hv h1 h2
      go_enter Try.func28, Try.ntmps28
      go_wp2_with fail
      refine HC.out.mono ?_
      rintro e w1 ⟨rfl, hg1⟩
      go_wp2_with fail
      refine (between_any _ _ _ _).mono ?_
      rw [HB.out.1]
      rintro e w' ⟨rfl, rfl⟩
      go_wp2_with fail
      refine (between_any _ _ _ _).mono ?_
      rw [HB.out.2]
      rintro e w' ⟨rfl, rfl⟩
      go_wp2_with fail
      go_ret2
      exact ⟨rfl, hg1⟩
    · have h2' : btw num 0 den = false := by simpa using h2
      have hv : smFault l num den = 1 := by unfold smFault; rw [if_pos (.inr h2')]
      rw [hv]
      have HB := Lib.hid (And.intro h1 h2')
      clear hs hv h1 h2 h2'
      go_enter Try.func28, Try.ntmps28
      go_wp2_with fail
      refine HC.out.mono ?_
      rintro e w1 ⟨rfl, hg1⟩
      go_wp2_with fail
      refine (between_any _ _ _ _).mono ?_
      rw [HB.out.1]
      rintro e w' ⟨rfl, rfl⟩
      go_wp2_with fail
      refine (between_any _ _ _ _).mono ?_
      rw [HB.out.2]
      rintro e w' ⟨rfl, rfl⟩
      go_wp2_with fail
      go_ret2
      exact ⟨rfl, hg1⟩
  · have h1' : btw den 1 1000 = false := by simpa using h1
    have hv : smFault l num den = 1 := by unfold smFault; rw [if_pos (.inl h1')]
    rw [hv]
    have HB := Lib.hid h1'
    clear hs hv h1 h1'
    go_enter Try.func28, Try.ntmps28
    go_wp2_with fail
    refine HC.out.mono ?_
    rintro e w1 ⟨rfl, hg1⟩
    go_wp2_with fail
    refine (between_any _ _ _ _).mono ?_
    rw [HB.out]
    rintro e w' ⟨rfl, rfl⟩
    go_wp2_with fail
    go_ret2
    exact ⟨rfl, hg1⟩

set_option maxRecDepth 100000 in
set_option maxHeartbeats 400000 in
theorem refSmoothFault_any (A : Option Addr) (n c : Nat) (l : List Sal) (num den : Int) (w : World) (hl : l.length = n) :
    Calls Try.prog 31 #[.slice A n c, .int .i64 num, .int .i64 den] w fun e w' => e = .returned (.int .i64 (smFault l num den)) ∧ w = w' := by
  have hcase : smFault l num den = if den < 1 ∨ 1000 < den ∨ num < 0 ∨ den < num then 1 else if n = 0 then 8 else 0 := by
    unfold smFault
    have e1 : (btw den 1 1000 = false ∨ btw num 0 den = false) ↔ (den < 1 ∨ 1000 < den ∨ num < 0 ∨ den < num) := by
      simp only [btw, Bool.and_eq_false_iff, decide_eq_false_iff_not]; omega
    have e2 : l = [] ↔ n = 0 := by rw [← hl]; exact List.length_eq_zero_iff.symm
    simp only [e1, e2]
  rw [hcase]
  clear hcase
  have hc : den < 1 ∨ (1 ≤ den ∧ 1000 < den) ∨ (1 ≤ den ∧ den ≤ 1000 ∧ num < 0) ∨ (1 ≤ den ∧ den ≤ 1000 ∧ 0 ≤ num ∧ den < num) ∨ (1 ≤ den ∧ den ≤ 1000 ∧ 0 ≤ num ∧ num ≤ den ∧ n = 0) ∨ (1 ≤ den ∧ den ≤ 1000 ∧ 0 ≤ num ∧ num ≤ den ∧ n ≠ 0) := by omega
  rcases hc with h1 | ⟨h1, h2⟩ | ⟨h1, h2, h3⟩ | ⟨h1, h2, h3, h4⟩ | ⟨h1, h2, h3, h4, h5⟩ | ⟨h1, h2, h3, h4, h5⟩
  case' inl => rw [if_pos (by omega)]
  case' inr.inl => rw [if_pos (by omega)]
  case' inr.inr.inl => rw [if_pos (by omega)]
  case' inr.inr.inr.inl => rw [if_pos (by omega)]
  case' inr.inr.inr.inr.inl =>
    rw [if_neg (by omega), if_pos h5]
    subst h5
  case' inr.inr.inr.inr.inr =>
    rw [if_neg (by omega), if_neg h5]
    have h6 : ((n : Int) == 0) = false := by rw [beq_eq_false_iff_ne]; omega
  all_goals
    go_enter Try.func31, Try.ntmps31
    go_wp2_with fail
    go_ret
    exact ⟨rfl, rfl⟩

set_option maxHeartbeats 400000 in
theorem down_any (a b : Int) (w : World) (ha : -1000000000 ≤ a ∧ a ≤ 1000000000) (hb : 1 ≤ b ∧ b ≤ 1000) :
    Calls Try.prog 86 #[.int .i64 a, .int .i64 b] w fun e w' => e = .returned (.int .i64 (a / b)) ∧ w = w' := by
  obtain ⟨q, hq⟩ : ∃ q, q = a.tdiv b := ⟨_, rfl⟩
  have hbn : ¬ b = 0 := by omega
  have hbq : (b == 0) = false := by rw [beq_eq_false_iff_ne]; exact hbn
  obtain ⟨q0, q1⟩ := tdiv_le (g := b) (x := a) (B := 1000000000) (by omega) ha.1 ha.2
  rw [← hq] at q0 q1
  have w1 : IntKind.i64.wrap q = q := IntWalk.i64_in _ (by omega)
  have hmod := Int.mul_tdiv_add_tmod a b
  rw [← hq] at hmod
  have hlt1 : a.tmod b < b := Int.tmod_lt_of_pos _ (by omega)
  have hlt2 : -b < a.tmod b := Int.lt_tmod_of_pos _ (by omega)
  have hqb : q * b = a - a.tmod b := by rw [Int.mul_comm]; omega
  have hqq : a / b = if a < q * b then q - 1 else q := by
    split
    · rename_i h
      refine ((Int.ediv_emod_unique (r := a - (q - 1) * b) (by omega)).2 ⟨?_, ?_, ?_⟩).1
      · rw [Int.mul_comm b]; omega
      · rw [Int.sub_mul]; omega
      · rw [Int.sub_mul]; omega
    · rename_i h
      refine ((Int.ediv_emod_unique (r := a - q * b) (by omega)).2 ⟨?_, ?_, ?_⟩).1
      · rw [Int.mul_comm b]; omega
      · omega
      · omega
  rw [hqq]
  have p1 : -1000000000000 ≤ q * b ∧ q * b ≤ 1000000000000 := by omega
  generalize a.tmod b = r at *
  have HQ := Lib.hid hq
  have hq' : a.tdiv b = q := hq.symm
  clear hqq hmod hq hlt1 hlt2 hqb
  by_cases hlt : a < q * b
  · rw [if_pos hlt]
    go_enter Try.func86, Try.ntmps86
    go_wp2_with fail
    go_ret
    exact ⟨rfl, rfl⟩
  · rw [if_neg hlt]
    go_enter Try.func86, Try.ntmps86
    go_wp2_with fail
    go_ret
    exact ⟨rfl, rfl⟩

theorem smLast_one {num den : Int} {l : List Sal} {t : Sal} (hd : 0 < den) (h : l[0]? = some t) : smLast num den l 1 = 1000 * t.s := by
  have h0 : smLast num den l 0 = 1000 * t.s := by
    unfold smLast
    cases l with
    | nil => simp at h
    | cons x l => simp at h; subst h; rfl
  rw [smLast_succ h, h0]
  unfold smStep
  split
  · omega
  · rw [← Int.mul_add, show den - num + num = den from by omega, Int.mul_ediv_cancel _ (by omega)]

set_option maxRecDepth 100000 in
set_option maxHeartbeats 1000000 in
theorem refSmooth_ok (A : Option Addr) (n c : Nat) (l : List Sal) (num den : Int) (w : World) (hr : Rd w 3 A n (salFlat l)) (hnc : n ≤ c) (hn : n ≤ 400) (hf : dayFault l = 0) (hs : smFault l num den = 0) :
    Calls Try.prog 32 #[.slice A n c, .int .i64 num, .int .i64 den] w fun e w' => ∃ v, e = .returned v ∧ w'.ownsRow w.heap.size 3 1 v n (ints (smL num den l)) ∧ w.grownBy w' none := by
  have hl : l.length = n := by have := hr.1; rw [salFlat_len] at this; omega
  obtain ⟨hb1, hb2, hne⟩ := sm_ok hs
  obtain ⟨d0, d1⟩ := btw_true.1 hb1
  obtain ⟨m0, m1⟩ := btw_true.1 hb2
  have hn0 : 0 < n := by
    cases l with
    | nil => exact absurd rfl hne
    | cons => simp at hl; omega
  obtain ⟨_, hok⟩ := days_ok hf
  have hrng := smLast_rng (num := num) (den := den) (l := l) (by omega) ⟨m0, m1⟩ fun t ht => (hok t ht).2
  have hXl : (smL num den l).length = n := by rw [smL_len, hl]
  have hX := fun j (hj : j < l.length) => smL_at (num := num) (den := den) hj
  obtain ⟨b0, off0, rfl, hb0, t0, ht0, a0, a1, a2⟩ := sal_cells hr hn0
  have h0 := smLast_one (num := num) (den := den) (by omega) ht0
  have ht0s := (hok t0 (List.mem_of_getElem? ht0)).2
  have hsucc := fun (j : Nat) (t : Sal) (h : l[j]? = some t) => smLast_succ (num := num) (den := den) h
  simp only [Nat.zero_mul, Nat.add_zero] at a0 a1 a2
  have hnp : (0 : Int) < (n : Int) := by omega
  generalize smL num den l = X at *
  generalize smLast num den l = SL at *
  have HC := Lib.hid (And.intro hl (And.intro hXl (And.intro hok h0)))
  have HX := Lib.hid (And.intro hX (And.intro hsucc hrng))
  clear hl hXl hok hX hrng h0 ht0 hf hs hb1 hb2 hne hsucc hb0
  have hn1 : (1 : Int) ≤ (n : Int) := by omega
  have hnc' : (n : Int) ≤ (c : Int) := by omega
  have hc2 : c = 1 ∨ 2 ≤ c := by omega
  rcases hc2 with rfl | hc2
  · obtain rfl : n = 1 := by omega
    go_enter Try.func32, Try.ntmps32
    go_wp2_with fail
    go_loopg [7, 8, 21] 0 (fun k z v i wr => v = .slice (some ⟨w.heap.size, 0, none⟩) 1 1 ∧ i = .int .i64 0 ∧ wr = w.alloc (.cells #[.int .i64 (1000 * t0.s)] 3))
    case atStart => exact ⟨rfl, rfl, rfl⟩
    case round =>
      obtain ⟨rfl, rfl, rfl⟩ := hrel
      go_wp2_with fail
      go_ret
      have hX1 : X = [1000 * t0.s] := by
        have h1 := HC.out.2.1
        have h2 := HX.out.1 0 (by rw [HC.out.1]; omega)
        rw [HC.out.2.2.2] at h2
        match X, h1, h2 with
        | [x], _, h2 => simpa using h2
      rw [hX1]
      refine ⟨_, rfl, ?_, grown_alloc (grown_refl w) _⟩
      have h := World.ownsRow_lit (base := w.heap.size) (size := 1) (e := 3) w #[.int .i64 (1000 * t0.s)] 1 (Nat.le_refl _) (by unfold maxLen; omega) rfl
      exact h
  · have hc3 : ¬ c - 1 = 0 := by omega
    have hc4 : ¬ c = 1 := by omega
    have hc5 : ¬ (c : Int) = 1 := by omega
    obtain ⟨m, hm⟩ : ∃ m, n - 1 = m := ⟨_, rfl⟩
    go_enter Try.func32, Try.ntmps32
    go_wp2_with fail
    have hown0 : (w.alloc (.cells #[.int .i64 (1000 * t0.s)] 3)).ownsRow w.heap.size 3 1 (.slice (some ⟨w.heap.size, 0, none⟩) 1 1) 1 (ints [1000 * t0.s]) :=
      World.ownsRow_lit (base := w.heap.size) (size := 1) (e := 3) w #[.int .i64 (1000 * t0.s)] 1 (Nat.le_refl _) (by unfold maxLen; omega) rfl
    have hX1 : X.take 1 = [1000 * t0.s] := by
      have h1 := HX.out.1 0 (by rw [HC.out.1]; omega)
      rw [HC.out.2.2.2] at h1
      rw [take_at h1]; rfl
    have hg0 := grown_alloc (grown_refl w) (.cells #[.int .i64 (1000 * t0.s)] 3)
    generalize w.alloc (.cells #[.int .i64 (1000 * t0.s)] 3) = w3 at *
    clear a0 a1 a2
    try rw [hm]
    have hmi : ((n - 1 : Nat) : Int) = (m : Int) := by omega
    have HMM := Lib.hid (And.intro hm hX1)
    clear hm hX1
    go_loopg [7, 8, 21] m (fun k z v i wr => ∃ j : Nat, k + j = m ∧ i = .int .i64 j ∧ z = .int .i64 (SL (j + 1)) ∧ wr.ownsRow w.heap.size 3 1 v (X.take (j + 1)).length (ints (X.take (j + 1))) ∧ w.grownBy wr none)
    case atStart => exact ⟨0, by omega, rfl, by rw [HC.out.2.2.2], by rw [HMM.out.2]; exact hown0, hg0⟩
    case round =>
      obtain ⟨j, hj, rfl, rfl, hown, hg⟩ := hrel
      by_cases hlt : j < m
      · have hmm := HMM.out.1
        obtain ⟨bb, off, hbe, hb, t, ht, c0, c1, c2⟩ := sal_cells (hr.grown hg) (k := j + 1) (by omega)
        injection hbe with hbe
        injection hbe with hb1 hb2 _
        subst hb1
        subst hb2
        rw [show off0 + (j + 1) * 3 = off0 + 3 + j * 3 from by omega] at c0 c1 c2
        obtain ⟨s0, s1⟩ := (HC.out.2.2.1 t (List.mem_of_getElem? ht)).2
        have hUj := HX.out.1 (j + 1) (by rw [HC.out.1]; omega)
        have htk := take_at hUj
        obtain ⟨z0, z1⟩ := HX.out.2.2 (j + 1)
        have hz2 := HX.out.2.1 (j + 1) t ht
        obtain ⟨y0, y1⟩ := HX.out.2.2 (j + 1 + 1)
        generalize hS1 : SL (j + 1 + 1) = y at *
        generalize SL (j + 1) = z at *
        have HS1 := Lib.hid hS1
        have hll : (X.take (j + 1)).length ≤ 1000000000 := by rw [List.length_take]; omega
        generalize X.take (j + 1) = l0 at *
        have hlt' : (j : Int) < (m : Int) := by omega
        have HS := Lib.hid (And.intro htk hj)
        clear htk hj hUj ht hS1 hmm
        by_cases ho : t.o = true
        · have hmx : y = max z (1000 * t.s) := by rw [hz2]; unfold smStep; rw [if_pos ho]
          clear hz2
          have hownr := hown.alloc (.cells #[.int .i64 t.d, .int .i64 t.s, .bool true] 79)
          have hgr := grown_alloc hg (.cells #[.int .i64 t.d, .int .i64 t.s, .bool true] 79)
          have hwz := hgr.size
          have hNN : (wr.alloc (.cells #[.int .i64 t.d, .int .i64 t.s, .bool true] 79)).heap.size = wr.heap.size + 1 := by simp
          generalize t.o = to at *
          subst ho
          by_cases hle : z < 1000 * t.s
          · have HZ : Hid (y = 1000 * t.s) := Lib.hid (by omega)
            clear hmx
            go_wp2_with (at_builtin; refine ap_intN (wr.alloc (.cells #[.int .i64 t.d, .int .i64 t.s, .bool true] 79)) (1000 * t.s) rfl _ _ rfl w.heap.size _ l0 rfl hownr _ hNN rfl hll hwz ?_; intro v5 w5 hown5 hg5)
            have htk := HS.out.1
            have hj := HS.out.2
            go_roundg (gk - 1)
            case measure => omega
            case rel => exact ⟨j + 1, by omega, by go_num, by rw [HS1.out, HZ.out], by rw [htk, HZ.out]; exact hown5, ap_grown hgr hownr hg5 (Nat.le_refl _)⟩
          · have HZ : Hid (y = z) := Lib.hid (by omega)
            clear hmx
            go_wp2_with (at_builtin; refine ap_intN (wr.alloc (.cells #[.int .i64 t.d, .int .i64 t.s, .bool true] 79)) z rfl _ _ rfl w.heap.size _ l0 rfl hownr _ hNN rfl hll hwz ?_; intro v5 w5 hown5 hg5)
            have htk := HS.out.1
            have hj := HS.out.2
            go_roundg (gk - 1)
            case measure => omega
            case rel => exact ⟨j + 1, by omega, by go_num, by rw [HS1.out, HZ.out], by rw [htk, HZ.out]; exact hown5, ap_grown hgr hownr hg5 (Nat.le_refl _)⟩
        · have ho' : t.o = false := by simpa using ho
          have hmx : y = (z * (den - num) + 1000 * t.s * num) / den := by rw [hz2]; unfold smStep; rw [if_neg ho]
          clear hz2 ho
          have hownr := hown.alloc (.cells #[.int .i64 t.d, .int .i64 t.s, .bool false] 79)
          have hgr := grown_alloc hg (.cells #[.int .i64 t.d, .int .i64 t.s, .bool false] 79)
          have hwz := hgr.size
          have hNN : (wr.alloc (.cells #[.int .i64 t.d, .int .i64 t.s, .bool false] 79)).heap.size = wr.heap.size + 1 := by simp
          generalize t.o = to at *
          subst ho'
          have hq : y = z + (1000 * t.s - z) * num / den := by
            rw [hmx, show z * (den - num) + 1000 * t.s * num = (1000 * t.s - z) * num + z * den from by rw [Int.mul_sub, Int.sub_mul]; omega, Int.add_mul_ediv_right _ _ (by omega)]
            omega
          have p1 : (1000 * t.s - z) * num ≤ 1000000 * 1000 := by
            rcases (show 0 ≤ 1000 * t.s - z ∨ 1000 * t.s - z < 0 by omega) with h | h
            · exact Int.mul_le_mul (by omega) (by omega) (by omega) (by omega)
            · have := Int.mul_nonneg (show 0 ≤ -(1000 * t.s - z) by omega) m0
              rw [Int.neg_mul] at this
              omega
          have p0 : -(1000000 * 1000) ≤ (1000 * t.s - z) * num := by
            rcases (show 0 ≤ 1000 * t.s - z ∨ 1000 * t.s - z < 0 by omega) with h | h
            · have := Int.mul_nonneg h m0
              omega
            · have : -(1000 * t.s - z) * num ≤ 1000000 * 1000 := Int.mul_le_mul (by omega) (by omega) (by omega) (by omega)
              rw [Int.neg_mul] at this
              omega
          have hdown := fun w => down_any ((1000 * t.s - z) * num) den w ⟨by omega, by omega⟩ ⟨d0, d1⟩
          generalize hqq : (1000 * t.s - z) * num / den = qq at *
          have HD := Lib.hid hdown
          clear hdown hqq hmx
          go_wp2_with fail
          refine (HD.out _).mono ?_
          rintro e w9 ⟨rfl, rfl⟩
          have y2 : 0 ≤ z + qq := by omega
          have y3 : z + qq ≤ 1000000 := by omega
          have HZ := Lib.hid hq
          clear hq p0 p1
          go_wp2_with (at_builtin; refine ap_intN (wr.alloc (.cells #[.int .i64 t.d, .int .i64 t.s, .bool false] 79)) (z + qq) rfl _ _ rfl w.heap.size _ l0 rfl hownr _ hNN rfl hll hwz ?_; intro v5 w5 hown5 hg5)
          have htk := HS.out.1
          have hj := HS.out.2
          go_roundg (gk - 1)
          case measure => omega
          case rel => exact ⟨j + 1, by omega, by go_num, by rw [HS1.out, HZ.out], by rw [htk, HZ.out]; exact hown5, ap_grown hgr hownr hg5 (Nat.le_refl _)⟩
      · obtain rfl : j = m := by omega
        have hmm := HMM.out.1
        rw [List.take_of_length_le (by rw [HC.out.2.1]; omega), HC.out.2.1] at hown
        go_wp2_with fail
        go_ret
        exact ⟨_, rfl, hown, hg⟩

end Go.Proofs.Ytkfijicmeekmiaa
