/- The walk of demand's Histogram (of days). -/
import Derived.Test.YtkfijicmeekmiaaRates
import Derived.Test.YtkfijicmeekmiaaTrim
import Derived.Test.YtkfijicmeekmiaaMade
import Derived.Test.YtkfijicmeekmiaaConv
import Derived.Test.YtkfijicmeekmiaaWeekR
namespace Go.Proofs.Ytkfijicmeekmiaa
open Go.RowKit

/-- A row by its numbers. -/
def fnL (N : Nat) (f : Nat → Int) : List Int := (List.range N).map f
theorem fnL_len (N : Nat) (f : Nat → Int) : (fnL N f).length = N := by simp [fnL]
theorem fnL_getD {N a : Nat} (f : Nat → Int) (h : a < N) : (fnL N f).getD a 0 = f a := by simp [fnL, List.getD, h]
theorem fnL_congr {N : Nat} {f g : Nat → Int} (h : ∀ a, a < N → f a = g a) : fnL N f = fnL N g := by
  unfold fnL; exact List.map_congr_left fun a ha => h a (List.mem_range.1 ha)
theorem fnL_set (N : Nat) (f : Nat → Int) (j : Nat) (x : Int) : (fnL N f).set j x = fnL N (fun a => if a = j then x else f a) := by
  apply List.ext_getElem?
  intro i
  by_cases hi : i < N
  · by_cases e : i = j
    · subst e; simp [fnL, hi]
    · simp [fnL, hi, e, Ne.symm e]
  · simp [fnL, hi]
theorem fnL_take {N M : Nat} (f : Nat → Int) (h : M ≤ N) : (fnL N f).take M = fnL M f := by
  unfold fnL
  rw [← List.map_take, List.take_range, Nat.min_eq_left h]
theorem fnL_succ (N : Nat) (f : Nat → Int) : fnL (N + 1) f = fnL N f ++ [f N] := by simp [fnL, List.range_succ]

/-- How often k was sold on days that were not sold out. -/
def cntK (l : List Sal) (k : Nat) : Int := ((l.filter fun t => !t.o && decide (t.s = (k : Int))).length : Nat)
theorem cntK_step {l : List Sal} {j : Nat} {t : Sal} (h : l[j]? = some t) (k : Nat) : cntK (l.take (j + 1)) k = cntK (l.take j) k + if t.o = false ∧ t.s = (k : Int) then 1 else 0 := by
  unfold cntK
  rw [take_at h, List.filter_append, List.length_append]
  by_cases ho : t.o = true
  · simp [ho]
  · have ho' : t.o = false := by simpa using ho
    by_cases hs : t.s = k
    · simp [ho', hs]
    · simp [ho', hs]
theorem cntK_rng (l : List Sal) (k : Nat) : 0 ≤ cntK l k ∧ cntK l k ≤ l.length := by
  unfold cntK
  have := List.length_filter_le (fun t : Sal => !t.o && decide (t.s = k)) l
  omega
/-- One more than the greatest number of the first j days. -/
def mxA (l : List Sal) : Nat → Nat
  | 0 => 0
  | j + 1 => if (l.getD j default).o then mxA l j else max (mxA l j) ((l.getD j default).s.toNat + 1)
theorem mxA_step {l : List Sal} {j : Nat} {t : Sal} (h : l[j]? = some t) : mxA l (j + 1) = if t.o then mxA l j else max (mxA l j) (t.s.toNat + 1) := by
  simp only [mxA]
  rw [show l.getD j default = t from by simp [List.getD, h]]
theorem mxA_facts {l : List Sal} (hl : ∀ t ∈ l, 0 ≤ t.s ∧ t.s ≤ 1000) (j : Nat) (hj : j ≤ l.length) :
    mxA l j ≤ 1001 ∧ (∀ k, mxA l j ≤ k → cntK (l.take j) k = 0) ∧ (0 < mxA l j → cntK (l.take j) (mxA l j - 1) ≠ 0) := by
  induction j with
  | zero => exact ⟨by simp [mxA], fun k _ => by simp [cntK], fun h => by simp [mxA] at h⟩
  | succ j ih =>
    obtain ⟨h1, h2, h3⟩ := ih (by omega)
    have hx : l[j]? = some l[j] := List.getElem?_eq_getElem (by omega)
    generalize l[j] = t at hx
    have ht := hl t (List.mem_of_getElem? hx)
    rw [mxA_step hx]
    have hs := fun k => cntK_step hx k
    by_cases ho : t.o = true
    · rw [if_pos ho]
      refine ⟨h1, fun k hk => by rw [hs, h2 k hk, if_neg (by simp [ho])]; omega, fun hp => ?_⟩
      rw [hs, if_neg (by simp [ho])]
      have := h3 hp; omega
    · have ho' : t.o = false := by simpa using ho
      rw [if_neg ho]
      refine ⟨by omega, fun k hk => ?_, fun _ => ?_⟩
      · rw [hs, h2 k (by omega), if_neg (by rintro ⟨_, h⟩; omega)]; omega
      · rw [hs]
        by_cases hc : mxA l j ≤ t.s.toNat + 1
        · rw [Nat.max_eq_right hc, if_pos ⟨ho', by omega⟩]
          have := (cntK_rng (l.take j) (t.s.toNat + 1 - 1)).1
          omega
        · rw [Nat.max_eq_left (by omega)]
          have := h3 (by omega)
          have := (cntK_rng (l.take j) (mxA l j - 1)).1
          split <;> omega
theorem tr_char {l : List Int} {M : Nat} (hM : M ≤ l.length) (h0 : ∀ i, M ≤ i → i < l.length → l.getD i 0 = 0) (h1 : 0 < M → l.getD (M - 1) 0 ≠ 0) : trN l = M := by
  rcases Nat.lt_trichotomy (trN l) M with h | h | h
  · exact absurd (trA_zero l l.length (M - 1) (by unfold trN at h; omega) (by omega)) (h1 (by omega))
  · exact h
  · have h2 := trA_last l l.length (by unfold trN at h; omega)
    have h3 := trN_le l
    exact absurd (h0 (trN l - 1) (by omega) (by omega)) h2
theorem hist_row {l : List Sal} (hl : ∀ t ∈ l, 0 ≤ t.s ∧ t.s ≤ 1000) : trN (fnL 1001 (cntK l)) = mxA l l.length ∧ (fnL 1001 (cntK l)).take (mxA l l.length) = fnL (mxA l l.length) (cntK l) := by
  obtain ⟨h1, h2, h3⟩ := mxA_facts hl l.length (Nat.le_refl _)
  rw [List.take_of_length_le (Nat.le_refl _)] at h2 h3
  refine ⟨tr_char (by rw [fnL_len]; exact h1) (fun i hi hl => ?_) (fun hp => ?_), fnL_take _ h1⟩
  · rw [fnL_len] at hl; rw [fnL_getD _ hl]; exact h2 i hi
  · rw [fnL_getD _ (by omega)]; exact h3 hp
theorem fnL_zero (N : Nat) : List.replicate N (0 : Int) = fnL N (cntK []) := by
  unfold fnL cntK
  apply List.ext_getElem?
  intro i
  by_cases hi : i < N <;> simp [hi]

set_option maxRecDepth 100000 in
set_option maxHeartbeats 1000000 in
theorem histogram_ok (A : Option Addr) (n c : Nat) (l : List Sal) (w : World) (hr : Rd w 3 A n (salFlat l)) (hn : n ≤ 400) (hf : dayFault l = 0) :
    Calls Try.prog 36 #[.slice A n c] w fun e w' => ∃ v, e = .returned (.tuple #[v, .int .i64 0]) ∧ w'.ownsRow w.heap.size 3 1 v (mxA l l.length) (ints (fnL (mxA l l.length) (cntK l))) ∧ w.grownBy w' none := by
  have hl : l.length = n := by have := hr.1; rw [salFlat_len] at this; omega
  have hck := checkDays_any A n c l w hr hn
  rw [hf] at hck
  obtain ⟨-, hok⟩ := days_ok hf
  have hmk : ∀ w : World, (Instr.makeSlice 22 (.int .i64 1001) (.int .i64 1001)).run Try.prog w = .ok (.slice (some ⟨w.heap.size, 0, none⟩) 1001 1001) (w.alloc (.cells (madeCells #[.int .i64 0] 1001) 3)) := make_ints 1001 (by omega)
  obtain ⟨r1, r2⟩ := hist_row fun t ht => (hok t ht).2
  have hstep := fun (j : Nat) (t : Sal) (h : l[j]? = some t) k => cntK_step h k
  have hcr := fun j k => cntK_rng (l.take j) k
  have hll : ∀ j, (l.take j).length ≤ n := fun j => by rw [List.length_take]; omega
  obtain ⟨m1, -, -⟩ := mxA_facts (fun t ht => (hok t ht).2) l.length (Nat.le_refl _)
  have HC := Lib.hid (And.intro hck (And.intro hok (And.intro hstep (And.intro hcr (And.intro hll (And.intro r1 (And.intro r2 (And.intro hl m1))))))))
  clear hck hok hstep hcr hll r1 r2 hf hl m1
  go_enter Try.func36, Try.ntmps36
  go_wp2_with fail
  refine HC.out.1.mono ?_
  rintro e w1 ⟨rfl, hg1⟩
  have hg2 := grown_alloc hg1 (.cells (madeCells #[.int .i64 0] 1001) 3)
  go_wp2_with fail
  have hown0 := made_ints w1 1001 (by omega)
  have hsz0 := hg1.size
  generalize w1.alloc (.cells (madeCells #[.int .i64 0] 1001) 3) = w3 at *
  obtain ⟨g, hge⟩ : ∃ g, g = w1.heap.size := ⟨_, rfl⟩
  rw [← hge] at hown0 hsz0 ⊢
  clear hmk hge hg1
  go_loopg [16] n (fun k i wr => ∃ j : Nat, k + j = n ∧ i = .int .i64 j ∧ wr.ownsRow g 3 1 (.slice (some ⟨g, 0, none⟩) 1001 1001) 1001 (ints (fnL 1001 (cntK (l.take j)))) ∧ w.grownBy wr none)
  case atStart => exact ⟨0, by omega, rfl, by rw [fnL_zero] at hown0; exact hown0, hg2⟩
  case round =>
    obtain ⟨j, hj, rfl, hown, hg⟩ := hrel
    by_cases hlt : j < n
    · obtain ⟨bb, off, rfl, hb, t, ht, c0, c1, c2⟩ := sal_cells (hr.grown hg) hlt
      obtain ⟨s0, s1⟩ := (HC.out.2.1 t (List.mem_of_getElem? ht)).2
      have hst := HC.out.2.2.1 j t ht
      have hcr := HC.out.2.2.2.1 j
      have hll := HC.out.2.2.2.2.1 j
      obtain ⟨td, ts, to⟩ := t
      dsimp only at *
      obtain ⟨k, rfl⟩ : ∃ k : Nat, ts = k := ⟨ts.toNat, by omega⟩
      have hbox := Blk.new wr 79 #[.int .i64 td, .int .i64 k, .bool to]
      have hgr := grown_alloc hg (.cells #[.int .i64 td, .int .i64 k, .bool to] 79)
      have hownr := hown.alloc (.cells #[.int .i64 td, .int .i64 k, .bool to] 79)
      obtain ⟨g', cap', hv, hgb, hglt⟩ := hown.form (by omega)
      cases hv
      have hgne : g ≠ wr.heap.size := by omega
      have hlas := fun w => lasted_any ⟨td, k, to⟩ w
      dsimp only at hlas
      have HS := Lib.hid (And.intro hst (And.intro hj (And.intro hlas (And.intro hcr hll))))
      clear hst hj ht hown hlas hcr hll
      go_wp2_with fail
      obtain ⟨B, hB⟩ : ∃ B, B = wr.heap.size := ⟨_, rfl⟩
      rw [← hB] at hbox hgne ⊢
      clear hB c0 c1 c2
      generalize wr.alloc (.cells #[.int .i64 td, .int .i64 k, .bool to] 79) = wb at *
      obtain ⟨d0, d1, d2, _, _, _⟩ := hbox.three
      go_wp2_with fail
      refine (HS.out.2.2.1 _).mono ?_
      rintro e w5 ⟨rfl, hg5⟩
      have hown5 := own_kept hownr hg5
      obtain ⟨d0, d1, d2, _, _, _⟩ := (hbox.grown hg5 (by simp)).three
      have e0 := own_int hown5 (j := k) (by omega)
      rw [fnL_getD _ (by omega)] at e0
      have f0 := hown5.frozenAt k
      have o1 := own_int_set hown5 k (cntK (l.take j) k + 1)
      rw [fnL_set] at o1
      obtain ⟨q0, q1⟩ := HS.out.2.2.2.1 k
      have q2 := HS.out.2.2.2.2
      have hk1 : k < 1001 := by omega
      have HO := Lib.hid o1
      have HW := Lib.hid hown5
      clear o1 hown5 hownr
      generalize hcn : cntK (l.take j) k = cn at *
      have HN := Lib.hid hcn
      clear hcn
      cases to
      · go_wp2_with fail
        have hst := HS.out.1
        have hj := HS.out.2.1
        go_roundg (gk - 1)
        case measure => omega
        case rel =>
          refine ⟨j + 1, by omega, by go_num, ?_, grown_set (p := ⟨g, k, none⟩) (hgr.trans hg5) (.inl hsz0) _⟩
          rw [fnL_congr (g := fun a => if a = k then cn + 1 else cntK (l.take j) a) (fun a ha => by
            rw [hst a]
            by_cases h : a = k
            · rw [h, HN.out]; simp
            · rw [if_neg h, if_neg (by rintro ⟨_, h'⟩; omega)]; omega)]
          exact HO.out
      · go_wp2_with fail
        have hst := HS.out.1
        have hj := HS.out.2.1
        go_roundg (gk - 1)
        case measure => omega
        case rel =>
          refine ⟨j + 1, by omega, by go_num, ?_, hgr.trans hg5⟩
          rw [fnL_congr (g := cntK (l.take j)) (fun a ha => by rw [hst a]; simp)]
          exact HW.out
    · obtain rfl : j = n := by omega
      obtain ⟨-, -, -, -, -, hr1, hr2, hln, hm1⟩ := HC.out
      rw [List.take_of_length_le (by omega)] at hown
      obtain ⟨A5, c5, h5, hn5, hm5, hr5, hb5⟩ := Rd.of_own hown
      cases h5
      have htr := fun w1 (hg1 : wr.grownBy w1 none) => trim_any _ 1001 1001 _ w1 (hr5.grown hg1) (by omega) (by omega)
      rw [hr1] at htr
      have hcl := fun w1 (hg1 : wr.grownBy w1 none) => cloneInts_any (some ⟨g, 0, none⟩) (mxA l l.length) 1001 _ w1 ((hr5.grown hg1).pre hm1) (by omega)
      rw [hr2] at hcl
      have HH := Lib.hid (And.intro htr hcl)
      clear htr hcl hr1 hr2 hown hj hr5 hln
      go_wp2_with fail
      refine (HH.out.1 _ (grown_refl wr)).mono ?_
      rintro e w5 ⟨rfl, hg5⟩
      go_wp2_with fail
      refine (HH.out.2 _ hg5).mono ?_
      rintro e w6 ⟨v6, rfl, hown6, hg6⟩
      have hgz := hg.trans hg5
      have hz6 := hgz.size
      go_wp2_with fail
      go_ret2
      exact ⟨_, rfl, own_mono hown6 hz6, hgz.trans hg6⟩

end Go.Proofs.Ytkfijicmeekmiaa
