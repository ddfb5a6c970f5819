/- The walk of Error. -/
import Derived.Test.YtkfijicmeekmiaaRates
import Derived.Test.YtkfijicmeekmiaaClnS
import Derived.StillTailTactics
namespace Go.Proofs.Ytkfijicmeekmiaa
open Go.RowKit

/-- How far a guess was off, as the day's Sold. -/
def wrS (t : Sal) (x : Int) : Sal := ⟨t.d, max (x - t.s) (t.s - x), t.o⟩
def wrL (l : List Sal) (g : List Int) : List Sal := List.zipWith wrS l g
def part_ (C l : List Sal) (j : Nat) : List Sal := C.take j ++ l.drop j
theorem part_zero (C l : List Sal) : part_ C l 0 = l := by simp [part_]
theorem part_full {C l : List Sal} {n : Nat} (h1 : C.length = n) (h2 : l.length = n) : part_ C l n = C := by
  unfold part_; rw [List.take_of_length_le (by omega), List.drop_of_length_le (by omega), List.append_nil]
theorem part_len {C l : List Sal} {n j : Nat} (h1 : C.length = n) (h2 : l.length = n) (hj : j ≤ n) : (part_ C l j).length = n := by
  unfold part_; rw [List.length_append, List.length_take, List.length_drop]; omega
theorem wrL_len {l : List Sal} {g : List Int} {n : Nat} (h1 : l.length = n) (h2 : g.length = n) : (wrL l g).length = n := by
  unfold wrL; rw [List.length_zipWith]; omega
theorem wrL_at {l : List Sal} {g : List Int} {j : Nat} {t : Sal} {x : Int} (h1 : l[j]? = some t) (h2 : g[j]? = some x) : (wrL l g)[j]? = some (wrS t x) := by
  unfold wrL; rw [List.getElem?_zipWith, h1, h2]

theorem salFlat_append (a b : List Sal) : salFlat (a ++ b) = salFlat a ++ salFlat b := by simp [salFlat]
/-- Only Sold of day j is written. -/
theorem part_set {C l : List Sal} {n j : Nat} {t y : Sal} (h1 : C.length = n) (h2 : l.length = n) (hj : j < n) (ht : l[j]? = some t) (hy : C[j]? = some y) (hd : y.d = t.d) (ho : y.o = t.o) :
    (salFlat (part_ C l j)).set (j * 3 + 1) (.int .i64 y.s) = salFlat (part_ C l (j + 1)) := by
  unfold part_
  rw [take_at hy, drop_at ht, List.append_assoc]
  simp only [salFlat_append]
  have hl : (salFlat (C.take j)).length = j * 3 := by rw [salFlat_len, List.length_take]; congr 1; omega
  generalize salFlat (C.take j) = Y at *
  rw [← hl]
  rw [List.set_append_right _ _ (by omega), show Y.length + 1 - Y.length = 1 from by omega]
  congr 1
  show (salCells t ++ salFlat (l.drop (j + 1))).set 1 _ = salFlat [y] ++ salFlat (l.drop (j + 1))
  have e : salFlat [y] = [.int .i64 t.d, .int .i64 y.s, .bool t.o] := by simp [salFlat, salCells, hd, ho]
  rw [e]
  rfl
theorem part_at {C l : List Sal} {n j : Nat} {t : Sal} (h1 : C.length = n) (hj : j < n) (ht : l[j]? = some t) : (part_ C l j)[j]? = some t := by
  unfold part_
  rw [List.getElem?_append_right (by rw [List.length_take]; omega), List.length_take, show j - min j C.length = 0 from by omega, List.getElem?_drop, Nat.add_zero, ht]

theorem sal_own {w : World} {base G cap n j : Nat} {C l : List Sal} {t : Sal} (h : w.ownsRow base 79 3 (.slice (some ⟨G, 0, none⟩) n cap) n (salFlat (part_ C l j))) (h1 : C.length = n) (h2 : l.length = n) (hj : j < n) (ht : (part_ C l j)[j]? = some t) :
    w.cell? ⟨G, j * 3 + 1, none⟩ = some (.int .i64 t.s) := by
  have hlen := part_len h1 h2 (Nat.le_of_lt hj)
  rw [h.cellAt (j * 3 + 1) (by omega)]
  rw [salFlat_at _ j 1 (by omega) (by omega)]
  obtain ⟨h3, h4⟩ := List.getElem?_eq_some_iff.1 ht
  rw [h4]
  rfl

/-- What Error answers for right days. -/
def errV (l : List Sal) (g : List Int) : Value :=
  if g.length ≠ l.length then .tuple #[frac 0 0, .int .i64 3]
  else if allB g 0 1000 = false then .tuple #[frac 0 0, .int .i64 1]
  else .tuple #[frac (meanN lastB (wrL l g)) (meanD lastB (wrL l g)), .int .i64 (if cntP lastB (wrL l g) = 0 then 8 else 0)]

theorem wrL_rng {l : List Sal} {g : List Int} (hl : ∀ t ∈ l, 0 ≤ t.s ∧ t.s ≤ 1000) (hg : ∀ x ∈ g, 0 ≤ x ∧ x ≤ 1000) : ∀ t ∈ wrL l g, 0 ≤ t.s ∧ t.s ≤ 1000 := by
  intro t ht
  obtain ⟨i, hi, rfl⟩ := List.mem_iff_getElem.1 ht
  unfold wrL at hi ⊢
  rw [List.length_zipWith] at hi
  rw [List.getElem_zipWith]
  have h1 := hl _ (List.getElem_mem (show i < l.length by omega))
  have h2 := hg _ (List.getElem_mem (show i < g.length by omega))
  unfold wrS
  simp only
  omega
theorem allB_mem {g : List Int} {a b : Int} (h : allB g a b = true) : ∀ x ∈ g, a ≤ x ∧ x ≤ b := by
  intro x hx
  unfold allB at h
  exact btw_true.1 (List.all_eq_true.1 h x hx)

set_option maxRecDepth 100000 in
set_option maxHeartbeats 400000 in
theorem error_bad (A B : Option Addr) (n c m d : Nat) (l : List Sal) (w : World) (hr : Rd w 3 A n (salFlat l)) (hn : n ≤ 400) (hf : dayFault l ≠ 0) :
    Calls Try.prog 30 #[.slice A n c, .slice B m d] w fun e w' => e = .returned (.tuple #[frac 0 0, .int .i64 (dayFault l)]) ∧ w.grownBy w' none := by
  have hck := fun w1 (hg : w.grownBy w1 none) => checkDays_any A n c l w1 (hr.grown hg) hn
  have hne : (dayFault l != 0) = true := by rw [bne_iff_ne]; exact hf
  generalize dayFault l = f at *
  have hg0 := grown_alloc (grown_refl w) (.cells #[.int .i64 0, .int .i64 0] 31)
  have hB0 := Blk.new w 31 #[.int .i64 0, .int .i64 0]
  have HC := Lib.hid hck
  clear hck hf
  go_enter Try.func30, Try.ntmps30
  go_wp2_with fail
  refine (HC.out _ hg0).mono ?_
  rintro e w1 ⟨rfl, hg1⟩
  have hB1 := hB0.grown hg1 (by simp)
  obtain ⟨e0, e1, f0, f1⟩ := hB1.two
  go_wp2_with fail
  refine bodyPost_ret (results_row_tmp rfl _ _ w.heap.size _ _ _ _ rfl ((hB1.set_ 0 (.int .i64 0)).set_ 1 (.int .i64 0)) Try.underlying31 rfl (by kernel_rfl)) rfl ?_
  exact ⟨rfl, grown_set (p := ⟨w.heap.size, 1, none⟩) (grown_set (p := ⟨w.heap.size, 0, none⟩) (hg0.trans hg1) (.inl (Nat.le_refl _)) _) (.inl (Nat.le_refl _)) _⟩

set_option maxRecDepth 100000 in
set_option maxHeartbeats 1000000 in
theorem error_ok (A B : Option Addr) (n c m d : Nat) (l : List Sal) (g : List Int) (w : World) (hr : Rd w 3 A n (salFlat l)) (hn : n ≤ 400) (hf : dayFault l = 0) (hr2 : Rd w 1 B m (ints g)) (hm : m ≤ 1000000) :
    Calls Try.prog 30 #[.slice A n c, .slice B m d] w fun e w' => e = .returned (errV l g) ∧ w.grownBy w' none := by
  have hl : l.length = n := by have := hr.1; rw [salFlat_len] at this; omega
  have hgl : g.length = m := by have := hr2.1; simpa [ints] using this
  have hck := fun w1 (hg : w.grownBy w1 none) => checkDays_any A n c l w1 (hr.grown hg) hn
  rw [hf] at hck
  obtain ⟨hl400, hok⟩ := days_ok hf
  have hg0 := grown_alloc (grown_refl w) (.cells #[.int .i64 0, .int .i64 0] 31)
  have hB0 := Blk.new w 31 #[.int .i64 0, .int .i64 0]
  have hab := fun w1 (hg : w.grownBy w1 none) => allBetween_any B m d g 0 1000 w1 (hr2.grown hg) hm
  have hcl := fun w1 (hg : w.grownBy w1 none) => cloneSales_any A n c l w1 (hr.grown hg) (by omega)
  have HC := Lib.hid (And.intro hck (And.intro hab hcl))
  clear hck hab hcl hf
  by_cases h1 : m = n
  · subst h1
    by_cases h2 : allB g 0 1000 = true
    · have hv : errV l g = .tuple #[frac (meanN lastB (wrL l g)) (meanD lastB (wrL l g)), .int .i64 (if cntP lastB (wrL l g) = 0 then 8 else 0)] := by
        unfold errV; rw [if_neg (by simp [hl, hgl]), if_neg (by simp [h2])]
      obtain ⟨V, hV⟩ : ∃ V, V = errV l g := ⟨_, rfl⟩
      rw [← hV]
      have HVV := Lib.hid (hV.trans hv)
      clear hV
      rw [h2] at HC
      have hrng := wrL_rng (fun t ht => (hok t ht).2) (allB_mem h2)
      have HR := Lib.hid (And.intro hl (And.intro hgl (And.intro hok (And.intro hrng (allB_mem h2)))))
      clear hv hl hgl hok hrng h2
      go_enter Try.func30, Try.ntmps30
      go_wp2_with fail
      refine (HC.out.1 _ hg0).mono ?_
      rintro e w1 ⟨rfl, hg1⟩
      have hgg1 := hg0.trans hg1
      go_wp2_with fail
      refine (HC.out.2.1 _ hgg1).mono ?_
      rintro e w2 ⟨rfl, hg2⟩
      have hgg2 := hgg1.trans hg2
      go_wp2_with fail
      refine (HC.out.2.2 _ hgg2).mono ?_
      rintro e w3 ⟨v3, rfl, hown3, hg3⟩
      have hgg3 := hgg2.trans hg3
      go_wp2_with fail
      have hCl : (wrL l g).length = m := wrL_len HR.out.1 HR.out.2.1
      have hB3 := hB0.grown ((hg1.trans hg2).trans hg3) (by simp)
      have hsz := hgg2.size
      have hlt3 := hB3.lt
      have hsz2 : w.heap.size < w2.heap.size := by have := (hg1.trans hg2).size; simp at this; omega
      have HCl := Lib.hid hCl
      clear hCl hg1 hg2 hg3 hgg1 hB0 hg0
      obtain ⟨b3, hb3⟩ : ∃ b3, b3 = w2.heap.size := ⟨_, rfl⟩
      rw [← hb3] at hown3 hsz hsz2
      clear hb3 hgg2
      go_loopg [30] m (fun k i wr => ∃ j : Nat, k + j = m ∧ i = .int .i64 j ∧ wr.ownsRow b3 79 3 v3 m (salFlat (part_ (wrL l g) l j)) ∧ Blk wr w.heap.size 31 #[.int .i64 0, .int .i64 0] ∧ w.grownBy wr none)
      case atStart => exact ⟨0, by omega, rfl, by rw [part_zero]; exact hown3, hB3, hgg3⟩
      case round =>
        obtain ⟨j, hj, rfl, hown, hBr, hg⟩ := hrel
        by_cases hlt : j < m
        · obtain ⟨b, off, rfl, hb, t, ht, c0, c1, c2⟩ := sal_cells (hr.grown hg) hlt
          obtain ⟨bb, offb, rfl, hbb, x, hx, d0⟩ := int_cells (hr2.grown hg) hlt
          obtain ⟨s0, s1⟩ := (HR.out.2.2.1 t (List.mem_of_getElem? ht)).2
          obtain ⟨x0, x1⟩ := HR.out.2.2.2.2 x (List.mem_of_getElem? hx)
          have hy := wrL_at ht hx
          have hset := part_set HCl.out HR.out.1 hlt ht hy rfl rfl
          have hpa := part_at (C := wrL l g) HCl.out hlt ht
          obtain ⟨G, cap, hv, hgb, hglt⟩ := hown.form (by omega)
          subst hv
          have hcell := sal_own hown HCl.out HR.out.1 hlt hpa
          have hms : (wrS t x).s = max (x - t.s) (t.s - x) := rfl
          have hownW := hown.alloc (.cells #[.int .i64 t.d, .int .i64 t.s, .bool t.o] 79)
          have hBrW := hBr.alloc (.cells #[.int .i64 t.d, .int .i64 t.s, .bool t.o] 79)
          have hgW := grown_alloc hg (.cells #[.int .i64 t.d, .int .i64 t.s, .bool t.o] 79)
          have hbox := Blk.new wr 79 #[.int .i64 t.d, .int .i64 t.s, .bool t.o]
          have hz := grown_alloc (grown_refl wr) (.cells #[.int .i64 t.d, .int .i64 t.s, .bool t.o] 79)
          have hcellW := hz.cell hcell (by simp)
          have hd0W := hz.cell d0 (by simp)
          have hfroW := hownW.frozenAt (j * 3 + 1)
          obtain ⟨p0, p1, p2, _, _, _⟩ := hbox.three
          have hgne2 : w.heap.size ≠ G := by omega
          have hlt' : (j : Int) < (m : Int) := by omega
          have hyy : (wrL l g)[j]? = some (wrS t x) := hy
          have HS := Lib.hid (And.intro hset (And.intro hj hms))
          clear hj hset hpa hy ht hx hown hms hcell hbox hz hyy
          have wa : IntKind.i64.wrap (x - t.s) = x - t.s := IntWalk.i64_in _ (by omega)
          have wb : IntKind.i64.wrap (t.s - x) = t.s - x := IntWalk.i64_in _ (by omega)
          by_cases hle : x - t.s < t.s - x
          case' pos => have hmm : max (x - t.s) (t.s - x) = t.s - x := by omega
          case' neg => have hmm : max (x - t.s) (t.s - x) = x - t.s := by omega
          all_goals
            have HMM := Lib.hid hmm
            clear hmm
            go_wp2_with fail
            generalize wr.alloc (.cells #[.int .i64 t.d, .int .i64 t.s, .bool t.o] 79) = W at *
            clear c0 c1 c2 d0
            go_still_tail 19, (by kernel_rfl)
            change wpList _ _ _ _ _ W.drew
            have hown2 : W.drew.ownsRow b3 79 3 (.slice (some ⟨G, 0, none⟩) m cap) m (salFlat (part_ (wrL l g) l j)) := hownW
            have hBr2 : Blk W.drew w.heap.size 31 #[.int .i64 0, .int .i64 0] := hBrW
            have hg2 := grown_drew hgW
            have hce2 : W.drew.cell? ⟨G, j * 3 + 1, none⟩ = some (.int .i64 t.s) := hcellW
            have hfr2 : W.drew.frozen? ⟨G, j * 3 + 1, none⟩ = false := hfroW
            clear hownW hBrW hgW hcellW hd0W hfroW p0 p1 p2
            generalize W.drew = w9 at *
            go_wp2_with fail
            obtain ⟨hset, hj, hms⟩ := HS.out
            rw [hms, HMM.out] at hset
            go_roundg (gk - 1)
            case measure => omega
            case rel => exact ⟨j + 1, by omega, by go_num, by rw [← hset]; exact (hown2.stored (j * 3 + 1) _).1, hBr2.far (p := ⟨G, j * 3 + 1, none⟩) hgne2 _, grown_set (p := ⟨G, j * 3 + 1, none⟩) hg2 (.inl (by simp; omega)) _⟩
        · obtain rfl : j = m := by omega
          rw [part_full HCl.out HR.out.1] at hown
          obtain ⟨A9, c9, hv9, _, _, hrd9, _⟩ := Rd.of_own hown
          subst hv9
          have hml := meanLast A9 j c9 (wrL l g) wr hrd9 hn HR.out.2.2.2.1
          unfold meanV at hml
          have hz := mean_zero (p := lastB) (l := wrL l g)
          have hec : (if decide (cntP lastB (wrL l g) ≠ 0) = true then (0 : Int) else 8) = if cntP lastB (wrL l g) = 0 then 8 else 0 := by
            by_cases h : cntP lastB (wrL l g) = 0 <;> simp [h]
          have hon := fun w => orNone_any (meanN lastB (wrL l g)) (meanD lastB (wrL l g)) (decide (cntP lastB (wrL l g) ≠ 0)) w hz
          rw [hec] at hon
          obtain ⟨a, ha⟩ : ∃ a, a = meanN lastB (wrL l g) := ⟨_, rfl⟩
          obtain ⟨b, hb⟩ : ∃ b, b = meanD lastB (wrL l g) := ⟨_, rfl⟩
          obtain ⟨q, hq⟩ : ∃ q, q = decide (cntP lastB (wrL l g) ≠ 0) := ⟨_, rfl⟩
          obtain ⟨ec, hecc⟩ : ∃ ec : Int, ec = if cntP lastB (wrL l g) = 0 then 8 else 0 := ⟨_, rfl⟩
          rw [← ha, ← hb, ← hq] at hml hon
          rw [← hecc] at hon
          have HM := Lib.hid (And.intro hml (And.intro hon (And.intro ha (And.intro hb hecc))))
          clear hml hon ha hb hq hecc hec hz
          go_wp2_with fail
          refine HM.out.1.mono ?_
          rintro e w4 ⟨rfl, hg4⟩
          go_wp2_with fail
          refine (HM.out.2.1 _).mono ?_
          rintro e w5 ⟨rfl, hg5⟩
          have hBr5 := (hBr.grown hg4 (by simp)).grown hg5 (by simp)
          have hgg5 := (hg.trans hg4).trans hg5
          obtain ⟨e0, e1, f0, f1⟩ := hBr5.two
          unfold frac
          go_wp2_with fail
          refine bodyPost_ret (results_row_tmp rfl _ _ w.heap.size _ _ _ _ rfl ((hBr5.set_ 0 (.int .i64 a)).set_ 1 (.int .i64 b)) Try.underlying31 rfl (by kernel_rfl)) rfl ?_
          rw [HVV.out, ← HM.out.2.2.1, ← HM.out.2.2.2.1, ← HM.out.2.2.2.2]
          exact ⟨rfl, grown_set (p := ⟨w.heap.size, 1, none⟩) (grown_set (p := ⟨w.heap.size, 0, none⟩) hgg5 (.inl (Nat.le_refl _)) _) (.inl (Nat.le_refl _)) _⟩
    · have h2' : allB g 0 1000 = false := by simpa using h2
      have hv : errV l g = .tuple #[frac 0 0, .int .i64 1] := by
        unfold errV; rw [if_neg (by simp [hl, hgl]), if_pos h2']
      rw [hv]
      rw [h2'] at HC
      clear hv hl hgl hok h2 h2'
      go_enter Try.func30, Try.ntmps30
      go_wp2_with fail
      refine (HC.out.1 _ hg0).mono ?_
      rintro e w1 ⟨rfl, hg1⟩
      have hgg1 := hg0.trans hg1
      go_wp2_with fail
      refine (HC.out.2.1 _ hgg1).mono ?_
      rintro e w2 ⟨rfl, hg2⟩
      have hgg2 := hgg1.trans hg2
      have hB2 := hB0.grown (hg1.trans hg2) (by simp)
      obtain ⟨e0, e1, f0, f1⟩ := hB2.two
      go_wp2_with fail
      refine bodyPost_ret (results_row_tmp rfl _ _ w.heap.size _ _ _ _ rfl ((hB2.set_ 0 (.int .i64 0)).set_ 1 (.int .i64 0)) Try.underlying31 rfl (by kernel_rfl)) rfl ?_
      exact ⟨rfl, grown_set (p := ⟨w.heap.size, 1, none⟩) (grown_set (p := ⟨w.heap.size, 0, none⟩) hgg2 (.inl (Nat.le_refl _)) _) (.inl (Nat.le_refl _)) _⟩
  · have hv : errV l g = .tuple #[frac 0 0, .int .i64 3] := by
      unfold errV; rw [if_pos (by rw [hl, hgl]; exact h1)]
    rw [hv]
    have hne : ((m : Int) != (n : Int)) = true := by rw [bne_iff_ne]; omega
    clear hv hl hgl hok h1
    go_enter Try.func30, Try.ntmps30
    go_wp2_with fail
    refine (HC.out.1 _ hg0).mono ?_
    rintro e w1 ⟨rfl, hg1⟩
    have hgg1 := hg0.trans hg1
    have hB1 := hB0.grown hg1 (by simp)
    obtain ⟨e0, e1, f0, f1⟩ := hB1.two
    go_wp2_with fail
    refine bodyPost_ret (results_row_tmp rfl _ _ w.heap.size _ _ _ _ rfl ((hB1.set_ 0 (.int .i64 0)).set_ 1 (.int .i64 0)) Try.underlying31 rfl (by kernel_rfl)) rfl ?_
    exact ⟨rfl, grown_set (p := ⟨w.heap.size, 1, none⟩) (grown_set (p := ⟨w.heap.size, 0, none⟩) hgg1 (.inl (Nat.le_refl _)) _) (.inl (Nat.le_refl _)) _⟩

end Go.Proofs.Ytkfijicmeekmiaa
