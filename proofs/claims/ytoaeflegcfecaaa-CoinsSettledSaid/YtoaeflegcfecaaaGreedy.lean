/- The walks of checkAmount and Greedy. -/
import Derived.Test.YtoaeflegcfecaaaBack
import Derived.Test.YtoaeflegcfecaaaFloat
import Derived.Test.YtoaeflegcfecaaaRound
namespace Go.Proofs.Ytoaeflegcfecaaa
open Go.RowKit Go.Shelf

attribute [local go_sem] Oper.semAt_some

def amtFault (l : List Tub) (n : Int) : Int := if tubFault l ≠ 0 then tubFault l else if btw n 0 20000 = false then 1 else 0

set_option maxHeartbeats 400000 in
theorem checkAmount_any (A : Option Addr) (n c : Nat) (l : List Tub) (x : Int) (w : World) (hr : Rd w 3 A n (tubFlat l)) :
    Calls Try.prog 49 #[.slice A n c, .int .i64 x] w fun e w' => e = .returned (.int .i64 (amtFault l x)) ∧ w.grownBy w' none := by
  have hc := checkTubes_any A n c l w hr
  by_cases h0 : tubFault l = 0
  · have hs : amtFault l x = if btw x 0 20000 = false then 1 else 0 := by simp [amtFault, h0]
    rw [hs]
    rw [h0] at hc
    have HC := Lib.hid hc
    clear hc hs h0
    generalize hb : btw x 0 20000 = b
    have HB := Lib.hid hb
    clear hb
    go_enter Try.func49, Try.ntmps49
    go_wp2_with fail
    refine HC.out.mono ?_
    rintro e w1 ⟨rfl, hg1⟩
    go_wp2_with fail
    refine (between_any _ _ _ _).mono ?_
    rw [HB.out]
    rintro e w' ⟨rfl, rfl⟩
    cases b
    · go_wp2_with fail
      go_ret
      exact ⟨rfl, hg1⟩
    · go_wp2_with fail
      go_ret
      exact ⟨rfl, hg1⟩
  · have hs : amtFault l x = tubFault l := by simp [amtFault, h0]
    rw [hs]
    have hb : (tubFault l != 0) = true := by rw [bne_iff_ne]; exact h0
    clear hs
    generalize tubFault l = f at *
    have HC := Lib.hid hc
    clear hc h0
    go_enter Try.func49, Try.ntmps49
    go_wp2_with fail
    refine HC.out.mono ?_
    rintro e w1 ⟨rfl, hg1⟩
    go_wp2_with fail
    go_ret
    exact ⟨rfl, hg1⟩

def gStep (s : List Int × Int) (x : Nat × Tub) : List Int × Int := (s.1.set x.1 (min x.2.c (s.2 / x.2.v)), s.2 - min x.2.c (s.2 / x.2.v) * x.2.v)
def gRun (n : Nat) (amount : Int) {l : List Tub} (pre : List (BackAt l)) : List Int × Int := (pre.map (·.1)).foldl gStep (List.replicate n 0, amount)
theorem gRun_snoc (n : Nat) (amount : Int) {l : List Tub} (pre : List (BackAt l)) (x : BackAt l) : gRun n amount (pre ++ [x]) = gStep (gRun n amount pre) x.1 := by simp [gRun]

theorem gRun_rng (n : Nat) (x : Int) (h0 : 0 ≤ x) {l : List Tub} (hr : ∀ t ∈ l, RightT t) (pre : List (BackAt l)) : 0 ≤ (gRun n x pre).2 ∧ (gRun n x pre).2 ≤ x := by
  suffices h : ∀ k, k ≤ pre.length → 0 ≤ (gRun n x (pre.take k)).2 ∧ (gRun n x (pre.take k)).2 ≤ x by simpa using h pre.length (Nat.le_refl _)
  intro k
  induction k with
  | zero => intro _; exact ⟨h0, Int.le_refl _⟩
  | succ k ih =>
    intro hk
    have ih := ih (by omega)
    rw [take_at (List.getElem?_eq_getElem (show k < pre.length from by omega)), gRun_snoc]
    generalize pre[k] = y at *
    generalize pre.take k = pre' at *
    obtain ⟨⟨i, t⟩, hy⟩ := y
    obtain ⟨r1, r2, r3, r4, r5⟩ := hr t (List.mem_of_getElem? hy)
    simp only [gStep]
    generalize (gRun n x pre').2 = left at *
    have h1 : 0 ≤ left / t.v := Int.ediv_nonneg ih.1 (by omega)
    have h2 : left / t.v * t.v ≤ left := Int.ediv_mul_le left (by omega)
    have h3 : min t.c (left / t.v) * t.v ≤ left / t.v * t.v := Int.mul_le_mul_of_nonneg_right (by omega) (by omega)
    have h4 : 0 ≤ min t.c (left / t.v) * t.v := Int.mul_nonneg (by omega) (by omega)
    omega

/-- The frame in a round of Greedy. -/
def grTmps (A : Option Addr) (n c : Nat) (x : Int) (g Bx : Nat) (y : Nat × Tub) : Array Value :=
  #[.slice A n c, .int .i64 x, undef, undef, .slice none 0 0, .int .i64 0, .int .i64 0, .int .i64 0, .pointer (some ⟨g + 1, 0, none⟩), .pointer (some ⟨g + 1 + 1, 0, none⟩), .int .i64 (y.1 : Int), .pointer (some ⟨Bx, 0, none⟩),
    .slice A n c, .int .i64 x, .int .i64 0, .int .i64 0, .bool false, undef, .slice A n c, .int .i64 n, .slice (some ⟨g, 0, none⟩) n n, .int .i64 x, .slice A n c,
    .func (.func 70) #[] #[.pointer (some ⟨g + 1 + 1 + 1, 0, none⟩)], .int .i64 (y.1 : Int), .agg #[.int .i64 y.2.v, .int .i64 y.2.c, .int .i64 y.2.m],
    undef, undef, undef, undef, undef, undef, undef, undef, undef, undef, undef, undef, undef, undef, undef, undef, undef, undef, undef, undef, undef]

/-- What a round of Greedy leaves. -/
theorem greedy_round {w W : World} {g n i D : Nat} {l : List Tub} {x left mn v : Int} {coins : List Int} {pre : List (BackAt l)} {y : BackAt l} {a : Act}
    (h1 : Boxed W (g + 1) 22 (.slice (some ⟨g, 0, none⟩) n n)) (h2 : Boxed W (g + 1 + 1) 3 (.int .i64 left)) (h3 : W.ownsRow w.heap.size 3 1 (.slice (some ⟨g, 0, none⟩) n n) n (ints coins))
    (h4 : Below w.heap.size w W) (h5 : g + 4 ≤ W.heap.size) (hgle : w.heap.size ≤ g) (_hin : i < n) (hS : gRun n x (pre ++ [y]) = (coins.set i mn, left - mn * v)) :
    ownPostG D (BackKp w.heap.size (g + 1 + 1 + 1)) (fun pre W => ((Boxed W (g + 1) 22 (.slice (some ⟨g, 0, none⟩) n n) ∧ Boxed W (g + 1 + 1) 3 (.int .i64 (gRun n x pre).2)) ∧ W.ownsRow w.heap.size 3 1 (.slice (some ⟨g, 0, none⟩) n n) n (ints (gRun n x pre).1)) ∧ Below w.heap.size w W ∧ g + 4 ≤ W.heap.size)
      (fun _ _ _ => False) (pre ++ [y]) W Exit.normal a ((W.setCell ⟨g, i, none⟩ (.int .i64 mn)).setCell ⟨g + 1 + 1, 0, none⟩ (.int .i64 (left - mn * v))).drew.drew := by
  have hgA : W.grownBy (W.setCell ⟨g, i, none⟩ (.int .i64 mn)) (some g) := grown_set (p := ⟨g, i, none⟩) (World.grownBy.refl W _) (.inr rfl) _
  have hb2 := ((h2.kept hgA (by simp; omega)).set (.int .i64 (left - mn * v)))
  have hb1 := (h1.kept hgA (by simp)).other (B' := g + 1 + 1) (by omega) (.int .i64 (left - mn * v))
  have hr3 := (own_int_set h3 i mn).kept (grownBy_setCell' _ (g + 1 + 1) (.int .i64 (left - mn * v))) (.inr (by simp [Value.ownBlock]; omega))
  have hB : ∀ X : World, Below w.heap.size X W → Below w.heap.size X ((W.setCell ⟨g, i, none⟩ (.int .i64 mn)).setCell ⟨g + 1 + 1, 0, none⟩ (.int .i64 (left - mn * v))).drew.drew :=
    fun X h => (((h.setCell (p := ⟨g, i, none⟩) hgle _).setCell (p := ⟨g + 1 + 1, 0, none⟩) (by simp; omega) _).drew).drew
  refine ⟨((((KeepsOthers.setCell _ _ _).trans (KeepsOthers.setCell _ _ _)).trans (KeepsOthers.drew _)).trans (KeepsOthers.drew _)).from _, ⟨hB W (Below.refl _ _), fun u hu => ?_⟩, ⟨⟨hb1, ?_⟩, ?_⟩, hB w h4, by simpa using h5⟩
  · show ((W.setCell ⟨g, i, none⟩ (.int .i64 mn)).setCell ⟨g + 1 + 1, 0, none⟩ (.int .i64 (left - mn * v))).cell? ⟨g + 1 + 1 + 1, 0, none⟩ = some u
    rw [World.cell?_setCell_other _ _ _ _ (by simp), World.cell?_setCell_other _ _ _ _ (by simp)]
    exact hu
  · rw [hS]; exact hb2
  · rw [hS]; exact hr3

set_option maxRecDepth 100000 in
set_option maxHeartbeats 2000000 in
theorem greedy_ok (A : Option Addr) (n c : Nat) (l : List Tub) (x : Int) (w : World) (hr : Rd w 3 A n (tubFlat l)) (hf : amtFault l x = 0) :
    Calls Try.prog 14 #[.slice A n c, .int .i64 x] w fun e w' => ∃ v, e = .returned (.tuple #[v, .int .i64 (gRun n x (backAll l)).2, .int .i64 0]) ∧
      w'.ownsRow w.heap.size 3 1 v n (ints (gRun n x (backAll l)).1) ∧ w.grownBy w' none := by
  have hl : l.length = n := by have := hr.1; rw [tubFlat_len] at this; omega
  have h0 : tubFault l = 0 := by
    by_cases h : tubFault l = 0
    · exact h
    · simp [amtFault, h] at hf
  have h2 : btw x 0 20000 = true := by
    by_cases h : btw x 0 20000 = true
    · exact h
    · simp [amtFault, h0, h] at hf
  obtain ⟨hlen, hright, _⟩ := right_of h0
  obtain ⟨hw0, hw1⟩ := btw_true.1 h2
  have hn10 : n ≤ 10 := by omega
  have hc := checkAmount_any A n c l x w hr
  rw [hf] at hc
  have HH := Lib.hid (And.intro hl hright)
  have HC := Lib.hid hc
  have hmk := fun w => run_make_row' (P := Try.prog) 22 3 (.int .i64 0) 8 Try.underlying22 Try.infoInt rfl .i64 .i64 n (by omega) (by omega) w
  clear hc hf h0 h2 hl hlen hright
  refine (callsIn_wide (n := 3)).1 ?_
  refine callsIn_of_wp_marks Try.func14 rfl trivial ?_ rfl
  simp only [Try.ntmps14, List.size_toArray, List.length_cons, List.length_nil, Nat.reduceAdd, Nat.reduceSub, Array.replicate_succ, Array.replicate_zero, List.push_toArray, List.append_toArray, List.nil_append, List.cons_append]
  refine wpIn_wide.2 ?_
  go_wp2_with fail
  refine HC.out.mono ?_
  rintro e w1 ⟨rfl, hg1⟩
  go_wp2_with fail
  refine (back_any _ _ _ _).mono ?_
  rintro e w' ⟨rfl, rfl⟩
  go_wp2_with fail
  have hgW : w.grownBy w1 none := hg1
  have hz1 := hg1.size
  obtain ⟨g, hgdef⟩ : ∃ g, g = w1.heap.size := ⟨_, rfl⟩
  rw [← hgdef]
  have hown0 : (w1.alloc (.cells (madeCells #[.int .i64 0] n) 3)).ownsRow w.heap.size 3 1 (.slice (some ⟨g, 0, none⟩) n n) n (ints (List.replicate n 0)) := by
    have h := World.ownsRow_lit (base := w.heap.size) (size := 1) (e := 3) w1 (madeCells #[.int .i64 0] n) n hg1.size (by unfold maxLen; omega) (by simp [size_madeCells])
    rw [toList_madeCells_one] at h
    rw [hgdef]
    simpa [ints] using h
  have bC := Boxed.new (w1.alloc (.cells (madeCells #[.int .i64 0] n) 3)) 22 (.slice (some ⟨g, 0, none⟩) n n)
  have bL := Boxed.new ((w1.alloc (.cells (madeCells #[.int .i64 0] n) 3)).alloc (.cells #[.slice (some ⟨g, 0, none⟩) n n] 22)) 3 (.int .i64 x)
  have bS := Boxed.new (((w1.alloc (.cells (madeCells #[.int .i64 0] n) 3)).alloc (.cells #[.slice (some ⟨g, 0, none⟩) n n] 22)).alloc (.cells #[.int .i64 x] 3)) 26 (.slice A n c)
  simp only [World.size_alloc] at bC bL bS
  rw [← hgdef] at bC bL bS
  have bC' := (bC.alloc (.cells #[.int .i64 x] 3)).alloc (.cells #[.slice A n c] 26)
  have bL' := bL.alloc (.cells #[.slice A n c] 26)
  have hown' := ((hown0.alloc (.cells #[.slice (some ⟨g, 0, none⟩) n n] 22)).alloc (.cells #[.int .i64 x] 3)).alloc (.cells #[.slice A n c] 26)
  have hgL : w.grownBy ((((w1.alloc (.cells (madeCells #[.int .i64 0] n) 3)).alloc (.cells #[.slice (some ⟨g, 0, none⟩) n n] 22)).alloc (.cells #[.int .i64 x] 3)).alloc (.cells #[.slice A n c] 26)) none :=
    grown_alloc (grown_alloc (grown_alloc (grown_alloc hg1 _) _) _) _
  have hsz : ((((w1.alloc (.cells (madeCells #[.int .i64 0] n) 3)).alloc (.cells #[.slice (some ⟨g, 0, none⟩) n n] 22)).alloc (.cells #[.int .i64 x] 3)).alloc (.cells #[.slice A n c] 26)).heap.size = g + 4 := by simp; omega
  generalize (((w1.alloc (.cells (madeCells #[.int .i64 0] n) 3)).alloc (.cells #[.slice (some ⟨g, 0, none⟩) n n] 22)).alloc (.cells #[.int .i64 x] 3)).alloc (.cells #[.slice A n c] 26) = WL at *
  have hBL : Below w.heap.size w WL := (Below.refl _ _).grown hgL (Nat.le_refl _) (fun k hk => by cases hk)
  have HG := Lib.hid hgdef
  have hgle : w.heap.size ≤ g := by omega
  clear hmk bC bL hown0 hgdef
  refine (wpIn_wide (n := 3)).1 ?_
  refine wpIn_rangeFunc_ownH rfl (by omega) (gf := 70) (lb := #[.pointer (some ⟨g + 1 + 1 + 1, 0, none⟩)]) rfl trivial (enters_of Try.func70 (by kernel_rfl) rfl)
    (back_stops 2 (g + 1 + 1 + 1) n c A l w WL HH.out.1 hr (by omega) hBL bS.cell (by omega) (by omega)) BackKp.trans (BackKp.put (by omega)) (Below.refl _ _) (fun _ => rfl)
    (fun pre W => ((Boxed W (g + 1) 22 (.slice (some ⟨g, 0, none⟩) n n) ∧ Boxed W (g + 1 + 1) 3 (.int .i64 (gRun n x pre).2)) ∧ W.ownsRow w.heap.size 3 1 (.slice (some ⟨g, 0, none⟩) n n) n (ints (gRun n x pre).1)) ∧ Below w.heap.size w W ∧ g + 4 ≤ W.heap.size)
    (fun _ _ _ => False)
    (OwnFrom.and (OwnFrom.and (OwnFrom.and (Own.from (boxed_own _ _ _) _) (Own.from (boxed_own _ _ _) _)) (Own.from (own_row_own _ _ _ _ _ _) _)) (OwnFrom.and (ownFrom_below (Nat.le_refl _) (by omega)) (fun _ _ _ _ hs hg' _ => Nat.le_trans hs hg'.size)))
    (fun _ _ _ _ _ hs _ _ => hs)
    ⟨⟨⟨bC', bL'⟩, hown'⟩, hBL, by omega⟩
    (fun y a' W => ∃ Bx, g + 4 ≤ Bx ∧ (W.heap[Bx]? = some (.cells #[.int .i64 y.1.2.v, .int .i64 y.1.2.c, .int .i64 y.1.2.m] 70 (0, 0))) ∧
      a' = { tmps := grTmps A n c x g Bx y.1, defers := [] })
    ?hAx ?assign ?body ?done ?stop
  case hAx =>
    rintro y a' _ X Y row ⟨Bx, h1, h2, h3⟩ hg' hr
    exact ⟨Bx, h1, (hg'.block Bx (Array.getElem?_eq_some_iff.1 h2).1 (fun e => by obtain ⟨_, o, ho, hc⟩ := hr Bx e.symm; rw [h2] at ho; cases ho; cases hc)).trans h2, h3⟩
  case assign =>
    rintro lp pre y W K hi hK
    simp only [backArgs]
    gi_wp2
    obtain ⟨⟨⟨h1, h2⟩, h3⟩, h4, h5⟩ := hi
    have hlt := h2.lt
    refine hK _ _ ((KeepsOthers.alloc _ _).from _) ⟨(Below.refl _ W).alloc (by omega) _, fun v hv => (World.cell?_alloc_lt _ _ _ (World.block_lt_of_cell? W _ hv)).trans hv⟩ ⟨⟨⟨h1.alloc _, h2.alloc _⟩, h3.alloc _⟩, h4.alloc (by have := h4.size; omega) _, by simp; omega⟩ ⟨W.heap.size, h5, heap_alloc_new W _, rfl⟩
  case body =>
    rintro lp pre y a' W hl ⟨r, hr'⟩ ⟨⟨⟨h1, h2⟩, h3⟩, h4, h5⟩ ⟨Bx, hBx, bX, rfl⟩ hlt
    simp only [grTmps]
    have c8 := h1.cell
    have c9 := h2.cell
    have f9 := h2.frozen
    have x0 : W.cell? ⟨Bx, 0, none⟩ = some (.int .i64 y.1.2.v) := by simp [World.cell?, bX]
    have x1 : W.cell? ⟨Bx, 1, none⟩ = some (.int .i64 y.1.2.c) := by simp [World.cell?, bX]
    obtain ⟨⟨i, t⟩, hy⟩ := y
    have hin : i < n := by have := (List.getElem?_eq_some_iff.1 hy).1; have := HH.out.1; simpa using (by omega : i < n)
    obtain ⟨r1, r2, r3, r4, r5⟩ := HH.out.2 t (List.mem_of_getElem? hy)
    have hcg := own_int h3 hin
    have hfg := h3.frozenAt i
    have hrun := gRun_rng n x hw0 HH.out.2 pre
    have hq0 : 0 ≤ (gRun n x pre).2 / t.v := Int.ediv_nonneg hrun.1 (by omega)
    have hq1 : (gRun n x pre).2 / t.v ≤ (gRun n x pre).2 := Int.ediv_le_self _ hrun.1
    have hsn := gRun_snoc n x pre ⟨(i, t), hy⟩
    simp only [gStep] at hsn
    generalize (gRun n x pre).2 = left at *
    generalize (gRun n x pre).1 = coins at *
    have hv0 : ¬ t.v = 0 := by omega
    have w1 : IntKind.i64.wrap (left.tdiv t.v) = left / t.v := by
      rw [Int.tdiv_eq_ediv_of_nonneg hrun.1]; exact IntWalk.i64_in _ (by omega)
    have hmul : left / t.v * t.v ≤ left := Int.ediv_mul_le left (by omega)
    simp only at *
    generalize left / t.v = q at *
    have hi' : (i : Int) < (n : Int) := by omega
    have hiB : g ≠ Bx := by omega
    obtain ⟨mn, hmn⟩ : ∃ mn, min t.c q = mn := ⟨_, rfl⟩
    rw [hmn] at hsn
    have hm0 : 0 ≤ mn := by omega
    have hm1 : mn * t.v ≤ left := by
      have : mn * t.v ≤ q * t.v := Int.mul_le_mul_of_nonneg_right (by omega) (by omega)
      omega
    have hm2 : 0 ≤ mn * t.v := Int.mul_nonneg hm0 (by omega)
    have HS := Lib.hid hsn
    clear hsn
    by_cases hmc : t.c ≤ q
    case' pos => obtain rfl : mn = t.c := by omega
    case' neg => obtain rfl : mn = q := by omega
    all_goals
      clear hmn
      gi_wp2
      refine round_tail 10 (by kernel_rfl) (by kernel_rfl) (by kernel_rfl) ?_
      simp only [List.take_succ_cons, List.take_zero, List.drop_succ_cons, List.drop_zero]
      repeat still_step
      refine wpStill_nil ?_
      go_wp2_with fail
      simp only [Nrm]
      gi_wp2
      refine round_tail 9 (by kernel_rfl) (by kernel_rfl) (by kernel_rfl) ?_
      simp only [List.take_succ_cons, List.take_zero, List.drop_succ_cons, List.drop_zero]
      repeat still_step
      refine wpStill_nil ?_
      go_wp2_with fail
      simp only [Nrm]
      gi_wp2
      refine greedy_round h1 h2 h3 h4 h5 hgle hin HS.out
  case done =>
    rintro D ys W hD rfl ⟨⟨⟨h1, h2⟩, h3⟩, h4, h5⟩ hK
    have c8 := h1.cell
    have c9 := h2.cell
    go_wp2_with fail
    go_quiet (fail)
    go_wp2_with fail
    refine ⟨by simp, .inl ⟨_, _, rfl, run_takeDeferred hK, ?_⟩⟩
    refine ⟨_, results_tmp3 rfl _ _ _, _, rfl, ownsRow_putObj (W := W.drewN nq) h3 _ hK rfl, below_grown ?_⟩
    exact (show Below w.heap.size w (W.drewN nq) from ⟨h4.os, h4.tape, h4.output, h4.size, h4.block⟩).trans (belowK_b (w := w) (Nat.le_refl _) _ D _ _ (by omega) hK rfl rfl)
  case stop =>
    rintro D c pre W _ _ h _
    exact h.elim

end Go.Proofs.Ytoaeflegcfecaaa
