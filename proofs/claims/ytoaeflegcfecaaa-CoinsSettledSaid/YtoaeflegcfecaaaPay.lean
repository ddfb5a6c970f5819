/- The walk of pay. -/
import Derived.Test.YtoaeflegcfecaaaPayM
namespace Go.Proofs.Ytoaeflegcfecaaa
open Go.RowKit Go.Shelf

attribute [local go_sem] Oper.semAt_some

set_option maxHeartbeats 400000 in
theorem pay_none (A : Option Addr) (n c : Nat) (l : List Tub) (a : Nat) (w : World) (hr : Rd w 3 A n (tubFlat l)) (hf : tubFault l = 0) (hm : a ≤ 20000) (hp : paysB l a = false) :
    Calls Try.prog 50 #[.slice A n c, .int .i64 a] w fun e w' => e = .returned (.tuple #[.slice none 0 0, .bool false]) ∧ w.grownBy w' none := by
  have hl : l.length = n := by have := hr.1; rw [tubFlat_len] at this; omega
  have hfw := fewest_any A n c l a w hr hf hm
  have HF := Lib.hid hfw
  have hrow : rowF l n a = 20001 := by rw [← hl]; simpa [paysB] using hp
  have HR := Lib.hid hrow
  clear hfw hf hl hp hrow
  refine (callsIn_wide (n := 3)).1 ?_
  refine callsIn_of_wp_marks Try.func50 rfl trivial ?_ rfl
  simp only [Try.ntmps50, List.size_toArray, List.length_cons, List.length_nil, Nat.reduceAdd, Nat.reduceSub, Array.replicate_succ, Array.replicate_zero, List.push_toArray, List.append_toArray, List.nil_append, List.cons_append]
  refine wpIn_wide.2 ?_
  go_wp2_with fail
  refine HF.out.mono ?_
  rintro e w1 ⟨v, vals, rfl, hown, hok, hg1⟩
  obtain ⟨gr, capr, rfl, hgr1, hgr2⟩ := hown.form (by omega)
  obtain ⟨gi, ci, hvi, hoi⟩ := hok.2 n (by omega)
  have cR := hown.cellAt n (by omega)
  rw [hvi] at cR
  have cI := own_int hoi (j := a) (by omega)
  rw [fl_getD _ (by omega), HR.out] at cI
  have hHV := Lib.hid hvi
  obtain ⟨hgi1, hgi2⟩ := hoi.lt gi rfl
  clear hvi hown hok hoi
  have hnn : (n : Int) < (n : Int) + 1 := by omega
  have haa : (a : Int) < (a : Int) + 1 := by omega
  go_wp2_with fail
  exact ⟨_, results_tmp2 rfl _ _ _, rfl, grown_alloc hg1 _⟩

theorem row_cells {w2 W : World} {base N m n0 gr capr : Nat} {l : List Tub} {vals : List Value} (hok : RowsOk w2 base l N m vals) (hrow : w2.ownsRow base 22 1 (.slice (some ⟨gr, 0, none⟩) m capr) m vals)
    (hB : Below n0 w2 W) (hn : w2.heap.size ≤ n0) {i : Nat} (hi : i < m) :
    ∃ g c, W.cell? ⟨gr, i, none⟩ = some (.slice (some ⟨g, 0, none⟩) N c) ∧ ∀ b, b < N → W.cell? ⟨g, b, none⟩ = some (.int .i64 (rowF l i b)) := by
  obtain ⟨g, c, hv, ho⟩ := hok.2 i hi
  have cR := hrow.cellAt i (by omega)
  rw [hv] at cR
  have l1 := (hrow.lt gr rfl).2
  refine ⟨g, c, (hB.cell (p := ⟨gr, i, none⟩) (by simp; omega)).trans cR, fun b hb => ?_⟩
  have l2 := (ho.lt g rfl).2
  have cI := own_int ho hb
  rw [fl_getD _ hb] at cI
  exact (hB.cell (p := ⟨g, b, none⟩) (by simp; omega)).trans cI

/-- What a round of pay leaves. -/
theorem pay_round {w2 W : World} {g0 n i a D m k u left : Nat} {l : List Tub} {coins : List Int} {pre : List (BackAt l)} {y : BackAt l} {act : Act}
    (h1 : Boxed W (g0 + 1 + 1) 22 (.slice (some ⟨g0 + 1, 0, none⟩) n n)) (h2 : Boxed W (g0 + 1 + 1 + 1) 3 (.int .i64 (left : Nat))) (h3 : W.ownsRow (g0 + 1) 3 1 (.slice (some ⟨g0 + 1, 0, none⟩) n n) n (ints coins))
    (h4 : Below (g0 + 1) w2 W) (h5 : g0 + 5 ≤ W.heap.size) (hS : payRun n a (pre ++ [y]) = (coins.set i (k : Int), u)) :
    ownPostG D (BackKp (g0 + 1) (g0 + 1 + 1 + 1 + 1)) (fun pre W => ((Boxed W (g0 + 1 + 1) 22 (.slice (some ⟨g0 + 1, 0, none⟩) n n) ∧ Boxed W (g0 + 1 + 1 + 1) 3 (.int .i64 ((payRun n a pre).2 : Nat))) ∧ W.ownsRow (g0 + 1) 3 1 (.slice (some ⟨g0 + 1, 0, none⟩) n n) n (ints (payRun n a pre).1)) ∧ Below (g0 + 1) w2 W ∧ g0 + 5 ≤ W.heap.size)
      (fun _ _ _ => False) (pre ++ [y]) W Exit.normal act (((W.drewN m).setCell ⟨g0 + 1, i, none⟩ (.int .i64 k)).setCell ⟨g0 + 1 + 1 + 1, 0, none⟩ (.int .i64 u)) := by
  have hgA : (W.drewN m).grownBy ((W.drewN m).setCell ⟨g0 + 1, i, none⟩ (.int .i64 k)) (some (g0 + 1)) := grown_set (p := ⟨g0 + 1, i, none⟩) (World.grownBy.refl _ _) (.inr rfl) _
  have h1' : Boxed (W.drewN m) (g0 + 1 + 1) 22 (.slice (some ⟨g0 + 1, 0, none⟩) n n) := h1
  have h2' : Boxed (W.drewN m) (g0 + 1 + 1 + 1) 3 (.int .i64 (left : Nat)) := h2
  have h3' : (W.drewN m).ownsRow (g0 + 1) 3 1 (.slice (some ⟨g0 + 1, 0, none⟩) n n) n (ints coins) := h3
  have h4' : ∀ X : World, Below (g0 + 1) X W → Below (g0 + 1) X (W.drewN m) := fun X h => ⟨h.os, h.tape, h.output, h.size, h.block⟩
  have hb2 := ((h2'.kept hgA (by simp; omega)).set (.int .i64 (u : Nat)))
  have hb1 := (h1'.kept hgA (by simp)).other (B' := g0 + 1 + 1 + 1) (by omega) (.int .i64 (u : Nat))
  have hr3 := (own_int_set h3' i k).kept (grownBy_setCell' _ (g0 + 1 + 1 + 1) (.int .i64 (u : Nat))) (.inr (by simp [Value.ownBlock]))
  have hB : ∀ X : World, Below (g0 + 1) X W → Below (g0 + 1) X (((W.drewN m).setCell ⟨g0 + 1, i, none⟩ (.int .i64 k)).setCell ⟨g0 + 1 + 1 + 1, 0, none⟩ (.int .i64 u)) :=
    fun X h => ((h4' X h).setCell (p := ⟨g0 + 1, i, none⟩) (by simp) _).setCell (p := ⟨g0 + 1 + 1 + 1, 0, none⟩) (by simp) _
  have hKO : KeepsOthers W (W.drewN m) := by
    have h := KeepsOthers.refl W
    exact ⟨h.1, h.2⟩
  refine ⟨((hKO.trans (KeepsOthers.setCell _ _ _)).trans (KeepsOthers.setCell _ _ _)).from _, ⟨hB W (Below.refl _ _), fun v hv => ?_⟩, ⟨⟨hb1, ?_⟩, ?_⟩, hB w2 h4, by simpa using h5⟩
  · rw [World.cell?_setCell_other _ _ _ _ (by simp), World.cell?_setCell_other _ _ _ _ (by simp)]
    exact hv
  · rw [hS]; exact hb2
  · rw [hS]; exact hr3

/-- The frame in a round of pay. -/
def payTmps (A : Option Addr) (n c a gr capr gi ci g0 Bx : Nat) (x : Int) (y : Nat × Tub) : Array Value :=
  #[.slice A n c, .int .i64 a, undef, undef, .slice none 0 0, .bool false, .pointer (some ⟨g0, 0, none⟩), .pointer (some ⟨g0 + 1 + 1, 0, none⟩), .pointer (some ⟨g0 + 1 + 1 + 1, 0, none⟩), .int .i64 (y.1 : Int), .pointer (some ⟨Bx, 0, none⟩), undef,
    .slice A n c, .int .i64 a, .slice (some ⟨gr, 0, none⟩) (n + 1) capr, .slice (some ⟨gr, 0, none⟩) (n + 1) capr, .slice A n c, .int .i64 n, .pointer (some ⟨gr, n, none⟩), .slice (some ⟨gi, 0, none⟩) (a + 1) ci, .int .i64 a, .pointer (some ⟨gi, a, none⟩), .int .i64 x, .bool false,
    .slice A n c, .int .i64 n, .slice (some ⟨g0 + 1, 0, none⟩) n n, .int .i64 a, .slice A n c, .func (.func 70) #[] #[.pointer (some ⟨g0 + 1 + 1 + 1 + 1, 0, none⟩)],
    .int .i64 (y.1 : Int), .agg #[.int .i64 y.2.v, .int .i64 y.2.c, .int .i64 y.2.m],
    undef, undef, undef, undef, undef, undef, undef, undef, undef, undef, undef, undef, undef, undef, undef, undef, undef, undef, undef, undef, undef, undef, undef, undef, undef, undef, undef, undef, undef, undef, undef, undef, undef, undef, undef, undef, undef, undef, undef, undef, undef, undef, undef]

set_option maxRecDepth 100000 in
set_option maxHeartbeats 2000000 in
theorem pay_some (A : Option Addr) (n c : Nat) (l : List Tub) (a : Nat) (w : World) (hr : Rd w 3 A n (tubFlat l)) (hf : tubFault l = 0) (hm : a ≤ 20000) (hp : paysB l a = true) :
    Calls Try.prog 50 #[.slice A n c, .int .i64 a] w fun e w' => ∃ v, e = .returned (.tuple #[v, .bool true]) ∧
      w'.ownsRow w.heap.size 3 1 v n (ints (payRun n a (backAll l)).1) ∧ w.grownBy w' none := by
  have hl : l.length = n := by have := hr.1; rw [tubFlat_len] at this; omega
  obtain ⟨hlen, hright, _⟩ := right_of hf
  have hn10 : n ≤ 10 := by omega
  have hfw := fewest_any A n c l a w hr hf hm
  have HF := Lib.hid hfw
  have hrow : rowF l n a ≠ 20001 := by rw [← hl]; simpa [paysB] using hp
  have HH := Lib.hid (And.intro hl hright)
  have hmk := fun w => run_make_row' (P := Try.prog) 22 3 (.int .i64 0) 8 Try.underlying22 Try.infoInt rfl .i64 .i64 n (by omega) (by omega) w
  clear hfw hf hl hp hlen hright
  refine (callsIn_wide (n := 3)).1 ?_
  refine callsIn_of_wp_marks Try.func50 rfl trivial ?_ rfl
  simp only [Try.ntmps50, List.size_toArray, List.length_cons, List.length_nil, Nat.reduceAdd, Nat.reduceSub, Array.replicate_succ, Array.replicate_zero, List.push_toArray, List.append_toArray, List.nil_append, List.cons_append]
  refine wpIn_wide.2 ?_
  go_wp2_with fail
  refine HF.out.mono ?_
  rintro e w1 ⟨v, vals, rfl, hown, hok, hg1⟩
  obtain ⟨gr, capr, rfl, hgr1, hgr2⟩ := hown.form (by omega)
  obtain ⟨gi, ci, hvi, hoi⟩ := hok.2 n (by omega)
  have cR := hown.cellAt n (by omega)
  rw [hvi] at cR
  have cI := own_int hoi (j := a) (by omega)
  rw [fl_getD _ (by omega)] at cI
  obtain ⟨x, hx⟩ : ∃ x, rowF l n a = x := ⟨_, rfl⟩
  rw [hx] at cI hrow
  obtain ⟨hgi1, hgi2⟩ := hoi.lt gi rfl
  have HV := Lib.hid (And.intro hvi (And.intro hx (And.intro hown hok)))
  clear hvi hx hown hok hoi
  have hnn : (n : Int) < (n : Int) + 1 := by omega
  have haa : (a : Int) < (a : Int) + 1 := by omega
  go_wp2_with fail
  refine (back_any _ _ _ _).mono ?_
  rintro e w' ⟨rfl, rfl⟩
  go_wp2_with fail
  have hz1 := hg1.size
  obtain ⟨w2, hw2⟩ : ∃ w2, w2 = w1.alloc (.cells #[.slice (some ⟨gr, 0, none⟩) (n + 1) capr] 89) := ⟨_, rfl⟩
  have hgw2 : w.grownBy w2 none := by rw [hw2]; exact grown_alloc hg1 _
  have hsz2 : w2.heap.size = w1.heap.size + 1 := by rw [hw2]; simp
  have hok2 : RowsOk w2 w.heap.size l (a + 1) (n + 1) vals ∧ w2.ownsRow w.heap.size 22 1 (.slice (some ⟨gr, 0, none⟩) (n + 1) capr) (n + 1) vals := by
    rw [hw2]; exact ⟨HV.out.2.2.2.kept (grown_alloc (grown_refl _) _), HV.out.2.2.1.alloc _⟩
  have hbox2 : w2.cell? ⟨w1.heap.size, 0, none⟩ = some (.slice (some ⟨gr, 0, none⟩) (n + 1) capr) := by rw [hw2, World.cell?_alloc_new]; rfl
  rw [← hw2]
  have hr2 := hr.grown hgw2
  generalize w1.heap.size = g0 at *
  have hown0 : (w2.alloc (.cells (madeCells #[.int .i64 0] n) 3)).ownsRow (g0 + 1) 3 1 (.slice (some ⟨g0 + 1, 0, none⟩) n n) n (ints (List.replicate n 0)) := by
    have h := World.ownsRow_lit (base := g0 + 1) (size := 1) (e := 3) w2 (madeCells #[.int .i64 0] n) n (by omega) (by unfold maxLen; omega) (by simp [size_madeCells])
    rw [toList_madeCells_one, hsz2] at h
    simpa [ints] using h
  have bC := Boxed.new (w2.alloc (.cells (madeCells #[.int .i64 0] n) 3)) 22 (.slice (some ⟨g0 + 1, 0, none⟩) n n)
  have bL := Boxed.new ((w2.alloc (.cells (madeCells #[.int .i64 0] n) 3)).alloc (.cells #[.slice (some ⟨g0 + 1, 0, none⟩) n n] 22)) 3 (.int .i64 a)
  have bS := Boxed.new (((w2.alloc (.cells (madeCells #[.int .i64 0] n) 3)).alloc (.cells #[.slice (some ⟨g0 + 1, 0, none⟩) n n] 22)).alloc (.cells #[.int .i64 a] 3)) 26 (.slice A n c)
  simp only [World.size_alloc] at bC bL bS
  rw [hsz2] at bC bL bS
  have bC' := (bC.alloc (.cells #[.int .i64 a] 3)).alloc (.cells #[.slice A n c] 26)
  have bL' := bL.alloc (.cells #[.slice A n c] 26)
  have hown' := ((hown0.alloc (.cells #[.slice (some ⟨g0 + 1, 0, none⟩) n n] 22)).alloc (.cells #[.int .i64 a] 3)).alloc (.cells #[.slice A n c] 26)
  have hgL : w2.grownBy ((((w2.alloc (.cells (madeCells #[.int .i64 0] n) 3)).alloc (.cells #[.slice (some ⟨g0 + 1, 0, none⟩) n n] 22)).alloc (.cells #[.int .i64 a] 3)).alloc (.cells #[.slice A n c] 26)) none :=
    grown_alloc (grown_alloc (grown_alloc (grown_alloc (grown_refl w2) _) _) _) _
  have hsz : ((((w2.alloc (.cells (madeCells #[.int .i64 0] n) 3)).alloc (.cells #[.slice (some ⟨g0 + 1, 0, none⟩) n n] 22)).alloc (.cells #[.int .i64 a] 3)).alloc (.cells #[.slice A n c] 26)).heap.size = g0 + 5 := by simp; omega
  generalize (((w2.alloc (.cells (madeCells #[.int .i64 0] n) 3)).alloc (.cells #[.slice (some ⟨g0 + 1, 0, none⟩) n n] 22)).alloc (.cells #[.int .i64 a] 3)).alloc (.cells #[.slice A n c] 26) = WL at *
  have hBL : Below w2.heap.size w2 WL := (Below.refl _ _).grown hgL (Nat.le_refl _) (fun k hk => by cases hk)
  have hKp := back_stops 2 (g0 + 1 + 1 + 1 + 1) n c A l w2 WL HH.out.1 hr2 (by omega) hBL bS.cell (by omega) (by omega)
  rw [hsz2] at hBL hKp
  have HZ := Lib.hid (And.intro hw2 (And.intro hsz2 hok2))
  have hs2a : w2.heap.size ≤ g0 + 1 := by omega
  have hs2b : g0 + 1 ≤ w2.heap.size := by omega
  clear hmk bC bL hown0 hw2 hsz2 hok2 HV
  refine (wpIn_wide (n := 3)).1 ?_
  refine wpIn_rangeFunc_ownH rfl (by omega) (gf := 70) (lb := #[.pointer (some ⟨g0 + 1 + 1 + 1 + 1, 0, none⟩)]) rfl trivial (enters_of Try.func70 (by kernel_rfl) rfl)
    hKp BackKp.trans (BackKp.put (by omega)) (Below.refl _ _) (fun _ => rfl)
    (fun pre W => ((Boxed W (g0 + 1 + 1) 22 (.slice (some ⟨g0 + 1, 0, none⟩) n n) ∧ Boxed W (g0 + 1 + 1 + 1) 3 (.int .i64 ((payRun n a pre).2 : Nat))) ∧ W.ownsRow (g0 + 1) 3 1 (.slice (some ⟨g0 + 1, 0, none⟩) n n) n (ints (payRun n a pre).1)) ∧ Below (g0 + 1) w2 W ∧ g0 + 5 ≤ W.heap.size)
    (fun _ _ _ => False)
    (OwnFrom.and (OwnFrom.and (OwnFrom.and (Own.from (boxed_own _ _ _) _) (Own.from (boxed_own _ _ _) _)) (Own.from (own_row_own _ _ _ _ _ _) _)) (OwnFrom.and (ownFrom_below (by omega) (by omega)) (fun _ _ _ _ hs hg' _ => Nat.le_trans hs hg'.size)))
    (fun _ _ _ _ _ hs _ _ => hs)
    ⟨⟨⟨bC', bL'⟩, hown'⟩, hBL, by omega⟩
    (fun y a' W => ∃ Bx, g0 + 5 ≤ Bx ∧ (W.heap[Bx]? = some (.cells #[.int .i64 y.1.2.v, .int .i64 y.1.2.c, .int .i64 y.1.2.m] 70 (0, 0))) ∧
      a' = { tmps := payTmps A n c a gr capr gi ci g0 Bx x y.1, defers := [] })
    ?hAx ?assign ?body ?done ?stop
  case hAx =>
    rintro y a' _ X Y row ⟨Bx, h1, h2, h3⟩ hg' hr
    exact ⟨Bx, h1, (hg'.block Bx (Array.getElem?_eq_some_iff.1 h2).1 (fun e => by obtain ⟨_, o, ho, hc⟩ := hr Bx e.symm; rw [h2] at ho; cases ho; cases hc)).trans h2, h3⟩
  case assign =>
    rintro lp pre y W K hi hK
    simp only [backArgs]
    gi_wp2
    obtain ⟨⟨⟨h1, h2⟩, h3⟩, h4, h5⟩ := hi
    have hlt := h2.lt
    refine hK _ _ ((KeepsOthers.alloc _ _).from _) ⟨(Below.refl _ W).alloc (by omega) _, fun v hv => (World.cell?_alloc_lt _ _ _ (World.block_lt_of_cell? W _ hv)).trans hv⟩ ⟨⟨⟨h1.alloc _, h2.alloc _⟩, h3.alloc _⟩, h4.alloc (by have := h4.size; omega) _, by simp; omega⟩ ⟨W.heap.size, h5, heap_alloc_new W _, rfl⟩
  case body =>
    rintro lp pre y a' W hl ⟨r, hr'⟩ ⟨⟨⟨h1, h2⟩, h3⟩, h4, h5⟩ ⟨Bx, hBx, bX, rfl⟩ hlt
    simp only [payTmps]
    have c7 := h1.cell
    have c8 := h2.cell
    have f8 := h2.frozen
    have c6 : W.cell? ⟨g0, 0, none⟩ = some (.slice (some ⟨gr, 0, none⟩) (n + 1) capr) := (h4.cell (p := ⟨g0, 0, none⟩) (by simp)).trans hbox2
    obtain ⟨⟨i, t⟩, hy⟩ := y
    have hin : i < n := by have := (List.getElem?_eq_some_iff.1 hy).1; have := HH.out.1; simpa using (by omega : i < n)
    obtain ⟨r1, r2, r3, r4, r5⟩ := HH.out.2 t (List.mem_of_getElem? hy)
    have hcg := own_int h3 hin
    have hfg := h3.frozenAt i
    have hiB : g0 + 1 ≠ Bx := by omega
    have hiB2 : g0 + 1 + 1 + 1 ≠ Bx := by omega
    have hrun := payRun_rng n a pre
    have hsn := payRun_snoc n a pre ⟨(i, t), hy⟩
    simp only [payStep] at hsn
    generalize (payRun n a pre).2 = left at *
    generalize (payRun n a pre).1 = coins at *
    obtain ⟨tv, htv⟩ := Int.eq_ofNat_of_zero_le (show 0 ≤ t.v by omega)
    obtain ⟨tc, htc⟩ := Int.eq_ofNat_of_zero_le r3
    have hK := payK_fit (l := l) hy r1 left
    have hKd : payK l (i, t) left = kDown (fitB l i left tv) (min tc (left / tv)) := by unfold payK; simp [htv, htc]
    rw [htv, htc, Int.toNat_natCast, Int.toNat_natCast] at hK
    rw [hKd, htv, Int.toNat_natCast] at hsn
    have htv1 : 1 ≤ tv := by omega
    have htv2 : tv ≤ 10000 := by omega
    have htc2 : tc ≤ 1000 := by omega
    simp only [htv, htc] at bX
    have x0 : W.cell? ⟨Bx, 0, none⟩ = some (.int .i64 tv) := by simp [World.cell?, bX]
    have x1 : W.cell? ⟨Bx, 1, none⟩ = some (.int .i64 tc) := by simp [World.cell?, bX]
    simp only [htv, htc]
    clear hKd htv htc
    obtain ⟨q, hq⟩ : ∃ q, q = left / tv := ⟨_, rfl⟩
    have hqm : q * tv ≤ left := by rw [hq]; exact Nat.div_mul_le_self left tv
    have hq1 : q ≤ left := by rw [hq]; exact Nat.div_le_self _ _
    have wq1 : (left : Int) / (tv : Int) = (q : Int) := by rw [hq, Int.natCast_ediv]
    have wq2 : (left : Int).tdiv (tv : Int) = (q : Int) := by rw [Int.tdiv_eq_ediv_of_nonneg (by omega), wq1]
    have wq : IntKind.i64.wrap (q : Int) = (q : Int) := IntWalk.i64_in _ (by omega)
    have hv0 : ¬ (tv : Int) = 0 := by omega
    have hv1 : ¬ tv = 0 := by omega
    have wq3 : IntKind.i64.wrap ((left : Int).tdiv (tv : Int)) = (q : Int) := by rw [wq2]; exact wq
    rw [← hq] at hK hsn
    have HQ := Lib.hid (And.intro hq hqm)
    have HS := Lib.hid hsn
    have HKK := Lib.hid hK
    clear hq hqm hsn hK
    obtain ⟨top, htop⟩ : ∃ top, top = min tc q := ⟨_, rfl⟩
    have HTP := Lib.hid htop
    by_cases hmc : tc ≤ q
    case' pos =>
      have hmc' : (tc : Int) ≤ (q : Int) := by omega
      have hte : top = tc := by omega
    case' neg =>
      have hmc' : ¬ (tc : Int) ≤ (q : Int) := by omega
      have hte : top = q := by omega
    all_goals
      have HTE := Lib.hid hte
      clear htop hte
      gi_wp2
      refine round_tail 6 (by kernel_rfl) (by kernel_rfl) (by kernel_rfl) ?_
      simp only [List.take_succ_cons, List.take_zero, List.drop_succ_cons, List.drop_zero]
      repeat still_step
      refine wpStill_nil ?_
      go_wp2_with fail
      simp only [Nrm]
      rw [← HTE.out]
      gi_wp2
      gi_loopw [11] (fun kv wr => ∃ k m : Nat, kv = .int .i64 k ∧ k ≤ top ∧ kDown (fitB l i left tv) top = kDown (fitB l i left tv) k ∧ wr = W.drewN m) (fun kv _ => (intOf kv).toNat)
      case atStart => exact ⟨top, 1, rfl, Nat.le_refl _, rfl, rfl⟩
      case round =>
        obtain ⟨k, m, rfl, hkt, hkd, rfl⟩ := hrel
        obtain ⟨g1, e1, d1, z1⟩ := row_cells HZ.out.2.2.1 HZ.out.2.2.2 h4 hs2a (show i < n + 1 by omega)
        obtain ⟨g2, e2, d2, z2⟩ := row_cells HZ.out.2.2.1 HZ.out.2.2.2 h4 hs2a (show i + 1 < n + 1 by omega)
        have hkq : k ≤ q := by have := HTE.out; omega
        have hkv : k * tv ≤ q * tv := Nat.mul_le_mul hkq (Nat.le_refl _)
        have hkl : k * tv ≤ left := by have := HQ.out.2; omega
        have y1 := z1 (left - k * tv) (by omega)
        have y2 := z2 left (by omega)
        have hb1 := rowF_bound l i (left - k * tv)
        have hfit : fitB l i left tv k = decide (rowF l i (left - k * tv) + (k : Int) = rowF l (i + 1) left) := rfl
        obtain ⟨v1, hv1'⟩ : ∃ v1, rowF l i (left - k * tv) = v1 := ⟨_, rfl⟩
        obtain ⟨v2, hv2'⟩ : ∃ v2, rowF l (i + 1) left = v2 := ⟨_, rfl⟩
        rw [hv1'] at y1 hb1 hfit
        rw [hv2'] at y2 hfit
        clear z1 z2 hv1' hv2'
        obtain ⟨p, hp⟩ : ∃ p, p = k * tv := ⟨_, rfl⟩
        obtain ⟨u, hu⟩ : ∃ u, u = left - p := ⟨_, rfl⟩
        rw [← hp, ← hu] at y1
        rw [← hp] at hkl
        have wkt : IntKind.i64.wrap ((k : Int) * (tv : Int)) = (p : Int) := by
          rw [← Int.natCast_mul, ← hp]; exact IntWalk.i64_in _ (by omega)
        have wsub : IntKind.i64.wrap ((left : Int) - (p : Int)) = (u : Int) := by
          rw [IntWalk.i64_in _ (by omega)]; omega
        have wadd : IntKind.i64.wrap (v1 + (k : Int)) = v1 + (k : Int) := IntWalk.i64_in _ (by omega)
        obtain ⟨i1, hi1⟩ : ∃ i1, i1 = i + 1 := ⟨_, rfl⟩
        have wi : IntKind.i64.wrap ((i : Int) + 1) = (i1 : Int) := by rw [IntWalk.i64_in _ (by omega)]; omega
        rw [← hi1] at d2
        have b1 : (u : Int) < (a : Int) + 1 := by omega
        have b2 : (left : Int) < (a : Int) + 1 := by omega
        have b3 : (i : Int) < (n : Int) + 1 := by omega
        have b4 : (i1 : Int) < (n : Int) + 1 := by omega
        have b5 : (i : Int) < (n : Int) := by omega
        have HP := Lib.hid (And.intro hp (And.intro hu (And.intro hkd (And.intro hfit (And.intro hkv hkl)))))
        clear hp hu hkd hfit hkv hkl hi1
        by_cases hne : v1 + (k : Int) = v2
        · have hdec : (v1 + (k : Int) != v2) = false := by simp [hne]
          gi_wp2
          refine round_tail 22 (by kernel_rfl) (by kernel_rfl) (by kernel_rfl) ?_
          simp only [List.take_succ_cons, List.take_zero, List.drop_succ_cons, List.drop_zero]
          repeat still_step
          refine wpStill_nil ?_
          go_wp2_with fail
          simp only [Nrm]
          gi_wp2
          obtain ⟨hp, hu, hkd, hfit, hkv, hkl⟩ := HP.out
          have hkk : kDown (fitB l i left tv) k = k := kDown_pos (by rw [hfit]; exact decide_eq_true hne)
          refine pay_round h1 h2 h3 h4 h5 ?_
          have hS := HS.out
          rw [← HTP.out, hkd, hkk, ← hp, ← hu] at hS
          exact hS
        · have hdec : (v1 + (k : Int) != v2) = true := by simp [hne]
          gi_wp2
          refine round_tail 22 (by kernel_rfl) (by kernel_rfl) (by kernel_rfl) ?_
          simp only [List.take_succ_cons, List.take_zero, List.drop_succ_cons, List.drop_zero]
          repeat still_step
          refine wpStill_nil ?_
          go_wp2_with fail
          simp only [Nrm]
          obtain ⟨hp, hu, hkd, hfit, hkv, hkl⟩ := HP.out
          have hff : fitB l i left tv k = false := by rw [hfit]; exact decide_eq_false hne
          obtain ⟨k0, rfl⟩ : ∃ k0, k = k0 + 1 := by
            refine ⟨k - 1, ?_⟩
            rcases Nat.eq_zero_or_pos k with h | h
            · exfalso
              have hsp := kDown_spec _ _ HKK.out
              rw [← HTP.out, hkd, h] at hsp
              rw [h] at hff
              exact absurd hsp (by rw [show kDown (fitB l i left tv) 0 = 0 from rfl, hff]; simp)
            · omega
          have wk : IntKind.i64.wrap (((k0 + 1 : Nat) : Int) - 1) = (k0 : Int) := by rw [IntWalk.i64_in _ (by omega)]; omega
          clear hp hu hfit hkv hkl
          have HD := Lib.hid (And.intro hkd hff)
          clear hkd hff
          gi_wp2
          obtain ⟨hkd, hff⟩ := HD.out
          refine ⟨⟨k0, m + 1, rfl, by omega, ?_, rfl⟩, by simp [intOf]⟩
          rw [hkd]; exact kDown_neg hff
  case done =>
    rintro D ys W hD rfl ⟨⟨⟨h1, h2⟩, h3⟩, h4, h5⟩ hK
    have c7 := h1.cell
    go_wp2_with fail
    refine ⟨by simp, .inl ⟨_, _, rfl, run_takeDeferred hK, ?_⟩⟩
    refine ⟨_, results_tmp2 rfl _ _ _, _, rfl, own_mono (ownsRow_putObj h3 _ hK rfl) (by omega), hgw2.trans (below_grown ?_)⟩
    have hz2 := HZ.out.2.1
    have h4' : Below w2.heap.size w2 W := by rw [hz2]; exact h4
    exact h4'.trans (belowK_b (w := w2) (Nat.le_refl _) _ D _ _ (by omega) hK rfl rfl)
  case stop =>
    rintro D c pre W _ _ h _
    exact h.elim

end Go.Proofs.Ytoaeflegcfecaaa
