/- The walks of slices.Values, AppendSeq, Collect, Sorted over numbers; of distinct. -/
import Derived.Test.YtoaeflegcfecaaaLaid
import Derived.Test.YtoaeflegcfecaaaGreedy
import Derived.Sort.OwnSortedInts
namespace Go.Proofs.Ytoaeflegcfecaaa
open Go.RowKit Go.Shelf

attribute [local go_sem] Oper.semAt_some

def valArgs (x : Int) : Array Value := #[.int .i64 x]

set_option maxRecDepth 100000 in
set_option maxHeartbeats 2000000 in
theorem vals1_in (n : Nat) (lp Bs n₀ len cap : Nat) (A : Option Addr) (l : List Int) (w : World) (hlen : l.length = len) (hr : Rd w 1 A len (ints l)) (hn₀ : w.heap.size = n₀) (hm : len ≤ 1000000)
    (J Jx : List Int → World → Prop)
    (hY : ∀ pre x W, J pre W → pre.length < len → YieldAt Fence.wide (n - 1) Try.prog lp (valArgs x) W fun e W' =>
      (e = .returned (.bool true) ∧ J (pre ++ [x]) W' ∧ BackKp n₀ Bs W W') ∨ (e = .returned (.bool false) ∧ Jx (pre ++ [x]) W'))
    (W : World) (hW : Below n₀ w W) (hBs : W.cell? ⟨Bs, 0, none⟩ = some (.slice A len cap)) (h0 : J [] W) (hn : 1 ≤ n) :
    CallsIn Fence.wide n Try.prog 84 #[.func (.yield lp) #[] #[], .pointer (some ⟨Bs, 0, none⟩)] W fun e W' => (∃ v, e = .returned v) ∧
      ((∃ ys, ys = l ∧ J ys W') ∨ (∃ pre, True ∧ Jx pre W')) := by
  refine callsIn_of_wp Try.func84 rfl trivial ?_ rfl
  simp only [Try.ntmps84, List.size_toArray, List.length_cons, List.length_nil, Nat.reduceAdd, Nat.reduceSub, Array.replicate_succ, Array.replicate_zero, List.push_toArray, List.append_toArray, List.nil_append, List.cons_append]
  gi_wp2
  gi_loopw [7] (fun i wr => ∃ m : Nat, m ≤ len ∧ i = .int .i64 m ∧ J (l.take m) wr ∧ BackKp n₀ Bs W wr) (fun i _ => len - (intOf i).toNat)
  case atStart => exact ⟨0, Nat.zero_le _, rfl, by simpa using h0, BackKp.refl _ _ _⟩
  case round =>
    obtain ⟨m, hmm, rfl, hJs, hnx⟩ := hrel
    by_cases hlt : m < len
    · have hrr : Rd wr 1 A len (ints l) := ⟨hr.1, fun h => by
        obtain ⟨b, off, e, hb, hc⟩ := hr.2 h
        exact ⟨b, off, e, Nat.lt_of_lt_of_le hb (Nat.le_trans hW.size hnx.1.size), fun j u hu => ((hW.trans hnx.1).cell (p := ⟨b, off + j, none⟩) (by simp; omega)).trans (hc j u hu)⟩⟩
      obtain ⟨b, off, rfl, hb, x, hx, c0⟩ := int_cells hrr hlt
      obtain ⟨fn, tmps, assign, body, hy, hR⟩ := hY _ x wr hJs (by rw [List.length_take]; omega)
      have htk := take_at hx
      have HT := Lib.hid (And.intro htk hx)
      clear htk hx
      simp only [valArgs] at hy
      have hpl : (m : Int) < (len : Int) := by omega
      gi_wp2
      refine hR.mono ?_
      rintro e W3 (⟨rfl, hJ3, hk3⟩ | ⟨rfl, hJx3⟩)
      · gi_wp2
        go_roundw
        case rel => exact ⟨m + 1, by omega, by go_num, by rw [HT.out.1]; exact hJ3, hnx.trans hk3⟩
        case measure => simp [intOf]; omega
      · gi_wp2
        refine bodyPost_ret (results_none rfl _ _ _) rfl ?_
        exact ⟨⟨_, rfl⟩, .inr ⟨_, trivial, hJx3⟩⟩
    · obtain rfl : m = len := by omega
      gi_wp2
      go_end0
      exact ⟨⟨_, rfl⟩, .inl ⟨_, rfl, by rw [List.take_of_length_le (by omega)] at hJs; exact hJs⟩⟩

theorem vals_stops (n : Nat) (Bs len cap : Nat) (A : Option Addr) (l : List Int) (w0 w : World) (hlen : l.length = len) (hr : Rd w0 1 A len (ints l)) (hm : len ≤ 1000000) (hB : Below w0.heap.size w0 w)
    (hBs : w.cell? ⟨Bs, 0, none⟩ = some (.slice A len cap)) (hBlt : Bs < w.heap.size) (hn : 1 ≤ n) :
    SeqStopsK Fence.wide n Try.prog 84 #[.pointer (some ⟨Bs, 0, none⟩)] valArgs (BackKp w0.heap.size Bs) (fun ys => ys = l) (fun _ => True) len w :=
  fun lp J Jx W hW _ _ hY h0 => vals1_in n lp Bs w0.heap.size len cap A l w0 hlen hr rfl hm J Jx hY W (hB.trans (hW.mono hB.size)) ((hW.cell (p := ⟨Bs, 0, none⟩) hBlt).trans hBs) h0 hn

theorem vals_any (A : Option Addr) (len cap : Nat) (w : World) :
    Calls Try.prog 74 #[.slice A len cap] w fun e w' => e = .returned (.func (.func 84) #[] #[.pointer (some ⟨w.heap.size, 0, none⟩)]) ∧ w.alloc (.cells #[.slice A len cap] 22) = w' := by
  have hmf : ∀ (fn : Fn) (first cap : Array Value) (w : World), (Instr.makeFunc fn first cap).run Try.prog w = .ok (.func fn first cap) w := fun _ _ _ _ => rfl
  go_enter Try.func74, Try.ntmps74
  go_wp2_with fail
  go_ret
  exact ⟨rfl, rfl⟩

set_option maxRecDepth 100000 in
set_option maxHeartbeats 2000000 in
/-- slices.AppendSeq onto nil of what Values hands out. -/
theorem appendSeq_any (Bs len cap : Nat) (A : Option Addr) (l : List Int) (w : World) (hlen : l.length = len) (hr : Rd w 1 A len (ints l)) (hm : len ≤ 1000000) (hBs : w.cell? ⟨Bs, 0, none⟩ = some (.slice A len cap)) :
    Calls Try.prog 95 #[.slice none 0 0, .func (.func 84) #[] #[.pointer (some ⟨Bs, 0, none⟩)]] w
      fun e w' => ∃ v, e = .returned v ∧ w'.ownsRow w.heap.size 3 1 v len (ints l) ∧ w.grownBy w' none := by
  have hBlt := World.block_lt_of_cell? w _ hBs
  simp only at hBlt
  obtain ⟨i0, hi, hz0, hz1, hz2⟩ := info_parts Try.infoInt
  have HI := Lib.hid (And.intro hi (And.intro hz0 (And.intro hz1 hz2)))
  clear hi hz0 hz1 hz2
  refine (callsIn_wide (n := 3)).1 ?_
  refine callsIn_of_wp_marks Try.func95 rfl trivial ?_ rfl
  simp only [Try.ntmps95, List.size_toArray, List.length_cons, List.length_nil, Nat.reduceAdd, Nat.reduceSub, Array.replicate_succ, Array.replicate_zero, List.push_toArray, List.append_toArray, List.nil_append, List.cons_append]
  refine wpIn_wide.2 ?_
  go_wp2_with fail
  have bS := Boxed.new w 22 (.slice none 0 0)
  have hg0 : w.grownBy (w.alloc (.cells #[.slice none 0 0] 22)) none := grown_alloc (grown_refl w) _
  have hBL : Below w.heap.size w (w.alloc (.cells #[.slice none 0 0] 22)) := (Below.refl _ _).grown hg0 (Nat.le_refl _) (fun k hk => by cases hk)
  have hsz : (w.alloc (.cells #[.slice none 0 0] 22)).heap.size = w.heap.size + 1 := by simp
  have hBs2 := hg0.cell hBs (by simp)
  generalize w.alloc (.cells #[.slice none 0 0] 22) = WL at *
  have hKp := vals_stops 2 Bs len cap A l w WL hlen hr hm hBL hBs2 (by omega) (by omega)
  obtain ⟨g, hgd⟩ : ∃ g, g = w.heap.size := ⟨_, rfl⟩
  rw [← hgd] at bS hsz hKp ⊢
  have hBL' : Below g w WL := by rw [hgd]; exact hBL
  have hgl1 : g ≤ w.heap.size := by omega
  have hgl2 : w.heap.size ≤ g := by omega
  have HG := Lib.hid hgd
  clear hgd hBL
  refine (wpIn_wide (n := 3)).1 ?_
  refine wpIn_rangeFunc_ownH rfl (by omega) (gf := 84) (lb := #[.pointer (some ⟨Bs, 0, none⟩)]) rfl trivial (enters_of Try.func84 (by kernel_rfl) rfl)
    hKp BackKp.trans (BackKp.put (by omega)) (Below.refl _ _) (fun _ => rfl)
    (fun pre W => (∃ v, Boxed W g 22 v ∧ W.ownsRow g 3 1 v pre.length (ints pre)) ∧ Below g w W ∧ g + 1 ≤ W.heap.size)
    (fun _ _ _ => False)
    (OwnFrom.and (ownFrom_ex fun v => OwnFrom.and (Own.from (boxed_own _ _ (fun _ => v)) _) (Own.from (own_row_own g 3 1 v List.length ints) _)) (OwnFrom.and (ownFrom_below (by omega) (by omega)) (fun _ _ _ _ hs hg' _ => Nat.le_trans hs hg'.size)))
    (fun _ _ _ _ _ hs _ _ => hs)
    ⟨⟨_, bS, World.ownsRow_nil _ _ _ _⟩, hBL', by omega⟩
    (fun y a' _ => a' = { tmps := #[.slice none 0 0, .func (.func 84) #[] #[.pointer (some ⟨Bs, 0, none⟩)], .pointer (some ⟨g, 0, none⟩), undef, .slice none 0 0, .int .i64 y, .func (.func 84) #[] #[.pointer (some ⟨Bs, 0, none⟩)], .int .i64 y, undef, undef, undef, undef, undef], defers := [] })
    ?hAx ?assign ?body ?done ?stop
  case hAx =>
    rintro y a' _ X Y row h hg' hr
    exact h
  case assign =>
    rintro lp pre y W K hi hK
    simp only [valArgs]
    gi_wp2
    exact hK _ _ (KeepsFrom.refl _ _) (BackKp.refl _ _ _) hi rfl
  case body =>
    rintro lp pre y a' W hl ⟨r, hr'⟩ ⟨⟨v, h1, h2⟩, h4, h5⟩ rfl hlt
    have c2 := h1.cell
    have hpl : pre.length ≤ 1000000 := by omega
    have hgW : g ≤ W.heap.size := by omega
    gi_wp2_with (gi_at_builtin; refine wpListIn_append_own _ rfl _ _ 22 rfl g 3 i0 (.int .i64 0) 1 8 Try.underlying22 HI.out.1 HI.out.2.1 HI.out.2.2.1 HI.out.2.2.2 rfl (by decide) v pre.length (ints pre) rfl (h2.alloc _) ⟨W.heap.size, 0, none⟩ 1 1 (ints [y]) rfl rfl (cells_new W #[.int .i64 y] _) (by simp [ints, Value.oneCell']) (by unfold maxLen; omega) (by omega) (by simp; omega) ?_; intro v3 w3 hown3 hg3 _; obtain ⟨g3, cap3, rfl, hgb3, hglt3⟩ := hown3.form (by omega); have hap := h1.appended (show (22 : TypeId) ≠ 3 by decide) h2 hgW (Nat.le_refl g) hown3 hg3; have c23 := hap.1.cell; have f23 := hap.1.frozen)
    obtain ⟨_, hb3, hr3, hko, hbel⟩ := hap
    refine ⟨hko.from _, ⟨hbel, fun u hu => (hbel.cell (p := ⟨Bs, 0, none⟩) (by simp; omega)).trans hu⟩, ⟨_, hb3, ?_⟩, h4.trans hbel, ?_⟩
    · rw [show ints (pre ++ [y]) = ints pre ++ ints [y] from by simp [ints], show (pre ++ [y]).length = pre.length + 1 from by simp]
      exact hr3
    · have := hko.size; omega
  case done =>
    rintro D ys W hD rfl ⟨⟨v, h1, h2⟩, h4, h5⟩ hK
    have c2 := h1.cell
    go_wp2_with fail
    refine ⟨by simp, .inl ⟨_, _, rfl, run_takeDeferred hK, ?_⟩⟩
    refine ⟨_, results_tmp rfl _ _ _, v, rfl, ?_, below_grown ?_⟩
    · rw [← hlen]; exact own_mono (ownsRow_putObj h2 _ hK rfl) hgl2
    · have hB2 : Below w.heap.size w W := by rw [← HG.out]; exact h4
      exact hB2.trans (belowK_b (w := w) (Nat.le_refl _) _ D _ _ (by omega) hK rfl rfl)
  case stop =>
    rintro D c pre W _ _ h _
    exact h.elim

theorem own_put {w : World} {base g cap n k : Nat} {ss ts : List Int} (hown : w.ownsRow base 3 1 (.slice (some ⟨g, 0, none⟩) n cap) n (ints ss)) (hl : ts.length = n) (os : Array Obj) :
    (Go.Sort.grow (Go.Sort.putRow (Value.int .i64) (Go.Sort.ahead w k) g 0 ts.toArray) os).ownsRow base 3 1 (.slice (some ⟨g, 0, none⟩) n cap) n (ints ts) ∧
    w.grownBy (Go.Sort.grow (Go.Sort.putRow (Value.int .i64) (Go.Sort.ahead w k) g 0 ts.toArray) os) (some g) := by
  refine ⟨?_, grownBy_sortedI _⟩
  have hls : ss.length = n := by have := hown.1; simpa [ints] using this
  rcases hown.2 with ⟨h0, _⟩ | ⟨g', cap', cur, hv, hg, hb, hn, hcap, hcs, _⟩
  · cases h0
  cases hv
  have h := ownsRow_sortedI (n := k) (os := os) (ss := ss) (ts := ts) (by omega) hg hb (by omega) hcap hcs
  rw [hls] at h
  exact h
theorem own_holds {w : World} {base g cap n : Nat} {ss : List Int} (hown : w.ownsRow base 3 1 (.slice (some ⟨g, 0, none⟩) n cap) n (ints ss)) : Go.Sort.Holds (Value.int .i64) w g 0 ss.toArray := by
  have hls : ss.length = n := by have := hown.1; simpa [ints] using this
  rcases hown.2 with ⟨h0, _⟩ | ⟨g', cap', cur, hv, hg, hb, hn, hcap, hcs, ht⟩
  · cases h0
  cases hv
  exact holds_of_blockI hb (by rw [hls, Nat.mul_one] at *; exact ht)
theorem own_take {w : World} {base g cap n m : Nat} {e : TypeId} {xs : List Value} (hown : w.ownsRow base e 1 (.slice (some ⟨g, 0, none⟩) n cap) n xs) (hm : m ≤ n) : w.ownsRow base e 1 (.slice (some ⟨g, 0, none⟩) m cap) m (xs.take m) := by
  have hls := hown.1
  rcases hown.2 with ⟨h0, _⟩ | ⟨g', cap', cur, hv, hg, hb, hn, hcap, hcs, ht⟩
  · cases h0
  cases hv
  refine ⟨by rw [List.length_take]; omega, .inr ⟨g, cap, cur, rfl, hg, hb, by omega, hcap, hcs, ?_⟩⟩
  rw [← ht, List.take_take]
  congr 1
  omega

def dst (l : List Int) : List Int := Go.Lib.compact (l.mergeSort fun x y => decide (x ≤ y))

theorem compact_len_le (zs : List Int) : (Go.Lib.compact zs).length ≤ zs.length := by
  unfold Go.Lib.compact Go.Lib.compactUpTo
  rw [List.length_map]
  exact Nat.le_trans (List.length_filter_le _ _) (by simp)

set_option maxHeartbeats 600000 in
theorem distinct_any (A : Option Addr) (n c : Nat) (l : List Int) (w : World) (hr : Rd w 1 A n (ints l)) (hn : n ≤ 1000000) :
    Calls Try.prog 57 #[.slice A n c] w fun e w' => ∃ v, e = .returned v ∧ w'.ownsRow w.heap.size 3 1 v (dst l).length (ints (dst l)) ∧ w.grownBy w' none := by
  have hl : l.length = n := by have := hr.1; simpa [ints] using this
  have hcol : ∀ (Bs : Nat) (w : World), Rd w 1 A n (ints l) → w.cell? ⟨Bs, 0, none⟩ = some (.slice A n c) →
      Calls Try.prog 82 #[.func (.func 84) #[] #[.pointer (some ⟨Bs, 0, none⟩)]] w fun e w' => ∃ v, e = .returned v ∧ w'.ownsRow w.heap.size 3 1 v n (ints l) ∧ w.grownBy w' none := by
    intro Bs w hr hBs
    have HA := Lib.hid (appendSeq_any Bs n c A l w hl hr hn hBs)
    clear hl
    go_enter Try.func82, Try.ntmps82
    go_wp2_with fail
    refine HA.out.mono ?_
    rintro e w1 ⟨v, rfl, hown, hg⟩
    go_wp2_with fail
    go_ret
    exact ⟨v, rfl, hown, hg⟩
  have hsort : ∀ (Bs : Nat) (w : World), Rd w 1 A n (ints l) → w.cell? ⟨Bs, 0, none⟩ = some (.slice A n c) →
      Calls Try.prog 73 #[.func (.func 84) #[] #[.pointer (some ⟨Bs, 0, none⟩)]] w fun e w' => ∃ v, e = .returned v ∧ w'.ownsRow w.heap.size 3 1 v n (ints (l.mergeSort fun x y => decide (x ≤ y))) ∧ w.grownBy w' none := by
    intro Bs w hr hBs
    have HA := Lib.hid (hcol Bs w hr hBs)
    have HL := Lib.hid hl
    clear hl
    go_enter Try.func73, Try.ntmps73
    go_wp2_with fail
    refine HA.out.mono ?_
    rintro e w1 ⟨v, rfl, hown, hg⟩
    rcases Nat.eq_zero_or_pos n with h0 | h0
    · subst h0
      have hl0 : l = [] := List.eq_nil_of_length_eq_zero HL.out
      obtain ⟨A', c', rfl, _, _, _, _⟩ := Rd.of_own hown
      have HS := Lib.hid (Try.slices_Sort_int_none A' c' w1)
      go_wp2_with fail
      refine HS.out.mono ?_
      rintro e w2 ⟨rfl, rfl⟩
      go_wp2_with fail
      go_ret
      refine ⟨_, rfl, ?_, hg⟩
      rw [hl0] at hown
      rw [hl0, List.mergeSort_nil]
      exact hown
    · obtain ⟨g, cap, rfl, hgb, hglt⟩ := hown.form h0
      have hS := Try.slices_Sort_int g 0 cap l w1 (own_holds hown) hglt (by have := HL.out; omega)
      rw [HL.out] at hS
      have HS := Lib.hid hS
      clear hS
      go_wp2_with fail
      refine HS.out.mono ?_
      rintro e w2 ⟨rfl, k, os, rfl⟩
      go_wp2_with fail
      go_ret
      obtain ⟨h1, h2⟩ := own_put (k := k) hown (ts := l.mergeSort fun x y => decide (x ≤ y)) (by rw [List.length_mergeSort]; exact HL.out) os
      exact ⟨_, rfl, h1, grown_below hg h2 fun i e => .inl (by injection e with e; omega)⟩
  have HL := Lib.hid hl
  have HSO := Lib.hid hsort
  clear hl hcol hsort
  go_enter Try.func57, Try.ntmps57
  go_wp2_with fail
  refine (vals_any A n c w).mono ?_
  rintro e w1 ⟨rfl, rfl⟩
  go_wp2_with fail
  refine (HSO.out _ _ (hr.grown (grown_alloc (grown_refl w) _)) (by rw [World.cell?_alloc_new]; rfl)).mono ?_
  rintro e w2 ⟨v, rfl, hown, hg⟩
  have hgw := (grown_alloc (grown_refl w) (.cells #[.slice A n c] 22)).trans hg
  have hown2 := own_mono hown (show w.heap.size ≤ (w.alloc (.cells #[.slice A n c] 22)).heap.size by simp)
  clear hown hg
  have hlm : (l.mergeSort fun x y => decide (x ≤ y)).length = n := by rw [List.length_mergeSort]; exact HL.out
  have hdl := compact_len_le (l.mergeSort fun x y => decide (x ≤ y))
  have hdd : dst l = Go.Lib.compact (l.mergeSort fun x y => decide (x ≤ y)) := rfl
  generalize (l.mergeSort fun x y => decide (x ≤ y)) = zs at *
  have HD := Lib.hid hdd
  clear hdd
  rcases Nat.eq_zero_or_pos n with h0 | h0
  · subst h0
    have hz0 : zs = [] := List.eq_nil_of_length_eq_zero hlm
    subst hz0
    obtain ⟨A', c', rfl, _, _, _, _⟩ := Rd.of_own hown2
    have HC := Lib.hid (Try.slices_Compact_int_empty A' c' w2)
    clear hdl
    go_wp2_with fail
    refine HC.out.mono ?_
    rintro e w3 ⟨rfl, rfl⟩
    go_wp2_with fail
    go_ret
    exact ⟨.slice A' 0 c', rfl, by rw [HD.out]; exact hown2, hgw⟩
  · obtain ⟨g, cap, rfl, hgb, hglt⟩ := hown2.form h0
    have hcap : n ≤ cap := by
      rcases hown2.2 with ⟨h0, _⟩ | ⟨g', cap', cur, hv, hg, hb, hn, hcap, hcs, ht⟩
      · cases h0
      · cases hv; exact hn
    have hC := Try.slices_Compact_int g 0 cap zs w2 (own_holds hown2) (by omega) (by omega)
    rw [hlm] at hC hdl
    have HC := Lib.hid hC
    clear hC
    go_wp2_with fail
    refine HC.out.mono ?_
    rintro e w3 ⟨rfl, k, rfl⟩
    go_wp2_with fail
    go_ret
    obtain ⟨h1, h2⟩ := own_put (k := k) hown2 (ts := Go.Lib.compact zs ++ List.replicate (n - (Go.Lib.compact zs).length) 0) (by simp; omega) #[]
    rw [Go.Sort.grow_empty] at h1 h2
    refine ⟨_, rfl, ?_, grown_below hgw h2 fun i e => .inl (by injection e with e; omega)⟩
    have h3 := own_take h1 hdl
    rw [show (ints (Go.Lib.compact zs ++ List.replicate (n - (Go.Lib.compact zs).length) 0)).take (Go.Lib.compact zs).length = ints (Go.Lib.compact zs) from by simp [ints]] at h3
    rw [HD.out]
    exact h3

end Go.Proofs.Ytoaeflegcfecaaa
