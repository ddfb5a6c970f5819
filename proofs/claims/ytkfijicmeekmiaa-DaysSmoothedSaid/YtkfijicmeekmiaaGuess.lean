/- The walk of the reference's GuessOf. -/
import Derived.Test.YtkfijicmeekmiaaErr
import Derived.Test.YtkfijicmeekmiaaIdx
namespace Go.Proofs.Ytkfijicmeekmiaa
open Go.RowKit

def gsB (n : Int) : Bool := !btw n 0 1000
theorem guess1_any (x : Int) (w : World) : Calls Try.prog 90 #[.int .i64 x] w fun e w2 => e = .returned (.bool (gsB x)) ∧ w = w2 := by
  by_cases h : x < 0
  · go_enter Try.func90, Try.ntmps90
    go_wp2_with fail
    go_ret
    exact ⟨retB (by rw [Bool.eq_iff_iff]; simp [gsB, btw] <;> omega), rfl⟩
  · have h' : 0 ≤ x := by omega
    clear h
    go_enter Try.func90, Try.ntmps90
    go_wp2_with fail
    go_ret
    exact ⟨retB (by rw [Bool.eq_iff_iff]; simp [gsB, btw] <;> omega), rfl⟩
theorem any_gs (l : List Int) : l.any gsB = !allB l 0 1000 := by
  unfold allB gsB
  induction l with
  | nil => rfl
  | cons a r ih => simp [ih]

set_option maxRecDepth 100000 in
set_option maxHeartbeats 1000000 in
theorem refGuess_ok (A B : Option Addr) (n c m d : Nat) (l : List Sal) (g : List Int) (w : World) (hr : Rd w 3 A n (salFlat l)) (hn : n ≤ 400) (hf : dayFault l = 0) (hr2 : Rd w 1 B m (ints g)) (hm : m ≤ 1000000) :
    Calls Try.prog 34 #[.slice A n c, .slice B m d] w fun e w' => e = .returned (errV l g) ∧ w.grownBy w' none := by
  have hl : l.length = n := by have := hr.1; rw [salFlat_len] at this; omega
  have hgl : g.length = m := by have := hr2.1; simpa [ints] using this
  obtain ⟨hl400, hok⟩ := days_ok hf
  have hg0 := grown_alloc (grown_refl w) (.cells #[.int .i64 0, .int .i64 0] 31)
  have hB0 := Blk.new w 31 #[.int .i64 0, .int .i64 0]
  have hc := fun w1 (hg : w.grownBy w1 none) => containsFunc_any 90 gsB B m d g w1 (hr2.grown hg) hm (enters_of Try.func90 (by kernel_rfl) rfl) guess1_any
  rw [any_gs] at hc
  have HC := Lib.hid hc
  clear hc hf
  by_cases h1 : m = n
  · subst h1
    by_cases h2 : allB g 0 1000 = true
    · have hv : errV l g = .tuple #[frac (meanN lastB (wrL l g)) (meanD lastB (wrL l g)), .int .i64 (if cntP lastB (wrL l g) = 0 then 8 else 0)] := by
        unfold errV; rw [if_neg (by simp [hl, hgl]), if_neg (by simp [h2])]
      obtain ⟨V, hV⟩ : ∃ V, V = errV l g := ⟨_, rfl⟩
      rw [← hV]
      have HVV := Lib.hid (hV.trans hv)
      rw [h2] at HC
      have hrng := wrL_rng (fun t ht => (hok t ht).2) (allB_mem h2)
      have hCl : (wrL l g).length = m := wrL_len hl hgl
      have HR := Lib.hid (And.intro hl (And.intro hgl (And.intro hok (And.intro hrng (And.intro (allB_mem h2) hCl)))))
      clear hv hl hgl hok hrng h2 hV hCl
      go_enter Try.func34, Try.ntmps34
      go_wp2_with fail
      refine (HC.out _ hg0).mono ?_
      rintro e w1 ⟨rfl, hg1⟩
      have hgg1 := hg0.trans hg1
      go_wp2_with fail
      have hB1 := hB0.grown hg1 (by simp)
      clear hB0 hg0 hg1
      go_loopg [6, 7, 21] m (fun k sv qv i wr => ∃ j : Nat, k + j = m ∧ i = .int .i64 j ∧ sv = .int .i64 (sumP lastB ((wrL l g).take j)) ∧ qv = .int .i64 (cntP lastB ((wrL l g).take j)) ∧ Blk wr w.heap.size 31 #[.int .i64 0, .int .i64 0] ∧ w.grownBy wr none)
      case atStart => exact ⟨0, by omega, rfl, rfl, rfl, hB1, hgg1⟩
      case round =>
        obtain ⟨j, hj, rfl, rfl, rfl, hBr, hg⟩ := hrel
        by_cases hlt : j < m
        · obtain ⟨b, off, rfl, hb, t, ht, c0, c1, c2⟩ := sal_cells (hr.grown hg) hlt
          obtain ⟨bb, offb, rfl, hbb, x, hx, d0⟩ := int_cells (hr2.grown hg) hlt
          obtain ⟨s0, s1⟩ := (HR.out.2.2.1 t (List.mem_of_getElem? ht)).2
          obtain ⟨x0, x1⟩ := HR.out.2.2.2.2.1 x (List.mem_of_getElem? hx)
          have hy := wrL_at ht hx
          have hs := sumP_step (p := lastB) hy
          have hq := cntP_step (p := lastB) hy
          obtain ⟨z0, z1⟩ := sumP_bound (p := lastB) (l := (wrL l g).take j) fun t ht => HR.out.2.2.2.1 t (List.mem_of_mem_take ht)
          have z2 : ((wrL l g).take j).length ≤ 400 := by rw [List.length_take]; omega
          have q1 := cntP_le lastB ((wrL l g).take j)
          have hms : (wrS t x).s = max (x - t.s) (t.s - x) := rfl
          rw [show lastB (wrS t x) = !t.o from rfl, hms] at hs
          rw [show lastB (wrS t x) = !t.o from rfl] at hq
          generalize sumP lastB ((wrL l g).take j) = sm at *
          generalize cntP lastB ((wrL l g).take j) = q at *
          have q2 : q ≤ 400 := by omega
          have z3 : sm ≤ 400000 := by omega
          have HS := Lib.hid (And.intro hs (And.intro hq hj))
          have hgA := grown_alloc hg (.cells #[.int .i64 t.d, .int .i64 t.s, .bool t.o] 79)
          have hBA := hBr.alloc (.cells #[.int .i64 t.d, .int .i64 t.s, .bool t.o] 79)
          have hd0 := (grown_alloc (grown_refl wr) (.cells #[.int .i64 t.d, .int .i64 t.s, .bool t.o] 79)).cell d0 (by simp)
          have hlt' : (j : Int) < (m : Int) := by omega
          clear hs hq hj ht hx hy hms z2 z1 q1 hBr hg
          by_cases ho : t.o = true
          · generalize t.o = to at *
            subst ho
            go_wp2_with fail
            obtain ⟨hs, hq, hj⟩ := HS.out
            rw [if_neg (by simp)] at hs hq
            go_roundg (gk - 1)
            case measure => omega
            case rel => exact ⟨j + 1, by omega, by go_num, by rw [hs]; simp, by rw [hq]; rfl, hBA, hgA⟩
          · have ho' : t.o = false := by simpa using ho
            clear ho
            generalize t.o = to at *
            subst ho'
            have wa : IntKind.i64.wrap (x - t.s) = x - t.s := IntWalk.i64_in _ (by omega)
            have wb : IntKind.i64.wrap (t.s - x) = t.s - x := IntWalk.i64_in _ (by omega)
            by_cases hle : t.s - x < x - t.s
            case' pos => have hmm : max (x - t.s) (t.s - x) = x - t.s := by omega
            case' neg => have hmm : max (x - t.s) (t.s - x) = t.s - x := by omega
            all_goals
              have HMM := Lib.hid hmm
              clear hmm
              go_wp2_with fail
              go_quiet (fail)
              go_wp2_with fail
              obtain ⟨hs, hq, hj⟩ := HS.out
              rw [if_pos (by simp), HMM.out] at hs
              rw [if_pos (by simp)] at hq
              go_roundg (gk - 1)
              case measure => omega
              case rel => exact ⟨j + 1, by omega, by go_num, by rw [hs], by rw [hq]; go_num, hBA, grown_drewN hgA _⟩
        · obtain rfl : j = m := by omega
          rw [List.take_of_length_le (by have := HR.out.2.2.2.2.2; omega)]
          obtain ⟨e0, e1, f0, f1⟩ := hBr.two
          obtain ⟨s0, s1⟩ := sumP_bound (p := lastB) (l := wrL l g) HR.out.2.2.2.1
          have s2 : (wrL l g).length ≤ 400 := by rw [HR.out.2.2.2.2.2]; omega
          have q1 := cntP_le lastB (wrL l g)
          by_cases h0 : cntP lastB (wrL l g) = 0
          · have hVV := HVV.out
            obtain ⟨a0, b0⟩ := mean_zero (p := lastB) (l := wrL l g) (by simp [h0])
            rw [a0, b0, if_pos h0] at hVV
            have HW := Lib.hid hVV
            rw [h0]
            clear h0 hVV a0 b0 s0 s1 s2 q1
            go_wp2_with fail
            refine bodyPost_ret (results_row_tmp rfl _ _ w.heap.size _ _ _ _ rfl ((hBr.set_ 0 (.int .i64 0)).set_ 1 (.int .i64 0)) Try.underlying31 rfl (by kernel_rfl)) rfl ?_
            rw [HW.out]
            exact ⟨rfl, grown_set (p := ⟨w.heap.size, 1, none⟩) (grown_set (p := ⟨w.heap.size, 0, none⟩) hg (.inl (Nat.le_refl _)) _) (.inl (Nat.le_refl _)) _⟩
          · have hVV := HVV.out
            have hcall := fun w => refPart_any (sumP lastB (wrL l g)) (cntP lastB (wrL l g)) w (by omega) (by omega) (by omega) (by omega)
            have hq0 : ((cntP lastB (wrL l g) : Int) == 0) = false := by rw [beq_eq_false_iff_ne]; omega
            rw [if_neg h0] at hVV
            unfold meanN meanD at hVV
            rw [if_neg h0, if_neg h0] at hVV
            generalize sumP lastB (wrL l g) = sm at *
            generalize cntP lastB (wrL l g) = q at *
            generalize lowN sm q = y1 at *
            generalize lowD sm q = y2 at *
            have HW := Lib.hid hVV
            have HK := Lib.hid hcall
            clear hVV hcall h0 s0 s1 s2 q1 HVV
            go_wp2_with fail
            refine (HK.out _).mono ?_
            rintro e w3 ⟨rfl, hg3⟩
            have hB3 := hBr.grown hg3 (by simp)
            obtain ⟨e0, e1, f0, f1⟩ := hB3.two
            unfold frac
            go_wp2_with fail
            refine bodyPost_ret (results_row_tmp rfl _ _ w.heap.size _ _ _ _ rfl ((hB3.set_ 0 (.int .i64 y1)).set_ 1 (.int .i64 y2)) Try.underlying31 rfl (by kernel_rfl)) rfl ?_
            rw [HW.out]
            exact ⟨rfl, grown_set (p := ⟨w.heap.size, 1, none⟩) (grown_set (p := ⟨w.heap.size, 0, none⟩) (hg.trans hg3) (.inl (Nat.le_refl _)) _) (.inl (Nat.le_refl _)) _⟩
    · have h2' : allB g 0 1000 = false := by simpa using h2
      have hv : errV l g = .tuple #[frac 0 0, .int .i64 1] := by
        unfold errV; rw [if_neg (by simp [hl, hgl]), if_pos h2']
      rw [hv]
      rw [h2'] at HC
      clear hv hl hgl hok h2 h2'
      go_enter Try.func34, Try.ntmps34
      go_wp2_with fail
      refine (HC.out _ hg0).mono ?_
      rintro e w1 ⟨rfl, hg1⟩
      have hgg1 := hg0.trans hg1
      have hB1 := hB0.grown hg1 (by simp)
      obtain ⟨e0, e1, f0, f1⟩ := hB1.two
      go_wp2_with fail
      refine bodyPost_ret (results_row_tmp rfl _ _ w.heap.size _ _ _ _ rfl ((hB1.set_ 0 (.int .i64 0)).set_ 1 (.int .i64 0)) Try.underlying31 rfl (by kernel_rfl)) rfl ?_
      exact ⟨rfl, grown_set (p := ⟨w.heap.size, 1, none⟩) (grown_set (p := ⟨w.heap.size, 0, none⟩) hgg1 (.inl (Nat.le_refl _)) _) (.inl (Nat.le_refl _)) _⟩
  · have hv : errV l g = .tuple #[frac 0 0, .int .i64 3] := by
      unfold errV; rw [if_pos (by rw [hl, hgl]; exact h1)]
    rw [hv]
    have hne : ((m : Int) != (n : Int)) = true := by rw [bne_iff_ne]; omega
    clear hv hl hgl hok h1
    go_enter Try.func34, Try.ntmps34
    go_wp2_with fail
    refine bodyPost_ret (results_row_tmp rfl _ _ w.heap.size _ _ _ _ rfl hB0 Try.underlying31 rfl (by kernel_rfl)) rfl ?_
    exact ⟨rfl, hg0⟩

end Go.Proofs.Ytkfijicmeekmiaa
