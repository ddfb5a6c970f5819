/- The walk of package stock's refill: pieces next to each other that are of one lot are joined. -/
import Derived.Test.YtidfhgpjpieajaaDoorStkB
import Derived.Test.YtidfhgpjpieajaaDoorMkB
import Derived.BigQuiet
import Derived.Laws.OwnMore
namespace Go.Proofs.YtidfhgpjpieajaaDoor
open Go.RowKit

/-- A piece put behind others. -/
def joinP (acc : List Pc) (x : Pc) : List Pc :=
  match acc.getLast? with
  | some y => if sEq y.lot x.lot = true then acc.set (acc.length - 1) ⟨y.lot, y.mn + x.mn⟩ else acc ++ [x]
  | none => acc ++ [x]
def refillP (l : List Pc) : List Pc := l.foldl joinP []
theorem refillP_take {l : List Pc} {j : Nat} {x : Pc} (ht : l[j]? = some x) : refillP (l.take (j + 1)) = joinP (refillP (l.take j)) x := by
  rw [take_at ht]; simp [refillP, List.foldl_append]
theorem joinP_nil {acc : List Pc} {x : Pc} (h : acc.length = 0) : joinP acc x = acc ++ [x] := by
  obtain rfl := List.eq_nil_of_length_eq_zero h
  rfl
theorem joinP_last {acc : List Pc} {p : Nat} {y x : Pc} (h : acc.length = p + 1) (hy : acc[p]? = some y) : joinP acc x = if sEq y.lot x.lot = true then acc.set p ⟨y.lot, y.mn + x.mn⟩ else acc ++ [x] := by
  unfold joinP
  rw [List.getLast?_eq_getElem?, show acc.length - 1 = p from by omega, hy]
theorem joinP_shape (acc : List Pc) (x : Pc) : (∃ p y, acc.length = p + 1 ∧ acc[p]? = some y ∧ y.lot = x.lot ∧ joinP acc x = acc.set p ⟨y.lot, y.mn + x.mn⟩) ∨ joinP acc x = acc ++ [x] := by
  rcases Nat.eq_zero_or_pos acc.length with h | h
  · exact .inr (joinP_nil h)
  · obtain ⟨p, hp⟩ : ∃ p, acc.length = p + 1 := ⟨acc.length - 1, by omega⟩
    have hy : acc[p]? = some acc[p] := List.getElem?_eq_getElem (by omega)
    rw [joinP_last hp hy]
    by_cases e : sEq acc[p].lot x.lot = true
    · rw [if_pos e]; exact .inl ⟨p, _, hp, hy, sEq_iff.1 e, rfl⟩
    · rw [if_neg e]; exact .inr rfl
/-- What is known of a row of pieces under way. -/
def JOk (l : List Pc) (b : Int) : Prop := l.length ≤ b ∧ ∀ t ∈ l, 0 ≤ t.mn ∧ t.mn ≤ 1000 * b
theorem JOk.next {acc : List Pc} {b : Int} {x : Pc} (h : JOk acc b) (hx : 0 ≤ x.mn ∧ x.mn ≤ 1000) : JOk (joinP acc x) (b + 1) := by
  have h0 : 0 ≤ b := by have := h.1; omega
  rcases joinP_shape acc x with ⟨p, y, hp, hy, _, e⟩ | e <;> rw [e]
  · refine ⟨by rw [List.length_set]; have := h.1; omega, fun t ht => ?_⟩
    have hyb := h.2 y (List.mem_of_getElem? hy)
    rcases List.mem_or_eq_of_mem_set ht with ht | rfl
    · have := h.2 t ht; omega
    · simp only; omega
  · refine ⟨by simp; exact h.1, fun t ht => ?_⟩
    rcases List.mem_append.1 ht with ht | ht
    · have := h.2 t ht; omega
    · obtain rfl := List.mem_singleton.1 ht; omega
theorem JOk.run {l : List Pc} (h : ∀ t ∈ l, 0 ≤ t.mn ∧ t.mn ≤ 1000) (j : Nat) (hj : j ≤ l.length) : JOk (refillP (l.take j)) j := by
  induction j with
  | zero => exact ⟨by simp [refillP], by simp [refillP]⟩
  | succ j ih =>
    have ht : l[j]? = some l[j] := List.getElem?_eq_getElem (by omega)
    rw [refillP_take ht]
    exact_mod_cast (ih (by omega)).next (h _ (List.getElem_mem _))
theorem JOk.all {l : List Pc} (h : ∀ t ∈ l, 0 ≤ t.mn ∧ t.mn ≤ 1000) : JOk (refillP l) l.length := by
  have := JOk.run h l.length (Nat.le_refl _)
  rwa [List.take_length] at this

theorem pcFlat_set {l : List Pc} {k : Nat} {y : Pc} (hy : l[k]? = some y) (v : Int) : (pcFlat l).set (k * 2 + 1) (.int .i64 v) = pcFlat (l.set k ⟨y.lot, v⟩) := by
  induction l generalizing k with
  | nil => simp at hy
  | cons a l ih =>
    cases k with
    | zero =>
      simp only [List.getElem?_cons_zero, Option.some.injEq] at hy
      subst hy
      simp [pcFlat, pcCells]
    | succ k =>
      have hy' : l[k]? = some y := by simpa using hy
      have := ih hy'
      simp only [pcFlat, pcCells, List.flatMap_cons, List.set_cons_succ, List.cons_append, List.nil_append] at this ⊢
      rw [show (k + 1) * 2 = k * 2 + 1 + 1 from by omega, List.set_cons_succ, this]

/-- A coil, laid into its box. -/
theorem res_coil {wr : World} {r : Nat} {a b c : Value} (h : Blk wr r 58 #[a, b, c]) (pr most v : Value) :
    Blk (((wr.setCell ⟨r, 0, none⟩ pr).setCell ⟨r, 1, none⟩ most).setCell ⟨r, 2, none⟩ v) r 58 #[pr, most, v] ∧ wr.grownBy (((wr.setCell ⟨r, 0, none⟩ pr).setCell ⟨r, 1, none⟩ most).setCell ⟨r, 2, none⟩ v) (some r) :=
  ⟨(((h.set_ 0 pr).set_ 1 most).set_ 2 v).eq rfl, grown_set (grown_set (grown_set (World.grownBy.refl wr (some r)) (p := ⟨r, 0, none⟩) (.inr rfl) pr) (p := ⟨r, 1, none⟩) (.inr rfl) most) (p := ⟨r, 2, none⟩) (.inr rfl) v⟩

set_option maxRecDepth 100000 in
set_option maxHeartbeats 2000000 in
theorem refill_any (pr : ByteArray) (most : Int) (A0 : Option Addr) (n0 c0 : Nat) (A : Option Addr) (n c : Nat) (l : List Pc) (w : World) (hr : Rd w 2 A n (pcFlat l)) (hn : n ≤ 1000000) (hmn : ∀ t ∈ l, 0 ≤ t.mn ∧ t.mn ≤ 1000) :
    Calls Tryd.prog 95 #[.agg #[.string pr, .int .i64 most, .slice A0 n0 c0], .slice A n c] w
      fun e w' => ∃ A' c', e = .returned (.agg #[.string pr, .int .i64 most, .slice A' (refillP l).length c']) ∧ w'.ownsRow w.heap.size 54 2 (.slice A' (refillP l).length c') (refillP l).length (pcFlat (refillP l)) ∧ w.grownBy w' none := by
  have hl : l.length = n := by have := hr.1; rw [pcFlat_len] at this; omega
  have hrun := fun j (h : j ≤ l.length) => JOk.run hmn j h
  have hB := Blk.new w 58 #[.string pr, .int .i64 most, .slice A0 n0 c0]
  have hg0 := grown_alloc (grown_refl w) (.cells #[.string pr, .int .i64 most, .slice A0 n0 c0] 58)
  have hR := Blk.new (w.alloc (.cells #[.string pr, .int .i64 most, .slice A0 n0 c0] 58)) 58 #[.string ByteArray.empty, .int .i64 0, .slice none 0 0]
  rw [show (w.alloc (.cells #[.string pr, .int .i64 most, .slice A0 n0 c0] 58)).heap.size = w.heap.size + 1 from by simp] at hR
  have hB1 := hB.alloc (.cells #[.string ByteArray.empty, .int .i64 0, .slice none 0 0] 58)
  have hg1 := grown_alloc hg0 (.cells #[.string ByteArray.empty, .int .i64 0, .slice none 0 0] 58)
  have HL := Lib.hid (And.intro hl (And.intro hrun hmn))
  clear hl hrun hmn hB hg0
  go_enter Tryd.func95, Tryd.ntmps95
  go_wp2_with fail
  go_loopg [5, 11] n (fun k v i wr => ∃ j : Nat, k + j = n ∧ i = .int .i64 j ∧ wr.ownsRow w.heap.size 54 2 v (refillP (l.take j)).length (pcFlat (refillP (l.take j))) ∧ Blk wr w.heap.size 58 #[.string pr, .int .i64 most, .slice A0 n0 c0] ∧ Blk wr (w.heap.size + 1) 58 #[.string ByteArray.empty, .int .i64 0, .slice none 0 0] ∧ w.grownBy wr none)
  case atStart => exact ⟨0, by omega, rfl, World.ownsRow_nil _ _ _ _, hB1, hR, hg1⟩
  case round =>
    clear hB1 hR hg1
    obtain ⟨j, hj, rfl, hown, hB, hR, hg⟩ := hrel
    by_cases hlt : j < n
    · obtain ⟨b, off, rfl, hb, x, hx, c0, c1⟩ := pc_cells (hr.grown hg) hlt
      obtain ⟨hl, hrun, hmn⟩ := HL.out
      have hjo := hrun j (by omega)
      have hsucc := refillP_take hx
      have hxm := hmn x (List.mem_of_getElem? hx)
      obtain ⟨xl, xm⟩ := x
      simp only at c0 c1 hxm
      generalize refillP (l.take j) = E at *
      have hE := hjo.1
      have hb3 : w.heap.size + 2 ≤ wr.heap.size := by have := hR.lt; omega
      rcases Nat.eq_zero_or_pos E.length with h0 | hp
      · obtain ⟨A1, c1', rfl, _, _, _, _⟩ := Rd.of_own hown
        have hown' := hown
        rw [joinP_nil h0] at hsucc
        have HS := Lib.hid (And.intro hsucc (And.intro hj (And.intro hown (And.intro hB (And.intro hR hg)))))
        have hgs := hg.size
        rw [h0]
        clear hsucc hj hx hjo hl hrun hmn hown' hB hR hg
        go_wp2_with fail
        go_quiet (fail)
        have hgq := grown_drewN (grown_alloc (grown_refl wr) (.cells #[.string xl, .int .i64 xm] 54)) nq
        have hX := (Blk.new wr 54 #[.string xl, .int .i64 xm]).grown (grown_drewN (grown_refl _) nq) (by simp)
        generalize (wr.alloc (.cells #[.string xl, .int .i64 xm] 54)).drewN nq = wq at *
        have kx := hX.two
        have HG := Lib.hid hgq
        clear hgq hX c0 c1 hb
        go_wp2_with (at_builtin; refine ap_pc wq ⟨xl, xm⟩ rfl _ _ rfl w.heap.size (.slice A1 E.length c1') E (by rw [h0]; rfl) (hown.kept HG.out (Classical.em _)) rfl (by omega) (by have := HG.out.size; omega) ?_; intro v5 w5 hown5 hg5)
        obtain ⟨hsucc, hj, hown, hB, hR, hg⟩ := HS.out
        go_roundg (gk - 1)
        case measure => omega
        case rel =>
          have hg6 := grown_alloc HG.out (.cells #[.string xl, .int .i64 xm] 54)
          have hB6 := hB.grown hg6 (by simp)
          have hR6 := hR.grown hg6 (by simp)
          have ho6 := hown.kept hg6 (Classical.em _)
          exact ⟨j + 1, by omega, by go_num, by rw [hsucc]; exact hown5, hB6.grown hg5 (own_bx0 ho6 hB6 (by decide)), hR6.grown hg5 (own_bx0 ho6 hR6 (by decide)), grown_below (hg.trans hg6) hg5 (fun i hi => .inl (hown.lt i hi).1)⟩
      · obtain ⟨p, hp⟩ : ∃ p, E.length = p + 1 := ⟨E.length - 1, by omega⟩
        obtain ⟨g, c1', rfl, hgb, hgl⟩ := hown.form (by omega)
        obtain ⟨A1, c2, hv, _, _, hrd, _⟩ := Rd.of_own hown
        cases hv
        obtain ⟨b', off', e', _, y, hy, d0, d1⟩ := pc_cells hrd (k := p) (by omega)
        cases e'
        simp only [Nat.zero_add] at d0 d1
        have fr := hown.frozenAt (p * 2 + 1)
        rw [joinP_last hp hy] at hsucc
        have hym := hjo.2 y (List.mem_of_getElem? hy)
        obtain ⟨yl, ym⟩ := y
        simp only at d0 d1 hym hsucc
        have hgs := hg.size
        by_cases heq : (yl.toList == xl.toList) = true
        · rw [if_pos (show sEq yl xl = true from heq)] at hsucc
          have HS := Lib.hid (And.intro hsucc (And.intro hj (And.intro hown (And.intro hB (And.intro hR (And.intro hg hy))))))
          rw [hp]
          clear hsucc hj hx hjo hl hrun hmn hB hR hg hown hy hrd
          go_wp2_with fail
          go_quiet (fail)
          go_wp2_with fail
          go_region
          all_goals (go_wp2_with fail)
          all_goals (
            obtain ⟨hsucc, hj, hown, hB, hR, hg, hy⟩ := HS.out
            go_roundg (gk - 1)
            case measure => omega
            case rel =>
              have hgX := grown_drewN (grown_alloc (grown_refl wr) (.cells #[.string xl, .int .i64 xm] 54)) (nq + 1)
              obtain ⟨st1, st2⟩ := (hown.kept hgX (Classical.em _)).stored (p * 2 + 1) (.int .i64 (ym + xm))
              rw [pcFlat_set hy] at st1
              have hB6 := hB.grown hgX (by simp)
              have hR6 := hR.grown hgX (by simp)
              have hn1 := own_bx0 (hown.kept hgX (Classical.em _)) hB6 (by decide)
              have hn2 := own_bx0 (hown.kept hgX (Classical.em _)) hR6 (by decide)
              exact ⟨j + 1, by omega, by go_num, by rw [hsucc, List.length_set, hp]; rw [hp] at st1; exact st1, hB6.grown st2 hn1, hR6.grown st2 hn2, grown_below (hg.trans hgX) st2 (fun i hi => .inl (by injection hi with hi; omega))⟩)
        · have heq' : (yl.toList == xl.toList) = false := by simpa using heq
          clear heq
          rw [if_neg (by unfold sEq; rw [heq']; simp)] at hsucc
          have HS := Lib.hid (And.intro hsucc (And.intro hj (And.intro hown (And.intro hB (And.intro hR hg)))))
          rw [hp]
          clear hsucc hj hx hjo hl hrun hmn hB hR hg hown hy hrd
          go_wp2_with fail
          go_quiet (fail)
          have hgq := grown_drewN (grown_alloc (grown_refl wr) (.cells #[.string xl, .int .i64 xm] 54)) nq
          have hX := (Blk.new wr 54 #[.string xl, .int .i64 xm]).grown (grown_drewN (grown_refl _) nq) (by simp)
          generalize (wr.alloc (.cells #[.string xl, .int .i64 xm] 54)).drewN nq = wq at *
          have kx := hX.two
          have HG := Lib.hid hgq
          clear hgq hX c0 c1 hb
          go_wp2_with (at_builtin; refine ap_pc wq ⟨xl, xm⟩ rfl _ _ rfl w.heap.size (.slice (some ⟨g, 0, none⟩) E.length c1') E (by rw [hp]; rfl) (HS.out.2.2.1.kept HG.out (Classical.em _)) rfl (by omega) (by have := HG.out.size; omega) ?_; intro v5 w5 hown5 hg5)
          obtain ⟨hsucc, hj, hown, hB, hR, hg⟩ := HS.out
          go_roundg (gk - 1)
          case measure => omega
          case rel =>
            have hg6 := grown_alloc HG.out (.cells #[.string xl, .int .i64 xm] 54)
            have hB6 := hB.grown hg6 (by simp)
            have hR6 := hR.grown hg6 (by simp)
            have ho6 := hown.kept hg6 (Classical.em _)
            exact ⟨j + 1, by omega, by go_num, by rw [hsucc]; exact hown5, hB6.grown hg5 (own_bx0 ho6 hB6 (by decide)), hR6.grown hg5 (own_bx0 ho6 hR6 (by decide)), grown_below (hg.trans hg6) hg5 (fun i hi => .inl (hown.lt i hi).1)⟩
    · obtain rfl : j = n := by omega
      rw [List.take_of_length_le (by have := HL.out.1; omega)] at hown
      obtain ⟨A1, c1', rfl, _, _, _, _⟩ := Rd.of_own hown
      have hfin := res_coil hR (.string pr) (.int .i64 most) (.slice A1 (refillP l).length c1')
      have HO := Lib.hid (And.intro (hown.kept hfin.2 (.inr fun e => own_bx0 hown hR (by decide) e.symm)) (grown_set (grown_set (grown_set hg (p := ⟨w.heap.size + 1, 0, none⟩) (.inl (by simp)) (.string pr)) (p := ⟨w.heap.size + 1, 1, none⟩) (.inl (by simp)) (.int .i64 most)) (p := ⟨w.heap.size + 1, 2, none⟩) (.inl (by simp)) (.slice A1 (refillP l).length c1')))
      have HF := Lib.hid hfin.1
      have k0 := hB.three
      have k1 := hR.three
      clear hfin hown hB hR hg
      go_wp2_with fail
      refine bodyPost_ret (results_cell_row rfl _ _ (w.heap.size + 1) _ _ _ _ rfl HF.out Tryd.underlying58 rfl (by kernel_rfl)) rfl ?_
      exact ⟨_, _, rfl, HO.out.1, HO.out.2⟩

end Go.Proofs.YtidfhgpjpieajaaDoor
