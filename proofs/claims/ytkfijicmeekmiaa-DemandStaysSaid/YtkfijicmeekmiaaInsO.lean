/- The walk of the reference's InsteadOf. -/
import Derived.Test.YtkfijicmeekmiaaIns
import Derived.Test.YtkfijicmeekmiaaClone
import Derived.Maps.AppendAt
namespace Go.Proofs.Ytkfijicmeekmiaa
open Go.RowKit

/-- append(out, y): one number; where the new slice lies. -/
theorem ap_int_at {ops : Array Oper} {rest : List Oper} {o : Oper} {a : Act} {Q : Exit → Act → World → Prop} (w : World) (y : Int) (hgd : o.guard = none) (s x : Operand)
    (ho : o.op = .call { callee := .builtin .append, args := #[s, x], argTypes := #[22, 22] }) (base : Nat) (v : Value) (n : Nat) (l : List Int)
    (hs : a.eval s = v) (hown : w.ownsRow base 3 1 v n (ints l)) (N : Nat) (hN : w.heap.size = N) (hx : a.eval x = .slice (some ⟨N, 0, none⟩) 1 1) (hlen : n ≤ 1000000000) (hbase : base ≤ w.heap.size)
    (h : ∀ v' w', w'.ownsRow base 3 1 v' (n + 1) (ints (l ++ [y])) → (w.alloc (.cells #[.int .i64 y] 3)).grownBy w' v.ownBlock → (v'.ownBlock = v.ownBlock ∨ v'.ownBlock = some (w.heap.size + 1)) → wpList Try.prog ops Q rest (a.put o.dst v') w') :
    wpList Try.prog ops Q (o :: rest) a (w.alloc (.cells #[.int .i64 y] 3)) := by
  subst hN
  obtain ⟨i0, hi, hz0, hz1, hz2⟩ := info_parts Try.infoInt
  refine wpList_append_own_at _ hgd s x 22 ho base 3 i0 (.int .i64 0) 1 8 Try.underlying22 hi hz0 hz1 hz2 rfl (by decide) v n (ints l) hs (hown.alloc _) ⟨w.heap.size, 0, none⟩ 1 1 (ints [y]) hx rfl
    (cells_new w #[.int .i64 y] _) (by simp [ints, Value.oneCell']) (by unfold maxLen; omega) (by omega) (by simp; omega) ?_
  intro v' w' h1 h2 _ h4
  exact h v' w' (by simpa [ints] using h1) h2 (by simpa using h4)

/-- Two slices do not share a block. -/
def Apart (v u : Value) : Prop := ∀ g, v.ownBlock = some g → u.ownBlock ≠ some g
theorem Apart.symm {v u : Value} (h : Apart v u) : Apart u v := fun g hu hv => h g hv hu
theorem Apart.keep {v u : Value} (h : Apart v u) : v.ownBlock = none ∨ v.ownBlock ≠ u.ownBlock := by
  cases hv : v.ownBlock with
  | none => exact .inl rfl
  | some g => exact .inr fun e => h g hv e.symm
theorem Apart.next {w : World} {base e size n : Nat} {v v' u : Value} {xs : List Value} {k : Nat} (h : Apart v u) (hu : w.ownsRow base e size u n xs) (hk : w.heap.size ≤ k) (hv : v'.ownBlock = v.ownBlock ∨ v'.ownBlock = some k) : Apart v' u := by
  intro g hg hug
  rcases hv with hv | hv
  · exact h g (by rw [← hv]; exact hg) hug
  · rw [hv] at hg
    injection hg with hg
    have := (hu.lt g hug).2
    omega

set_option maxRecDepth 100000 in
set_option maxHeartbeats 4000000 in
theorem insteadOf_any (base : Nat) (A B C : Option Addr) (c cb cs : Nat) (R : List (List Int)) (W S : List Int) (w : World) (hr : RdT w base A R) (hW : Rd w 1 B W.length (ints W)) (hS : Rd w 1 C S.length (ints S)) (hF : insF R W S = 0) :
    Calls Try.prog 61 #[.agg #[.slice A R.length c], .slice B W.length cb, .slice C S.length cs] w
      fun e w' => ∃ v1 v2, e = .returned (.tuple #[v1, v2]) ∧ w'.ownsRow w.heap.size 3 1 v1 W.length (ints (insM R S (sold0 W S, lost0 W S) W.length).1) ∧ w'.ownsRow w.heap.size 3 1 v2 W.length (ints (insM R S (sold0 W S, lost0 W S) W.length).2) ∧ w.grownBy w' none := by
  obtain ⟨hF1, hF2, hF3, hF4, hF5⟩ := insF_ok hF
  obtain ⟨⟨hN0, hN30⟩, hrow⟩ := tabF_ok hF1
  have hall := ins_all hF
  have hbW := allB_ok hF4
  have hbS := allB_ok hF5
  have hBx := Blk.new w 70 #[.slice A R.length c]
  have hg0 := grown_alloc (grown_refl w) (.cells #[.slice A R.length c] 70)
  have c0 := hBx.cell 0
  have hcl := cloneInts_any C S.length cs S _ (hS.grown hg0) (by omega)
  obtain ⟨N, hN⟩ : ∃ N, W.length = N := ⟨_, rfl⟩
  have hRN : R.length = N := by omega
  have hSN : S.length = N := by omega
  rw [hN] at hall
  have hN1 : N ≤ 30 := by omega
  have hN2 : 0 < N := by omega
  have HI := Lib.hid (And.intro hN (And.intro hRN (And.intro hSN (And.intro hbW (And.intro hbS (And.intro hrow hall))))))
  rw [hSN, hRN] at hcl
  rw [hN] at hW
  rw [hSN] at hS
  rw [hRN] at hBx hg0 c0
  rw [hN, hRN, hSN]
  have HC := Lib.hid hcl
  clear hF hF1 hF2 hF3 hF4 hF5 hN0 hN30 hrow hall hbW hbS hcl hN hRN hSN
  go_enter Try.func61, Try.ntmps61
  go_wp2_with fail
  refine HC.out.mono ?_
  rintro e w1 ⟨vT, rfl, hoT, hg1⟩
  obtain ⟨gT, cT, rfl, hgT1, hgT2⟩ := hoT.form hN2
  have hB1 := hBx.grown hg1 (by simp)
  have hgg1 := hg0.trans hg1
  have hsz1 := hgg1.size
  have hBlt := hBx.lt
  simp only [World.size_alloc] at hgT1 hoT hBlt
  have hoT' := own_mono hoT (show w.heap.size ≤ w.heap.size + 1 by omega)
  clear HC hBx hg0 c0 hg1 hoT
  rw [← thrM_nil S] at hoT'
  obtain ⟨Z, hZ⟩ : ∃ Z, Z = w1.heap.size := ⟨_, rfl⟩
  have hZ1 : w.heap.size ≤ Z := by omega
  have hZ2 : gT < Z := by omega
  have hZ3 : Z ≤ w1.heap.size := by omega
  have hap0 : Apart (.slice none 0 0) (.slice none 0 0) := fun g h => by cases h
  go_wp2_with fail
  go_loopg [6, 7, 21] N (fun k vS vL i wr => ∃ j : Nat, k + j = N ∧ i = .int .i64 j ∧ wr.ownsRow w.heap.size 3 1 (.slice (some ⟨gT, 0, none⟩) N cT) N (ints (thrM S ((sold0 W S).take j))) ∧ wr.ownsRow Z 3 1 vS j (ints ((sold0 W S).take j)) ∧ wr.ownsRow Z 3 1 vL j (ints ((lost0 W S).take j)) ∧ Apart vS vL ∧ Blk wr w.heap.size 70 #[.slice A N c] ∧ w.grownBy wr none ∧ Z ≤ wr.heap.size)
  case atStart => exact ⟨0, by omega, rfl, hoT', World.ownsRow_nil _ _ _ _, World.ownsRow_nil _ _ _ _, hap0, hB1, hgg1, hZ3⟩
  case round =>
    obtain ⟨j, hj, rfl, hoT, hoS, hoL, hap, hBr, hg, hZr⟩ := hrel
    generalize u6 = vS at *
    generalize u7 = vL at *
    by_cases hlt : j < N
    · obtain ⟨b1, off1, rfl, hb1, x, hx, cx⟩ := int_cells (hW.grown hg) hlt
      obtain ⟨hN, hRN, hSN, hbW, hbS, _⟩ := HI.out
      have hy := getD_at (l := S) (j := j) (by omega)
      obtain ⟨y, hyy⟩ : ∃ y, y = S.getD j 0 := ⟨_, rfl⟩
      rw [← hyy] at hy
      have x0 := hbW x (List.mem_of_getElem? hx)
      have y0 := hbS y (List.mem_of_getElem? hy)
      have hs0 := sold0_at (W := W) (S := S) (j := j) (by omega)
      have hl0 := lost0_at (W := W) (S := S) (j := j) (by omega)
      rw [show W.getD j 0 = x from by rw [List.getD_eq_getElem?_getD, hx]; rfl, ← hyy] at hs0 hl0
      obtain ⟨m, hm⟩ : ∃ m, m = if x ≤ y then x else y := ⟨_, rfl⟩
      rw [← hm] at hs0 hl0
      have htS := take_at hs0
      have htL := take_at hl0
      have hlS : ((sold0 W S).take j).length = j := by rw [List.length_take]; simp [sold0]; omega
      have hlT := thrM_len S ((sold0 W S).take j)
      have hth := thrM_snoc (S := S) (so := (sold0 W S).take j) (by omega) m
      rw [hlS, ← htS, ← hyy] at hth
      have htc : (thrM S ((sold0 W S).take j)).getD j 0 = y := by
        rw [thrM_at (by omega), ← hyy, List.getD_eq_getElem?_getD, List.getElem?_eq_none (by omega)]
        simp
      have e1 := own_int hoT hlt
      rw [htc] at e1
      have f1 := hoT.frozenAt j
      have t1 := own_int_set hoT j (y - m)
      rw [← hth] at t1
      have hS1 := hoS.kept (grown_set (World.grownBy.refl wr (some gT)) (p := ⟨gT, j, none⟩) (.inr rfl) (.int .i64 (y - m))) (own_ne hoS hZ2)
      have hL1 := hoL.kept (grown_set (World.grownBy.refl wr (some gT)) (p := ⟨gT, j, none⟩) (.inr rfl) (.int .i64 (y - m))) (own_ne hoL hZ2)
      have hB2 := hBr.far (p := ⟨gT, j, none⟩) (by simp; omega) (.int .i64 (y - m))
      have hg2 := grown_set (p := ⟨gT, j, none⟩) hg (.inl (by simp; omega)) (.int .i64 (y - m))
      have hZ2' : Z ≤ (wr.setCell ⟨gT, j, none⟩ (.int .i64 (y - m))).heap.size := by simpa using hZr
      have HT := Lib.hid (And.intro htS (And.intro htL hj))
      have HM := Lib.hid hm
      clear hN hRN hSN hbW hbS hx hy hs0 hl0 hlS hlT hth htc htS htL hyy hoT hoS hoL hBr hg hj hm
      obtain ⟨d, hd⟩ : ∃ d, d = y - m := ⟨_, rfl⟩
      rw [← hd] at t1 hS1 hL1 hB2 hg2 hZ2'
      obtain ⟨d2, hd2⟩ : ∃ d, d = x - m := ⟨_, rfl⟩
      have hnx : ∀ w5 w6 v5 v6, w5.ownsRow Z 3 1 v5 (j + 1) (ints ((sold0 W S).take j ++ [m])) → ((wr.setCell ⟨gT, j, none⟩ (.int .i64 d)).alloc (.cells #[.int .i64 m] 3)).grownBy w5 vS.ownBlock → (v5.ownBlock = vS.ownBlock ∨ v5.ownBlock = some ((wr.setCell ⟨gT, j, none⟩ (.int .i64 d)).heap.size + 1)) →
          w6.ownsRow Z 3 1 v6 (j + 1) (ints ((lost0 W S).take j ++ [d2])) → (w5.alloc (.cells #[.int .i64 d2] 3)).grownBy w6 vL.ownBlock → (v6.ownBlock = vL.ownBlock ∨ v6.ownBlock = some (w5.heap.size + 1)) →
          w6.ownsRow w.heap.size 3 1 (.slice (some ⟨gT, 0, none⟩) N cT) N (ints (thrM S ((sold0 W S).take (j + 1)))) ∧ w6.ownsRow Z 3 1 v5 (j + 1) (ints ((sold0 W S).take (j + 1))) ∧ w6.ownsRow Z 3 1 v6 (j + 1) (ints ((lost0 W S).take (j + 1))) ∧ Apart v5 v6 ∧ Blk w6 w.heap.size 70 #[.slice A N c] ∧ w.grownBy w6 none ∧ Z ≤ w6.heap.size := by
        intro w5 w6 v5 v6 o5 g5 k5 o6 g6 k6
        have hfar : ∀ (v : Value) (xs : List Value) (wz : World), wz.ownsRow Z 3 1 v j xs → (Value.slice (some ⟨gT, 0, none⟩) N cT).ownBlock = none ∨ (Value.slice (some ⟨gT, 0, none⟩) N cT).ownBlock ≠ v.ownBlock := by
          intro v xs wz h
          refine .inr fun e => ?_
          have := (h.lt gT (by rw [← e]; rfl)).1
          omega
        have hL2 := hL1.alloc (.cells #[.int .i64 m] 3)
        have hL5 := hL2.kept g5 hap.symm.keep
        have ap5 : Apart v5 vL := hap.next hL1 (by omega) k5
        have hsz5 := g5.size
        simp only [World.size_alloc] at hsz5
        have ap6 : Apart v6 v5 := Apart.next ap5.symm o5 (by omega) k6
        have o5' := (o5.alloc (.cells #[.int .i64 d2] 3)).kept g6 ap5.keep
        have t5 := (t1.alloc (.cells #[.int .i64 m] 3)).kept g5 (hfar _ _ _ hS1)
        have t6 := (t5.alloc (.cells #[.int .i64 d2] 3)).kept g6 (hfar _ _ _ hL5)
        have hBf : ∀ (v : Value) (xs : List Value) (wz : World), wz.ownsRow Z 3 1 v j xs → some w.heap.size ≠ v.ownBlock := by
          intro v xs wz h e
          have := (h.lt _ e.symm).1
          omega
        have b5 := (hB2.alloc (.cells #[.int .i64 m] 3)).grown g5 (hBf _ _ _ hS1)
        have b6 := (b5.alloc (.cells #[.int .i64 d2] 3)).grown g6 (hBf _ _ _ hL5)
        have q5 := ap_grown hg2 hS1 g5 hZ1
        have q6 := ap_grown q5 hL5 g6 hZ1
        have hsz6 := g6.size
        simp only [World.size_alloc] at hsz6
        rw [HT.out.1, HT.out.2.1]
        rw [HT.out.1] at t6
        rw [← hd2]
        exact ⟨t6, o5', o6, ap6.symm, b6, q6, by omega⟩
      have HX := Lib.hid hnx
      have hwd : IntKind.i64.wrap (y - m) = d := by rw [hd]; refine IntWalk.i64_in _ ?_; rw [HM.out]; split <;> omega
      have hapL := hap.symm.keep
      clear hnx t1 hB2 hg2 hap
      have hj1 : j ≤ 1000000000 := by omega
      have hNw : (wr.setCell ⟨gT, j, none⟩ (.int .i64 d)).heap.size = wr.heap.size := by simp
      by_cases hmn : x ≤ y
      · have hmm : m = x := by rw [HM.out, if_pos hmn]
        subst hmm
        have hd0 : d2 = 0 := by omega
        subst hd0
        clear hd2
        have HD := Lib.hid hd
        clear hd
        go_wp2_with (at_builtin; first
          | (refine ap_int_at w5 0 rfl _ _ rfl Z vL j _ rfl hL5 _ rfl rfl hj1 hZ5 ?_; intro v6 w6 o6 g6 k6)
          | (refine ap_int_at (wr.setCell ⟨gT, j, none⟩ (.int .i64 d)) m rfl _ _ rfl Z vS j _ rfl hS1 wr.heap.size hNw rfl hj1 hZ2' ?_; intro v5 w5 o5 g5 k5; have hL5 := (hL1.alloc (.cells #[.int .i64 m] 3)).kept g5 hapL; have hZ5 : Z ≤ w5.heap.size := by have h1 := g5.size; simp at h1 hZ2'; omega))
        obtain ⟨q1, q2, q3, q4, q5, q6, q7⟩ := HX.out w5 w6 v5 v6 o5 g5 k5 o6 g6 k6
        have hj := HT.out.2.2
        go_roundg (gk - 1)
        case measure => omega
        case rel => exact ⟨j + 1, by omega, by go_num, q1, q2, q3, q4, q5, q6, q7⟩
      · have hmm : m = y := by rw [HM.out, if_neg hmn]
        subst hmm
        have hd0 : d = 0 := by omega
        subst hd0
        clear hd
        have hwd2 : IntKind.i64.wrap (x - m) = d2 := by rw [hd2]; exact IntWalk.i64_in _ (by omega)
        have HD := Lib.hid hd2
        clear hd2
        go_wp2_with (at_builtin; first
          | (refine ap_int_at w5 d2 rfl _ _ rfl Z vL j _ rfl hL5 _ rfl rfl hj1 hZ5 ?_; intro v6 w6 o6 g6 k6)
          | (refine ap_int_at (wr.setCell ⟨gT, j, none⟩ (.int .i64 0)) m rfl _ _ rfl Z vS j _ rfl hS1 wr.heap.size hNw rfl hj1 hZ2' ?_; intro v5 w5 o5 g5 k5; have hL5 := (hL1.alloc (.cells #[.int .i64 m] 3)).kept g5 hapL; have hZ5 : Z ≤ w5.heap.size := by have h1 := g5.size; simp at h1 hZ2'; omega))
        obtain ⟨q1, q2, q3, q4, q5, q6, q7⟩ := HX.out w5 w6 v5 v6 o5 g5 k5 o6 g6 k6
        have hj := HT.out.2.2
        go_roundg (gk - 1)
        case measure => omega
        case rel => exact ⟨j + 1, by omega, by go_num, q1, q2, q3, q4, q5, q6, q7⟩
    · obtain rfl : j = N := by omega
      rw [List.take_of_length_le (by simp [sold0, HI.out.1])] at hoT hoS
      rw [List.take_of_length_le (by simp [lost0, HI.out.1])] at hoL
      obtain ⟨gS, cS, rfl, hgS1, _⟩ := hoS.form hN2
      obtain ⟨gL, cL, rfl, hgL1, _⟩ := hoL.form hN2
      have hSL : gS ≠ gL := fun e => hap gS rfl (by rw [e]; rfl)
      have hLS : gL ≠ gS := Ne.symm hSL
      have hTS : gT ≠ gS := by omega
      have hST : gS ≠ gT := by omega
      have hTL : gT ≠ gL := by omega
      have hLT : gL ≠ gT := by omega
      clear hap hap0 hlt hj hZ hZr hZ3 hgg1 hB1 hoT' hgT2 hsz1 hBlt
      have cB := hBr.cell 0
      go_wp2_with fail
      clear cB
      obtain ⟨s0, hs0⟩ : ∃ s0, s0 = (sold0 W S, lost0 W S) := ⟨_, rfl⟩
      rw [show sold0 W S = s0.1 from by rw [hs0]] at hoS hoT
      rw [show lost0 W S = s0.2 from by rw [hs0]] at hoL
      have H0 := Lib.hid hs0
      clear hs0
      go_loopg [52] j (fun k i wr => ∃ r : Nat, k + r = j ∧ i = .int .i64 r ∧ wr.ownsRow w.heap.size 3 1 (.slice (some ⟨gT, 0, none⟩) j cT) j (ints (thrM S (insM R S s0 r).1)) ∧ wr.ownsRow Z 3 1 (.slice (some ⟨gS, 0, none⟩) j cS) j (ints (insM R S s0 r).1) ∧ wr.ownsRow Z 3 1 (.slice (some ⟨gL, 0, none⟩) j cL) j (ints (insM R S s0 r).2) ∧ Blk wr w.heap.size 70 #[.slice A j c] ∧ w.grownBy wr none)
      case atStart => exact ⟨0, by omega, rfl, hoT, hoS, hoL, hBr, hg⟩
      case round =>
        clear hoT hoS hoL hBr hg
        obtain ⟨r, hr', rfl, hoT, hoS, hoL, hBr, hg⟩ := hrel
        generalize gk = ko at *
        by_cases hlt : r < j
        · obtain ⟨hN, hRN, hSN, hbW, hbS, hrow, hall⟩ := HI.out
          obtain ⟨b, off, rfl, hb, l, hl, Ai, ci, cR, hrl⟩ := hr.row (show r < R.length by omega)
          obtain ⟨hlN, hl0, _, hl100⟩ := hrow r l hl
          have hI := hall r (by omega)
          rw [← H0.out] at hI
          have hsucc := insM_succ (S := S) (s := s0) hl
          have hlf := hI.2.2.2.1 r (by omega)
          have hrows := hI.rows (i := r) (by omega) hlf.1 (Int.le_refl _) (by omega) (fun x hx => (hl0 x hx).1) hl100
          have c1 := own_int hoL hlt
          have cR' := hg.cell cR (by simp)
          have cB := hBr.cell 0
          have hlj : l.length = j := by omega
          rw [hlj] at cR' hsucc hrl
          generalize insM R S s0 r = s at *
          obtain ⟨lf, hlfe⟩ : ∃ lf, lf = s.2.getD r 0 := ⟨_, rfl⟩
          rw [← hlfe] at hsucc hlf hrows c1
          have HR := Lib.hid (And.intro hsucc (And.intro hrows (And.intro hl0 (And.intro hr' hlj))))
          clear hsucc hrows hl0 hr' hlj hN hRN hSN hbW hbS hrow hall hl100 hlN hI hl hlfe cR hb
          have hrj : (r : Int) < (j : Int) := by omega
          go_wp2_with fail
          go_loopg [65] j (fun k i wr => ∃ m : Nat, k + m = j ∧ i = .int .i64 m ∧ wr.ownsRow w.heap.size 3 1 (.slice (some ⟨gT, 0, none⟩) j cT) j (ints (thrM S (rowM S l lf r s m).1)) ∧ wr.ownsRow Z 3 1 (.slice (some ⟨gS, 0, none⟩) j cS) j (ints (rowM S l lf r s m).1) ∧ wr.ownsRow Z 3 1 (.slice (some ⟨gL, 0, none⟩) j cL) j (ints (rowM S l lf r s m).2) ∧ Blk wr w.heap.size 70 #[.slice (some ⟨b, off, none⟩) j c] ∧ w.grownBy wr none)
          case atStart => exact ⟨0, by omega, rfl, hoT, hoS, hoL, hBr, hg⟩
          case round =>
            clear hoT hoS hoL hBr hg c1 cR' cB
            obtain ⟨m, hm, rfl, hoT, hoS, hoL, hBr, hg⟩ := hrel
            by_cases hltm : m < j
            · obtain ⟨b1, off1, rfl, hb1, p, hp, cp⟩ := int_cells (hrl.grown hg) hltm
              obtain ⟨hsucc, hrows, hl0, hr', hlj⟩ := HR.out
              obtain ⟨hN, hRN, hSN, hbW, hbS, _⟩ := HI.out
              have p0 := hl0 p (List.mem_of_getElem? hp)
              obtain ⟨y, hgy⟩ : ∃ y, S.getD m 0 = y := ⟨_, rfl⟩
              have y0 := hbS _ (List.mem_of_getElem? (getD_at (l := S) (j := m) (by omega)))
              rw [hgy] at y0
              obtain ⟨⟨_, _, l3, l4, _⟩, _⟩ := hrows m (by omega)
              obtain ⟨⟨_, _, l3', l4', _⟩, _⟩ := hrows (m + 1) (by omega)
              have a3 := (l3 m (by omega))
              have a4 := l4 r (by omega)
              have a3' := (l3' m (by omega)).2
              have a4' := l4' r (by omega)
              have hst := rowM_succ S l lf r s m
              rw [show l.getD m 0 = p from by rw [List.getD_eq_getElem?_getD, hp]; rfl] at hst
              rw [hst] at a3' a4'
              generalize rowM S l lf r s m = s2 at *
              unfold stpM at hst a3' a4'
              rw [hgy] at hst a3' a4' a3
              have e0 := own_int hoT hltm
              rw [thrM_at (by omega), hgy] at e0
              have e1 := own_int hoS hltm
              have e2 := own_int hoL (show r < j by omega)
              have f0 := hoT.frozenAt m
              have f1 := hoS.frozenAt m
              have f2 := hoL.frozenAt r
              have hl1 : s2.1.length = j := by have := hoS.1; simpa [ints] using this
              have hl2 : s2.2.length = j := by have := hoL.1; simpa [ints] using this
              dsimp only at a3' a4'
              rw [getD_set (by omega), if_pos rfl] at a3' a4'
              obtain ⟨so, hso⟩ : ∃ so, so = s2.1.getD m 0 := ⟨_, rfl⟩
              obtain ⟨lo, hlo⟩ : ∃ lo, lo = s2.2.getD r 0 := ⟨_, rfl⟩
              rw [← hso, ← hlo] at hst
              rw [← hso] at a3' a3 e1 a4' e0
              rw [← hlo] at a4' a4 e2
              have hw0 := (hbW _ (List.mem_of_getElem? (getD_at (l := W) (j := m) (by omega)))).1
              have so0 : 0 ≤ so := by
                have h1 := a3.1
                split at h1 <;> omega
              have k0 := (takM_rng (st := y) hlf.1 p0.1 a3.2).1
              have hq0 : 0 ≤ lf * p := Int.mul_nonneg hlf.1 p0.1
              have hq1 : lf * p ≤ 1000000 * 100 := Int.mul_le_mul hlf.2 p0.2 p0.1 (by omega)
              obtain ⟨q, hq⟩ : ∃ q, q = lf * p / 100 := ⟨_, rfl⟩
              have q0 : 0 ≤ q ∧ q ≤ 1000000 := by omega
              obtain ⟨k, hk⟩ : ∃ k, k = takM lf p y so := ⟨_, rfl⟩
              rw [← hk] at hst a3' a4' k0
              obtain ⟨u, hu⟩ : ∃ u, u = y - so := ⟨_, rfl⟩
              have hk2 : k = if q ≤ u then q else u := by rw [hk, hu]; unfold takM; rw [hq]
              rw [← hu] at e0 k0
              have hthr := thrM_set (S := S) (so := s2.1) (j := m) (by omega) (by omega) (so + k)
              rw [hgy, show y - (so + k) = u - k from by omega] at hthr
              have wq1 : (lf * p) / 100 = q := hq.symm
              have wq2 : (lf * p).tdiv 100 = q := by rw [Int.tdiv_eq_ediv_of_nonneg hq0, wq1]
              have wq : IntKind.i64.wrap q = q := IntWalk.i64_in _ (by omega)
              have wuk : IntKind.i64.wrap (u - k) = u - k := IntWalk.i64_in _ (by omega)
              have wsk : IntKind.i64.wrap (so + k) = so + k := IntWalk.i64_in _ (by omega)
              have wlk : IntKind.i64.wrap (lo - k) = lo - k := IntWalk.i64_in _ (by omega)
              have g1 := fun wz : World => grown_set (World.grownBy.refl wz (some gT)) (p := ⟨gT, m, none⟩) (.inr rfl) (.int .i64 (u - k))
              have g2 := fun wz : World => grown_set (World.grownBy.refl wz (some gS)) (p := ⟨gS, m, none⟩) (.inr rfl) (.int .i64 (so + k))
              have g3 := fun wz : World => grown_set (World.grownBy.refl wz (some gL)) (p := ⟨gL, r, none⟩) (.inr rfl) (.int .i64 (lo - k))
              have t1 := (((own_int_set hoT m (u - k)).kept (g2 _) (.inr (by simpa [Value.ownBlock] using hTS))).kept (g3 _) (.inr (by simpa [Value.ownBlock] using hTL)))
              rw [← hthr] at t1
              have t2 := (own_int_set (hoS.kept (g1 _) (.inr (by simpa [Value.ownBlock] using hST))) m (so + k)).kept (g3 _) (.inr (by simpa [Value.ownBlock] using hSL))
              have t3 := own_int_set ((hoL.kept (g1 _) (.inr (by simpa [Value.ownBlock] using hLT))).kept (g2 _) (.inr (by simpa [Value.ownBlock] using hLS))) r (lo - k)
              have hgw : w.heap.size ≤ gT := by omega
              have hB4 := ((hBr.far (p := ⟨gT, m, none⟩) (by simp; omega) (.int .i64 (u - k))).far (p := ⟨gS, m, none⟩) (by simp; omega) (.int .i64 (so + k))).far (p := ⟨gL, r, none⟩) (by simp; omega) (.int .i64 (lo - k))
              have hg4 := grown_set (p := ⟨gL, r, none⟩) (grown_set (p := ⟨gS, m, none⟩) (grown_set (p := ⟨gT, m, none⟩) hg (.inl hgw) (.int .i64 (u - k))) (.inl (by simp; omega)) (.int .i64 (so + k))) (.inl (by simp; omega)) (.int .i64 (lo - k))
              have HU := Lib.hid (And.intro t1 (And.intro t2 (And.intro t3 (And.intro hst (And.intro hm (And.intro hB4 hg4))))))
              have HK2 := Lib.hid hk2
              clear t1 t2 t3 g1 g2 g3 hst hm hB4 hg4 l3 l4 l3' l4' hl1 hl2 hoT hoS hoL hBr hg hso hlo hq hk hgy hp hN hRN hSN hbW hbS hl0 hr' hlj hsucc hrows hthr hu hk2
              by_cases hmn : q ≤ u
              case' pos =>
                have hmk : q = k := by rw [HK2.out, if_pos hmn]
              case' neg =>
                have hmk : u = k := by rw [HK2.out, if_neg hmn]
              all_goals
                go_wp2_with fail
                obtain ⟨t1, t2, t3, hst, hm, hB4, hg4⟩ := HU.out
                go_roundg (gk - 1)
                case measure => omega
                case rel =>
                  refine ⟨m + 1, by omega, by go_num, ?_, ?_, ?_, ?_, ?_⟩
                  · rw [hst]; first | exact t1 | (rw [hmk, Int.sub_self] at t1; exact t1)
                  · rw [hst]; first | exact t2 | (rw [hmk, Int.sub_self] at t2; exact t2)
                  · rw [hst]; first | exact t3 | (rw [hmk, Int.sub_self] at t3; exact t3)
                  · first | exact hB4 | (rw [hmk, Int.sub_self] at hB4; exact hB4)
                  · first | exact hg4 | (rw [hmk, Int.sub_self] at hg4; exact hg4)
            · obtain rfl : m = j := by omega
              obtain ⟨hsucc, _, _, hr', _⟩ := HR.out
              rw [← hsucc] at hoT hoS hoL
              go_wp2_with fail
              go_roundg (ko - 1)
              case measure => omega
              case rel => exact ⟨r + 1, by omega, by go_num, hoT, hoS, hoL, hBr, hg⟩
        · obtain rfl : r = j := by omega
          rw [H0.out] at hoS hoL
          go_wp2_with fail
          go_ret2
          exact ⟨_, _, rfl, own_mono hoS hZ1, own_mono hoL hZ1, hg⟩

end Go.Proofs.Ytkfijicmeekmiaa
