/- The walk of the reference's WeekOf. -/
import Derived.Test.YtkfijicmeekmiaaWeek
namespace Go.Proofs.Ytkfijicmeekmiaa
open Go.RowKit

theorem own_kept {w w' : World} {base e size n : Nat} {v : Value} {xs : List Value} (h : w.ownsRow base e size v n xs) (hg : w.grownBy w' none) : w'.ownsRow base e size v n xs :=
  h.kept hg (by cases hb : v.ownBlock with
    | none => exact .inl rfl
    | some g => exact .inr (by simp))
theorem own_store {w0 w : World} {base e size n n0 : Nat} {v : Value} {xs xs0 : List Value} (h0 : w0.ownsRow base e size v n0 xs0) {O : Nat} (hO : w0.heap.size ≤ O) (h : w.ownsRow base e size v n xs) (i : Nat) (x : Value) : (w.setCell ⟨O, i, none⟩ x).ownsRow base e size v n xs :=
  h.kept (grown_set (World.grownBy.refl w (some O)) (.inr rfl) x) (by cases hb : v.ownBlock with
    | none => exact .inl rfl
    | some g => exact .inr (by have := (h0.lt g hb).2; intro e; injection e with e; omega))

theorem frc_one (x y : Int) : ∀ u ∈ ints [x, y], u.oneCell' = true := by
  intro u hu
  simp only [ints, List.map_cons, List.map_nil, List.mem_cons, List.not_mem_nil, or_false] at hu
  rcases hu with rfl | rfl <;> rfl

/-- append(out, f): one fraction. -/
theorem ap_frc {ops : Array Oper} {rest : List Oper} {o : Oper} {a : Act} {Q : Exit → Act → World → Prop} (w : World) (x y : Int) (hgd : o.guard = none) (s z : Operand)
    (ho : o.op = .call { callee := .builtin .append, args := #[s, z], argTypes := #[36, 36] }) (base : Nat) (v : Value) (m : Nat) (l : List Int) (hl : l.length = 2 * m)
    (hs : a.eval s = v) (hown : w.ownsRow base 31 2 v m (ints l)) (N : Nat) (hN : w.heap.size = N) (hx : a.eval z = .slice (some ⟨N, 0, none⟩) 1 1) (hlen : m ≤ 1000000000) (hbase : base ≤ w.heap.size)
    (h : ∀ v' w', w'.ownsRow base 31 2 v' (m + 1) (ints (l ++ [x, y])) → (w.alloc (.cells #[.int .i64 x, .int .i64 y] 31)).grownBy w' v.ownBlock → wpList Try.prog ops Q rest (a.put o.dst v') w') :
    wpList Try.prog ops Q (o :: rest) a (w.alloc (.cells #[.int .i64 x, .int .i64 y] 31)) := by
  subst hN
  obtain ⟨i0, hi, hz0, hz1, hz2⟩ := info_parts Try.infoFrc
  refine wpList_append_own _ hgd s z 36 ho base 31 i0 (.agg #[.int .i64 0, .int .i64 0]) 2 16 Try.underlying36 hi hz0 hz1 hz2 rfl (by decide) v m (ints l) hs (hown.alloc _) ⟨w.heap.size, 0, none⟩ 1 1 (ints [x, y]) hx rfl
    (cells_new w #[.int .i64 x, .int .i64 y] _) (frc_one x y) (by unfold maxLen; omega) (by omega) (by simp; omega) ?_
  intro v' w' h1 h2 _
  exact h v' w' (by simpa [ints] using h1) h2

set_option maxRecDepth 100000 in
set_option maxHeartbeats 1000000 in
theorem refWeek_any (A : Option Addr) (n c : Nat) (l : List Sal) (w : World) (hr : Rd w 3 A n (salFlat l)) (hn : n ≤ 400) (hf : dayFault l = 0) :
    Calls Try.prog 25 #[.slice A n c] w fun e w' => ∃ v, e = .returned v ∧ w'.ownsRow w.heap.size 31 2 v 7 (ints (wkRow l 7)) ∧ w.grownBy w' none := by
  obtain ⟨hl400, hok⟩ := days_ok hf
  have hm := fun w1 (hg : w.grownBy w1 none) => refRateOf_all A n c l w1 (hr.grown hg) hn fun t ht => (hok t ht).2
  unfold meanV frac at hm
  have hmb := mean_bound (p := lastB) (fun t ht => (hok t ht).2) hl400
  have HC := Lib.hid (And.intro hm (And.intro hok hmb))
  clear hm hmb hok hf
  obtain ⟨q, hq⟩ : ∃ q, q = decide (cntP lastB l ≠ 0) := ⟨_, rfl⟩
  obtain ⟨a, ha⟩ : ∃ a, a = meanN lastB l := ⟨_, rfl⟩
  obtain ⟨b, hb⟩ : ∃ b, b = meanD lastB l := ⟨_, rfl⟩
  rw [← ha, ← hb, ← hq] at HC
  have HE := Lib.hid (And.intro hq (And.intro ha hb))
  clear hq ha hb
  go_enter Try.func25, Try.ntmps25
  go_wp2_with fail
  refine (HC.out.1 _ (grown_refl _)).mono ?_
  rintro e w2 ⟨rfl, hg2⟩
  have hB0 := Blk.new w2 31 #[.int .i64 a, .int .i64 b]
  have hg3 := grown_alloc hg2 (.cells #[.int .i64 a, .int .i64 b] 31)
  have hwz := hg2.size
  have hz1 : (w2.alloc (.cells #[.int .i64 a, .int .i64 b] 31)).heap.size = w2.heap.size + 1 := by simp
  obtain ⟨F, hF⟩ : ∃ F, F = w2.heap.size := ⟨_, rfl⟩
  rw [← hF] at hB0 hz1 hwz
  go_wp2_with fail
  rw [← hF]
  generalize w2.alloc (.cells #[.int .i64 a, .int .i64 b] 31) = w3 at *
  clear hF hg2
  go_loopg [5, 14] 7 (fun k v i wr => ∃ j : Nat, k + j = 7 ∧ i = .int .i64 j ∧ Blk wr F 31 #[.int .i64 a, .int .i64 b] ∧ wr.ownsRow w3.heap.size 31 2 v j (ints (wkRow l j)) ∧ w.grownBy wr none ∧ w3.heap.size ≤ wr.heap.size)
  case atStart => exact ⟨0, by omega, rfl, hB0, World.ownsRow_nil _ _ _ _, hg3, Nat.le_refl _⟩
  case round =>
    obtain ⟨j, hj, rfl, hBF, hown, hg, hw3r⟩ := hrel
    by_cases hlt : j < 7
    · have hD := Blk.new wr 3 #[.int .i64 j]
      have hgD := grown_alloc hg (.cells #[.int .i64 j] 3)
      have hmean := rateOf1_any 80 (.pointer (some ⟨wr.heap.size, 0, none⟩)) (wdB j) A n c l (wr.alloc (.cells #[.int .i64 j] 3)) (hr.grown hgD) hn (fun t ht => (HC.out.2.1 t ht).2)
        (enters_of Try.func80 (by kernel_rfl) rfl) (fun x w1 hw1 => refWeek1_any j wr.heap.size x w1 (hw1.cell (hD.cell 0) (by simp)))
      rw [show (fun t : Sal => !t.o && wdB j t) = wkB j from rfl] at hmean
      have hob := mean_bound (p := wkB j) (l := l) (fun t ht => (HC.out.2.1 t ht).2) hl400
      have hN : wkN l j = if cntP (wkB j) l ≠ 0 ∧ 0 < meanN lastB l then lowN (meanN (wkB j) l * meanD lastB l) (meanD (wkB j) l * meanN lastB l) else 1 := rfl
      have hDn : wkD l j = if cntP (wkB j) l ≠ 0 ∧ 0 < meanN lastB l then lowD (meanN (wkB j) l * meanD lastB l) (meanD (wkB j) l * meanN lastB l) else 1 := rfl
      rw [← HE.out.2.1, ← HE.out.2.2] at hN hDn
      have hsucc := wkRow_succ l j
      have hlen := wkRow_len l j
      unfold meanV frac at hmean
      generalize wkRow l j = X at *
      generalize wkN l j = yN at *
      generalize wkD l j = yD at *
      generalize meanN (wkB j) l = oN at *
      generalize meanD (wkB j) l = oD at *
      generalize hcq : cntP (wkB j) l = cq at *
      have HM := Lib.hid hmean
      have HS := Lib.hid (And.intro hsucc (And.intro hj (And.intro hob (And.intro hN hDn))))
      have hBFD := hBF.alloc (.cells #[.int .i64 j] 3)
      have hownD := hown.alloc (.cells #[.int .i64 j] 3)
      have hltF := hBF.lt
      have hjj : (j : Int) < 7 := by omega
      clear hmean hob hN hDn hsucc hj hBF hB0 hg3
      go_wp2_with fail
      refine HM.out.mono ?_
      rintro e w5 ⟨rfl, hg5⟩
      have hBF5 := hBFD.grown hg5 (by simp)
      have hown5 := own_kept hownD hg5
      have hgg5 := hgD.trans hg5
      have hlt5 := hg5.size
      have hlt6 : wr.heap.size < w5.heap.size := by simp at hlt5; omega
      have hO := Blk.new w5 31 #[.int .i64 oN, .int .i64 oD]
      have hBF6 := hBF5.alloc (.cells #[.int .i64 oN, .int .i64 oD] 31)
      have hown6 := hown5.alloc (.cells #[.int .i64 oN, .int .i64 oD] 31)
      have hg6 := grown_alloc hgg5 (.cells #[.int .i64 oN, .int .i64 oD] 31)
      have hz6 : (w5.alloc (.cells #[.int .i64 oN, .int .i64 oD] 31)).heap.size = w5.heap.size + 1 := by simp
      clear hD hBFD hownD hBF5 hg5 hgg5 hgD HM hg
      obtain ⟨g0, g1, _, _⟩ := hBF6.two
      obtain ⟨p0, p1, f0, f1⟩ := hO.two
      have ha0 : 0 ≤ a := by
        by_cases h0 : cntP lastB l = 0
        · have h1 := HE.out.2.1
          unfold meanN at h1
          rw [if_pos h0] at h1
          omega
        · exact (HC.out.2.2 h0).2.2.1
      by_cases hq0 : cq ≠ 0 ∧ 0 < a
      · have hql : cntP lastB l ≠ 0 := by
          intro h0
          have h1 := HE.out.2.1
          unfold meanN at h1
          rw [if_pos h0] at h1
          omega
        obtain ⟨b0, b1, _, a1⟩ := HC.out.2.2 hql
        obtain ⟨d0, d1, n0, n1⟩ := HS.out.2.2.1 hq0.1
        have m0 : 0 ≤ oN * b := Int.mul_nonneg n0 (by omega)
        have m1 : oN * b ≤ 1000000 * 1000000 := Int.mul_le_mul n1 b1 (by omega) (by omega)
        have m2 : 0 < oD * a := Int.mul_pos d0 hq0.2
        have m3 : oD * a ≤ 1000000 * 1000000 := Int.mul_le_mul d1 a1 (by omega) (by omega)
        have hov := fun w => refPart_any (oN * b) (oD * a) w (by omega) (by omega) m2 (by omega)
        have hY : lowN (oN * b) (oD * a) = yN ∧ lowD (oN * b) (oD * a) = yD := by
          obtain ⟨_, _, _, hN, hDn⟩ := HS.out
          rw [if_pos hq0] at hN hDn
          exact ⟨hN.symm, hDn.symm⟩
        unfold frac at hov
        rw [hY.1, hY.2] at hov
        have HOV := Lib.hid hov
        have hdq : decide (cq ≠ 0) = true := by simp [hq0.1]
        have han : (a == 0) = false := by rw [beq_eq_false_iff_ne]; omega
        rw [hdq]
        clear hov hY hdq
        go_wp2_with fail
        refine (HOV.out _).mono ?_
        rintro e w9 ⟨rfl, hg9⟩
        have hO9 := hO.grown hg9 (by simp)
        have hBF9 := hBF6.grown hg9 (by simp)
        have hown9 := own_kept hown6 hg9
        have hgg9 := hg6.trans hg9
        have hsz9 := hg9.size
        obtain ⟨z0, z1, z2, z3⟩ := hO9.two
        clear p0 p1 f0 f1 g0 g1 hO hBF6 hown6
        have o1 := own_store hown5 (O := w5.heap.size) (by omega) (own_store hown5 (O := w5.heap.size) (by omega) hown9 0 (.int .i64 yN)) 1 (.int .i64 yD)
        have hBFz := ((hBF9).far (p := ⟨w5.heap.size, 0, none⟩) (by simp; omega) (.int .i64 yN)).far (p := ⟨w5.heap.size, 1, none⟩) (by simp; omega) (.int .i64 yD)
        have hgz := grown_set (p := ⟨w5.heap.size, 1, none⟩) (grown_set (p := ⟨w5.heap.size, 0, none⟩) hgg9 (.inl (by simp; omega)) (.int .i64 yN)) (.inl (by simp; omega)) (.int .i64 yD)
        have hzz : w3.heap.size ≤ ((w9.setCell ⟨w5.heap.size, 0, none⟩ (.int .i64 yN)).setCell ⟨w5.heap.size, 1, none⟩ (.int .i64 yD)).heap.size := by simp; omega
        have hNz : ((w9.setCell ⟨w5.heap.size, 0, none⟩ (.int .i64 yN)).setCell ⟨w5.heap.size, 1, none⟩ (.int .i64 yD)).heap.size = w9.heap.size := by simp
        have hj9 : j ≤ 1000000000 := by omega
        go_wp2_with (at_builtin; refine ap_frc ((w9.setCell ⟨w5.heap.size, 0, none⟩ (.int .i64 yN)).setCell ⟨w5.heap.size, 1, none⟩ (.int .i64 yD)) yN yD rfl _ _ rfl w3.heap.size _ j X hlen rfl o1 _ hNz rfl hj9 hzz ?_; intro v8 w8 hown8 hg8)
        obtain ⟨hsucc, hj, _, hN, hDn⟩ := HS.out
        have hg38 := hg8.size
        go_roundg (gk - 1)
        case measure => omega
        case rel =>
          refine ⟨j + 1, by omega, by go_num, (hBFz.alloc _).grown hg8 (by intro e; have := (o1.lt F e.symm).1; omega), by rw [hsucc]; exact hown8, ap_grown hgz o1 hg8 (by omega), ?_⟩
          simp at hg38
          omega
      · have hN2 : yN = 1 ∧ yD = 1 := by
          obtain ⟨_, _, _, hN, hDn⟩ := HS.out
          rw [if_neg hq0] at hN hDn
          exact ⟨hN, hDn⟩
        have HN2 := Lib.hid hN2
        clear hN2
        generalize hWe : w5.alloc (.cells #[.int .i64 oN, .int .i64 oD] 31) = W at *
        by_cases hc0 : cq = 0
        · have hdq : decide (cq ≠ 0) = false := by simp [hc0]
          rw [hdq]
          have o1 := own_store hown5 (O := w5.heap.size) (by omega) (own_store hown5 (O := w5.heap.size) (by omega) hown6 0 (.int .i64 1)) 1 (.int .i64 1)
          have hBFz := ((hBF6).far (p := ⟨w5.heap.size, 0, none⟩) (by simp; omega) (.int .i64 1)).far (p := ⟨w5.heap.size, 1, none⟩) (by simp; omega) (.int .i64 1)
          have hgz := grown_set (p := ⟨w5.heap.size, 1, none⟩) (grown_set (p := ⟨w5.heap.size, 0, none⟩) hg6 (.inl (by simp; omega)) (.int .i64 1)) (.inl (by simp; omega)) (.int .i64 1)
          have hzz : w3.heap.size ≤ ((W.setCell ⟨w5.heap.size, 0, none⟩ (.int .i64 1)).setCell ⟨w5.heap.size, 1, none⟩ (.int .i64 1)).heap.size := by simp; omega
          have hNz : ((W.setCell ⟨w5.heap.size, 0, none⟩ (.int .i64 1)).setCell ⟨w5.heap.size, 1, none⟩ (.int .i64 1)).heap.size = w5.heap.size + 1 := by simp [hz6]
          have hj9 : j ≤ 1000000000 := by omega
          go_wp2_with (at_builtin; refine ap_frc ((W.setCell ⟨w5.heap.size, 0, none⟩ (.int .i64 1)).setCell ⟨w5.heap.size, 1, none⟩ (.int .i64 1)) 1 1 rfl _ _ rfl w3.heap.size _ j X hlen rfl o1 _ hNz rfl hj9 hzz ?_; intro v8 w8 hown8 hg8)
          obtain ⟨hsucc, hj, _, hN, hDn⟩ := HS.out
          have hg38 := hg8.size
          go_roundg (gk - 1)
          case measure => omega
          case rel =>
            refine ⟨j + 1, by omega, by go_num, (hBFz.alloc _).grown hg8 (by intro e; have := (o1.lt F e.symm).1; omega), by rw [hsucc]; rw [HN2.out.1, HN2.out.2]; exact hown8, ap_grown hgz o1 hg8 (by omega), ?_⟩
            simp at hg38
            omega
        · have hdq : decide (cq ≠ 0) = true := by simp [hc0]
          have hae : a = 0 := by omega
          rw [hdq]
          subst hae
          have o1 := own_store hown5 (O := w5.heap.size) (by omega) (own_store hown5 (O := w5.heap.size) (by omega) hown6 0 (.int .i64 1)) 1 (.int .i64 1)
          have hBFz := ((hBF6).far (p := ⟨w5.heap.size, 0, none⟩) (by simp; omega) (.int .i64 1)).far (p := ⟨w5.heap.size, 1, none⟩) (by simp; omega) (.int .i64 1)
          have hgz := grown_set (p := ⟨w5.heap.size, 1, none⟩) (grown_set (p := ⟨w5.heap.size, 0, none⟩) hg6 (.inl (by simp; omega)) (.int .i64 1)) (.inl (by simp; omega)) (.int .i64 1)
          have hzz : w3.heap.size ≤ ((W.setCell ⟨w5.heap.size, 0, none⟩ (.int .i64 1)).setCell ⟨w5.heap.size, 1, none⟩ (.int .i64 1)).heap.size := by simp; omega
          have hNz : ((W.setCell ⟨w5.heap.size, 0, none⟩ (.int .i64 1)).setCell ⟨w5.heap.size, 1, none⟩ (.int .i64 1)).heap.size = w5.heap.size + 1 := by simp [hz6]
          have hj9 : j ≤ 1000000000 := by omega
          go_wp2_with (at_builtin; refine ap_frc ((W.setCell ⟨w5.heap.size, 0, none⟩ (.int .i64 1)).setCell ⟨w5.heap.size, 1, none⟩ (.int .i64 1)) 1 1 rfl _ _ rfl w3.heap.size _ j X hlen rfl o1 _ hNz rfl hj9 hzz ?_; intro v8 w8 hown8 hg8)
          obtain ⟨hsucc, hj, _, hN, hDn⟩ := HS.out
          have hg38 := hg8.size
          go_roundg (gk - 1)
          case measure => omega
          case rel =>
            refine ⟨j + 1, by omega, by go_num, (hBFz.alloc _).grown hg8 (by intro e; have := (o1.lt F e.symm).1; omega), by rw [hsucc]; rw [HN2.out.1, HN2.out.2]; exact hown8, ap_grown hgz o1 hg8 (by omega), ?_⟩
            simp at hg38
            omega
    · obtain rfl : j = 7 := by omega
      go_wp2_with fail
      go_ret
      exact ⟨_, rfl, own_mono hown (by omega), hg⟩

end Go.Proofs.Ytkfijicmeekmiaa
