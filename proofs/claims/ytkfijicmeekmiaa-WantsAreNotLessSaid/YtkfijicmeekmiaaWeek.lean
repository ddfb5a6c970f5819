/- The walks of Week and of the reference's WeekOf. -/
import Derived.Test.YtkfijicmeekmiaaUncov
import Derived.Test.YtkfijicmeekmiaaRep
import Derived.Deep.RegionHeld3
namespace Go.Proofs.Ytkfijicmeekmiaa
open Go.RowKit

/-- The days of the week. -/
def wdB (k : Nat) (t : Sal) : Bool := decide (t.d.tmod 7 = (k : Int))
def wkB (k : Nat) (t : Sal) : Bool := !t.o && wdB k t

theorem refWeek1_any (k B : Nat) (x : Sal) (w : World) (hc : w.cell? ⟨B, 0, none⟩ = some (.int .i64 k)) :
    Calls Try.prog 80 #[.agg #[.int .i64 x.d, .int .i64 x.s, .bool x.o], .pointer (some ⟨B, 0, none⟩)] w fun e w' => e = .returned (.bool (wdB k x)) ∧ w.grownBy w' none := by
  have h1 : -7 < x.d.tmod 7 := Int.lt_tmod_of_pos _ (by omega)
  have h2 : x.d.tmod 7 < 7 := Int.tmod_lt_of_pos _ (by omega)
  have w1 : IntKind.i64.wrap (x.d.tmod 7) = x.d.tmod 7 := IntWalk.i64_in _ (by omega)
  have hb : wdB k x = (x.d.tmod 7 == (k : Int)) := rfl
  rw [hb]
  clear hb
  have c0 := (grown_alloc (grown_refl w) (.cells #[.int .i64 x.d, .int .i64 x.s, .bool x.o] 79)).cell hc (by simp)
  go_enter Try.func80, Try.ntmps80
  go_wp2_with fail
  go_ret
  exact ⟨rfl, grown_alloc (grown_refl w) _⟩

theorem week1_any (k B : Nat) (x : Sal) (w : World) (hc : w.cell? ⟨B, 0, none⟩ = some (.int .i64 k)) :
    Calls Try.prog 75 #[.agg #[.int .i64 x.d, .int .i64 x.s, .bool x.o], .pointer (some ⟨B, 0, none⟩)] w fun e w' => e = .returned (.bool (wkB k x)) ∧ w.grownBy w' none := by
  have h1 : -7 < x.d.tmod 7 := Int.lt_tmod_of_pos _ (by omega)
  have h2 : x.d.tmod 7 < 7 := Int.tmod_lt_of_pos _ (by omega)
  have w1 : IntKind.i64.wrap (x.d.tmod 7) = x.d.tmod 7 := IntWalk.i64_in _ (by omega)
  have hcall := lasted_any x
  have hgA := grown_alloc (grown_refl w) (.cells #[.int .i64 x.d, .int .i64 x.s, .bool x.o] 79)
  have hB0 := Blk.new w 79 #[.int .i64 x.d, .int .i64 x.s, .bool x.o]
  have hb : wkB k x = (lastB x && (x.d.tmod 7 == (k : Int))) := rfl
  rw [hb]
  clear hb
  generalize lastB x = b at *
  have HC := Lib.hid hcall
  clear hcall
  go_enter Try.func75, Try.ntmps75
  go_wp2_with fail
  refine (HC.out _).mono ?_
  rintro e w3 ⟨rfl, hg3⟩
  have c0 := (hgA.trans hg3).cell hc (by simp)
  obtain ⟨d0, d1, d2, _, _, _⟩ := (hB0.grown hg3 (by simp)).three
  have hgg := hgA.trans hg3
  clear hc hB0 HC
  cases b
  · go_wp2_with fail
    go_ret
    exact ⟨rfl, hgg⟩
  · go_wp2_with fail
    go_ret
    exact ⟨by simp, hgg⟩

/-- The fraction of a day of the week. -/
def wkN (l : List Sal) (k : Nat) : Int := if cntP (wkB k) l ≠ 0 ∧ 0 < meanN lastB l then lowN (meanN (wkB k) l * meanD lastB l) (meanD (wkB k) l * meanN lastB l) else 1
def wkD (l : List Sal) (k : Nat) : Int := if cntP (wkB k) l ≠ 0 ∧ 0 < meanN lastB l then lowD (meanN (wkB k) l * meanD lastB l) (meanD (wkB k) l * meanN lastB l) else 1
def wkRow (l : List Sal) (j : Nat) : List Int := (List.range j).flatMap fun k => [wkN l k, wkD l k]
theorem wkRow_succ (l : List Sal) (j : Nat) : wkRow l (j + 1) = wkRow l j ++ [wkN l j, wkD l j] := by simp [wkRow, List.range_succ]
theorem wkRow_len (l : List Sal) (j : Nat) : (wkRow l j).length = 2 * j := by
  induction j with
  | zero => rfl
  | succ j ih => rw [wkRow_succ, List.length_append, ih]; rfl

/-- The cells of the week, as far as it is done. -/
def wkCs (X : List Int) (j : Nat) : Array Value := (ints X ++ List.replicate (14 - 2 * j) (Value.int .i64 1)).toArray
theorem wkCs_set {X : List Int} {j : Nat} (h : X.length = 2 * j) (hj : j < 7) (a b : Int) :
    ((wkCs X j).setIfInBounds (j * 2) (.int .i64 a)).setIfInBounds (j * 2 + 1) (.int .i64 b) = wkCs (X ++ [a, b]) (j + 1) := by
  unfold wkCs
  have hl : (ints X).length = j * 2 := by simp [ints, h]; omega
  rw [show 14 - 2 * j = (14 - 2 * (j + 1)) + 1 + 1 from by omega, List.replicate_succ, List.replicate_succ]
  generalize List.replicate (14 - 2 * (j + 1)) (Value.int .i64 1) = Z
  simp only [List.setIfInBounds_toArray]
  congr 1
  rw [List.set_append_right _ _ (by omega), List.set_append_right _ _ (by omega), hl, Nat.sub_self, show j * 2 + 1 - j * 2 = 1 from by omega]
  simp [ints]
theorem wkCs_same {X : List Int} {j : Nat} (hj : j < 7) : wkCs X j = wkCs (X ++ [1, 1]) (j + 1) := by
  unfold wkCs
  rw [show 14 - 2 * j = (14 - 2 * (j + 1)) + 1 + 1 from by omega, List.replicate_succ, List.replicate_succ]
  simp [ints]

theorem wkCs_cell {w : World} {R j : Nat} {X : List Int} (h : Blk w R 31 (wkCs X j)) (hX : X.length = 2 * j) (hj : j < 7) (i : Nat) (hi : i < 2) : ∃ u, w.cell? ⟨R, j * 2 + i, none⟩ = some u := by
  rw [h.cell]
  refine ⟨_, Array.getElem?_eq_getElem (show j * 2 + i < (wkCs X j).size from ?_)⟩
  unfold wkCs
  simp [ints, hX]
  omega

set_option maxRecDepth 100000 in
set_option maxHeartbeats 1000000 in
theorem week_any (A : Option Addr) (n c : Nat) (l : List Sal) (w : World) (hr : Rd w 3 A n (salFlat l)) (hn : n ≤ 400) (hf : dayFault l = 0) :
    Calls Try.prog 18 #[.slice A n c] w fun e w' => ∃ B, e = .returned (.tuple #[.slice (some ⟨B, 0, none⟩) 7 7, .int .i64 0]) ∧ Blk w' B 31 (ints (wkRow l 7)).toArray ∧ w.grownBy w' none := by
  have hck := checkDays_any A n c l w hr hn
  rw [hf] at hck
  obtain ⟨hl400, hok⟩ := days_ok hf
  have hm := fun w1 (hg : w.grownBy w1 none) => meanLast A n c l w1 (hr.grown hg) hn fun t ht => (hok t ht).2
  unfold meanV frac at hm
  have hmb := mean_bound (p := lastB) (fun t ht => (hok t ht).2) (by omega)
  have HC := Lib.hid (And.intro hck (And.intro hm (And.intro hok hmb)))
  clear hck hm hmb hok
  obtain ⟨q, hq⟩ : ∃ q, q = decide (cntP lastB l ≠ 0) := ⟨_, rfl⟩
  obtain ⟨a, ha⟩ : ∃ a, a = meanN lastB l := ⟨_, rfl⟩
  obtain ⟨b, hb⟩ : ∃ b, b = meanD lastB l := ⟨_, rfl⟩
  rw [← ha, ← hb, ← hq] at HC
  have HE := Lib.hid (And.intro hq (And.intro ha hb))
  clear hq ha hb
  go_enter Try.func18, Try.ntmps18
  go_wp2_with fail
  refine HC.out.1.mono ?_
  rintro e w1 ⟨rfl, hg1⟩
  go_wp2_with fail
  refine (HC.out.2.1 _ hg1).mono ?_
  rintro e w2 ⟨rfl, hg2⟩
  have hgg2 := hg1.trans hg2
  have hBf := (Blk.new w2 31 #[.int .i64 a, .int .i64 b]).alloc (.cells #[.int .i64 1, .int .i64 1] 31)
  have hBo := Blk.new (w2.alloc (.cells #[.int .i64 a, .int .i64 b] 31)) 31 #[.int .i64 1, .int .i64 1]
  have hg3 := grown_alloc (grown_alloc hgg2 (.cells #[.int .i64 a, .int .i64 b] 31)) (.cells #[.int .i64 1, .int .i64 1] 31)
  have hz1 : (w2.alloc (.cells #[.int .i64 a, .int .i64 b] 31)).heap.size = w2.heap.size + 1 := by simp
  rw [hz1] at hBo
  go_wp2_with fail
  refine (repeat7_any _ _ hBo).mono ?_
  rintro e w4 ⟨rfl, hB4, hg4⟩
  have hBf4 := hBf.grown hg4 (by simp)
  have hg04 := hg3.trans hg4
  have hlt4 := hB4.lt
  rw [show ((w2.alloc (.cells #[.int .i64 a, .int .i64 b] 31)).alloc (.cells #[.int .i64 1, .int .i64 1] 31)).heap.size = w2.heap.size + 1 + 1 from by simp] at hB4 hlt4 ⊢
  have hwz := hgg2.size
  clear hBf hBo hg3 hg4 hz1
  obtain ⟨F, hF⟩ : ∃ F, F = w2.heap.size := ⟨_, rfl⟩
  obtain ⟨R, hR⟩ : ∃ R, R = w2.heap.size + 1 + 1 := ⟨_, rfl⟩
  rw [← hF] at hBf4
  rw [← hR] at hB4 hlt4
  go_wp2_with fail
  rw [← hR, ← hF]
  have hwR : w.heap.size ≤ R := by omega
  have hFR : F ≠ R := by omega
  clear hF hR hwz hgg2 hg2 hg1
  have hB4' : Blk w4 R 31 (wkCs (wkRow l 0) 0) := hB4
  go_loopg [26] 7 (fun k i wr => ∃ j : Nat, k + j = 7 ∧ i = .int .i64 j ∧ Blk wr F 31 #[.int .i64 a, .int .i64 b] ∧ Blk wr R 31 (wkCs (wkRow l j) j) ∧ w.grownBy wr none)
  case atStart => exact ⟨0, by omega, rfl, hBf4, hB4', hg04⟩
  case round =>
    obtain ⟨j, hj, rfl, hBF, hBR, hg⟩ := hrel
    by_cases hlt : j < 7
    · have hD := Blk.new wr 3 #[.int .i64 j]
      have hgD := grown_alloc hg (.cells #[.int .i64 j] 3)
      have hmean := mean1_any 75 (.pointer (some ⟨wr.heap.size, 0, none⟩)) (wkB j) A n c l (wr.alloc (.cells #[.int .i64 j] 3)) (hr.grown hgD) hn (fun t ht => (HC.out.2.2.1 t ht).2)
        (enters_of Try.func75 (by kernel_rfl) rfl) (fun x w1 hw1 => week1_any j wr.heap.size x w1 (hw1.cell (hD.cell 0) (by simp)))
      have hob := mean_bound (p := wkB j) (l := l) (fun t ht => (HC.out.2.2.1 t ht).2) hl400
      have hN : wkN l j = if cntP (wkB j) l ≠ 0 ∧ 0 < meanN lastB l then lowN (meanN (wkB j) l * meanD lastB l) (meanD (wkB j) l * meanN lastB l) else 1 := rfl
      have hDn : wkD l j = if cntP (wkB j) l ≠ 0 ∧ 0 < meanN lastB l then lowD (meanN (wkB j) l * meanD lastB l) (meanD (wkB j) l * meanN lastB l) else 1 := rfl
      rw [← HE.out.2.1, ← HE.out.2.2] at hN hDn
      have hsucc := wkRow_succ l j
      have hlen := wkRow_len l j
      unfold meanV frac at hmean
      generalize wkRow l j = X at *
      generalize wkN l j = yN at *
      generalize wkD l j = yD at *
      generalize meanN (wkB j) l = oN at *
      generalize meanD (wkB j) l = oD at *
      generalize hcq : cntP (wkB j) l = cq at *
      have HM := Lib.hid hmean
      have HS := Lib.hid (And.intro hsucc (And.intro hlen (And.intro hj (And.intro hob (And.intro hN hDn)))))
      have hBFD := hBF.alloc (.cells #[.int .i64 j] 3)
      have hBRD := hBR.alloc (.cells #[.int .i64 j] 3)
      have hltR := hBR.lt
      have hltF := hBF.lt
      have hjj : (j : Int) < 7 := by omega
      clear hmean hob hN hDn hsucc hlen hj hBF hBR hB4 hB4' hBf4 hg04 hlt4
      go_wp2_with fail
      refine HM.out.mono ?_
      rintro e w5 ⟨rfl, hg5⟩
      have hBF5 := hBFD.grown hg5 (by simp)
      have hBR5 := hBRD.grown hg5 (by simp)
      have hD5 := hD.grown hg5 (by simp)
      have hgg5 := hgD.trans hg5
      have hlt5 := hg5.size
      have hO := Blk.new w5 31 #[.int .i64 oN, .int .i64 oD]
      have hBF6 := hBF5.alloc (.cells #[.int .i64 oN, .int .i64 oD] 31)
      have hBR6 := hBR5.alloc (.cells #[.int .i64 oN, .int .i64 oD] 31)
      have hD6 := hD5.alloc (.cells #[.int .i64 oN, .int .i64 oD] 31)
      have hg6 := grown_alloc hgg5 (.cells #[.int .i64 oN, .int .i64 oD] 31)
      have hDlt := hD5.lt
      have hz : wr.heap.size < w5.heap.size := hDlt
      clear hD hBFD hBRD hBF5 hBR5 hD5 hg5 hgg5 hgD HM hg
      obtain ⟨g0, g1, _, _⟩ := hBF6.two
      by_cases hq0 : cq = 0
      · have hdq : decide (cq ≠ 0) = false := by simp [hq0]
        rw [hdq]
        clear hdq
        go_wp2_with fail
        obtain ⟨hsucc, hlen, hj, _, hN, hDn⟩ := HS.out
        rw [if_neg (by simp [hq0])] at hN hDn
        have hsame := wkCs_same (X := X) hlt
        go_roundg (gk - 1)
        case measure => omega
        case rel => exact ⟨j + 1, by omega, by go_num, hBF6, by rw [hsucc, hN, hDn, ← hsame]; exact hBR6, hg6⟩
      · have hdq : decide (cq ≠ 0) = true := by simp [hq0]
        rw [hdq]
        clear hdq
        by_cases ha : 0 < a
        · have hql : cntP lastB l ≠ 0 := by
            intro h0
            have h1 := HE.out.2.1
            unfold meanN at h1
            rw [if_pos h0] at h1
            omega
          obtain ⟨b0, b1, _, a1⟩ := HC.out.2.2.2 hql
          obtain ⟨d0, d1, n0, n1⟩ := HS.out.2.2.2.1 hq0
          have hov := fun w => over_any oN oD a b w ⟨n0, by omega⟩ ⟨d0, by omega⟩ ⟨ha, by omega⟩ ⟨b0, by omega⟩
          have hY : lowN (oN * b) (oD * a) = yN ∧ lowD (oN * b) (oD * a) = yD := by
            obtain ⟨_, _, _, _, hN, hDn⟩ := HS.out
            rw [if_pos ⟨hq0, ha⟩] at hN hDn
            exact ⟨hN.symm, hDn.symm⟩
          unfold frac at hov
          rw [hY.1, hY.2] at hov
          have HOV := Lib.hid hov
          clear hov hY
          obtain ⟨p0, p1, _, _⟩ := hO.two
          have q0 := hD6.cell 0
          simp only [List.getElem?_toArray, List.getElem?_cons_zero] at q0
          have r0 : ∃ u, (w5.alloc (.cells #[.int .i64 oN, .int .i64 oD] 31)).cell? ⟨R, j * 2, none⟩ = some u := wkCs_cell hBR6 HS.out.2.1 hlt 0 (by omega)
          have r1 : ∃ u, (w5.alloc (.cells #[.int .i64 oN, .int .i64 oD] 31)).cell? ⟨R, j * 2 + 1, none⟩ = some u := wkCs_cell hBR6 HS.out.2.1 hlt 1 (by omega)
          obtain ⟨u0, r0⟩ := r0
          obtain ⟨u1, r1⟩ := r1
          have f0 := hBR6.frozen (j * 2)
          have f1 := hBR6.frozen (j * 2 + 1)
          go_wp2_with fail
          obtain ⟨D, hDe⟩ : ∃ D, D = wr.heap.size := ⟨_, rfl⟩
          obtain ⟨O, hOe⟩ : ∃ O, O = w5.heap.size := ⟨_, rfl⟩
          rw [← hDe] at q0 hz hltF hltR ⊢
          rw [← hOe] at p0 p1 hz ⊢
          generalize w5.alloc (.cells #[.int .i64 oN, .int .i64 oD] 31) = W at *
          have hDR : D ≠ R := by omega
          have hOR : O ≠ R := by omega
          have hRD : R ≠ D := by omega
          have hRO : R ≠ O := by omega
          have hRF : R ≠ F := by omega
          have hBRd : Blk W.drew R 31 (wkCs X j) := hBR6
          clear hDe hOe
          go_region_held3 (fun w' => w'.cell? ⟨D, 0, none⟩ = some (.int .i64 j) ∧ w'.cell? ⟨O, 0, none⟩ = some (.int .i64 oN) ∧ w'.cell? ⟨O, 1, none⟩ = some (.int .i64 oD) ∧ w'.cell? ⟨F, 0, none⟩ = some (.int .i64 a) ∧ w'.cell? ⟨F, 1, none⟩ = some (.int .i64 b)) (go_keep)
            (first | ((go_at_call 76; refine (HOV.out _).mono ?_; rintro e w9 ⟨rfl, hg9⟩; have z0 := hg9.cell (a := ⟨D, 0, none⟩) q0 (by simp); have z1 := hg9.cell (a := ⟨O, 0, none⟩) p0 (by simp); have z2 := hg9.cell (a := ⟨O, 1, none⟩) p1 (by simp); have z3 := hg9.cell (a := ⟨F, 0, none⟩) g0 (by simp); have z4 := hg9.cell (a := ⟨F, 1, none⟩) g1 (by simp); have y0 := hg9.cell (a := ⟨R, j * 2, none⟩) r0 (by simp); have y1 := hg9.cell (a := ⟨R, j * 2 + 1, none⟩) r1 (by simp); have y2 := (hBRd.grown hg9 (by simp)).frozen (j * 2); have y3 := (hBRd.grown hg9 (by simp)).frozen (j * 2 + 1))))
          go_wp2_with fail
          obtain ⟨hsucc, hlen, hj, _, _, _⟩ := HS.out
          have hBF9 := Blk.grown (show Blk W.drew F 31 #[.int .i64 a, .int .i64 b] from hBF6) hg9 (by simp)
          have hBR9 := hBRd.grown hg9 (by simp)
          have hgg9 := (grown_drew hg6).trans hg9
          go_roundg (gk - 1)
          case measure => omega
          case rel =>
            refine ⟨j + 1, by omega, by go_num, (hBF9.far (p := ⟨R, j * 2, none⟩) hFR _).far (p := ⟨R, j * 2 + 1, none⟩) hFR _, ?_, grown_set (p := ⟨R, j * 2 + 1, none⟩) (grown_set (p := ⟨R, j * 2, none⟩) hgg9 (.inl hwR) _) (.inl hwR) _⟩
            rw [hsucc]
            exact ((hBR9.set_ (j * 2) (.int .i64 yN)).set_ (j * 2 + 1) (.int .i64 yD)).eq (wkCs_set hlen hlt yN yD)
        · go_wp2_with fail
          obtain ⟨hsucc, hlen, hj, _, hN, hDn⟩ := HS.out
          rw [if_neg (by simp [ha])] at hN hDn
          have hsame := wkCs_same (X := X) hlt
          go_roundg (gk - 1)
          case measure => omega
          case rel => exact ⟨j + 1, by omega, by go_num, hBF6, by rw [hsucc, hN, hDn, ← hsame]; exact hBR6, hg6⟩
    · obtain rfl : j = 7 := by omega
      go_wp2_with fail
      go_ret2
      refine ⟨R, rfl, hBR.eq ?_, hg⟩
      unfold wkCs
      simp

end Go.Proofs.Ytkfijicmeekmiaa
