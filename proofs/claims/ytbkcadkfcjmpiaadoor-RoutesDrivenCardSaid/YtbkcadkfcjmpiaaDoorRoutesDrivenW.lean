/- The walk of the law RoutesDriven. -/
import Derived.Test.YtbkcadkfcjmpiaaDoorTtx
import Derived.Test.YtbkcadkfcjmpiaaDoorFarX
import Derived.Test.YtbkcadkfcjmpiaaDoorStops
import Derived.Test.YtbkcadkfcjmpiaaDoorRt
import Derived.Test.YtbkcadkfcjmpiaaDoorIn
import Derived.Test.YtbkcadkfcjmpiaaDoorInv
namespace Go.Proofs.YtbkcadkfcjmpiaaDoor
open Go.RowKit

def farV (a b c d : Int) : Int := if spB a b = true ∧ spB c d = true then farN a b c d else 0
def farE (a b c d : Int) : Int := if spB a b = true ∧ spB c d = true then 0 else 1
theorem roundFar_any (a b c d : Int) (w : World) : Calls Tryd.prog 10 #[.agg #[.int .i64 a, .int .i64 b], .agg #[.int .i64 c, .int .i64 d]] w
    fun e w' => e = .returned (.tuple #[.int .i64 (farV a b c d), .int .i64 (farE a b c d)]) ∧ w.grownBy w' none := by
  unfold farV farE
  by_cases h : spB a b = true ∧ spB c d = true
  · rw [if_pos h, if_pos h]; exact roundFar_ok a b c d w h.1 h.2
  · rw [if_neg h, if_neg h]; exact roundFar_bad a b c d w h
theorem farOf_any (a b c d : Int) (w : World) : Calls Tryd.prog 11 #[.agg #[.int .i64 a, .int .i64 b], .agg #[.int .i64 c, .int .i64 d]] w
    fun e w' => e = .returned (.tuple #[.int .i64 (farV a b c d), .int .i64 (farE a b c d)]) ∧ w.grownBy w' none := by
  unfold farV farE
  by_cases h : spB a b = true ∧ spB c d = true
  · rw [if_pos h, if_pos h]; exact farOf_ok a b c d w h.1 h.2
  · rw [if_neg h, if_neg h]; exact farOf_bad a b c d w h

/-- What the operations yield that draw one more begin. -/
def rpF (g16 S0 bs : Nat) (vb : Value) (y : Int) (i : Nat) (w : World) (v : Value) : Prop :=
  match i with
  | 0 => v = .pointer (some ⟨g16, 0, none⟩)
  | 1 => v = vb
  | 2 => v = .pointer (some ⟨bs, 0, none⟩)
  | 3 => Lit S0 w v (ints [0, 59, 1439, 14400, 14401, -1])
  | 4 => v = .int .i64 y
  | _ => True
theorem rpF_stab {g16 S0 bs : Nat} {vb : Value} {y : Int} : ∀ (i : Nat) (w w' : World) (v : Value), GrowS S0 w w' → rpF g16 S0 bs vb y i w v → rpF g16 S0 bs vb y i w' v := by
  intro i w w' v hg h
  match i, h with
  | 0, h => exact h
  | 1, h => exact h
  | 2, h => exact h
  | 3, h => exact Lit.stab h hg
  | 4, h => exact h
  | _ + 5, _ => exact trivial
def rpG (wr : World) (bs : Nat) (L : List Int) (t : Nat) (y : Int) (b3 b4 b5 : Bool) (v5 : Value) (w : World) : Prop :=
  (b5 = true → b4 = true) ∧ (b4 = true → b3 = true) ∧ (match b5 with
    | true => ∃ wq, w = wq.alloc (.cells #[.int .i64 y] 3) ∧ v5 = .slice (some ⟨wq.heap.size, 0, none⟩) 1 1 ∧ wr.grownBy wq (some bs) ∧ Str wq bs L (t + 1)
    | false => wr.grownBy w (some bs) ∧ Str w bs L (t + b4.toNat))
theorem rpG_grown {wr : World} {bs : Nat} {L : List Int} {t : Nat} {y : Int} {b3 b4 b5 : Bool} {v5 : Value} {w : World} (h : rpG wr bs L t y b3 b4 b5 v5 w) : wr.grownBy w (some bs) := by
  cases b5 with
  | true => obtain ⟨wq, rfl, _, hg, _⟩ := h.2.2; exact hg.trans ((grown_alloc (grown_refl _) _).but _)
  | false => exact h.2.2.1
theorem rpG_size {wr : World} {bs : Nat} {L : List Int} {t : Nat} {y : Int} {b3 b4 b5 : Bool} {v5 : Value} {w : World} (h : rpG wr bs L t y b3 b4 b5 v5 w) : wr.heap.size ≤ w.heap.size := (rpG_grown h).size
theorem rpG_cell {wr : World} {bs g : Nat} {L : List Int} {t : Nat} {y : Int} {b3 b4 b5 : Bool} {v5 vb : Value} {w : World} (h : rpG wr bs L t y b3 b4 b5 v5 w) (hg : g ≠ bs) (hc : wr.cell? ⟨g, 0, none⟩ = some vb) : w.cell? ⟨g, 0, none⟩ = some vb :=
  (rpG_grown h).cell hc (by intro e; injection e with e; exact hg e)

set_option maxRecDepth 100000 in
set_option maxHeartbeats 16000000 in
theorem routesDriven_walk (a0 : Option Addr) (len0 cap0 : Nat) (z0 : List Int) (w : World) (w0 : InRow w a0 len0 cap0 z0) (hT : TabP w) :
    Calls Tryd.prog 3 #[.slice a0 len0 cap0] w fun e w' => e = .returned (.bool true) ∧ w.grownBy w' none := by
  obtain ⟨hlen, hs0⟩ := str_start w0
  have hg0 : w.grownBy (w.alloc (.cells #[.slice a0 len0 cap0, .int .i64 0] 25)) none := grown_alloc (grown_refl w) _
  have hz0 : (w.alloc (.cells #[.slice a0 len0 cap0, .int .i64 0] 25)).heap.size = w.heap.size + 1 := by simp
  clear hlen w0
  generalize z0.take len0 = L at *
  go_enter Tryd.func3, Tryd.ntmps3
  go_wp2_with fail
  generalize w.alloc (.cells #[.slice a0 len0 cap0, .int .i64 0] 25) = wA at *
  obtain ⟨bs, hbs⟩ : ∃ bs, bs = w.heap.size := ⟨_, rfl⟩
  rw [← hbs] at hs0 hz0 ⊢
  have HZ := Lib.hid (And.intro hbs hT)
  clear hbs hT
  have hbA : bs < wA.heap.size := by omega
  refine (stops_any bs L 0 6 wA hs0 (by omega) (by omega) (by omega)).mono ?_
  have hb1 := stopsM_b L 0 6 (by omega) (by omega)
  rintro e w1 ⟨v1, rfl, hV1, hs1, hg1⟩
  generalize (stopsM L 0 6).2 = V at *
  generalize (stopsM L 0 6).1 = t1 at *
  have hgg1 := (hg0.but (some bs)).trans hg1
  clear hs0 hg1 hg0
  go_wp2_with fail
  refine (spot_any bs L t1 w1 hs1 (by omega)).mono ?_
  have hb2 := spotM_b L t1
  rintro e w2 ⟨rfl, hs2, hg2⟩
  have hV2 := hV1.kept hg2 (own_ne hV1 hbA)
  have hgg2 := hgg1.trans hg2
  generalize spotM L t1 = S1 at *
  obtain ⟨t2, hx, hy⟩ := S1
  simp only at hb2 hs2 ⊢
  clear hs1 hg2 hgg1 hV1
  go_wp2_with fail
  refine (spot_any bs L t2 w2 hs2 (by omega)).mono ?_
  have hb3 := spotM_b L t2
  rintro e w3 ⟨rfl, hs3, hg3⟩
  have hV3 := hV2.kept hg3 (own_ne hV2 hbA)
  have hgg3 := hgg2.trans hg3
  generalize spotM L t2 = S2 at *
  obtain ⟨t3, ox, oy⟩ := S2
  simp only at hb3 hs3 ⊢
  clear hs2 hg3 hgg2 hV2
  go_wp2_with fail
  refine (pick_lit bs L t3 [0, 0, 5, 30, -1, 1440, 1441] w3 hs3 (by omega) (by simp) (by simp) 3).mono ?_
  rintro e w4 ⟨rfl, hs4, hg4⟩
  generalize pk L t3 [0, 0, 5, 30, -1, 1440, 1441] = st at *
  have hV4 := hV3.kept hg4 (own_ne hV3 hbA)
  have hgg4 := hgg3.trans hg4
  clear hs3 hg4 hgg3 hV3
  obtain ⟨A, cA, rfl, hcA, _, hrA, hAb⟩ := Rd.of_own hV4
  -- the two spots
  obtain ⟨g5, hg5⟩ : ∃ g5, w4.heap.size = g5 := ⟨_, rfl⟩
  have hb5 : bs < g5 := by have := hs4.lt; omega
  have hz5 : (w4.alloc (.cells #[.int .i64 hx, .int .i64 hy] 29)).heap.size = g5 + 1 := by simp [hg5]
  have hH5 := (Blk.new w4 29 #[.int .i64 hx, .int .i64 hy]).alloc (.cells #[.int .i64 ox, .int .i64 oy] 29)
  have hO5 := Blk.new (w4.alloc (.cells #[.int .i64 hx, .int .i64 hy] 29)) 29 #[.int .i64 ox, .int .i64 oy]
  rw [hg5] at hH5
  rw [hz5] at hO5
  have hgs5 := grown_alloc (grown_alloc (grown_refl w4) (.cells #[.int .i64 hx, .int .i64 hy] 29)) (.cells #[.int .i64 ox, .int .i64 oy] 29)
  have hs5 := hs4.grown hgs5 (by simp)
  have hgg5 := hgg4.trans (hgs5.but (some bs))
  have hr5 := hrA.grown hgs5
  obtain ⟨wB, hwB⟩ : ∃ wB, (w4.alloc (.cells #[.int .i64 hx, .int .i64 hy] 29)).alloc (.cells #[.int .i64 ox, .int .i64 oy] 29) = wB := ⟨_, rfl⟩
  rw [hwB] at hH5 hO5 hs5 hgg5 hr5
  have HB := Lib.hid (And.intro hwB (And.intro hg5 hz5))
  clear hwB hg5 hz5 hgs5 hrA hV4 hgg4 hs4
  go_wp2_with fail
  rw [HB.out.1]
  (try rw [HB.out.2.2])
  (try rw [HB.out.2.1])
  refine (roundFar_any hx hy ox oy wB).mono ?_
  rintro e w5 ⟨rfl, hg6⟩
  have hlenV : V.length ≤ 10 := hb1.2
  have hH6 := hH5.grown hg6 (by simp)
  have hO6 := hO5.grown hg6 (by simp)
  have hs6 := hs5.grown hg6 (by simp)
  have hr6 := hr5.grown hg6
  have hgg6 := hgg5.trans (hg6.but (some bs))
  clear hH5 hO5 hs5 hr5 hgg5 hg6
  obtain ⟨h0, h1, _, _⟩ := hH6.two
  obtain ⟨o0, o1, _, _⟩ := hO6.two
  go_wp2_with fail
  refine (farOf_any hx hy ox oy w5).mono ?_
  rintro e w6 ⟨rfl, hg7⟩
  generalize farV hx hy ox oy = fv at *
  generalize farE hx hy ox oy = fe at *
  have hH7 := hH6.grown hg7 (by simp)
  have hs7 := hs6.grown hg7 (by simp)
  have hr7 := hr6.grown hg7
  have hgg7 := hgg6.trans (hg7.but (some bs))
  clear hH6 hO6 hs6 hr6 hgg6 hg7 h0 h1 o0 o1
  go_wp2_with fail
  refine (checkStops_any A V.length cA V w6 hr7 hcA).mono ?_
  rintro e w7 ⟨rfl, hg8⟩
  have hH8 := hH7.grown hg8 (by simp)
  have hs8 := hs7.grown hg8 (by simp)
  have hr8 := hr7.grown hg8
  have hgg8 := hgg7.trans (hg8.but (some bs))
  clear hH7 hs7 hr7 hgg7 hg8
  go_wp2_with fail
  refine (stopsFault_any A V.length cA V w7 hr8 hcA).mono ?_
  rintro e w8 ⟨rfl, hg9⟩
  have hH9 := hH8.grown hg9 (by simp)
  have hs9 := hs8.grown hg9 (by simp)
  have hr9 := hr8.grown hg9
  have hgg9 := hgg8.trans (hg9.but (some bs))
  clear hH8 hs8 hr8 hgg8 hg9
  generalize stopsF V = sf at *
  go_wp2_with fail
  refine (route_any bs L (t3 + 1) V.length w8 hs9 (by omega) (by omega)).mono ?_
  have hb4 := routeM_b L (t3 + 1) V.length
  rintro e w9 ⟨Ao, co, rfl, hco, hro, _, hs10, hg10⟩
  have hH10 := hH9.grown hg10 (by simp; omega)
  have hr10 := hr9.grown_ hg10 (by intro a ha e; have := hAb a ha; injection e with e; omega)
  have hgg10 := hgg9.trans hg10
  generalize (routeM L (t3 + 1) V.length).2 = o at *
  generalize (routeM L (t3 + 1) V.length).1 = t4 at *
  clear hH9 hs9 hr9 hgg9 hg10
  obtain ⟨h0, h1, _, _⟩ := hH10.two
  have hdr := drive_any hx hy A V.length cA V st Ao o.length co o w9 hr10 hro hcA hco (by omega) (by omega)
  have hdo := fun wx (h : w9.grownBy wx none) (e1 : routeF hx hy V st = 0) => driveOf_any hx hy A V.length cA V st Ao o.length co o wx (hr10.grown h) (hro.grown h) hco (by omega) (by omega) e1
  have hrf := fun wx (h : w9.grownBy wx none) => routeFault_any hx hy A V.length cA V st wx (hr10.grown h) hcA
  have hbad : routeF hx hy V st ≠ 0 → drvE hx hy V st o = routeF hx hy V st ∧ drvT hx hy V st o = trM0 := by
    intro h
    have h1 : drvE hx hy V st o = routeF hx hy V st := by unfold drvE; rw [if_pos h]
    refine ⟨h1, ?_⟩
    unfold drvT
    rw [h1, if_pos h]
  have hTl : (drvT hx hy V st o).bg.length ≤ 11 := by
    unfold drvT
    split
    · simp [trM0]
    · cases hD : driveM hx hy V st o with
      | none => simp [trM0]
      | some Tr =>
        unfold driveM at hD
        obtain ⟨p, hp, rfl⟩ := Option.map_eq_some_iff.1 hD
        have := drvF_len V o _ _ p hp
        simp only [Option.getD_some, trOf]
        simp at this
        omega
  generalize drvE hx hy V st o = E at *
  generalize drvT hx hy V st o = T at *
  generalize routeF hx hy V st = F at *
  have HD := Lib.hid (And.intro hdr (And.intro hdo (And.intro hrf hbad)))
  clear hdr hdo hrf hbad
  go_wp2_with fail
  refine HD.out.1.mono ?_
  rintro e w10 ⟨⟨v, rfl, hO1⟩, hg11⟩
  obtain ⟨Av, cv, rfl, hcv, _, hrv, hvb⟩ := Rd.of_own hO1
  -- the program's tour
  obtain ⟨g13, hg13⟩ : ∃ g, w10.heap.size = g := ⟨_, rfl⟩
  have hU := Blk.new w10 38 #[.slice Av T.bg.length cv, .int .i64 T.e, .int .i64 T.way, .int .i64 T.wt]
  have hgU := grown_alloc hg11 (.cells #[.slice Av T.bg.length cv, .int .i64 T.e, .int .i64 T.way, .int .i64 T.wt] 38)
  have hrv' := hrv.grown (grown_alloc (grown_refl w10) (.cells #[.slice Av T.bg.length cv, .int .i64 T.e, .int .i64 T.way, .int .i64 T.wt] 38))
  obtain ⟨w11, hw11⟩ : ∃ w11, w10.alloc (.cells #[.slice Av T.bg.length cv, .int .i64 T.e, .int .i64 T.way, .int .i64 T.wt] 38) = w11 := ⟨_, rfl⟩
  have hb13 : bs < g13 := by have := hg11.size; have := hs10.lt; omega
  have hw913 : w9.heap.size ≤ g13 := by have := hg11.size; omega
  rw [hw11] at hU hgU hrv'
  rw [hg13] at hU
  have hH11 := hH10.grown hgU (by simp)
  have hs11 := hs10.grown hgU (by simp)
  have HU := Lib.hid (And.intro hw11 hg13)
  obtain ⟨h0', h1', _, _⟩ := hH11.two
  rw [← hw11] at h0' h1'
  have hvlt : ∀ a, Av = some a → a.block < g13 := by intro a ha; subst ha; have := (hO1.lt a.block rfl).2; omega
  clear hw11 hg13 hO1 hrv hg11 h0 h1 hvb
  go_wp2_with fail
  rw [HU.out.1]
  (try rw [HU.out.2])
  clear h0' h1'
  refine (HD.out.2.2.1 w11 hgU).mono ?_
  rintro e w12 ⟨rfl, hg12⟩
  have hg912 := hgU.trans hg12
  have hU12 := hU.grown hg12 (by simp)
  have hrv12 := hrv'.grown hg12
  have hH12 := hH11.grown hg12 (by simp)
  have hs12 := hs11.grown hg12 (by simp)
  clear hU hrv' hH11 hs11 hgU hg12
  -- the reference's tour
  obtain ⟨g16, hg16⟩ : ∃ g, w12.heap.size = g := ⟨_, rfl⟩
  have hb16 : g13 < g16 := by have := hU12.lt; omega
  have hR13 := Blk.new w12 38 #[.slice none 0 0, .int .i64 0, .int .i64 0, .int .i64 0]
  have hgz := grown_alloc (grown_refl w12) (.cells #[.slice none 0 0, .int .i64 0, .int .i64 0, .int .i64 0] 38)
  have hz16 : (w12.alloc (.cells #[.slice none 0 0, .int .i64 0, .int .i64 0, .int .i64 0] 38)).heap.size = g16 + 1 := by simp [hg16]
  obtain ⟨w13, hw13⟩ : ∃ w13, (w12.alloc (.cells #[.slice none 0 0, .int .i64 0, .int .i64 0, .int .i64 0] 38)) = w13 := ⟨_, rfl⟩
  rw [hw13] at hR13 hgz hz16
  rw [hg16] at hR13
  have hU13 := hU12.grown hgz (by simp)
  have hrv13 := hrv12.grown hgz
  have hH13 := hH12.grown hgz (by simp)
  have hs13 := hs12.grown hgz (by simp)
  have hg913 := hg912.trans hgz
  have HZ16 := Lib.hid (And.intro hw13 (And.intro hg16 hz16))
  clear hw13 hg16 hz16 hgz hU12 hrv12 hH12 hs12 hg912
  by_cases hF : F = 0
  case' pos =>
    subst hF
    obtain ⟨h0, h1, _, _⟩ := hH13.two
    have hw13 := HZ16.out.1
    rw [← hw13] at h0 h1
    clear hw13
    go_wp2_with fail
    rw [HZ16.out.1]
    (try rw [HZ16.out.2.1])
    clear h0 h1
    refine (HD.out.2.1 w13 hg913 (by trivial)).mono ?_
    rintro e w14 ⟨⟨v2, rfl, hO2⟩, hg14⟩
    rw [HZ16.out.2.2] at hO2
    obtain ⟨Bv, cB, rfl, hcB, _, hrB, hvb⟩ := Rd.of_own hO2
    have hR14 := hR13.grown hg14 (by simp)
    have hU14 := hU13.grown hg14 (by simp)
    have hrv14 := hrv13.grown hg14
    have hs14 := hs13.grown hg14 (by simp)
    have hg914 := hg913.trans hg14
    obtain ⟨⟨q0, q1, q2, q3⟩, f0, f1, f2, f3⟩ := four_ hR14
    obtain ⟨⟨p0, p1, p2, p3⟩, _⟩ := four_ hU14
    have hne1 : g13 ≠ g16 := by omega
    have hne2 : g16 ≠ g13 := by omega
    have hst := fun (r : Option Nat) (w0 : World) (h : w0.grownBy w14 r) (hh : r = some g16 ∨ w0.heap.size ≤ g16) => grown_set (grown_set (grown_set (grown_set h (p := ⟨g16, 0, none⟩) (by rcases hh with rfl | hh; exact .inr rfl; exact .inl hh) (.slice Bv T.bg.length cB)) (p := ⟨g16, 1, none⟩) (by rcases hh with rfl | hh; exact .inr rfl; exact .inl hh) (.int .i64 T.e)) (p := ⟨g16, 2, none⟩) (by rcases hh with rfl | hh; exact .inr rfl; exact .inl hh) (.int .i64 T.way)) (p := ⟨g16, 3, none⟩) (by rcases hh with rfl | hh; exact .inr rfl; exact .inl hh) (.int .i64 T.wt)
    have hsz9 := hg914.size
    have hrow := hst (some g16) w14 (World.grownBy.refl w14 (some g16)) (.inl rfl)
    have hw916 : w9.heap.size ≤ g16 := by omega
    have hgZ := hst none w9 hg914 (.inr hw916)
    have hUZ := hU14.grown hrow (by simp; omega)
    have hRZ : Blk _ g16 38 #[.slice Bv T.bg.length cB, .int .i64 T.e, .int .i64 T.way, .int .i64 T.wt] := (((hR14.set_ 0 (.slice Bv T.bg.length cB)).set_ 1 (.int .i64 T.e)).set_ 2 (.int .i64 T.way)).set_ 3 (.int .i64 T.wt)
    have hrvZ := hrv14.grown_ hrow (by intro a ha e; have := hvlt a ha; injection e with e; omega)
    have hOZ := hO2.kept hrow (own_ne hO2 (by omega))
    have hsZ := (((hs14.far g16 (by omega) 0 (.slice Bv T.bg.length cB)).far g16 (by omega) 1 (.int .i64 T.e)).far g16 (by omega) 2 (.int .i64 T.way)).far g16 (by omega) 3 (.int .i64 T.wt)
    obtain ⟨wZ, hwZ⟩ : ∃ wZ, (((w14.setCell ⟨g16, 0, none⟩ (.slice Bv T.bg.length cB)).setCell ⟨g16, 1, none⟩ (.int .i64 T.e)).setCell ⟨g16, 2, none⟩ (.int .i64 T.way)).setCell ⟨g16, 3, none⟩ (.int .i64 T.wt) = wZ := ⟨_, rfl⟩
    have HTl := Lib.hid (show Blk wZ g13 _ _ ∧ Blk wZ g16 _ _ ∧ Rd wZ 1 Av _ _ ∧ wZ.ownsRow _ _ _ _ _ _ ∧ StrQ _ wZ bs L t4 ∧ w9.grownBy wZ none from by rw [← hwZ]; exact ⟨hUZ, hRZ, hrvZ, hOZ, hsZ, hgZ⟩)
    have HwZ := Lib.hid hwZ
    clear hR14 hU14 hrv14 hs14 hg914 hst hrow hgZ hUZ hRZ hrvZ hOZ hsZ hwZ hsz9 hO2 hrB hvb
    go_wp2_with fail
    rw [HwZ.out]
    clear HwZ HD
  case' neg =>
    obtain ⟨hEF, hT0⟩ := HD.out.2.2.2 hF
    subst hEF
    obtain ⟨Bv, cB, hBc, hcB⟩ : ∃ (B : Option Addr) (c : Nat), Value.slice none 0 0 = .slice B T.bg.length c ∧ T.bg.length ≤ c := ⟨none, 0, by rw [hT0]; rfl, by rw [hT0]; exact Nat.le_refl _⟩
    have hRZ : Blk w13 g16 38 #[.slice Bv T.bg.length cB, .int .i64 T.e, .int .i64 T.way, .int .i64 T.wt] := by rw [← hBc, hT0]; exact hR13
    have hOZ : w13.ownsRow (g16 + 1) 3 1 (.slice Bv T.bg.length cB) T.bg.length (ints T.bg) := by rw [← hBc, hT0]; exact World.ownsRow_nil _ _ _ _
    have hw13 := HZ16.out.1
    obtain ⟨⟨p0, p1, p2, p3⟩, _⟩ := four_ hU13
    obtain ⟨⟨q0, q1, q2, q3⟩, _⟩ := four_ hRZ
    rw [← hw13] at p0 p1 p2 p3 q0 q1 q2 q3
    have hEb : (E == 0) = false := by simpa using hF
    have hZ2 : Value.agg #[.slice none 0 0, .int .i64 0, .int .i64 0, .int .i64 0] = .agg #[.slice Bv T.bg.length cB, .int .i64 T.e, .int .i64 T.way, .int .i64 T.wt] := by rw [← hBc, hT0]; rfl
    have HZ2 := Lib.hid hZ2
    clear hw13 hBc hT0 hF hZ2
    go_wp2_with fail
    rw [HZ2.out]
    rw [HZ16.out.1]
    clear p0 p1 p2 p3 q0 q1 q2 q3 hEb
    have HTl := Lib.hid (show Blk w13 g13 _ _ ∧ Blk w13 g16 _ _ ∧ Rd w13 1 Av _ _ ∧ w13.ownsRow _ _ _ _ _ _ ∧ StrQ _ w13 bs L t4 ∧ w9.grownBy w13 none from ⟨hU13, hRZ, hrv13, hOZ, hs13, hg913⟩)
    clear hU13 hRZ hrv13 hOZ hs13 hg913 hR13 hH13 HD
    (try rw [HZ16.out.2.1])
    generalize w13 = wZ at *
  -- the tail, twice
  · skip
    obtain ⟨hUZ, hRZ, hrvZ, hOZ, hsZ, hgZ⟩ := HTl.out
    obtain ⟨A', c', e', _, _, hrB, _⟩ := Rd.of_own hOZ
    injection e' with e1 e2 e3
    subst e1
    refine (sameTour_any Av Bv T.bg.length cv cB T.bg T.e T.way T.wt wZ hrvZ hrB (by omega)).mono ?_
    rintro e w20 ⟨rfl, hg20⟩
    have hR20 := hRZ.grown hg20 (by simp)
    have hO20 := hOZ.kept hg20 (by cases (Value.slice Bv T.bg.length cB).ownBlock with | none => exact .inl rfl | some g => exact .inr (by simp))
    have hs20 := hsZ.grown hg20 (by simp)
    have hg920 := hgZ.trans hg20
    clear hUZ hRZ hrvZ hOZ hsZ hgZ e2 e3 hrB HTl hg20
    have q0 : w20.cell? ⟨g16, 0, none⟩ = some (.slice Bv T.bg.length cB) := hR20.cell 0
    go_wp2_with fail
    go_loopg [100] (V.length - T.bg.length) (fun k i wq => ∃ (j : Nat) (bg : List Int) (vb : Value), k + j = V.length - T.bg.length ∧ i = .int .i64 j ∧ bg.length = T.bg.length + j
      ∧ Blk wq g16 38 #[vb, .int .i64 T.e, .int .i64 T.way, .int .i64 T.wt] ∧ wq.ownsRow (g16 + 1) 3 1 vb bg.length (ints bg) ∧ Str wq bs L (t4 + j) ∧ w9.grownBy wq (some bs))
    case atStart => exact ⟨0, T.bg, _, by omega, rfl, rfl, hR20, hO20, hs20, hg920.but (some bs)⟩
    case round =>
      clear hR20 hO20 hs20 hg920 q0
      obtain ⟨j, bg, vb, hj, rfl, hlb, hR, hO, hst, hg⟩ := hrel
      by_cases hlt : j < V.length - T.bg.length
      · have hltI : (j : Int) < (V.length : Int) - (T.bg.length : Int) := by omega
        have hbs16 : g16 ≠ bs := by omega
        have hbsS : bs < wr.heap.size := hst.lt
        have hlR := hR.lt
        obtain ⟨y, hy⟩ : ∃ y, [0, 59, 1439, 14400, 14401, -1].getD (nx L (t4 + j) 6).toNat 0 = y := ⟨_, rfl⟩
        have HK := Lib.hid (And.intro (show wr.cell? ⟨g16, 0, none⟩ = some vb from hR.cell 0) hy)
        have HJ := Lib.hid (And.intro hj (And.intro hlb (And.intro hR (And.intro hO hg))))
        clear hy hj hlb hR hO hg hlt
        go_wp2_with fail
        refine region_split_at 8 _ _ rfl rfl (by kernel_rfl) (by kernel_rfl) (by kernel_rfl) (by kernel_rfl) (by kernel_rfl) ?_
        simp only [List.take_succ_cons, List.take_zero, List.size_toArray, List.length_cons, List.length_nil, Nat.reduceAdd]
        refine any_split_at 7 _ _ rfl rfl (by kernel_rfl) (by kernel_rfl) (by kernel_rfl) (by kernel_rfl) ?_
        simp only [List.take_succ_cons, List.take_zero, List.size_toArray, List.length_cons, List.length_nil, Nat.reduceAdd]
        refine any_split_at 6 _ _ rfl rfl (by kernel_rfl) (by kernel_rfl) (by kernel_rfl) (by kernel_rfl) ?_
        simp only [List.take_succ_cons, List.take_zero, List.size_toArray, List.length_cons, List.length_nil, Nat.reduceAdd]
        refine wpAny_facts (frame := ?fr1) ?hfr1 (fun q => [u102, u103, u104, u105, u106, u107].getD q undef) ?h01 (rpF g16 wr.heap.size bs vb y)
          (fun listed f w => rpG wr bs L (t4 + j) y (listed.getD 3 false) (listed.getD 4 false) (listed.getD 5 false) (f 5) w) (GrowS wr.heap.size) rpF_stab ?hG1 (by kernel_rfl) ?hput1 ?hs1 ?hd1
        case hfr1 =>
          intro f
          simp only [putsF, List.zipIdx_cons, List.zipIdx_nil, List.foldl_cons, List.foldl_nil, Nat.reduceAdd, Act.put, List.setIfInBounds_toArray, List.set_cons_zero, List.set_cons_succ]
          rfl
        case h01 => rfl
        case hG1 => exact ⟨by simp, by simp, (grown_drew (grown_refl wr)).but (some bs), hst⟩
        case hput1 =>
          intro i o ho f v
          match i, ho with
          | 0, ho => simp only [List.getElem?_toArray, List.getElem?_cons_zero, Option.some.injEq] at ho; subst ho; rfl
          | 1, ho => simp only [List.getElem?_toArray, List.getElem?_cons_zero, List.getElem?_cons_succ, Option.some.injEq] at ho; subst ho; rfl
          | 2, ho => simp only [List.getElem?_toArray, List.getElem?_cons_zero, List.getElem?_cons_succ, Option.some.injEq] at ho; subst ho; rfl
          | 3, ho => simp only [List.getElem?_toArray, List.getElem?_cons_zero, List.getElem?_cons_succ, Option.some.injEq] at ho; subst ho; rfl
          | 4, ho => simp only [List.getElem?_toArray, List.getElem?_cons_zero, List.getElem?_cons_succ, Option.some.injEq] at ho; subst ho; rfl
          | 5, ho => simp only [List.getElem?_toArray, List.getElem?_cons_zero, List.getElem?_cons_succ, Option.some.injEq] at ho; subst ho; rfl
          | n + 6, ho => simp at ho
        case hs1 =>
          intro i o ho listed f w2 hsz hun hG hpre K hK
          have hsz' : listed.size = 6 := by simpa using hsz
          dsimp only at hK hG ⊢
          match i, ho with
          | 0, ho =>
            simp only [List.getElem?_toArray, List.getElem?_cons_zero, Option.some.injEq] at ho
            subst ho
            go_simp
            exact hK (.pointer (some ⟨g16, 0, none⟩)) _ (GrowS.none_ (grown_refl _)) (by simpa [getD_setT (show 0 < listed.size by omega), updF] using hG) rfl
          | 1, ho =>
            simp only [List.getElem?_toArray, List.getElem?_cons_zero, List.getElem?_cons_succ, Option.some.injEq] at ho
            subst ho
            have e0 : f 0 = .pointer (some ⟨g16, 0, none⟩) := (hpre ⟨0, .data⟩ (by simp) rfl).2
            have z0 : w2.cell? ⟨g16, 0, none⟩ = some vb := rpG_cell hG hbs16 HK.out.1
            rw [e0] at hK ⊢
            go_simp
            exact hK vb _ (GrowS.none_ (grown_refl _)) (by simpa [getD_setT (show 1 < listed.size by omega), updF] using hG) rfl
          | 2, ho =>
            simp only [List.getElem?_toArray, List.getElem?_cons_zero, List.getElem?_cons_succ, Option.some.injEq] at ho
            subst ho
            go_simp
            exact hK (.pointer (some ⟨bs, 0, none⟩)) _ (GrowS.none_ (grown_refl _)) (by simpa [getD_setT (show 2 < listed.size by omega), updF] using hG) rfl
          | 3, ho =>
            simp only [List.getElem?_toArray, List.getElem?_cons_zero, List.getElem?_cons_succ, Option.some.injEq] at ho
            subst ho
            have f3 := getD_ff hun
            have f4 : listed.getD 4 false = false := by
              cases h : listed.getD 4 false with
              | false => rfl
              | true => have := hG.2.1 h; rw [f3] at this; cases this
            have f5 : listed.getD 5 false = false := by
              cases h : listed.getD 5 false with
              | false => rfl
              | true => have := hG.1 h; rw [f4] at this; cases this
            rw [f3, f4, f5] at hG
            go_simp
            refine hK (.slice (some ⟨w2.heap.size, 0, none⟩) 6 6) _ (GrowS.none_ (grown_alloc (grown_refl _) _)) ?_ (Lit.new w2 (ints [0, 59, 1439, 14400, 14401, -1]).toArray 3 (rpG_size hG))
            rw [getD_setT (by omega), getD_setT (by omega), getD_setT (by omega), if_pos rfl, if_neg (by decide), if_neg (by decide), f4, f5]
            exact ⟨by simp, by simp, (hG.2.2).1.trans ((grown_alloc (grown_refl _) _).but _), (hG.2.2).2.grown (grown_alloc (grown_refl _) _) (by simp)⟩
          | 4, ho =>
            simp only [List.getElem?_toArray, List.getElem?_cons_zero, List.getElem?_cons_succ, Option.some.injEq] at ho
            subst ho
            have f4 := getD_ff hun
            have f5 : listed.getD 5 false = false := by
              cases h : listed.getD 5 false with
              | false => rfl
              | true => have := hG.1 h; rw [f4] at this; cases this
            have b3 := (hpre ⟨3, .data⟩ (by simp) rfl).1
            have e2 : f 2 = .pointer (some ⟨bs, 0, none⟩) := (hpre ⟨2, .data⟩ (by simp) rfl).2
            obtain ⟨N, e3, hrd, hN⟩ := (hpre ⟨3, .data⟩ (by simp) rfl).2
            rw [f4, f5, b3] at hG
            rw [e2, e3] at hK ⊢
            go_simp
            refine (pick_any bs L (t4 + j) (some ⟨N, 0, none⟩) 6 [0, 59, 1439, 14400, 14401, -1] w2 (hG.2.2).2 (by omega) (by decide) (by decide) hrd (by intro a e; cases e; simp; omega)).mono ?_
            rintro e w5 ⟨rfl, hs5, hg5⟩
            dsimp only
            refine hK (.int .i64 ([0, 59, 1439, 14400, 14401, -1].getD (nx L (t4 + j) 6).toNat 0)) w5 (GrowS.some_ hg5 hbsS) ?_ ?_
            · rw [getD_setT (by omega), getD_setT (by omega), getD_setT (by omega), if_neg (by decide), if_pos rfl, if_neg (by decide), f5, b3]
              exact ⟨by simp, by simp, (hG.2.2).1.trans hg5, hs5⟩
            · exact congrArg (Value.int .i64) HK.out.2
          | 5, ho =>
            simp only [List.getElem?_toArray, List.getElem?_cons_zero, List.getElem?_cons_succ, Option.some.injEq] at ho
            subst ho
            have f5 := getD_ff hun
            have b4 := (hpre ⟨4, .data⟩ (by simp) rfl).1
            have e4 : f 4 = .int .i64 y := (hpre ⟨4, .data⟩ (by simp) rfl).2
            rw [f5, b4] at hG
            rw [e4] at hK ⊢
            go_simp
            refine hK (.slice (some ⟨w2.heap.size, 0, none⟩) 1 1) _ (GrowS.none_ (grown_alloc (grown_refl _) _)) ?_ trivial
            rw [getD_setT (by omega), getD_setT (by omega), getD_setT (by omega), if_neg (by decide), if_neg (by decide), if_pos rfl, b4]
            exact ⟨by simp, hG.2.1, w2, rfl, by simp [updF], (hG.2.2).1, (hG.2.2).2⟩
          | n + 6, ho => simp at ho
        case hd1 =>
          intro listed f w2 hall hG hF
          have f5 := hall 5 (by simp)
          have f4 := hall 4 (by simp)
          have f3 := hall 3 (by simp)
          rw [f3, f4, f5] at hG
          obtain ⟨wq, rfl, e5, hgq, hsq⟩ := hG.2.2
          have e1 : f 1 = vb := hF 1 (by simp)
          rw [e1, e5]
          obtain ⟨hj, hlb, hR, hO, hg⟩ := HJ.out
          have hszq := hgq.size
          have hOq := hO.kept hgq (own_ne hO (by omega))
          have hRq := hR.grown hgq (by intro e; injection e with e; exact hbs16 e)
          have hgw := hg.trans hgq
          have hvb := hOq.lt
          have hRb := fun (w8 : World) (h : (wq.alloc (.cells #[.int .i64 y] 3)).grownBy w8 vb.ownBlock) => (hRq.alloc (.cells #[.int .i64 y] 3)).grown h (fun e => by have := hvb g16 e.symm; omega)
          have hsb := fun (w8 : World) (h : (wq.alloc (.cells #[.int .i64 y] 3)).grownBy w8 vb.ownBlock) => (hsq.grown (grown_alloc (grown_refl wq) (.cells #[.int .i64 y] 3)) (by simp)).grown h (fun k e => by have := hvb k e; omega)
          have hgb := fun (w8 : World) (h : (wq.alloc (.cells #[.int .i64 y] 3)).grownBy w8 vb.ownBlock) => ap_grown hgw hOq h (by omega)
          have HQ := Lib.hid (And.intro hRb (And.intro hsb (And.intro hgb hOq)))
          clear hRb hsb hgb hRq hsq hgw hgq hG hF hall hO hR hg hvb
          show wpList _ _ _ _ _ _
          go_wp2_with (at_builtin; refine ap_int wq y rfl _ _ rfl (g16 + 1) vb bg rfl HQ.out.2.2.2 rfl (by omega) (by omega) ?_; intro v8 w8 hown8 hg8; obtain ⟨A8, c8, rfl, _, _, _, _⟩ := Rd.of_own hown8; obtain ⟨⟨x0, x1, x2, x3⟩, y0, y1, y2, y3⟩ := four_ (HQ.out.1 _ hg8))
          show wpList _ _ _ _ _ _
          go_wp2_with fail
          show wpList _ _ _ _ _ _
          go_wp2_with fail
          have hle : (bg ++ [y]).length = T.bg.length + j + 1 := by rw [List.length_append, hlb]; rfl
          have hown9 : w8.ownsRow (g16 + 1) 3 1 (.slice A8 (T.bg.length + j + 1) c8) (bg ++ [y]).length (ints (bg ++ [y])) := by
            first
              | exact hown8
              | (rw [← hle]; exact hown8)
          have hR8 := (HQ.out.1 _ hg8).set_ 0 (.slice A8 (T.bg.length + j + 1) c8)
          have hO8 := hown9.kept (grown_set (World.grownBy.refl w8 (some g16)) (p := ⟨g16, 0, none⟩) (.inr rfl) (.slice A8 (T.bg.length + j + 1) c8)) (own_ne hown9 (by omega))
          have hs8 := (HQ.out.2.1 _ hg8).far g16 (by omega) 0 (.slice A8 (T.bg.length + j + 1) c8)
          have hg9 := grown_set (HQ.out.2.2.1 _ hg8) (p := ⟨g16, 0, none⟩) (.inl (by simp; omega)) (.slice A8 (T.bg.length + j + 1) c8)
          go_roundg (gk - 1)
          case measure => omega
          case rel => exact ⟨j + 1, bg ++ [y], .slice A8 (T.bg.length + j + 1) c8, by omega, by go_num, by omega, hR8, hO8, hs8, hg9⟩
      · obtain ⟨Ab, cb, rfl, hcb, _, hrb, _⟩ := Rd.of_own hO
        have hltI : (V.length : Int) - (T.bg.length : Int) ≤ (j : Int) := by omega
        have hgw := hgg10.trans hg
        have hgf : w.grownBy wr none := grown_below (grown_refl w) hgw (fun k hk => .inl (by cases hk; have := HZ.out.1; omega))
        have hTw := tabP_grown HZ.out.2 hgf
        have hrV := hr10.grown_ hg (by intro a ha e; have := hAb a ha; injection e with e; omega)
        obtain ⟨⟨q0, q1, q2, q3⟩, _⟩ := four_ hR
        have hbl11 : bg.length ≤ 21 := by omega
        have hpr := print_any A V.length cA V Ab bg.length cb bg T.e T.way T.wt wr hrV hcA hrb (by omega) hTw
        have he1 : Enters Tryd.prog 61 := enters_of Tryd.func61 (by kernel_rfl) rfl
        have htf := fun wx (h : wr.grownBy wx none) => tourFault_any A V.length cA V Ab bg.length cb bg T.e T.way T.wt wx (hrV.grown h) hcA (hrb.grown h) (by omega) he1
        have hbl : tourF V bg = 0 → bg.length = V.length := by
          intro h
          unfold tourF at h
          by_cases h1 : stopsF V = 0
          · rw [if_neg (by simp [h1])] at h
            by_cases h2 : bg.length = V.length
            · exact h2
            · rw [if_pos h2] at h; cases h
          · rw [if_pos h1] at h; exact absurd h h1
        have htt := fun wx (h : wr.grownBy wx none) (h0 : tourF V bg = 0) => tourText_any A cA V Ab V.length cb bg T.e T.way T.wt wx (hrV.grown h) (by rw [← hbl h0]; exact hrb.grown h) (by omega) h0
        obtain ⟨PF, hPF⟩ : ∃ PF, tourF V bg = PF := ⟨_, rfl⟩
        rw [hPF] at hpr hbl htt
        simp only [hPF] at htf
        obtain ⟨PS, hPS⟩ : ∃ PS, (if PF = 0 then (⟨(textL V bg).toArray⟩ : ByteArray) else ByteArray.empty) = PS := ⟨_, rfl⟩
        rw [hPS] at hpr
        have HP := Lib.hid (And.intro hpr (And.intro htf (And.intro hbl (And.intro htt (And.intro hR (And.intro hgf hPS))))))
        clear hpr htf hbl htt hO hst hg hgw hTw hrV hR hrb he1 hgf hlb hPF hPS
        go_wp2_with fail
        refine HP.out.1.mono ?_
        rintro e w21 ⟨rfl, hg21⟩
        obtain ⟨⟨q0', q1', q2', q3'⟩, _⟩ := four_ (HP.out.2.2.2.2.1.grown hg21 (by simp))
        clear q0 q1 q2 q3
        go_wp2_with fail
        refine (HP.out.2.1 w21 hg21).mono ?_
        rintro e w22 ⟨rfl, hg22⟩
        have hg2122 := hg21.trans hg22
        clear q0' q1' q2' q3'
        go_wp2_with fail
        refine (lawRounds_any w22).mono ?_
        rintro e w23 ⟨rfl, hg23⟩
        have hg23' := hg2122.trans hg23
        by_cases hP0 : PF = 0
        · have hPS' : PS = ⟨(textL V bg).toArray⟩ := by rw [← HP.out.2.2.2.2.2.2, if_pos hP0]
          have hbl' := HP.out.2.2.1 hP0
          obtain ⟨⟨s0, s1, s2, s3⟩, _⟩ := four_ (HP.out.2.2.2.2.1.grown hg23' (by simp))
          subst hP0
          subst hPS'
          go_wp2_with fail
          refine (HP.out.2.2.2.1 w23 hg23' (by trivial)).mono ?_
          rintro e w24 ⟨rfl, hg24⟩
          go_wp2_with fail
          go_ret
          exact ⟨rfl, (HP.out.2.2.2.2.2.1.trans hg23').trans hg24⟩
        · have hb : (PF != 0) = true := by rw [bne_iff_ne]; exact hP0
          clear hP0
          go_wp2_with fail
          go_ret
          exact ⟨rfl, HP.out.2.2.2.2.2.1.trans hg23'⟩
  · skip
    obtain ⟨hUZ, hRZ, hrvZ, hOZ, hsZ, hgZ⟩ := HTl.out
    obtain ⟨A', c', e', _, _, hrB, _⟩ := Rd.of_own hOZ
    injection e' with e1 e2 e3
    subst e1
    refine (sameTour_any Av Bv T.bg.length cv cB T.bg T.e T.way T.wt wZ hrvZ hrB (by omega)).mono ?_
    rintro e w20 ⟨rfl, hg20⟩
    have hR20 := hRZ.grown hg20 (by simp)
    have hO20 := hOZ.kept hg20 (by cases (Value.slice Bv T.bg.length cB).ownBlock with | none => exact .inl rfl | some g => exact .inr (by simp))
    have hs20 := hsZ.grown hg20 (by simp)
    have hg920 := hgZ.trans hg20
    clear hUZ hRZ hrvZ hOZ hsZ hgZ e2 e3 hrB HTl hg20
    have q0 : w20.cell? ⟨g16, 0, none⟩ = some (.slice Bv T.bg.length cB) := hR20.cell 0
    go_wp2_with fail
    go_loopg [100] (V.length - T.bg.length) (fun k i wq => ∃ (j : Nat) (bg : List Int) (vb : Value), k + j = V.length - T.bg.length ∧ i = .int .i64 j ∧ bg.length = T.bg.length + j
      ∧ Blk wq g16 38 #[vb, .int .i64 T.e, .int .i64 T.way, .int .i64 T.wt] ∧ wq.ownsRow (g16 + 1) 3 1 vb bg.length (ints bg) ∧ Str wq bs L (t4 + j) ∧ w9.grownBy wq (some bs))
    case atStart => exact ⟨0, T.bg, _, by omega, rfl, rfl, hR20, hO20, hs20, hg920.but (some bs)⟩
    case round =>
      clear hR20 hO20 hs20 hg920 q0
      obtain ⟨j, bg, vb, hj, rfl, hlb, hR, hO, hst, hg⟩ := hrel
      by_cases hlt : j < V.length - T.bg.length
      · have hltI : (j : Int) < (V.length : Int) - (T.bg.length : Int) := by omega
        have hbs16 : g16 ≠ bs := by omega
        have hbsS : bs < wr.heap.size := hst.lt
        have hlR := hR.lt
        obtain ⟨y, hy⟩ : ∃ y, [0, 59, 1439, 14400, 14401, -1].getD (nx L (t4 + j) 6).toNat 0 = y := ⟨_, rfl⟩
        have HK := Lib.hid (And.intro (show wr.cell? ⟨g16, 0, none⟩ = some vb from hR.cell 0) hy)
        have HJ := Lib.hid (And.intro hj (And.intro hlb (And.intro hR (And.intro hO hg))))
        clear hy hj hlb hR hO hg hlt
        go_wp2_with fail
        refine region_split_at 8 _ _ rfl rfl (by kernel_rfl) (by kernel_rfl) (by kernel_rfl) (by kernel_rfl) (by kernel_rfl) ?_
        simp only [List.take_succ_cons, List.take_zero, List.size_toArray, List.length_cons, List.length_nil, Nat.reduceAdd]
        refine any_split_at 7 _ _ rfl rfl (by kernel_rfl) (by kernel_rfl) (by kernel_rfl) (by kernel_rfl) ?_
        simp only [List.take_succ_cons, List.take_zero, List.size_toArray, List.length_cons, List.length_nil, Nat.reduceAdd]
        refine any_split_at 6 _ _ rfl rfl (by kernel_rfl) (by kernel_rfl) (by kernel_rfl) (by kernel_rfl) ?_
        simp only [List.take_succ_cons, List.take_zero, List.size_toArray, List.length_cons, List.length_nil, Nat.reduceAdd]
        refine wpAny_facts (frame := ?fr2) ?hfr2 (fun q => [u102, u103, u104, u105, u106, u107].getD q undef) ?h02 (rpF g16 wr.heap.size bs vb y)
          (fun listed f w => rpG wr bs L (t4 + j) y (listed.getD 3 false) (listed.getD 4 false) (listed.getD 5 false) (f 5) w) (GrowS wr.heap.size) rpF_stab ?hG2 (by kernel_rfl) ?hput2 ?hs2 ?hd2
        case hfr2 =>
          intro f
          simp only [putsF, List.zipIdx_cons, List.zipIdx_nil, List.foldl_cons, List.foldl_nil, Nat.reduceAdd, Act.put, List.setIfInBounds_toArray, List.set_cons_zero, List.set_cons_succ]
          rfl
        case h02 => rfl
        case hG2 => exact ⟨by simp, by simp, (grown_drew (grown_refl wr)).but (some bs), hst⟩
        case hput2 =>
          intro i o ho f v
          match i, ho with
          | 0, ho => simp only [List.getElem?_toArray, List.getElem?_cons_zero, Option.some.injEq] at ho; subst ho; rfl
          | 1, ho => simp only [List.getElem?_toArray, List.getElem?_cons_zero, List.getElem?_cons_succ, Option.some.injEq] at ho; subst ho; rfl
          | 2, ho => simp only [List.getElem?_toArray, List.getElem?_cons_zero, List.getElem?_cons_succ, Option.some.injEq] at ho; subst ho; rfl
          | 3, ho => simp only [List.getElem?_toArray, List.getElem?_cons_zero, List.getElem?_cons_succ, Option.some.injEq] at ho; subst ho; rfl
          | 4, ho => simp only [List.getElem?_toArray, List.getElem?_cons_zero, List.getElem?_cons_succ, Option.some.injEq] at ho; subst ho; rfl
          | 5, ho => simp only [List.getElem?_toArray, List.getElem?_cons_zero, List.getElem?_cons_succ, Option.some.injEq] at ho; subst ho; rfl
          | n + 6, ho => simp at ho
        case hs2 =>
          intro i o ho listed f w2 hsz hun hG hpre K hK
          have hsz' : listed.size = 6 := by simpa using hsz
          dsimp only at hK hG ⊢
          match i, ho with
          | 0, ho =>
            simp only [List.getElem?_toArray, List.getElem?_cons_zero, Option.some.injEq] at ho
            subst ho
            go_simp
            exact hK (.pointer (some ⟨g16, 0, none⟩)) _ (GrowS.none_ (grown_refl _)) (by simpa [getD_setT (show 0 < listed.size by omega), updF] using hG) rfl
          | 1, ho =>
            simp only [List.getElem?_toArray, List.getElem?_cons_zero, List.getElem?_cons_succ, Option.some.injEq] at ho
            subst ho
            have e0 : f 0 = .pointer (some ⟨g16, 0, none⟩) := (hpre ⟨0, .data⟩ (by simp) rfl).2
            have z0 : w2.cell? ⟨g16, 0, none⟩ = some vb := rpG_cell hG hbs16 HK.out.1
            rw [e0] at hK ⊢
            go_simp
            exact hK vb _ (GrowS.none_ (grown_refl _)) (by simpa [getD_setT (show 1 < listed.size by omega), updF] using hG) rfl
          | 2, ho =>
            simp only [List.getElem?_toArray, List.getElem?_cons_zero, List.getElem?_cons_succ, Option.some.injEq] at ho
            subst ho
            go_simp
            exact hK (.pointer (some ⟨bs, 0, none⟩)) _ (GrowS.none_ (grown_refl _)) (by simpa [getD_setT (show 2 < listed.size by omega), updF] using hG) rfl
          | 3, ho =>
            simp only [List.getElem?_toArray, List.getElem?_cons_zero, List.getElem?_cons_succ, Option.some.injEq] at ho
            subst ho
            have f3 := getD_ff hun
            have f4 : listed.getD 4 false = false := by
              cases h : listed.getD 4 false with
              | false => rfl
              | true => have := hG.2.1 h; rw [f3] at this; cases this
            have f5 : listed.getD 5 false = false := by
              cases h : listed.getD 5 false with
              | false => rfl
              | true => have := hG.1 h; rw [f4] at this; cases this
            rw [f3, f4, f5] at hG
            go_simp
            refine hK (.slice (some ⟨w2.heap.size, 0, none⟩) 6 6) _ (GrowS.none_ (grown_alloc (grown_refl _) _)) ?_ (Lit.new w2 (ints [0, 59, 1439, 14400, 14401, -1]).toArray 3 (rpG_size hG))
            rw [getD_setT (by omega), getD_setT (by omega), getD_setT (by omega), if_pos rfl, if_neg (by decide), if_neg (by decide), f4, f5]
            exact ⟨by simp, by simp, (hG.2.2).1.trans ((grown_alloc (grown_refl _) _).but _), (hG.2.2).2.grown (grown_alloc (grown_refl _) _) (by simp)⟩
          | 4, ho =>
            simp only [List.getElem?_toArray, List.getElem?_cons_zero, List.getElem?_cons_succ, Option.some.injEq] at ho
            subst ho
            have f4 := getD_ff hun
            have f5 : listed.getD 5 false = false := by
              cases h : listed.getD 5 false with
              | false => rfl
              | true => have := hG.1 h; rw [f4] at this; cases this
            have b3 := (hpre ⟨3, .data⟩ (by simp) rfl).1
            have e2 : f 2 = .pointer (some ⟨bs, 0, none⟩) := (hpre ⟨2, .data⟩ (by simp) rfl).2
            obtain ⟨N, e3, hrd, hN⟩ := (hpre ⟨3, .data⟩ (by simp) rfl).2
            rw [f4, f5, b3] at hG
            rw [e2, e3] at hK ⊢
            go_simp
            refine (pick_any bs L (t4 + j) (some ⟨N, 0, none⟩) 6 [0, 59, 1439, 14400, 14401, -1] w2 (hG.2.2).2 (by omega) (by decide) (by decide) hrd (by intro a e; cases e; simp; omega)).mono ?_
            rintro e w5 ⟨rfl, hs5, hg5⟩
            dsimp only
            refine hK (.int .i64 ([0, 59, 1439, 14400, 14401, -1].getD (nx L (t4 + j) 6).toNat 0)) w5 (GrowS.some_ hg5 hbsS) ?_ ?_
            · rw [getD_setT (by omega), getD_setT (by omega), getD_setT (by omega), if_neg (by decide), if_pos rfl, if_neg (by decide), f5, b3]
              exact ⟨by simp, by simp, (hG.2.2).1.trans hg5, hs5⟩
            · exact congrArg (Value.int .i64) HK.out.2
          | 5, ho =>
            simp only [List.getElem?_toArray, List.getElem?_cons_zero, List.getElem?_cons_succ, Option.some.injEq] at ho
            subst ho
            have f5 := getD_ff hun
            have b4 := (hpre ⟨4, .data⟩ (by simp) rfl).1
            have e4 : f 4 = .int .i64 y := (hpre ⟨4, .data⟩ (by simp) rfl).2
            rw [f5, b4] at hG
            rw [e4] at hK ⊢
            go_simp
            refine hK (.slice (some ⟨w2.heap.size, 0, none⟩) 1 1) _ (GrowS.none_ (grown_alloc (grown_refl _) _)) ?_ trivial
            rw [getD_setT (by omega), getD_setT (by omega), getD_setT (by omega), if_neg (by decide), if_neg (by decide), if_pos rfl, b4]
            exact ⟨by simp, hG.2.1, w2, rfl, by simp [updF], (hG.2.2).1, (hG.2.2).2⟩
          | n + 6, ho => simp at ho
        case hd2 =>
          intro listed f w2 hall hG hF
          have f5 := hall 5 (by simp)
          have f4 := hall 4 (by simp)
          have f3 := hall 3 (by simp)
          rw [f3, f4, f5] at hG
          obtain ⟨wq, rfl, e5, hgq, hsq⟩ := hG.2.2
          have e1 : f 1 = vb := hF 1 (by simp)
          rw [e1, e5]
          obtain ⟨hj, hlb, hR, hO, hg⟩ := HJ.out
          have hszq := hgq.size
          have hOq := hO.kept hgq (own_ne hO (by omega))
          have hRq := hR.grown hgq (by intro e; injection e with e; exact hbs16 e)
          have hgw := hg.trans hgq
          have hvb := hOq.lt
          have hRb := fun (w8 : World) (h : (wq.alloc (.cells #[.int .i64 y] 3)).grownBy w8 vb.ownBlock) => (hRq.alloc (.cells #[.int .i64 y] 3)).grown h (fun e => by have := hvb g16 e.symm; omega)
          have hsb := fun (w8 : World) (h : (wq.alloc (.cells #[.int .i64 y] 3)).grownBy w8 vb.ownBlock) => (hsq.grown (grown_alloc (grown_refl wq) (.cells #[.int .i64 y] 3)) (by simp)).grown h (fun k e => by have := hvb k e; omega)
          have hgb := fun (w8 : World) (h : (wq.alloc (.cells #[.int .i64 y] 3)).grownBy w8 vb.ownBlock) => ap_grown hgw hOq h (by omega)
          have HQ := Lib.hid (And.intro hRb (And.intro hsb (And.intro hgb hOq)))
          clear hRb hsb hgb hRq hsq hgw hgq hG hF hall hO hR hg hvb
          show wpList _ _ _ _ _ _
          go_wp2_with (at_builtin; refine ap_int wq y rfl _ _ rfl (g16 + 1) vb bg rfl HQ.out.2.2.2 rfl (by omega) (by omega) ?_; intro v8 w8 hown8 hg8; obtain ⟨A8, c8, rfl, _, _, _, _⟩ := Rd.of_own hown8; obtain ⟨⟨x0, x1, x2, x3⟩, y0, y1, y2, y3⟩ := four_ (HQ.out.1 _ hg8))
          show wpList _ _ _ _ _ _
          go_wp2_with fail
          show wpList _ _ _ _ _ _
          go_wp2_with fail
          have hle : (bg ++ [y]).length = T.bg.length + j + 1 := by rw [List.length_append, hlb]; rfl
          have hown9 : w8.ownsRow (g16 + 1) 3 1 (.slice A8 (T.bg.length + j + 1) c8) (bg ++ [y]).length (ints (bg ++ [y])) := by
            first
              | exact hown8
              | (rw [← hle]; exact hown8)
          have hR8 := (HQ.out.1 _ hg8).set_ 0 (.slice A8 (T.bg.length + j + 1) c8)
          have hO8 := hown9.kept (grown_set (World.grownBy.refl w8 (some g16)) (p := ⟨g16, 0, none⟩) (.inr rfl) (.slice A8 (T.bg.length + j + 1) c8)) (own_ne hown9 (by omega))
          have hs8 := (HQ.out.2.1 _ hg8).far g16 (by omega) 0 (.slice A8 (T.bg.length + j + 1) c8)
          have hg9 := grown_set (HQ.out.2.2.1 _ hg8) (p := ⟨g16, 0, none⟩) (.inl (by simp; omega)) (.slice A8 (T.bg.length + j + 1) c8)
          go_roundg (gk - 1)
          case measure => omega
          case rel => exact ⟨j + 1, bg ++ [y], .slice A8 (T.bg.length + j + 1) c8, by omega, by go_num, by omega, hR8, hO8, hs8, hg9⟩
      · obtain ⟨Ab, cb, rfl, hcb, _, hrb, _⟩ := Rd.of_own hO
        have hltI : (V.length : Int) - (T.bg.length : Int) ≤ (j : Int) := by omega
        have hgw := hgg10.trans hg
        have hgf : w.grownBy wr none := grown_below (grown_refl w) hgw (fun k hk => .inl (by cases hk; have := HZ.out.1; omega))
        have hTw := tabP_grown HZ.out.2 hgf
        have hrV := hr10.grown_ hg (by intro a ha e; have := hAb a ha; injection e with e; omega)
        obtain ⟨⟨q0, q1, q2, q3⟩, _⟩ := four_ hR
        have hbl11 : bg.length ≤ 21 := by omega
        have hpr := print_any A V.length cA V Ab bg.length cb bg T.e T.way T.wt wr hrV hcA hrb (by omega) hTw
        have he1 : Enters Tryd.prog 61 := enters_of Tryd.func61 (by kernel_rfl) rfl
        have htf := fun wx (h : wr.grownBy wx none) => tourFault_any A V.length cA V Ab bg.length cb bg T.e T.way T.wt wx (hrV.grown h) hcA (hrb.grown h) (by omega) he1
        have hbl : tourF V bg = 0 → bg.length = V.length := by
          intro h
          unfold tourF at h
          by_cases h1 : stopsF V = 0
          · rw [if_neg (by simp [h1])] at h
            by_cases h2 : bg.length = V.length
            · exact h2
            · rw [if_pos h2] at h; cases h
          · rw [if_pos h1] at h; exact absurd h h1
        have htt := fun wx (h : wr.grownBy wx none) (h0 : tourF V bg = 0) => tourText_any A cA V Ab V.length cb bg T.e T.way T.wt wx (hrV.grown h) (by rw [← hbl h0]; exact hrb.grown h) (by omega) h0
        obtain ⟨PF, hPF⟩ : ∃ PF, tourF V bg = PF := ⟨_, rfl⟩
        rw [hPF] at hpr hbl htt
        simp only [hPF] at htf
        obtain ⟨PS, hPS⟩ : ∃ PS, (if PF = 0 then (⟨(textL V bg).toArray⟩ : ByteArray) else ByteArray.empty) = PS := ⟨_, rfl⟩
        rw [hPS] at hpr
        have HP := Lib.hid (And.intro hpr (And.intro htf (And.intro hbl (And.intro htt (And.intro hR (And.intro hgf hPS))))))
        clear hpr htf hbl htt hO hst hg hgw hTw hrV hR hrb he1 hgf hlb hPF hPS
        go_wp2_with fail
        refine HP.out.1.mono ?_
        rintro e w21 ⟨rfl, hg21⟩
        obtain ⟨⟨q0', q1', q2', q3'⟩, _⟩ := four_ (HP.out.2.2.2.2.1.grown hg21 (by simp))
        clear q0 q1 q2 q3
        go_wp2_with fail
        refine (HP.out.2.1 w21 hg21).mono ?_
        rintro e w22 ⟨rfl, hg22⟩
        have hg2122 := hg21.trans hg22
        clear q0' q1' q2' q3'
        go_wp2_with fail
        refine (lawRounds_any w22).mono ?_
        rintro e w23 ⟨rfl, hg23⟩
        have hg23' := hg2122.trans hg23
        by_cases hP0 : PF = 0
        · have hPS' : PS = ⟨(textL V bg).toArray⟩ := by rw [← HP.out.2.2.2.2.2.2, if_pos hP0]
          have hbl' := HP.out.2.2.1 hP0
          obtain ⟨⟨s0, s1, s2, s3⟩, _⟩ := four_ (HP.out.2.2.2.2.1.grown hg23' (by simp))
          subst hP0
          subst hPS'
          go_wp2_with fail
          refine (HP.out.2.2.2.1 w23 hg23' (by trivial)).mono ?_
          rintro e w24 ⟨rfl, hg24⟩
          go_wp2_with fail
          go_ret
          exact ⟨rfl, (HP.out.2.2.2.2.2.1.trans hg23').trans hg24⟩
        · have hb : (PF != 0) = true := by rw [bne_iff_ne]; exact hP0
          clear hP0
          go_wp2_with fail
          go_ret
          exact ⟨rfl, HP.out.2.2.2.2.2.1.trans hg23'⟩

end Go.Proofs.YtbkcadkfcjmpiaaDoor
