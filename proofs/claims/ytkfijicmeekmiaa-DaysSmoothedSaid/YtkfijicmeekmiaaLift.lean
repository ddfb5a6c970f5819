/- The walks of Lift and of the reference's LiftOf. -/
import Derived.Test.YtkfijicmeekmiaaUncov
namespace Go.Proofs.Ytkfijicmeekmiaa
open Go.RowKit

/-- The days of a window; those that lasted, inside and outside. -/
def inB (F T : Int) (t : Sal) : Bool := decide (F ≤ t.d) && decide (t.d < T)
def lfA (F T : Int) (t : Sal) : Bool := !t.o && inB F T t
def lfO (F T : Int) (t : Sal) : Bool := !t.o && !inB F T t

theorem lift1_any (F T : Int) (B : Nat) (x : Sal) (w : World) (h0 : w.cell? ⟨B, 0, none⟩ = some (.int .i64 F)) (h1 : w.cell? ⟨B, 1, none⟩ = some (.int .i64 T)) :
    Calls Try.prog 81 #[.agg #[.int .i64 x.d, .int .i64 x.s, .bool x.o], .pointer (some ⟨B, 0, none⟩)] w fun e w' => e = .returned (.bool (inB F T x)) ∧ w.grownBy w' none := by
  have hg := grown_alloc (grown_refl w) (.cells #[.int .i64 x.d, .int .i64 x.s, .bool x.o] 79)
  have c0 := hg.cell h0 (by simp)
  have c1 := hg.cell h1 (by simp)
  by_cases h : F ≤ x.d
  · have hd : decide (F ≤ x.d) = true := by simpa using h
    have hb : inB F T x = decide (x.d < T) := by unfold inB; rw [hd]; rfl
    rw [hb]
    clear hb h0 h1
    go_enter Try.func81, Try.ntmps81
    go_wp2_with fail
    go_ret
    exact ⟨rfl, hg⟩
  · have hd : decide (F ≤ x.d) = false := by simpa using h
    have hb : inB F T x = false := by unfold inB; rw [hd]; rfl
    rw [hb]
    clear hb h0 h1
    go_enter Try.func81, Try.ntmps81
    go_wp2_with fail
    go_ret
    exact ⟨rfl, hg⟩

theorem refLift1_any (F T : Int) (B : Nat) (x : Sal) (w : World) (h0 : w.cell? ⟨B, 0, none⟩ = some (.int .i64 F)) (h1 : w.cell? ⟨B, 1, none⟩ = some (.int .i64 T)) :
    Calls Try.prog 87 #[.agg #[.int .i64 x.d, .int .i64 x.s, .bool x.o], .pointer (some ⟨B, 0, none⟩)] w fun e w' => e = .returned (.bool (inB F T x)) ∧ w.grownBy w' none := by
  have hg := grown_alloc (grown_refl w) (.cells #[.int .i64 x.d, .int .i64 x.s, .bool x.o] 79)
  have c0 := hg.cell h0 (by simp)
  have c1 := hg.cell h1 (by simp)
  by_cases h : F ≤ x.d
  · have hd : decide (F ≤ x.d) = true := by simpa using h
    have hb : inB F T x = decide (x.d < T) := by unfold inB; rw [hd]; rfl
    rw [hb]
    clear hb h0 h1
    go_enter Try.func87, Try.ntmps87
    go_wp2_with fail
    go_ret
    exact ⟨rfl, hg⟩
  · have hd : decide (F ≤ x.d) = false := by simpa using h
    have hb : inB F T x = false := by unfold inB; rw [hd]; rfl
    rw [hb]
    clear hb h0 h1
    go_enter Try.func87, Try.ntmps87
    go_wp2_with fail
    go_ret
    exact ⟨rfl, hg⟩

theorem lift2_any (F T : Int) (B C : Nat) (x : Sal) (w : World) (h0 : w.cell? ⟨B, 0, none⟩ = some (.int .i64 F)) (h1 : w.cell? ⟨B, 1, none⟩ = some (.int .i64 T))
    (hc : w.cell? ⟨C, 0, none⟩ = some (.func (.func 81) #[] #[.pointer (some ⟨B, 0, none⟩)])) :
    Calls Try.prog 82 #[.agg #[.int .i64 x.d, .int .i64 x.s, .bool x.o], .pointer (some ⟨C, 0, none⟩)] w fun e w' => e = .returned (.bool (lfA F T x)) ∧ w.grownBy w' none := by
  have hg := grown_alloc (grown_refl w) (.cells #[.int .i64 x.d, .int .i64 x.s, .bool x.o] 79)
  have hB0 := Blk.new w 79 #[.int .i64 x.d, .int .i64 x.s, .bool x.o]
  have hl := lasted_any x
  have h1' := fun w1 (h0 : w1.cell? ⟨B, 0, none⟩ = some (.int .i64 F)) (h1 : w1.cell? ⟨B, 1, none⟩ = some (.int .i64 T)) => lift1_any F T B x w1 h0 h1
  have he' : ∀ (args : Array Value) (w : World), (callFunc 81 args).run Try.prog w = .ok (.enter 81 args) w := enters_of Try.func81 (by kernel_rfl) rfl
  have hb : lfA F T x = (lastB x && inB F T x) := rfl
  rw [hb]
  generalize lastB x = b1 at *
  generalize inB F T x = b2 at *
  have HC := Lib.hid (And.intro hl (And.intro h1' (And.intro h0 (And.intro h1 hc))))
  clear hb hl h1' h0 h1 hc
  go_enter Try.func82, Try.ntmps82
  go_wp2_with fail
  refine (HC.out.1 _).mono ?_
  rintro e w3 ⟨rfl, hg3⟩
  have hgg := hg.trans hg3
  obtain ⟨d0, d1, d2, _, _, _⟩ := (hB0.grown hg3 (by simp)).three
  have hc3 := hgg.cell HC.out.2.2.2.2 (by simp)
  cases b1
  · go_wp2_with fail
    go_ret
    exact ⟨rfl, hgg⟩
  · go_wp2_with fail
    refine (HC.out.2.1 _ (hgg.cell HC.out.2.2.1 (by simp)) (hgg.cell HC.out.2.2.2.1 (by simp))).mono ?_
    rintro e w4 ⟨rfl, hg4⟩
    go_wp2_with fail
    go_ret
    exact ⟨by simp, hgg.trans hg4⟩

theorem lift3_any (F T : Int) (B C : Nat) (x : Sal) (w : World) (h0 : w.cell? ⟨B, 0, none⟩ = some (.int .i64 F)) (h1 : w.cell? ⟨B, 1, none⟩ = some (.int .i64 T))
    (hc : w.cell? ⟨C, 0, none⟩ = some (.func (.func 81) #[] #[.pointer (some ⟨B, 0, none⟩)])) :
    Calls Try.prog 83 #[.agg #[.int .i64 x.d, .int .i64 x.s, .bool x.o], .pointer (some ⟨C, 0, none⟩)] w fun e w' => e = .returned (.bool (lfO F T x)) ∧ w.grownBy w' none := by
  have hg := grown_alloc (grown_refl w) (.cells #[.int .i64 x.d, .int .i64 x.s, .bool x.o] 79)
  have hB0 := Blk.new w 79 #[.int .i64 x.d, .int .i64 x.s, .bool x.o]
  have hl := lasted_any x
  have h1' := fun w1 (h0 : w1.cell? ⟨B, 0, none⟩ = some (.int .i64 F)) (h1 : w1.cell? ⟨B, 1, none⟩ = some (.int .i64 T)) => lift1_any F T B x w1 h0 h1
  have he' : ∀ (args : Array Value) (w : World), (callFunc 81 args).run Try.prog w = .ok (.enter 81 args) w := enters_of Try.func81 (by kernel_rfl) rfl
  have hb : lfO F T x = (lastB x && !inB F T x) := rfl
  rw [hb]
  generalize lastB x = b1 at *
  generalize inB F T x = b2 at *
  have HC := Lib.hid (And.intro hl (And.intro h1' (And.intro h0 (And.intro h1 hc))))
  clear hb hl h1' h0 h1 hc
  go_enter Try.func83, Try.ntmps83
  go_wp2_with fail
  refine (HC.out.1 _).mono ?_
  rintro e w3 ⟨rfl, hg3⟩
  have hgg := hg.trans hg3
  obtain ⟨d0, d1, d2, _, _, _⟩ := (hB0.grown hg3 (by simp)).three
  have hc3 := hgg.cell HC.out.2.2.2.2 (by simp)
  cases b1
  · go_wp2_with fail
    go_ret
    exact ⟨rfl, hgg⟩
  · go_wp2_with fail
    refine (HC.out.2.1 _ (hgg.cell HC.out.2.2.1 (by simp)) (hgg.cell HC.out.2.2.2.1 (by simp))).mono ?_
    rintro e w4 ⟨rfl, hg4⟩
    go_wp2_with fail
    go_ret
    exact ⟨by simp, hgg.trans hg4⟩

theorem refLift2_any (F T : Int) (B C : Nat) (x : Sal) (w : World) (h0 : w.cell? ⟨B, 0, none⟩ = some (.int .i64 F)) (h1 : w.cell? ⟨B, 1, none⟩ = some (.int .i64 T))
    (hc : w.cell? ⟨C, 0, none⟩ = some (.func (.func 87) #[] #[.pointer (some ⟨B, 0, none⟩)])) :
    Calls Try.prog 88 #[.agg #[.int .i64 x.d, .int .i64 x.s, .bool x.o], .pointer (some ⟨C, 0, none⟩)] w fun e w' => e = .returned (.bool (!inB F T x)) ∧ w.grownBy w' none := by
  have hg := grown_alloc (grown_refl w) (.cells #[.int .i64 x.d, .int .i64 x.s, .bool x.o] 79)
  have h1' := fun w1 (h0 : w1.cell? ⟨B, 0, none⟩ = some (.int .i64 F)) (h1 : w1.cell? ⟨B, 1, none⟩ = some (.int .i64 T)) => refLift1_any F T B x w1 h0 h1
  have he' : ∀ (args : Array Value) (w : World), (callFunc 87 args).run Try.prog w = .ok (.enter 87 args) w := enters_of Try.func87 (by kernel_rfl) rfl
  generalize inB F T x = b2 at *
  have HC := Lib.hid (And.intro h1' (And.intro h0 h1))
  have hc3 := hg.cell hc (by simp)
  clear h1' h0 h1 hc
  go_enter Try.func88, Try.ntmps88
  go_wp2_with fail
  refine (HC.out.1 _ (hg.cell HC.out.2.1 (by simp)) (hg.cell HC.out.2.2 (by simp))).mono ?_
  rintro e w4 ⟨rfl, hg4⟩
  go_wp2_with fail
  go_ret
  exact ⟨rfl, hg.trans hg4⟩

/-- A function value is stored in a new variable. -/
theorem store_new {P : Program} (w : World) (u v : Value) (T : TypeId) (hv : v.oneCell' = true) : (store ⟨w.heap.size, 0, none⟩ v).run P (w.alloc (.cells #[u] T)) = .ok () (w.alloc (.cells #[v] T)) := by
  rw [run_store P _ _ v _ hv]
  have hc : (w.alloc (.cells #[u] T)).cell? ⟨w.heap.size, 0, none⟩ = some u := by rw [World.cell?_alloc_new]; rfl
  have hf : (w.alloc (.cells #[u] T)).frozen? ⟨w.heap.size, 0, none⟩ = false := (Blk.new w T #[u]).frozen 0
  rw [hc, hf]
  simp only [Bool.false_eq_true, if_false]
  rw [World.setCell_alloc_at _ _ _ _ _ rfl]
  rfl

/-- What Lift answers for right days. -/
def liftV (l : List Sal) (F T : Int) : Value :=
  if btw F 0 T = false ∨ 4001 < T then .tuple #[frac 0 0, .int .i64 1]
  else if cntP (lfA F T) l = 0 ∨ cntP (lfO F T) l = 0 ∨ meanN (lfO F T) l = 0 then .tuple #[frac 0 0, .int .i64 8]
  else .tuple #[frac (lowN (meanN (lfA F T) l * meanD (lfO F T) l) (meanD (lfA F T) l * meanN (lfO F T) l)) (lowD (meanN (lfA F T) l * meanD (lfO F T) l) (meanD (lfA F T) l * meanN (lfO F T) l)), .int .i64 0]

/-- The two boxes of the call: its window and its result. -/
theorem lift_boxes (w : World) (F T : Int) :
    Blk ((w.alloc (.cells #[.int .i64 F, .int .i64 T] 47)).alloc (.cells #[.int .i64 0, .int .i64 0] 31)) w.heap.size 47 #[.int .i64 F, .int .i64 T] ∧
    Blk ((w.alloc (.cells #[.int .i64 F, .int .i64 T] 47)).alloc (.cells #[.int .i64 0, .int .i64 0] 31)) (w.heap.size + 1) 31 #[.int .i64 0, .int .i64 0] ∧
    w.grownBy ((w.alloc (.cells #[.int .i64 F, .int .i64 T] 47)).alloc (.cells #[.int .i64 0, .int .i64 0] 31)) none := by
  refine ⟨(Blk.new w _ _).alloc _, ?_, grown_alloc (grown_alloc (grown_refl w) _) _⟩
  have h := Blk.new (w.alloc (.cells #[.int .i64 F, .int .i64 T] 47)) 31 #[.int .i64 0, .int .i64 0]
  rwa [show (w.alloc (.cells #[.int .i64 F, .int .i64 T] 47)).heap.size = w.heap.size + 1 from by simp] at h

set_option maxRecDepth 100000 in
set_option maxHeartbeats 400000 in
theorem lift_bad (A : Option Addr) (n c : Nat) (l : List Sal) (F T : Int) (w : World) (hr : Rd w 3 A n (salFlat l)) (hn : n ≤ 400) (hf : dayFault l ≠ 0) :
    Calls Try.prog 29 #[.slice A n c, .agg #[.int .i64 F, .int .i64 T]] w fun e w' => e = .returned (.tuple #[frac 0 0, .int .i64 (dayFault l)]) ∧ w.grownBy w' none := by
  have hck := fun w1 (hg : w.grownBy w1 none) => checkDays_any A n c l w1 (hr.grown hg) hn
  have hne : (dayFault l != 0) = true := by rw [bne_iff_ne]; exact hf
  generalize dayFault l = f at *
  obtain ⟨hBw, hBr, hg0⟩ := lift_boxes w F T
  have HC := Lib.hid hck
  clear hck hf
  go_enter Try.func29, Try.ntmps29
  go_wp2_with fail
  refine (HC.out _ hg0).mono ?_
  rintro e w1 ⟨rfl, hg1⟩
  have hB1 := hBr.grown hg1 (by simp)
  obtain ⟨e0, e1, f0, f1⟩ := hB1.two
  go_wp2_with fail
  refine bodyPost_ret (results_row_tmp rfl _ _ (w.heap.size + 1) _ _ _ _ rfl ((hB1.set_ 0 (.int .i64 0)).set_ 1 (.int .i64 0)) Try.underlying31 rfl (by kernel_rfl)) rfl ?_
  exact ⟨rfl, grown_set (p := ⟨w.heap.size + 1, 1, none⟩) (grown_set (p := ⟨w.heap.size + 1, 0, none⟩) (hg0.trans hg1) (.inl (by simp)) _) (.inl (by simp)) _⟩

set_option maxRecDepth 100000 in
set_option maxHeartbeats 1000000 in
theorem lift_ok (A : Option Addr) (n c : Nat) (l : List Sal) (F T : Int) (w : World) (hr : Rd w 3 A n (salFlat l)) (hn : n ≤ 400) (hf : dayFault l = 0) :
    Calls Try.prog 29 #[.slice A n c, .agg #[.int .i64 F, .int .i64 T]] w fun e w' => e = .returned (liftV l F T) ∧ w.grownBy w' none := by
  have hck := fun w1 (hg : w.grownBy w1 none) => checkDays_any A n c l w1 (hr.grown hg) hn
  rw [hf] at hck
  obtain ⟨hl400, hok⟩ := days_ok hf
  obtain ⟨hBw, hBr, hg0⟩ := lift_boxes w F T
  obtain ⟨e0, e1, _, _⟩ := hBw.two
  obtain ⟨b, hb⟩ : ∃ b, b = btw F 0 T := ⟨_, rfl⟩
  have hbt := between_any F 0 T
  rw [← hb] at hbt
  obtain ⟨V, hV⟩ : ∃ V, V = liftV l F T := ⟨_, rfl⟩
  rw [← hV]
  unfold liftV at hV
  rw [← hb] at hV
  have HC := Lib.hid (And.intro hck (And.intro hbt (And.intro hok hV)))
  clear hck hbt hok hV hf hb
  go_enter Try.func29, Try.ntmps29
  go_wp2_with fail
  refine (HC.out.1 _ hg0).mono ?_
  rintro e w1 ⟨rfl, hg1⟩
  have hBw1 := hBw.grown hg1 (by simp)
  have hBr1 := hBr.grown hg1 (by simp)
  obtain ⟨d0, d1, _, _⟩ := hBw1.two
  obtain ⟨r0, r1, f0, f1⟩ := hBr1.two
  have hgg1 := hg0.trans hg1
  clear e0 e1 hg1 hBw hBr hg0
  go_wp2_with fail
  refine (HC.out.2.1 _).mono ?_
  rintro e w' ⟨rfl, rfl⟩
  cases b
  · go_wp2_with fail
    refine bodyPost_ret (results_row_tmp rfl _ _ (w.heap.size + 1) _ _ _ _ rfl ((hBr1.set_ 0 (.int .i64 0)).set_ 1 (.int .i64 0)) Try.underlying31 rfl (by kernel_rfl)) rfl ?_
    refine ⟨?_, grown_set (p := ⟨w.heap.size + 1, 1, none⟩) (grown_set (p := ⟨w.heap.size + 1, 0, none⟩) hgg1 (.inl (by simp)) _) (.inl (by simp)) _⟩
    rw [HC.out.2.2.2, if_pos (by simp)]
    rfl
  · by_cases hT : 4001 < T
    · go_wp2_with fail
      refine bodyPost_ret (results_row_tmp rfl _ _ (w.heap.size + 1) _ _ _ _ rfl ((hBr1.set_ 0 (.int .i64 0)).set_ 1 (.int .i64 0)) Try.underlying31 rfl (by kernel_rfl)) rfl ?_
      refine ⟨?_, grown_set (p := ⟨w.heap.size + 1, 1, none⟩) (grown_set (p := ⟨w.heap.size + 1, 0, none⟩) hgg1 (.inl (by simp)) _) (.inl (by simp)) _⟩
      rw [HC.out.2.2.2, if_pos (.inr hT)]
      rfl
    · have hV2 := HC.out.2.2.2
      rw [if_neg (by simp; omega)] at hV2
      have HV := Lib.hid hV2
      clear hV2
      have hsf := store_new (P := Try.prog) w1 .nilFunc (.func (.func 81) #[] #[.pointer (some ⟨w.heap.size, 0, none⟩)]) 90 rfl
      go_wp2_with fail
      have hCn := Blk.new w1 90 #[.func (.func 81) #[] #[.pointer (some ⟨w.heap.size, 0, none⟩)]]
      have hgC := grown_alloc hgg1 (.cells #[.func (.func 81) #[] #[.pointer (some ⟨w.heap.size, 0, none⟩)]] 90)
      have hg1C := grown_alloc (grown_refl w1) (.cells #[.func (.func 81) #[] #[.pointer (some ⟨w.heap.size, 0, none⟩)]] 90)
      generalize w1.alloc (.cells #[.func (.func 81) #[] #[.pointer (some ⟨w.heap.size, 0, none⟩)]] 90) = wC at *
      have hBwC := hBw1.grown hg1C (by simp)
      have hBrC := hBr1.grown hg1C (by simp)
      have hb := fun t ht => (HC.out.2.2.1 t ht).2
      have hmA := mean1_any 82 (.pointer (some ⟨w1.heap.size, 0, none⟩)) (lfA F T) A n c l wC (hr.grown hgC) hn hb
        (enters_of Try.func82 (by kernel_rfl) rfl) (fun x w9 hw9 => lift2_any F T w.heap.size w1.heap.size x w9 (hw9.cell (hBwC.cell 0) (by simp)) (hw9.cell (hBwC.cell 1) (by simp)) (hw9.cell (hCn.cell 0) (by simp)))
      have hmO := fun w5 (hg5 : wC.grownBy w5 none) => mean1_any 83 (.pointer (some ⟨w1.heap.size, 0, none⟩)) (lfO F T) A n c l w5 ((hr.grown hgC).grown hg5) hn hb
        (enters_of Try.func83 (by kernel_rfl) rfl) (fun x w9 hw9 => lift3_any F T w.heap.size w1.heap.size x w9 ((hg5.trans hw9).cell (hBwC.cell 0) (by simp)) ((hg5.trans hw9).cell (hBwC.cell 1) (by simp)) ((hg5.trans hw9).cell (hCn.cell 0) (by simp)))
      have hbA := mean_bound (p := lfA F T) hb hl400
      have hbO := mean_bound (p := lfO F T) hb hl400
      unfold meanV frac at hmA hmO
      unfold frac at HV
      generalize meanN (lfA F T) l = nA at *
      generalize meanD (lfA F T) l = dA at *
      generalize meanN (lfO F T) l = nO at *
      generalize meanD (lfO F T) l = dO at *
      generalize cntP (lfA F T) l = qA at *
      generalize cntP (lfO F T) l = qO at *
      have HM := Lib.hid (And.intro hmA (And.intro hmO (And.intro hbA hbO)))
      clear hmA hmO hbA hbO hsf hBw1 hBr1 d0 d1 r0 r1 f0 f1 hg1C hgg1
      refine HM.out.1.mono ?_
      rintro e w4 ⟨rfl, hg4⟩
      have hg4' := grown_alloc hg4 (.cells #[.int .i64 nA, .int .i64 dA] 31)
      have hB4 := Blk.new w4 31 #[.int .i64 nA, .int .i64 dA]
      go_wp2_with fail
      refine (HM.out.2.1 _ hg4').mono ?_
      rintro e w5 ⟨rfl, hg5⟩
      have hg5' := grown_alloc hg5 (.cells #[.int .i64 nO, .int .i64 dO] 31)
      have hB5 := Blk.new w5 31 #[.int .i64 nO, .int .i64 dO]
      have hB45 := hB4.grown hg5' (by simp)
      have hBr5 := hBrC.grown (hg4'.trans hg5') (by simp)
      have hgW := hgC.trans (hg4'.trans hg5')
      clear hg4 hg5 hB4 hg4' hg5' hBrC hBwC hCn
      obtain ⟨a0, a1, _, _⟩ := hB45.two
      obtain ⟨o0, o1, _, _⟩ := hB5.two
      obtain ⟨r0, r1, f0, f1⟩ := hBr5.two
      by_cases hA : qA = 0
      · have HE : Hid (qA = 0 ∨ qO = 0 ∨ nO = 0) := Lib.hid (.inl hA)
        have hd : decide (qA ≠ 0) = false := by simp [hA]
        go_wp2_with fail
        refine bodyPost_ret (results_row_tmp rfl _ _ (w.heap.size + 1) _ _ _ _ rfl ((hBr5.set_ 0 (.int .i64 0)).set_ 1 (.int .i64 0)) Try.underlying31 rfl (by kernel_rfl)) rfl ?_
        refine ⟨?_, grown_set (p := ⟨w.heap.size + 1, 1, none⟩) (grown_set (p := ⟨w.heap.size + 1, 0, none⟩) hgW (.inl (by simp)) _) (.inl (by simp)) _⟩
        rw [HV.out, if_pos HE.out]
        rfl
      · by_cases hO : qO = 0
        · have HE : Hid (qA = 0 ∨ qO = 0 ∨ nO = 0) := Lib.hid (.inr (.inl hO))
          go_wp2_with fail
          refine bodyPost_ret (results_row_tmp rfl _ _ (w.heap.size + 1) _ _ _ _ rfl ((hBr5.set_ 0 (.int .i64 0)).set_ 1 (.int .i64 0)) Try.underlying31 rfl (by kernel_rfl)) rfl ?_
          refine ⟨?_, grown_set (p := ⟨w.heap.size + 1, 1, none⟩) (grown_set (p := ⟨w.heap.size + 1, 0, none⟩) hgW (.inl (by simp)) _) (.inl (by simp)) _⟩
          rw [HV.out, if_pos HE.out]
          rfl
        · by_cases hn0 : nO = 0
          · have HE : Hid (qA = 0 ∨ qO = 0 ∨ nO = 0) := Lib.hid (.inr (.inr hn0))
            subst hn0
            go_wp2_with fail
            refine bodyPost_ret (results_row_tmp rfl _ _ (w.heap.size + 1) _ _ _ _ rfl ((hBr5.set_ 0 (.int .i64 0)).set_ 1 (.int .i64 0)) Try.underlying31 rfl (by kernel_rfl)) rfl ?_
            refine ⟨?_, grown_set (p := ⟨w.heap.size + 1, 1, none⟩) (grown_set (p := ⟨w.heap.size + 1, 0, none⟩) hgW (.inl (by simp)) _) (.inl (by simp)) _⟩
            rw [HV.out, if_pos HE.out]
            rfl
          · have hne : (nO == 0) = false := by rw [beq_eq_false_iff_ne]; exact hn0
            have HE : Hid (¬ (qA = 0 ∨ qO = 0 ∨ nO = 0)) := Lib.hid (by omega)
            obtain ⟨x0, x1, x2, x3⟩ := HM.out.2.2.1 hA
            obtain ⟨u0, u1, u2, u3⟩ := HM.out.2.2.2 hO
            have hov := fun w => over_any nA dA nO dO w ⟨x2, by omega⟩ ⟨x0, by omega⟩ ⟨by omega, by omega⟩ ⟨u0, by omega⟩
            have hVV := HV.out
            rw [if_neg HE.out] at hVV
            unfold frac at hov
            generalize lowN (nA * dO) (dA * nO) = y1 at *
            generalize lowD (nA * dO) (dA * nO) = y2 at *
            have HOV := Lib.hid hov
            have HW := Lib.hid hVV
            clear hov hVV
            go_wp2_with fail
            refine (HOV.out _).mono ?_
            rintro e w6 ⟨rfl, hg6⟩
            have hBr6 := hBr5.grown hg6 (by simp)
            obtain ⟨r0, r1, f0, f1⟩ := hBr6.two
            go_wp2_with fail
            refine bodyPost_ret (results_row_tmp rfl _ _ (w.heap.size + 1) _ _ _ _ rfl ((hBr6.set_ 0 (.int .i64 y1)).set_ 1 (.int .i64 y2)) Try.underlying31 rfl (by kernel_rfl)) rfl ?_
            refine ⟨?_, grown_set (p := ⟨w.heap.size + 1, 1, none⟩) (grown_set (p := ⟨w.heap.size + 1, 0, none⟩) (hgW.trans hg6) (.inl (by simp)) _) (.inl (by simp)) _⟩
            rw [HW.out]
            rfl

end Go.Proofs.Ytkfijicmeekmiaa
