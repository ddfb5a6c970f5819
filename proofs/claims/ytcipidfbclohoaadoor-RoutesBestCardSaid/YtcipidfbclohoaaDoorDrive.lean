/- The walk of Drive. -/
import Derived.Test.YtcipidfbclohoaaDoorDrv
import Derived.Test.YtcipidfbclohoaaDoorTrip
namespace Go.Proofs.YtcipidfbclohoaaDoor
open Go.RowKit

/-- What is wrong with a route that is to be driven. -/
def drvE (hx hy : Int) (V : List St) (st : Int) (o : List Int) : Int :=
  if routeF hx hy V st ≠ 0 then routeF hx hy V st else if orderF V.length o ≠ 0 then orderF V.length o else if driveM hx hy V st o = none then 16 else 0
/-- The tour of such a route. -/
def drvT (hx hy : Int) (V : List St) (st : Int) (o : List Int) : TrM := if drvE hx hy V st o ≠ 0 then trM0 else (driveM hx hy V st o).getD trM0
theorem ordFrom_ok : ∀ (l : List Int) (m : Int) (pv : List Int), ordFrom m pv l = 0 → ∀ k ∈ l, btw k 0 (m - 1) = true
  | [], _, _, _, k, hk => by cases hk
  | x :: l, m, pv, h, k, hk => by
    unfold ordFrom at h
    by_cases h1 : btw x 0 (m - 1) = true
    · by_cases h2 : hasI pv x = true
      · simp [h1, h2] at h
      · rw [if_neg (by simp [h1]), if_neg h2] at h
        rcases List.mem_cons.1 hk with rfl | hk
        · exact h1
        · exact ordFrom_ok l m _ h k hk
    · simp [h1] at h
theorem orderF_ok {m : Nat} {l : List Int} (h : orderF m l = 0) : ∀ k ∈ l, 0 ≤ k ∧ k < m := by
  intro k hk
  have := btw_true.1 (ordFrom_ok l m [] h k hk)
  omega

set_option maxRecDepth 100000 in
set_option maxHeartbeats 8000000 in
theorem drive_any (hx hy : Int) (A : Option Addr) (m cp : Nat) (V : List St) (st : Int) (B : Option Addr) (n cb : Nat) (o : List Int) (w : World) (hr : Rd w 6 A m (stFlat V)) (ho : Rd w 1 B n (ints o)) (hmc : m ≤ cp) (hnc : n ≤ cb) (hm : m ≤ 1000) (hn : n ≤ 1000) :
    Calls Tryd.prog 25 #[.agg #[.int .i64 hx, .int .i64 hy], .slice A m cp, .int .i64 st, .slice B n cb] w
      fun e w' => (∃ v, e = .returned (.tuple #[.agg #[v, .int .i64 (drvT hx hy V st o).e, .int .i64 (drvT hx hy V st o).way, .int .i64 (drvT hx hy V st o).wt], .int .i64 (drvE hx hy V st o)])
        ∧ w'.ownsRow w.heap.size 3 1 v (drvT hx hy V st o).bg.length (ints (drvT hx hy V st o).bg)) ∧ w.grownBy w' none := by
  have hlV : V.length = m := by have := hr.1; rw [stFlat_len] at this; omega
  have hlo : o.length = n := by have := ho.1; simp [ints] at this; omega
  obtain ⟨E, hE⟩ : ∃ E, drvE hx hy V st o = E := ⟨_, rfl⟩
  obtain ⟨T, hT⟩ : ∃ T, drvT hx hy V st o = T := ⟨_, rfl⟩
  unfold drvT at hT
  rw [hE] at hT
  rw [hE, show drvT hx hy V st o = T from by unfold drvT; rw [hE]; exact hT]
  unfold drvE at hE
  rw [hlV] at hE
  -- home, the tour, the trip
  have hH := ((Blk.new w 30 #[.int .i64 hx, .int .i64 hy]).alloc (.cells #[.slice none 0 0, .int .i64 0, .int .i64 0, .int .i64 0] 50)).alloc (.cells #[.int .i64 hx, .int .i64 hy, .slice A m cp, .int .i64 st] 61)
  have hg1 := grown_alloc (grown_refl w) (.cells #[.int .i64 hx, .int .i64 hy] 30)
  obtain ⟨g, hg⟩ : ∃ g, w.heap.size = g := ⟨_, rfl⟩
  have hz1 : (w.alloc (.cells #[.int .i64 hx, .int .i64 hy] 30)).heap.size = g + 1 := by simp [hg]
  obtain ⟨W1, hW1⟩ : ∃ W1, w.alloc (.cells #[.int .i64 hx, .int .i64 hy] 30) = W1 := ⟨_, rfl⟩
  rw [hW1, hg] at hH
  rw [hW1] at hg1 hz1
  have hR := (Blk.new W1 50 #[.slice none 0 0, .int .i64 0, .int .i64 0, .int .i64 0]).alloc (.cells #[.int .i64 hx, .int .i64 hy, .slice A m cp, .int .i64 st] 61)
  have hg2 := grown_alloc hg1 (.cells #[.slice none 0 0, .int .i64 0, .int .i64 0, .int .i64 0] 50)
  have hz2 : (W1.alloc (.cells #[.slice none 0 0, .int .i64 0, .int .i64 0, .int .i64 0] 50)).heap.size = g + 1 + 1 := by simp [hz1]
  obtain ⟨W2, hW2⟩ : ∃ W2, W1.alloc (.cells #[.slice none 0 0, .int .i64 0, .int .i64 0, .int .i64 0] 50) = W2 := ⟨_, rfl⟩
  rw [hW2] at hH hR hg2 hz2
  rw [hz1] at hR
  have hT3 := Blk.new W2 61 #[.int .i64 hx, .int .i64 hy, .slice A m cp, .int .i64 st]
  have hg3 := grown_alloc hg2 (.cells #[.int .i64 hx, .int .i64 hy, .slice A m cp, .int .i64 st] 61)
  have hz3 : (W2.alloc (.cells #[.int .i64 hx, .int .i64 hy, .slice A m cp, .int .i64 st] 61)).heap.size = g + 1 + 1 + 1 := by simp [hz2]
  obtain ⟨W3, hW3⟩ : ∃ W3, W2.alloc (.cells #[.int .i64 hx, .int .i64 hy, .slice A m cp, .int .i64 st] 61) = W3 := ⟨_, rfl⟩
  rw [hW3] at hH hR hT3 hg3 hz3
  rw [hz2] at hT3
  have h0 : W2.cell? ⟨g, 0, none⟩ = some (.int .i64 hx) := by
    have := hH.cell 0
    rw [← hW3, World.cell?_alloc_lt _ _ _ (by simp; omega)] at this
    exact this
  have h1 : W2.cell? ⟨g, 1, none⟩ = some (.int .i64 hy) := by
    have := hH.cell 1
    rw [← hW3, World.cell?_alloc_lt _ _ _ (by simp; omega)] at this
    exact this
  have t0 : W3.cell? ⟨g + 1 + 1, 0, none⟩ = some (.int .i64 hx) := hT3.cell 0
  have t1 : W3.cell? ⟨g + 1 + 1, 1, none⟩ = some (.int .i64 hy) := hT3.cell 1
  have t2 : W3.cell? ⟨g + 1 + 1, 2, none⟩ = some (.slice A m cp) := hT3.cell 2
  have t3 : W3.cell? ⟨g + 1 + 1, 3, none⟩ = some (.int .i64 st) := hT3.cell 3
  have hck := fun wx (h : w.grownBy wx none) => tripCheck_any hx hy A m cp V st wx (hr.grown h) hmc
  have hco := fun wx (h : w.grownBy wx none) => checkOrder_any A m cp B n cb o wx (ho.grown h) hnc (by omega) (by omega)
  have hdv := fun wx (h : w.grownBy wx none) (e1 : routeF hx hy V st = 0) (e2 : orderF m o = 0) => tripDrive_any hx hy A m cp V st B n cb o wx (hr.grown h) (ho.grown h) hnc hn (stopsF_ok (routeF_ok e1).1).2 (orderF_ok e2) (routeF_ok e1).2.1 (routeF_ok e1).2.2.1 (routeF_ok e1).2.2.2
  obtain ⟨F, hF⟩ : ∃ F, routeF hx hy V st = F := ⟨_, rfl⟩
  obtain ⟨O, hO⟩ : ∃ O, orderF m o = O := ⟨_, rfl⟩
  obtain ⟨D, hD⟩ : ∃ D, driveM hx hy V st o = D := ⟨_, rfl⟩
  have hDl : ∀ Tr, D = some Tr → Tr.bg.length = n := by
    intro Tr h
    rw [← hD] at h
    unfold driveM at h
    obtain ⟨p, hp, rfl⟩ := Option.map_eq_some_iff.1 h
    have := drvF_len V o _ _ p hp
    simpa [trOf, hlo] using this
  rw [hF] at hck hdv hE
  rw [hO] at hco hdv hE
  rw [hD] at hdv hE hT
  have HW := Lib.hid (And.intro hW1 (And.intro hW2 (And.intro hW3 (And.intro hg (And.intro hg3 (And.intro hck (And.intro hco (And.intro hdv (And.intro hE (And.intro hT hDl))))))))))
  clear hW1 hW2 hW3 hg hg1 hg2 hg3 hck hco hdv hE hT hDl hz1 hz2 hz3 hF hO hD hH hr ho
  go_enter Tryd.func25, Tryd.ntmps25
  go_wp2_with fail
  rw [HW.out.1, HW.out.2.1, HW.out.2.2.1, HW.out.2.2.2.1]
  clear h0 h1 t0 t1 t2 t3
  refine (HW.out.2.2.2.2.2.1 W3 HW.out.2.2.2.2.1).mono ?_
  rintro e w4 ⟨rfl, hg4⟩
  have hR4 := hR.grown hg4 (by simp)
  have hT4 := hT3.grown hg4 (by simp)
  have hgw4 := HW.out.2.2.2.2.1.trans hg4
  clear hR hT3 hg4
  by_cases hF : F = 0
  · subst hF
    go_wp2_with fail
    refine (HW.out.2.2.2.2.2.2.1 w4 hgw4).mono ?_
    rintro e w5 ⟨rfl, hg5⟩
    have hR5 := hR4.grown hg5 (by simp)
    have hT5 := hT4.grown hg5 (by simp)
    have hgw5 := hgw4.trans hg5
    clear hR4 hT4 hgw4 hg5
    by_cases hO : O = 0
    · subst hO
      have t0 : w5.cell? ⟨g + 1 + 1, 0, none⟩ = some (.int .i64 hx) := hT5.cell 0
      have t1 : w5.cell? ⟨g + 1 + 1, 1, none⟩ = some (.int .i64 hy) := hT5.cell 1
      have t2 : w5.cell? ⟨g + 1 + 1, 2, none⟩ = some (.slice A m cp) := hT5.cell 2
      have t3 : w5.cell? ⟨g + 1 + 1, 3, none⟩ = some (.int .i64 st) := hT5.cell 3
      have hlt5 := hT5.lt
      clear hT5
      go_wp2_with fail
      refine (HW.out.2.2.2.2.2.2.2.1 w5 hgw5 (by trivial) (by trivial)).mono ?_
      rintro e w6 ⟨hDR, hg6⟩
      have hR6 := hR5.grown hg6 (by simp)
      have hgw6 := hgw5.trans hg6
      have hz5 := hgw5.size
      clear hR5 t0 t1 t2 t3 hg6
      cases D with
      | none =>
        obtain rfl : e = _ := hDR
        have hE16 : E = 16 := by have := HW.out.2.2.2.2.2.2.2.2.1; rw [if_neg (by simp), if_neg (by simp), if_pos rfl] at this; exact this.symm
        have hT0 : T = trM0 := by have := HW.out.2.2.2.2.2.2.2.2.2.1; rw [if_pos (by rw [hE16]; decide)] at this; exact this.symm
        subst hE16 hT0
        obtain ⟨gB, hgB⟩ : ∃ gB, w6.heap.size = gB := ⟨_, rfl⟩
        have hR7 := hR6.alloc (.cells #[.slice none 0 0, .int .i64 0, .int .i64 0, .int .i64 0] 50)
        have hgw7 := grown_alloc hgw6 (.cells #[.slice none 0 0, .int .i64 0, .int .i64 0, .int .i64 0] 50)
        clear hR6 hgw6
        have q0 : (w6.alloc (.cells #[.slice none 0 0, .int .i64 0, .int .i64 0, .int .i64 0] 50)).cell? ⟨g + 1, 0, none⟩ = some (.slice none 0 0) := hR7.cell 0
        have q1 : (w6.alloc (.cells #[.slice none 0 0, .int .i64 0, .int .i64 0, .int .i64 0] 50)).cell? ⟨g + 1, 1, none⟩ = some (.int .i64 0) := hR7.cell 1
        have q2 : (w6.alloc (.cells #[.slice none 0 0, .int .i64 0, .int .i64 0, .int .i64 0] 50)).cell? ⟨g + 1, 2, none⟩ = some (.int .i64 0) := hR7.cell 2
        have q3 : (w6.alloc (.cells #[.slice none 0 0, .int .i64 0, .int .i64 0, .int .i64 0] 50)).cell? ⟨g + 1, 3, none⟩ = some (.int .i64 0) := hR7.cell 3
        have fz := hR7.frozen
        have fz0 := fz 0
        have fz1 := fz 1
        have fz2 := fz 2
        have fz3 := fz 3
        have HE := Lib.hid (And.intro hR7 hgw7)
        clear fz hR7 hgw7
        go_wp2_with fail
        have hgW := HW.out.2.2.2.1
        refine bodyPost_ret (results_row_tmp rfl _ _ (g + 1) _ _ _ _ rfl ((((HE.out.1.set_ 0 (.slice none 0 0)).set_ 1 (.int .i64 0)).set_ 2 (.int .i64 0)).set_ 3 (.int .i64 0)) Tryd.underlying50 rfl (by kernel_rfl)) rfl ?_
        exact ⟨⟨_, rfl, World.ownsRow_nil _ _ _ _⟩, grown_set (grown_set (grown_set (grown_set HE.out.2 (p := ⟨g + 1, 0, none⟩) (.inl (by simp; omega)) _) (p := ⟨g + 1, 1, none⟩) (.inl (by simp; omega)) _) (p := ⟨g + 1, 2, none⟩) (.inl (by simp; omega)) _) (p := ⟨g + 1, 3, none⟩) (.inl (by simp; omega)) _⟩
      | some Tr =>
        obtain ⟨gO, rfl, hgO, hOw⟩ := hDR
        have hE0 : E = 0 := by have := HW.out.2.2.2.2.2.2.2.2.1; rw [if_neg (by simp), if_neg (by simp), if_neg (by simp)] at this; exact this.symm
        have hTT : T = Tr := by have := HW.out.2.2.2.2.2.2.2.2.2.1; rw [if_neg (by rw [hE0]; decide)] at this; exact this.symm
        have hTl := HW.out.2.2.2.2.2.2.2.2.2.2 Tr rfl
        subst hE0 hTT
        have hB7 := Blk.new w6 50 #[.slice (some ⟨gO, 0, none⟩) n n, .int .i64 T.e, .int .i64 T.way, .int .i64 T.wt]
        have hR7 := hR6.alloc (.cells #[.slice (some ⟨gO, 0, none⟩) n n, .int .i64 T.e, .int .i64 T.way, .int .i64 T.wt] 50)
        have hgw7 := grown_alloc hgw6 (.cells #[.slice (some ⟨gO, 0, none⟩) n n, .int .i64 T.e, .int .i64 T.way, .int .i64 T.wt] 50)
        have hO7 := hOw.alloc (.cells #[.slice (some ⟨gO, 0, none⟩) n n, .int .i64 T.e, .int .i64 T.way, .int .i64 T.wt] 50)
        have hlt := hR6.lt
        have hgO' : g + 1 + 1 < gO := by omega
        have b0 : (w6.alloc (.cells #[.slice (some ⟨gO, 0, none⟩) n n, .int .i64 T.e, .int .i64 T.way, .int .i64 T.wt] 50)).cell? ⟨w6.heap.size, 0, none⟩ = some (.slice (some ⟨gO, 0, none⟩) n n) := hB7.cell 0
        have b1 : (w6.alloc (.cells #[.slice (some ⟨gO, 0, none⟩) n n, .int .i64 T.e, .int .i64 T.way, .int .i64 T.wt] 50)).cell? ⟨w6.heap.size, 1, none⟩ = some (.int .i64 T.e) := hB7.cell 1
        have b2 : (w6.alloc (.cells #[.slice (some ⟨gO, 0, none⟩) n n, .int .i64 T.e, .int .i64 T.way, .int .i64 T.wt] 50)).cell? ⟨w6.heap.size, 2, none⟩ = some (.int .i64 T.way) := hB7.cell 2
        have b3 : (w6.alloc (.cells #[.slice (some ⟨gO, 0, none⟩) n n, .int .i64 T.e, .int .i64 T.way, .int .i64 T.wt] 50)).cell? ⟨w6.heap.size, 3, none⟩ = some (.int .i64 T.wt) := hB7.cell 3
        have q0 : (w6.alloc (.cells #[.slice (some ⟨gO, 0, none⟩) n n, .int .i64 T.e, .int .i64 T.way, .int .i64 T.wt] 50)).cell? ⟨g + 1, 0, none⟩ = some (.slice none 0 0) := hR7.cell 0
        have q1 : (w6.alloc (.cells #[.slice (some ⟨gO, 0, none⟩) n n, .int .i64 T.e, .int .i64 T.way, .int .i64 T.wt] 50)).cell? ⟨g + 1, 1, none⟩ = some (.int .i64 0) := hR7.cell 1
        have q2 : (w6.alloc (.cells #[.slice (some ⟨gO, 0, none⟩) n n, .int .i64 T.e, .int .i64 T.way, .int .i64 T.wt] 50)).cell? ⟨g + 1, 2, none⟩ = some (.int .i64 0) := hR7.cell 2
        have q3 : (w6.alloc (.cells #[.slice (some ⟨gO, 0, none⟩) n n, .int .i64 T.e, .int .i64 T.way, .int .i64 T.wt] 50)).cell? ⟨g + 1, 3, none⟩ = some (.int .i64 0) := hR7.cell 3
        have fz := hR7.frozen
        have fz0 := fz 0
        have fz1 := fz 1
        have fz2 := fz 2
        have fz3 := fz 3
        have hne : g + 1 ≠ w6.heap.size := by omega
        have hne' : w6.heap.size ≠ g + 1 := by omega
        have hgs := grown_set (grown_set (grown_set (grown_set (World.grownBy.refl (w6.alloc (.cells #[.slice (some ⟨gO, 0, none⟩) n n, .int .i64 T.e, .int .i64 T.way, .int .i64 T.wt] 50)) (some (g + 1))) (p := ⟨g + 1, 0, none⟩) (.inr rfl) (.slice (some ⟨gO, 0, none⟩) n n)) (p := ⟨g + 1, 1, none⟩) (.inr rfl) (.int .i64 T.e)) (p := ⟨g + 1, 2, none⟩) (.inr rfl) (.int .i64 T.way)) (p := ⟨g + 1, 3, none⟩) (.inr rfl) (.int .i64 T.wt)
        have hO8 := hO7.kept hgs (.inr (by simp [Value.ownBlock]; omega))
        rw [← hTl] at hO8
        have HE := Lib.hid (And.intro hR7 (And.intro hgw7 hO8))
        clear fz hR7 hgw7 hO7 hR6 hgw6 hOw hB7 hgw5 hgs hO8 hlt
        go_wp2_with fail
        have hgW := HW.out.2.2.2.1
        refine bodyPost_ret (results_row_tmp rfl _ _ (g + 1) _ _ _ _ rfl ((((HE.out.1.set_ 0 (.slice (some ⟨gO, 0, none⟩) n n)).set_ 1 (.int .i64 T.e)).set_ 2 (.int .i64 T.way)).set_ 3 (.int .i64 T.wt)) Tryd.underlying50 rfl (by kernel_rfl)) rfl ?_
        refine ⟨⟨_, rfl, ?_⟩, grown_set (grown_set (grown_set (grown_set HE.out.2.1 (p := ⟨g + 1, 0, none⟩) (.inl (by simp; omega)) _) (p := ⟨g + 1, 1, none⟩) (.inl (by simp; omega)) _) (p := ⟨g + 1, 2, none⟩) (.inl (by simp; omega)) _) (p := ⟨g + 1, 3, none⟩) (.inl (by simp; omega)) _⟩
        rw [← hTl]
        exact own_mono HE.out.2.2 (by have := HW.out.2.2.2.2.1.size; omega)
    · have hE1 : E = O := by have := HW.out.2.2.2.2.2.2.2.2.1; rw [if_neg (by simp), if_pos hO] at this; exact this.symm
      have hT0 : T = trM0 := by have := HW.out.2.2.2.2.2.2.2.2.2.1; rw [if_pos (by rw [hE1]; exact hO)] at this; exact this.symm
      subst hE1 hT0
      have hb : (E != 0) = true := by rw [bne_iff_ne]; exact hO
      clear hO hT5
      have q0 : w5.cell? ⟨g + 1, 0, none⟩ = some (.slice none 0 0) := hR5.cell 0
      have q1 : w5.cell? ⟨g + 1, 1, none⟩ = some (.int .i64 0) := hR5.cell 1
      have q2 : w5.cell? ⟨g + 1, 2, none⟩ = some (.int .i64 0) := hR5.cell 2
      have q3 : w5.cell? ⟨g + 1, 3, none⟩ = some (.int .i64 0) := hR5.cell 3
      have fz := hR5.frozen
      have fz0 := fz 0
      have fz1 := fz 1
      have fz2 := fz 2
      have fz3 := fz 3
      have HE := Lib.hid (And.intro hR5 hgw5)
      clear fz hR5 hgw5
      go_wp2_with fail
      have hgW := HW.out.2.2.2.1
      refine bodyPost_ret (results_row_tmp rfl _ _ (g + 1) _ _ _ _ rfl ((((HE.out.1.set_ 0 (.slice none 0 0)).set_ 1 (.int .i64 0)).set_ 2 (.int .i64 0)).set_ 3 (.int .i64 0)) Tryd.underlying50 rfl (by kernel_rfl)) rfl ?_
      exact ⟨⟨_, rfl, World.ownsRow_nil _ _ _ _⟩, grown_set (grown_set (grown_set (grown_set HE.out.2 (p := ⟨g + 1, 0, none⟩) (.inl (by simp; omega)) _) (p := ⟨g + 1, 1, none⟩) (.inl (by simp; omega)) _) (p := ⟨g + 1, 2, none⟩) (.inl (by simp; omega)) _) (p := ⟨g + 1, 3, none⟩) (.inl (by simp; omega)) _⟩
  · have hE1 : E = F := by have := HW.out.2.2.2.2.2.2.2.2.1; rw [if_pos hF] at this; exact this.symm
    have hT0 : T = trM0 := by have := HW.out.2.2.2.2.2.2.2.2.2.1; rw [if_pos (by rw [hE1]; exact hF)] at this; exact this.symm
    subst hE1 hT0
    have hb : (E != 0) = true := by rw [bne_iff_ne]; exact hF
    clear hF hT4
    have q0 : w4.cell? ⟨g + 1, 0, none⟩ = some (.slice none 0 0) := hR4.cell 0
    have q1 : w4.cell? ⟨g + 1, 1, none⟩ = some (.int .i64 0) := hR4.cell 1
    have q2 : w4.cell? ⟨g + 1, 2, none⟩ = some (.int .i64 0) := hR4.cell 2
    have q3 : w4.cell? ⟨g + 1, 3, none⟩ = some (.int .i64 0) := hR4.cell 3
    have fz := hR4.frozen
    have fz0 := fz 0
    have fz1 := fz 1
    have fz2 := fz 2
    have fz3 := fz 3
    have HE := Lib.hid (And.intro hR4 hgw4)
    clear fz hR4 hgw4
    go_wp2_with fail
    have hgW := HW.out.2.2.2.1
    refine bodyPost_ret (results_row_tmp rfl _ _ (g + 1) _ _ _ _ rfl ((((HE.out.1.set_ 0 (.slice none 0 0)).set_ 1 (.int .i64 0)).set_ 2 (.int .i64 0)).set_ 3 (.int .i64 0)) Tryd.underlying50 rfl (by kernel_rfl)) rfl ?_
    exact ⟨⟨_, rfl, World.ownsRow_nil _ _ _ _⟩, grown_set (grown_set (grown_set (grown_set HE.out.2 (p := ⟨g + 1, 0, none⟩) (.inl (by simp; omega)) _) (p := ⟨g + 1, 1, none⟩) (.inl (by simp; omega)) _) (p := ⟨g + 1, 2, none⟩) (.inl (by simp; omega)) _) (p := ⟨g + 1, 3, none⟩) (.inl (by simp; omega)) _⟩

end Go.Proofs.YtcipidfbclohoaaDoor
