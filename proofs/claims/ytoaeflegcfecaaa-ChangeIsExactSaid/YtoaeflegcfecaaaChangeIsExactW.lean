/- The walk of the law ChangeIsExact. -/
import Derived.Test.YtoaeflegcfecaaaChange
import Derived.Test.YtoaeflegcfecaaaCoinsP
import Derived.Test.YtoaeflegcfecaaaIn
import Derived.Deep.RegionWith
namespace Go.Proofs.Ytoaeflegcfecaaa
open Go.RowKit

theorem down_rng {l : List Tub} {a left : Int} {j : Nat} {g : List Int} (h : Down l a j g left) (hr : ∀ t ∈ l, RightT t) : ∀ x ∈ g, 0 ≤ x ∧ x ≤ 1000 := by
  intro x hx
  obtain ⟨i, hi, e⟩ := List.getElem_of_mem hx
  have hl := h.len
  have h1 := h.rng i (by omega)
  have ht : l[i]? = some l[i] := List.getElem?_eq_getElem (by omega)
  obtain ⟨r1, r2, r3, r4, r5⟩ := hr _ (List.mem_of_getElem? ht)
  rw [tubD_at ht] at h1
  have e1 : g.getD i 0 = x := by simp [List.getD, hi, e]
  rw [e1] at h1
  omega

set_option maxRecDepth 100000 in
set_option maxHeartbeats 800000 in
theorem changeIsExact_walk (a0 : Option Addr) (len0 cap0 : Nat) (z0 : List Int) (w : World) (w0 : InRow w a0 len0 cap0 z0) :
    Calls Try.prog 6 #[.slice a0 len0 cap0] w fun e w' => e = .returned (.bool true) ∧ w.grownBy w' none := by
  obtain ⟨hlen, hs0⟩ := str_start w0
  have hg0 : w.grownBy (w.alloc (.cells #[.slice a0 len0 cap0, .int .i64 0] 25)) none := grown_alloc (grown_refl w) _
  have hz0 : (w.alloc (.cells #[.slice a0 len0 cap0, .int .i64 0] 25)).heap.size = w.heap.size + 1 := by simp
  clear hlen w0
  generalize z0.take len0 = L at *
  go_enter Try.func6, Try.ntmps6
  go_wp2_with fail
  generalize w.alloc (.cells #[.slice a0 len0 cap0, .int .i64 0] 25) = wA at *
  have HZ := Lib.hid hz0
  clear hz0
  refine (rightTubes_any w.heap.size L 0 _ hs0 (by omega)).mono ?_
  rintro e w1 ⟨vT, rfl, hown1, hs1, hg1⟩
  obtain ⟨hT1, hT2, hT3, hT4⟩ := rightTubes_right L 0
  have hTf := rightTubes_fault L 0
  generalize (rightTubes L 0).2 = T at *
  generalize (rightTubes L 0).1 = t1 at *
  have HT := Lib.hid (And.intro hT2 (And.intro hT3 hTf))
  clear hT2 hT3 hTf
  obtain ⟨AT, cT, rfl, hnc, hcm, hrT1, hbT⟩ := Rd.of_own hown1
  have HB := Lib.hid hbT
  clear hbT
  go_wp2_with fail
  refine (next_any w.heap.size L _ 400 _ hs1 (by omega) (by omega)).mono ?_
  rintro e w2 ⟨rfl, hs2, hg2⟩
  obtain ⟨hw0, hw1⟩ := nx_rng L t1 400 (by omega)
  generalize nx L t1 400 = want at *
  obtain ⟨a, rfl⟩ := Int.eq_ofNat_of_zero_le hw0
  have hrT2 : Rd w2 3 AT T.length (tubFlat T) := hrT1.grown_ hg2 (fun a ha => by have := HB.out a ha; have := HZ.out; simp; omega)
  have hg12 : w.grownBy w2 none := by
    have h1 := grown_below (r := none) hg0 hg1 (fun j hj => .inl (by cases hj; omega))
    exact grown_below h1 hg2 (fun j hj => .inl (by cases hj; omega))
  clear hs0 hs1 hs2 hg1 hown1 hg0 hg2 hrT1
  go_wp2_with fail
  have cB : (w2.alloc (.cells #[.int .i64 a] 3)).cell? ⟨w2.heap.size, 0, none⟩ = some (.int .i64 a) := by rw [World.cell?_alloc_new]; rfl
  have hg3 := grown_alloc hg12 (.cells #[.int .i64 a] 3)
  have hrT3 := hrT2.grown (grown_alloc (grown_refl w2) (.cells #[.int .i64 a] 3))
  generalize w2.alloc (.cells #[.int .i64 a] 3) = w3 at *
  generalize w2.heap.size = B at *
  clear hg12 hrT2
  have haf : amtFault T (a : Int) = 0 := by
    unfold amtFault; rw [if_neg (by simp [HT.out.2.2]), show btw (a : Int) 0 20000 = true from btw_true.2 ⟨by omega, by omega⟩]; rfl
  have h4f : amtFault T ((400 : Nat) : Int) = 0 := by
    unfold amtFault; rw [if_neg (by simp [HT.out.2.2])]; decide
  have HAF := Lib.hid (And.intro haf h4f)
  clear haf h4f
  refine (change_ok AT T.length cT T a _ hrT3 HAF.out.1).mono ?_
  rintro e w4 ⟨vC, rfl, hownC, hg4⟩
  obtain ⟨AC, cC, rfl, hncC, hcmC, hrC, hbC⟩ := Rd.of_own hownC
  have cB4 : w4.cell? ⟨B, 0, none⟩ = some (.int .i64 a) := hg4.cell cB (by simp)
  have hCC : chg T a = chg T a := rfl
  have hCE : chgE T a = chgE T a := rfl
  generalize hC : chg T a = C at *
  generalize hE : chgE T a = eC at *
  have HCE := Lib.hid (And.intro hC hE)
  clear hC hE hCC hCE hbC hncC hcmC hownC
  go_wp2_with fail
  refine (greedy_ok AT T.length cT T a _ (hrT3.grown hg4) HAF.out.1).mono ?_
  rintro e w5 ⟨vG, rfl, hownG, hg5⟩
  have cB5 : w5.cell? ⟨B, 0, none⟩ = some (.int .i64 a) := hg5.cell cB4 (by simp)
  have hG := greedy_spec T a (by omega) HT.out.1
  generalize (gRun T.length a (backAll T)).1 = G at *
  generalize (gRun T.length a (backAll T)).2 = rest at *
  obtain ⟨AG, cG, rfl, hncG, hcmG, hrG, hbG⟩ := Rd.of_own hownG
  go_wp2_with fail
  refine (reach_ok AT T.length cT T 400 _ ((hrT3.grown hg4).grown hg5) HAF.out.2).mono ?_
  rintro e w6 ⟨vW, m, rfl, hWl, hm, hownW, hg6⟩
  have cB6 : w6.cell? ⟨B, 0, none⟩ = some (.int .i64 a) := hg6.cell cB5 (by simp)
  have hany := anyWin_is (paysB T) 401 m a hWl (by omega)
  obtain ⟨AW, cW, rfl, hncW, hcmW, hrW, hbW⟩ := Rd.of_own hownW
  generalize winL (paysB T) (400 + 1) = WL at *
  have hGl := hG.len
  have hGs := hG.sum
  have hGr := down_rng hG HT.out.1
  have hGp := hG.pos
  have hTr : ∀ t ∈ T, 0 ≤ t.v ∧ t.v ≤ 10000 := fun t ht => by have := HT.out.1 t ht; unfold RightT at this; omega
  have hrT6 := ((hrT3.grown hg4).grown hg5).grown hg6
  have hrG6 := hrG.grown hg6
  have hrW6 := hrW
  have cB6' : ∀ k, (w6.drewN k).cell? ⟨B, 0, none⟩ = some (.int .i64 a) := fun _ => cB6
  have hrC6 := (hrC.grown hg5).grown hg6
  have hgw6 := ((hg3.trans hg4).trans hg5).trans hg6
  have hsum : (worthOf T G T.length + rest == (a : Int)) = true := by rw [beq_iff_eq]; omega
  have hws : IntKind.i64.wrap (worthOf T G T.length + rest) = (a : Int) := by rw [show worthOf T G T.length + rest = (a : Int) from by omega]; exact IntWalk.i64_in _ (by omega)
  have HG := Lib.hid (And.intro hG (And.intro hGs (And.intro hGr (And.intro hany hGl))))
  have HTR := Lib.hid hTr
  clear hGs hGr hany hWl hbG hbW hncW hncG hcmG hcmW hG hownG hownW hrG hg4 hg5 hg6 hTr hrC cB cB4 cB5 hGl hsum
  go_wp2_with fail
  go_quiet (first | (go_at_call 42; refine Calls.quiet_of_same (worth_same AT AG T.length cT T.length cG T G _ hrT6 hrG6 (Nat.le_refl _) (by omega) HTR.out (fun x hx => by have := HG.out.2.2.1 x hx; omega))))
  go_wp2_with fail
  refine (containsWin_any B a AW m cW WL (w6.drewN nq) hrW6 (by omega) (cB6' nq)).mono ?_
  rw [HG.out.2.2.2.1]
  rintro e w7 ⟨rfl, hg7⟩
  have hg67 : w6.grownBy w7 none := (grown_drewN (grown_refl w6) nq).trans hg7
  have hgw7 := hgw6.trans hg67
  have hrT7 := hrT6.grown hg67
  have hrG7 := hrG6.grown hg67
  have hrC7 := hrC6.grown hg67
  have cB7 : w7.cell? ⟨B, 0, none⟩ = some (.int .i64 a) := hg67.cell cB6 (by simp)
  clear hg7 hg67 hgw6 hrT6 hrG6 hrC6 hrW6 cB6 cB6' hws
  by_cases hp : paysB T a = true
  · rw [hp]
    obtain ⟨hC, hE⟩ := HCE.out
    have hC' : (payRun T.length a (backAll T)).1 = C := by rw [← hC]; simp [chg, hp]
    have hE' : eC = 0 := by rw [← hE]; simp [chgE, hp]
    subst hE'
    have hne : rowF T T.length a ≠ 20001 := by simpa [paysB] using hp
    obtain ⟨p1, p2, p3, p4⟩ := pay_spec T a HT.out.1 hne
    rw [hC'] at p1 p2 p3 p4
    have p5 : ∀ x ∈ C, 0 ≤ x ∧ x ≤ 1000 := down_rng (left := 0) (j := 0) (a := a) ⟨p1, fun i hi => absurd hi (by omega), p2, by omega, by rw [p3]; omega⟩ HT.out.1
    have hbl : ((C.length : Int) != (T.length : Int)) = false := by simp [p1]
    have hwa : (worthOf T C C.length != (a : Int)) = false := by rw [p1, p3]; simp
    have hCl : C.length ≤ T.length := by omega
    have hCl2 : T.length ≤ C.length := by omega
    have hgt : rest = 0 → decide (sumTo G T.length < sumTo C C.length) = false := by
      intro h0
      have hb := (best_le T HT.out.1 G HG.out.1.rng T.length (Nat.le_refl _)).2
      have hs := HG.out.2.1
      rw [show worthOf T G T.length = (a : Int) from by omega, Int.toNat_natCast] at hb
      rw [p1, p4]
      simpa using hb
    clear hC hE hC' hp hne
    have HCC := Lib.hid (And.intro p2 (And.intro p5 (And.intro p3 p1)))
    have hwG : ∀ x ∈ G, -1000000 ≤ x ∧ x ≤ 1000000 := fun x hx => by have := HG.out.2.2.1 x hx; omega
    have hwC : ∀ x ∈ C, -1000000 ≤ x ∧ x ≤ 1000000 := fun x hx => by have := p5 x hx; omega
    have HWG := Lib.hid hwG
    have HWC := Lib.hid hwC
    clear p1 p2 p3 p4 p5 hwG hwC
    by_cases hz : rest = 0
    case' pos =>
      have hz1 : (rest == 0) = true := by simp [hz]
      have hgt' := hgt hz
    case' neg =>
      have hz1 : (rest == 0) = false := by simp [hz]
      have hz2 : decide (rest = 0) = false := by simp [hz]
    all_goals
      clear hz hgt
      go_wp2_with fail
      go_quiet (first
        | (go_at_call 42; refine Calls.quiet_of_same (worth_same AT AC T.length cT C.length cC T C _ hrT7 hrC7 hCl (by omega) HTR.out HWC.out))
        | (go_at_call_of 46 (Value.slice AC C.length cC); refine Calls.quiet_of_same (total_same AC C.length cC C _ hrC7 (by omega) HWC.out))
        | (go_at_call_of 46 (Value.slice AG T.length cG); refine Calls.quiet_of_same (total_same AG T.length cG G _ hrG7 (by omega) HWG.out)))
      go_wp2_with fail
      clear hwa hz1 hbl
      go_loopg [102] C.length (fun k i wr => ∃ j : Nat, k + j = C.length ∧ i = .int .i64 j ∧ w7.grownBy wr none)
      case atStart => exact ⟨0, by omega, rfl, grown_drewN (grown_refl w7) _⟩
      case round =>
        obtain ⟨j, hj, rfl, hgr⟩ := hrel
        by_cases hlt : j < C.length
        · obtain ⟨b, off, rfl, hb, t, ht, c0, c1, c2⟩ := tub_cells (hrT7.grown hgr) (k := j) (by omega)
          obtain ⟨b', off', rfl, hb', x, hx, d0⟩ := int_cells (hrC7.grown hgr) hlt
          have hr := HCC.out.1 j (by omega)
          rw [tubD_at ht, show C.getD j 0 = x from by simp [List.getD, hx]] at hr
          obtain ⟨x1, x2⟩ := hr
          have hjT : (j : Int) < (T.length : Int) := by omega
          have hx1 : decide (x < 0) = false := by simp; omega
          have hx2 : decide (t.c < x) = false := by simp; omega
          have HJ := Lib.hid hj
          clear hj ht hx
          go_wp2_with fail
          have hj := HJ.out
          go_roundg (gk - 1)
          case measure => omega
          case rel => exact ⟨j + 1, by omega, by go_num, hgr⟩
        · obtain rfl : j = C.length := by omega
          go_wp2_with fail
          refine (keepVends_any _).mono ?_
          rintro e w8 ⟨rfl, hg8⟩
          go_wp2_with fail
          go_ret
          exact ⟨rfl, (hgw7.trans hgr).trans hg8⟩
  · have hp' : paysB T a = false := by simpa using hp
    rw [hp']
    have hE : eC = 8 := by rw [← HCE.out.2]; simp [chgE, hp']
    subst hE
    clear hp hp'
    go_wp2_with fail
    refine (keepVends_any _).mono ?_
    rintro e w8 ⟨rfl, hg8⟩
    go_wp2_with fail
    go_ret
    exact ⟨rfl, hgw7.trans hg8⟩

end Go.Proofs.Ytoaeflegcfecaaa
