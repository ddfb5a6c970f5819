/- The walk of the law StaysAreWhole. -/
import Derived.Test.YtcaeochiippdgaaDoorMkVA
import Derived.Test.YtcaeochiippdgaaDoorHas
import Derived.Test.YtcaeochiippdgaaDoorVerR
import Derived.Test.YtcaeochiippdgaaDoorShv
import Derived.Test.YtcaeochiippdgaaDoorIn
import Derived.Deep.RegionHeld3
namespace Go.Proofs.YtcaeochiippdgaaDoor
open Go.RowKit

set_option maxRecDepth 100000 in
set_option maxHeartbeats 4000000 in
theorem staysAreWhole_walk (a0 : Option Addr) (len0 cap0 : Nat) (z0 : List Int) (w : World) (w0 : InRow w a0 len0 cap0 z0) :
    Calls Tryd.prog 3 #[.slice a0 len0 cap0] w fun e w' => e = .returned (.bool true) ∧ w.grownBy w' none := by
  obtain ⟨hlen, hs0⟩ := str_start w0
  have hg0 : w.grownBy (w.alloc (.cells #[.slice a0 len0 cap0, .int .i64 0] 25)) none := grown_alloc (grown_refl w) _
  have hz0 : (w.alloc (.cells #[.slice a0 len0 cap0, .int .i64 0] 25)).heap.size = w.heap.size + 1 := by simp
  clear hlen w0
  generalize z0.take len0 = L at *
  go_enter Tryd.func3, Tryd.ntmps3
  go_wp2_with fail
  generalize w.alloc (.cells #[.slice a0 len0 cap0, .int .i64 0] 25) = wA at *
  obtain ⟨bs, hbs⟩ : ∃ bs, bs = w.heap.size := ⟨_, rfl⟩
  rw [← hbs] at hs0 hz0 ⊢
  have HZ := Lib.hid hbs
  clear hbs
  have hbA : bs < wA.heap.size := by omega
  refine (versions_any bs L 0 _ hs0 (by omega)).mono ?_
  rintro e w1 ⟨A, c, rfl, hR1, hs1, hg1⟩
  obtain ⟨hb1, hb2⟩ := versM_bound L 0
  generalize (versM L 0).2 = V at *
  generalize (versM L 0).1 = t1 at *
  have hgw0 : w.grownBy w1 (some bs) := (hg0.but (some bs)).trans hg1
  have hgw1 : w.grownBy w1 none := ⟨hgw0.os, hgw0.tape, hgw0.output, hgw0.size, fun k hk _ => hgw0.block k hk (fun e => by injection e with e; have := HZ.out; omega)⟩
  obtain ⟨N, hN⟩ : ∃ N, V.length = N := ⟨_, rfl⟩
  have hV4 : N ≤ 4 := by omega
  rw [hN]
  have hgb := grown_alloc (grown_refl w1) (.cells #[.slice A N c] 26)
  have hcb : (w1.alloc (.cells #[.slice A N c] 26)).cell? ⟨w1.heap.size, 0, none⟩ = some (.slice A N c) := (Blk.new w1 26 #[.slice A N c]).cell 0
  have hR2 := hR1.grown hgb
  have hgw2 := hgw1.trans hgb
  obtain ⟨g, hg⟩ : ∃ g, w1.heap.size = g := ⟨_, rfl⟩
  rw [hg] at hcb
  obtain ⟨w2, hw2⟩ : ∃ w2, w1.alloc (.cells #[.slice A N c] 26) = w2 := ⟨_, rfl⟩
  rw [hw2] at hgb hcb hR2 hgw2
  have HW2 := Lib.hid (And.intro hw2 hg)
  clear hs0 hs1 hg1 hR1 hg0 hz0 hgw0 hgw1 hw2 hg
  go_wp2_with fail
  rw [HW2.out.2, HW2.out.1]
  clear HW2 hgb
  by_cases hv : versF V = 0
  · have es : stE V 0 20 = 0 := by unfold stE; rw [if_neg (by simp [hv])]; decide
    have el : stL V 0 20 = slotsD V 0 20 (ver0 V) := by
      unfold stL; rw [if_pos es]
      by_cases hne : V = []
      · rw [hne]; rfl
      · exact slots_same (vers_ok hv).2.2 0 20 (by decide) hne _
    have hW : ∀ s ∈ slotsD V 0 20 (ver0 V), ∃ j : Nat, j < ver0 V ∧ s.sl = j ∧ Whole (atS V j) 20 s := slots_whole V 20 (ver0 V)
    have hHas := fun (d : Int) (j : Nat) (wx : World) (h : w2.grownBy wx none) (h0 : 0 ≤ d) (h1 : d ≤ 4000) => has_any wA.heap.size g A c V d j wx (hR2.grown h) (by rw [hN]; exact h.cell hcb (by simp)) hv h0 h1
    have hVF : ∀ wx, w2.grownBy wx none → Calls Tryd.prog 5 #[.slice A N c] wx fun e w' => e = .returned (.int .i64 0) ∧ wx.grownBy w' none := fun wx h => by
      have := versionsFault_any wA.heap.size A c V wx (hR2.grown h); rw [hN, hv] at this; exact this
    have hSt := fun wx (h : w2.grownBy wx none) => stays_any wA.heap.size A c V 0 20 wx (hR2.grown h)
    have hn0 : ver0 V ≤ 60 := by
      cases V with
      | nil => exact Nat.zero_le _
      | cons x l => have := (vers_ok hv).2.1 x (by simp); have h1 := this.2.1; have h2 := this.2.2.1; omega
    have hsm : (slotsD V 0 20 (ver0 V)).length ≤ 1200 := Nat.le_trans (slotsD_len V 0 20 (ver0 V)) (Nat.mul_le_mul hn0 (by decide : ((20 : Int) - 0).toNat ≤ 20))
    rw [hN, el, es] at hSt
    generalize slotsD V 0 20 (ver0 V) = SL at *
    obtain ⟨n, hn⟩ : ∃ n, SL.length = n := ⟨_, rfl⟩
    rw [hn] at hSt hsm
    have HC := Lib.hid (And.intro hVF (And.intro hSt (And.intro hHas (And.intro hW (And.intro hgw2 (And.intro hn hsm))))))
    clear hVF hSt hHas hW hgw2 hn hsm hn0 es el hv hR2 hN hb1 hb2
    refine (HC.out.1 _ (grown_refl _)).mono ?_
    rintro e w3 ⟨rfl, hg3⟩
    have hcb3 : w3.cell? ⟨g, 0, none⟩ = some (.slice A N c) := hg3.cell hcb (by simp)
    go_wp2_with fail
    refine (HC.out.2.1 _ hg3).mono ?_
    rintro e w4 ⟨v4, rfl, hown4, hg4⟩
    obtain ⟨AS, cS, rfl, _, _, hrS, _⟩ := Rd.of_own hown4
    have hg24 := hg3.trans hg4
    have HS := Lib.hid (And.intro hrS hg24)
    clear hown4 hrS hg3 hg4 hcb3
    go_wp2_with fail
    go_loopg [30] n (fun k i wr => ∃ j : Nat, k + j = n ∧ i = .int .i64 j ∧ w4.grownBy wr none)
    case atStart => exact ⟨0, by omega, rfl, grown_refl _⟩
    case round =>
      obtain ⟨j, hj, rfl, hg⟩ := hrel
      obtain ⟨wo, rfl⟩ : ∃ wo : World, wo = wr := ⟨_, rfl⟩
      obtain ⟨ko, rfl⟩ : ∃ ko : Nat, ko = gk := ⟨_, rfl⟩
      by_cases hlt : j < n
      · obtain ⟨b, off, rfl, hb, t, ht, c0, c1, c2, c3⟩ := sy_cells (HS.out.1.grown hg) hlt
        obtain ⟨q, hq, eq, ⟨h1, h2, h3⟩, hp, hd, hl, hr⟩ := HC.out.2.2.2.1 t (List.mem_of_getElem? ht)
        have hltI : (j : Int) < n := by omega
        have hg2r := HS.out.2.trans hg
        obtain ⟨x, y, u, v⟩ := t
        simp only at c0 c1 c2 c3 eq h1 h2 h3 hd hl hr hp
        subst eq
        have hbk := Blk.new wo 39 #[.int .i64 q, .string y, .int .i64 u, .int .i64 v]
        have k0 : (wo.alloc (.cells #[.int .i64 q, .string y, .int .i64 u, .int .i64 v] 39)).cell? ⟨wo.heap.size, 0, none⟩ = some (.int .i64 q) := hbk.cell 0
        have k1 : (wo.alloc (.cells #[.int .i64 q, .string y, .int .i64 u, .int .i64 v] 39)).cell? ⟨wo.heap.size, 1, none⟩ = some (.string y) := hbk.cell 1
        have k2 : (wo.alloc (.cells #[.int .i64 q, .string y, .int .i64 u, .int .i64 v] 39)).cell? ⟨wo.heap.size, 2, none⟩ = some (.int .i64 u) := hbk.cell 2
        have k3 : (wo.alloc (.cells #[.int .i64 q, .string y, .int .i64 u, .int .i64 v] 39)).cell? ⟨wo.heap.size, 3, none⟩ = some (.int .i64 v) := hbk.cell 3
        have hgR := grown_alloc (grown_refl wo) (.cells #[.int .i64 q, .string y, .int .i64 u, .int .i64 v] 39)
        have HR := Lib.hid (And.intro hj (And.intro hg (And.intro hg2r (And.intro hd (And.intro hl hr)))))
        clear hj hd hl hr hg2r hg ht hbk
        go_wp2_with fail
        obtain ⟨B, hB⟩ : ∃ B, wo.heap.size = B := ⟨_, rfl⟩
        rw [hB] at k0 k1 k2 k3 ⊢
        generalize wo.alloc (.cells #[.int .i64 q, .string y, .int .i64 u, .int .i64 v] 39) = wb at *
        have hcall := fun (d : Int) (wx : World) (h : wb.grownBy wx none) => HC.out.2.2.1 d q wx (HR.out.2.2.1.trans (hgR.trans h))
        have hge : decide (v ≤ u) = false := by simp; omega
        have hg0 : wb.grownBy wb.drew none := grown_drew (grown_refl wb)
        have q0 : wb.drew.cell? ⟨B, 0, none⟩ = some (.int .i64 q) := k0
        have q1 : wb.drew.cell? ⟨B, 1, none⟩ = some (.string y) := k1
        have q2 : wb.drew.cell? ⟨B, 2, none⟩ = some (.int .i64 u) := k2
        have q3 : wb.drew.cell? ⟨B, 3, none⟩ = some (.int .i64 v) := k3
        have hw1 : IntKind.i64.wrap (u - 1) = u - 1 := IntWalk.i64_in _ (by omega)
        have HK := Lib.hid hcall
        have HB := Lib.hid hB
        clear hcall c0 c1 c2 c3 hcb k0 k1 k2 k3 hB
        by_cases f0 : 0 < u
        · have hf0 : decide (0 < u) = true := by simpa using f0
          have hn0 : ((atS V q (u - 1)).toList == y.toList) = false := sEq_ne.2 (HR.out.2.2.2.2.1 f0)
          by_cases f1 : v < 20
          · have hf1 : decide (v < 20) = true := by simpa using f1
            have hn1 : ((atS V q v).toList == y.toList) = false := sEq_ne.2 (HR.out.2.2.2.2.2 f1)
            refine wp_region_noPanic ?_
            refine wp_region_held_drew (S := fun w' => w'.cell? ⟨B, 0, none⟩ = some (.int .i64 q) ∧ w'.cell? ⟨B, 1, none⟩ = some (.string y) ∧ w'.cell? ⟨B, 2, none⟩ = some (.int .i64 u) ∧ w'.cell? ⟨B, 3, none⟩ = some (.int .i64 v) ∧ wb.grownBy w' none) (by kernel_rfl) ⟨q0, q1, q2, q3, hg0⟩ (fun HS0 => ?_)
            simp only [List.size_toArray, List.length_cons, List.length_nil, Nat.reduceAdd]
            refine wpAnyH_take (i := 0) (oi := ?oo1) (v := ?vv1) ?hi1 (by kernel_rfl) (by kernel_rfl) (by kernel_rfl) (fun _ _ _ h => h) (Or.inl ⟨?hw1, ?hy1⟩) HS0 ?rest1
            case hi1 => (simp only [List.getElem?_toArray, List.getElem?_cons_zero]; try rfl)
            case hw1 => rfl
            case hy1 => (intro w hSw; obtain ⟨s0, s1, s2, s3, _⟩ := hSw; go_simp; (try with_reducible rfl))
            try simp only [Act.put, List.setIfInBounds_toArray, List.set_cons_zero, List.set_cons_succ]
            refine wpAnyH_take (i := 1) (oi := ?oo2) (v := ?vv2) ?hi2 (by kernel_rfl) (by kernel_rfl) (by kernel_rfl) (fun _ _ _ h => h) (Or.inl ⟨?hw2, ?hy2⟩) HS0 ?rest2
            case hi2 => (simp only [List.getElem?_toArray, List.getElem?_cons_zero, List.getElem?_cons_succ]; try rfl)
            case hw2 => rfl
            case hy2 => (intro w hSw; obtain ⟨s0, s1, s2, s3, _⟩ := hSw; go_simp; (try with_reducible rfl))
            try simp only [Act.put, List.setIfInBounds_toArray, List.set_cons_zero, List.set_cons_succ]
            refine wpAnyH_take (i := 2) (oi := ?oo3) (v := ?vv3) ?hi3 (by kernel_rfl) (by kernel_rfl) (by kernel_rfl) (fun _ _ _ h => h) (Or.inl ⟨?hw3, ?hy3⟩) HS0 ?rest3
            case hi3 => (simp only [List.getElem?_toArray, List.getElem?_cons_zero, List.getElem?_cons_succ]; try rfl)
            case hw3 => rfl
            case hy3 => (intro w hSw; obtain ⟨s0, s1, s2, s3, _⟩ := hSw; go_simp; (try with_reducible rfl))
            try simp only [Act.put, List.setIfInBounds_toArray, List.set_cons_zero, List.set_cons_succ]
            refine wpAnyH_take (i := 3) (oi := ?oo4) (v := ?vv4) ?hi4 (by kernel_rfl) (by kernel_rfl) (by kernel_rfl) (fun _ _ _ h => h) (Or.inl ⟨?hw4, ?hy4⟩) HS0 ?rest4
            case hi4 => (simp only [List.getElem?_toArray, List.getElem?_cons_zero, List.getElem?_cons_succ]; try rfl)
            case hw4 => rfl
            case hy4 => (intro w hSw; obtain ⟨s0, s1, s2, s3, _⟩ := hSw; go_simp; (try with_reducible rfl))
            try simp only [Act.put, List.setIfInBounds_toArray, List.set_cons_zero, List.set_cons_succ]
            refine wpAnyH_take (i := 4) (oi := ?oo5) (v := ?vv5) ?hi5 (by kernel_rfl) (by kernel_rfl) (by kernel_rfl) (fun _ _ _ h => h) (Or.inl ⟨?hw5, ?hy5⟩) HS0 ?rest5
            case hi5 => (simp only [List.getElem?_toArray, List.getElem?_cons_zero, List.getElem?_cons_succ]; try rfl)
            case hw5 => rfl
            case hy5 => (intro w hSw; obtain ⟨s0, s1, s2, s3, _⟩ := hSw; go_simp; (try with_reducible rfl))
            try simp only [Act.put, List.setIfInBounds_toArray, List.set_cons_zero, List.set_cons_succ]
            refine wpAnyH_take (i := 5) (oi := ?oo6) (v := ?vv6) ?hi6 (by kernel_rfl) (by kernel_rfl) (by kernel_rfl) (fun _ _ _ h => h) (Or.inl ⟨?hw6, ?hy6⟩) HS0 ?rest6
            case hi6 => (simp only [List.getElem?_toArray, List.getElem?_cons_zero, List.getElem?_cons_succ]; try rfl)
            case hw6 => rfl
            case hy6 => (intro w hSw; obtain ⟨s0, s1, s2, s3, _⟩ := hSw; go_simp; (try with_reducible rfl))
            try simp only [Act.put, List.setIfInBounds_toArray, List.set_cons_zero, List.set_cons_succ]
            refine wpAnyH_take (i := 6) (oi := ?oo7) (v := ?vv7) ?hi7 (by kernel_rfl) (by kernel_rfl) (by kernel_rfl) (fun _ _ _ h => h) (Or.inl ⟨?hw7, ?hy7⟩) HS0 ?rest7
            case hi7 => (simp only [List.getElem?_toArray, List.getElem?_cons_zero, List.getElem?_cons_succ]; try rfl)
            case hw7 => rfl
            case hy7 => (intro w hSw; obtain ⟨s0, s1, s2, s3, _⟩ := hSw; go_simp; (try with_reducible rfl))
            try simp only [Act.put, List.setIfInBounds_toArray, List.set_cons_zero, List.set_cons_succ]
            refine wpAnyH_take (i := 7) (oi := ?oo8) (v := ?vv8) ?hi8 (by kernel_rfl) (by kernel_rfl) (by kernel_rfl) (fun _ _ _ h => h) (Or.inl ⟨?hw8, ?hy8⟩) HS0 ?rest8
            case hi8 => (simp only [List.getElem?_toArray, List.getElem?_cons_zero, List.getElem?_cons_succ]; try rfl)
            case hw8 => rfl
            case hy8 => (intro w hSw; obtain ⟨s0, s1, s2, s3, _⟩ := hSw; go_simp; (try with_reducible rfl))
            try simp only [Act.put, List.setIfInBounds_toArray, List.set_cons_zero, List.set_cons_succ]
            refine wpAnyH_take (i := 8) (oi := ?oo9) (v := ?vv9) ?hi9 (by kernel_rfl) (by kernel_rfl) (by kernel_rfl) (fun _ _ _ h => h) (Or.inl ⟨?hw9, ?hy9⟩) HS0 ?rest9
            case hi9 => (simp only [List.getElem?_toArray, List.getElem?_cons_zero, List.getElem?_cons_succ]; try rfl)
            case hw9 => rfl
            case hy9 => (intro w hSw; obtain ⟨s0, s1, s2, s3, _⟩ := hSw; go_simp; (try with_reducible rfl))
            try simp only [Act.put, List.setIfInBounds_toArray, List.set_cons_zero, List.set_cons_succ]
            refine wpAnyH_take (i := 9) (oi := ?oo10) (v := ?vv10) ?hi10 (by kernel_rfl) (by kernel_rfl) (by kernel_rfl) (fun _ _ _ h => h) (Or.inl ⟨?hw10, ?hy10⟩) HS0 ?rest10
            case hi10 => (simp only [List.getElem?_toArray, List.getElem?_cons_zero, List.getElem?_cons_succ]; try rfl)
            case hw10 => rfl
            case hy10 => (intro w hSw; obtain ⟨s0, s1, s2, s3, _⟩ := hSw; go_simp; (try with_reducible rfl))
            try simp only [Act.put, List.setIfInBounds_toArray, List.set_cons_zero, List.set_cons_succ]
            refine wpAnyH_take (i := 10) (oi := ?oo11) (v := ?vv11) ?hi11 (by kernel_rfl) (by kernel_rfl) (by kernel_rfl) (fun _ _ _ h => h) (Or.inl ⟨?hw11, ?hy11⟩) HS0 ?rest11
            case hi11 => (simp only [List.getElem?_toArray, List.getElem?_cons_zero, List.getElem?_cons_succ]; try rfl)
            case hw11 => rfl
            case hy11 => (intro w hSw; obtain ⟨s0, s1, s2, s3, _⟩ := hSw; go_simp; (try with_reducible rfl))
            try simp only [Act.put, List.setIfInBounds_toArray, List.set_cons_zero, List.set_cons_succ]
            refine wpAnyH_take (i := 11) (oi := ?oo12) (v := ?vv12) ?hi12 (by kernel_rfl) (by kernel_rfl) (by kernel_rfl) (fun _ _ _ h => h) (Or.inl ⟨?hw12, ?hy12⟩) HS0 ?rest12
            case hi12 => (simp only [List.getElem?_toArray, List.getElem?_cons_zero, List.getElem?_cons_succ]; try rfl)
            case hw12 => rfl
            case hy12 => (intro w hSw; obtain ⟨s0, s1, s2, s3, _⟩ := hSw; go_simp; (try with_reducible rfl))
            try simp only [Act.put, List.setIfInBounds_toArray, List.set_cons_zero, List.set_cons_succ]
            refine wpAnyH_take (i := 12) (oi := ?oo13) (v := ?vv13) ?hi13 (by kernel_rfl) (by kernel_rfl) (by kernel_rfl) (fun _ _ _ h => h) (Or.inl ⟨?hw13, ?hy13⟩) HS0 ?rest13
            case hi13 => (simp only [List.getElem?_toArray, List.getElem?_cons_zero, List.getElem?_cons_succ]; try rfl)
            case hw13 => rfl
            case hy13 => (intro w hSw; obtain ⟨s0, s1, s2, s3, _⟩ := hSw; go_simp; (try with_reducible rfl))
            try simp only [Act.put, List.setIfInBounds_toArray, List.set_cons_zero, List.set_cons_succ]
            refine wpAnyH_take (i := 13) (oi := ?oo14) (v := ?vv14) ?hi14 (by kernel_rfl) (by kernel_rfl) (by kernel_rfl) (fun _ _ _ h => h) (Or.inl ⟨?hw14, ?hy14⟩) HS0 ?rest14
            case hi14 => (simp only [List.getElem?_toArray, List.getElem?_cons_zero, List.getElem?_cons_succ]; try rfl)
            case hw14 => rfl
            case hy14 => (intro w hSw; obtain ⟨s0, s1, s2, s3, _⟩ := hSw; go_simp; (try with_reducible rfl))
            try simp only [Act.put, List.setIfInBounds_toArray, List.set_cons_zero, List.set_cons_succ]
            refine wpAnyH_take (i := 14) (oi := ?oo15) (v := ?vv15) ?hi15 (by kernel_rfl) (by kernel_rfl) (by kernel_rfl) (fun _ _ _ h => h) (Or.inl ⟨?hw15, ?hy15⟩) HS0 ?rest15
            case hi15 => (simp only [List.getElem?_toArray, List.getElem?_cons_zero, List.getElem?_cons_succ]; try rfl)
            case hw15 => rfl
            case hy15 => (intro w hSw; obtain ⟨s0, s1, s2, s3, _⟩ := hSw; go_simp; (try with_reducible rfl))
            try simp only [Act.put, List.setIfInBounds_toArray, List.set_cons_zero, List.set_cons_succ]
            refine wpAnyH_take (i := 15) (oi := ?oo16) (v := ?vv16) ?hi16 (by kernel_rfl) (by kernel_rfl) (by kernel_rfl) (fun _ _ _ h => h) (Or.inl ⟨?hw16, ?hy16⟩) HS0 ?rest16
            case hi16 => (simp only [List.getElem?_toArray, List.getElem?_cons_zero, List.getElem?_cons_succ]; try rfl)
            case hw16 => rfl
            case hy16 => (intro w hSw; obtain ⟨s0, s1, s2, s3, _⟩ := hSw; go_simp; (try with_reducible rfl))
            try simp only [Act.put, List.setIfInBounds_toArray, List.set_cons_zero, List.set_cons_succ]
            refine wpAnyH_take (i := 17) (oi := ?oo17) (v := ?vv17) ?hi17 (by kernel_rfl) (by kernel_rfl) (by kernel_rfl) (fun _ _ _ h => h) (Or.inl ⟨?hw17, ?hy17⟩) HS0 ?rest17
            case hi17 => (simp only [List.getElem?_toArray, List.getElem?_cons_zero, List.getElem?_cons_succ]; try rfl)
            case hw17 => rfl
            case hy17 => (intro w hSw; obtain ⟨s0, s1, s2, s3, _⟩ := hSw; go_simp; (try with_reducible rfl))
            try simp only [Act.put, List.setIfInBounds_toArray, List.set_cons_zero, List.set_cons_succ]
            refine wpAnyH_take (i := 18) (oi := ?oo18) (v := ?vv18) ?hi18 (by kernel_rfl) (by kernel_rfl) (by kernel_rfl) (fun _ _ _ h => h) (Or.inl ⟨?hw18, ?hy18⟩) HS0 ?rest18
            case hi18 => (simp only [List.getElem?_toArray, List.getElem?_cons_zero, List.getElem?_cons_succ]; try rfl)
            case hw18 => rfl
            case hy18 => (intro w hSw; obtain ⟨s0, s1, s2, s3, _⟩ := hSw; go_simp; (try with_reducible rfl))
            try simp only [Act.put, List.setIfInBounds_toArray, List.set_cons_zero, List.set_cons_succ]
            refine wpAnyH_ready (rs := [16]) (by kernel_rfl) (by simp) ?_
            refine AllReadyH.cons rfl (fun K2 hK => ?_) ?_
            · go_simp
              refine (HK.out _ _ HS0.2.2.2.2 (by omega) (by omega)).mono ?_
              rintro e w9 ⟨rfl, hg9⟩
              have HS9 : w9.cell? ⟨B, 0, none⟩ = some (.int .i64 q) ∧ w9.cell? ⟨B, 1, none⟩ = some (.string y) ∧ w9.cell? ⟨B, 2, none⟩ = some (.int .i64 u) ∧ w9.cell? ⟨B, 3, none⟩ = some (.int .i64 v) ∧ wb.grownBy w9 none := ⟨hg9.cell (a := ⟨B, 0, none⟩) HS0.1 (by simp), hg9.cell (a := ⟨B, 1, none⟩) HS0.2.1 (by simp), hg9.cell (a := ⟨B, 2, none⟩) HS0.2.2.1 (by simp), hg9.cell (a := ⟨B, 3, none⟩) HS0.2.2.2.1 (by simp), HS0.2.2.2.2.trans hg9⟩
              clear hg9 HS0
              dsimp only
              refine hK.out _ _ HS9 (fun _ => ?_)
              clear hK K2
              try simp only [Act.put, List.getElem_toArray, List.getElem_cons_zero, List.getElem_cons_succ, List.setIfInBounds_toArray, List.set_cons_zero, List.set_cons_succ]
              have HS0 := HS9
              clear HS9
              refine wpAnyH_take (i := 19) (oi := ?oo19) (v := ?vv19) ?hi19 (by kernel_rfl) (by kernel_rfl) (by kernel_rfl) (fun _ _ _ h => h) (Or.inl ⟨?hw19, ?hy19⟩) HS0 ?rest19
              case hi19 => (simp only [List.getElem?_toArray, List.getElem?_cons_zero, List.getElem?_cons_succ]; try rfl)
              case hw19 => rfl
              case hy19 => (intro w hSw; obtain ⟨s0, s1, s2, s3, _⟩ := hSw; go_simp; (try with_reducible rfl))
              try simp only [Act.put, List.setIfInBounds_toArray, List.set_cons_zero, List.set_cons_succ]
              refine wpAnyH_take (i := 20) (oi := ?oo20) (v := ?vv20) ?hi20 (by kernel_rfl) (by kernel_rfl) (by kernel_rfl) (fun _ _ _ h => h) (Or.inl ⟨?hw20, ?hy20⟩) HS0 ?rest20
              case hi20 => (simp only [List.getElem?_toArray, List.getElem?_cons_zero, List.getElem?_cons_succ]; try rfl)
              case hw20 => rfl
              case hy20 => (intro w hSw; obtain ⟨s0, s1, s2, s3, _⟩ := hSw; go_simp; (try with_reducible rfl))
              try simp only [Act.put, List.setIfInBounds_toArray, List.set_cons_zero, List.set_cons_succ]
              refine wpAnyH_take (i := 21) (oi := ?oo21) (v := ?vv21) ?hi21 (by kernel_rfl) (by kernel_rfl) (by kernel_rfl) (fun _ _ _ h => h) (Or.inl ⟨?hw21, ?hy21⟩) HS0 ?rest21
              case hi21 => (simp only [List.getElem?_toArray, List.getElem?_cons_zero, List.getElem?_cons_succ]; try rfl)
              case hw21 => rfl
              case hy21 => (intro w hSw; obtain ⟨s0, s1, s2, s3, _⟩ := hSw; go_simp; (try with_reducible rfl))
              try simp only [Act.put, List.setIfInBounds_toArray, List.set_cons_zero, List.set_cons_succ]
              refine wpAnyH_take (i := 22) (oi := ?oo22) (v := ?vv22) ?hi22 (by kernel_rfl) (by kernel_rfl) (by kernel_rfl) (fun _ _ _ h => h) (Or.inl ⟨?hw22, ?hy22⟩) HS0 ?rest22
              case hi22 => (simp only [List.getElem?_toArray, List.getElem?_cons_zero, List.getElem?_cons_succ]; try rfl)
              case hw22 => rfl
              case hy22 => (intro w hSw; obtain ⟨s0, s1, s2, s3, _⟩ := hSw; go_simp; (try with_reducible rfl))
              try simp only [Act.put, List.setIfInBounds_toArray, List.set_cons_zero, List.set_cons_succ]
              refine wpAnyH_take (i := 23) (oi := ?oo23) (v := ?vv23) ?hi23 (by kernel_rfl) (by kernel_rfl) (by kernel_rfl) (fun _ _ _ h => h) (Or.inl ⟨?hw23, ?hy23⟩) HS0 ?rest23
              case hi23 => (simp only [List.getElem?_toArray, List.getElem?_cons_zero, List.getElem?_cons_succ]; try rfl)
              case hw23 => rfl
              case hy23 => (intro w hSw; obtain ⟨s0, s1, s2, s3, _⟩ := hSw; go_simp; (try with_reducible rfl))
              try simp only [Act.put, List.setIfInBounds_toArray, List.set_cons_zero, List.set_cons_succ]
              refine wpAnyH_take (i := 24) (oi := ?oo24) (v := ?vv24) ?hi24 (by kernel_rfl) (by kernel_rfl) (by kernel_rfl) (fun _ _ _ h => h) (Or.inl ⟨?hw24, ?hy24⟩) HS0 ?rest24
              case hi24 => (simp only [List.getElem?_toArray, List.getElem?_cons_zero, List.getElem?_cons_succ]; try rfl)
              case hw24 => rfl
              case hy24 => (intro w hSw; obtain ⟨s0, s1, s2, s3, _⟩ := hSw; go_simp; (try with_reducible rfl))
              try simp only [Act.put, List.setIfInBounds_toArray, List.set_cons_zero, List.set_cons_succ]
              refine wpAnyH_take (i := 25) (oi := ?oo25) (v := ?vv25) ?hi25 (by kernel_rfl) (by kernel_rfl) (by kernel_rfl) (fun _ _ _ h => h) (Or.inl ⟨?hw25, ?hy25⟩) HS0 ?rest25
              case hi25 => (simp only [List.getElem?_toArray, List.getElem?_cons_zero, List.getElem?_cons_succ]; try rfl)
              case hw25 => rfl
              case hy25 => (intro w hSw; obtain ⟨s0, s1, s2, s3, _⟩ := hSw; go_simp; (try with_reducible rfl))
              try simp only [Act.put, List.setIfInBounds_toArray, List.set_cons_zero, List.set_cons_succ]
              refine wpAnyH_take (i := 26) (oi := ?oo26) (v := ?vv26) ?hi26 (by kernel_rfl) (by kernel_rfl) (by kernel_rfl) (fun _ _ _ h => h) (Or.inl ⟨?hw26, ?hy26⟩) HS0 ?rest26
              case hi26 => (simp only [List.getElem?_toArray, List.getElem?_cons_zero, List.getElem?_cons_succ]; try rfl)
              case hw26 => rfl
              case hy26 => (intro w hSw; obtain ⟨s0, s1, s2, s3, _⟩ := hSw; go_simp; (try with_reducible rfl))
              try simp only [Act.put, List.setIfInBounds_toArray, List.set_cons_zero, List.set_cons_succ]
              refine wpAnyH_take (i := 27) (oi := ?oo27) (v := ?vv27) ?hi27 (by kernel_rfl) (by kernel_rfl) (by kernel_rfl) (fun _ _ _ h => h) (Or.inl ⟨?hw27, ?hy27⟩) HS0 ?rest27
              case hi27 => (simp only [List.getElem?_toArray, List.getElem?_cons_zero, List.getElem?_cons_succ]; try rfl)
              case hw27 => rfl
              case hy27 => (intro w hSw; obtain ⟨s0, s1, s2, s3, _⟩ := hSw; go_simp; (try with_reducible rfl))
              try simp only [Act.put, List.setIfInBounds_toArray, List.set_cons_zero, List.set_cons_succ]
              refine wpAnyH_take (i := 28) (oi := ?oo28) (v := ?vv28) ?hi28 (by kernel_rfl) (by kernel_rfl) (by kernel_rfl) (fun _ _ _ h => h) (Or.inl ⟨?hw28, ?hy28⟩) HS0 ?rest28
              case hi28 => (simp only [List.getElem?_toArray, List.getElem?_cons_zero, List.getElem?_cons_succ]; try rfl)
              case hw28 => rfl
              case hy28 => (intro w hSw; obtain ⟨s0, s1, s2, s3, _⟩ := hSw; go_simp; (try with_reducible rfl))
              try simp only [Act.put, List.setIfInBounds_toArray, List.set_cons_zero, List.set_cons_succ]
              refine wpAnyH_take (i := 29) (oi := ?oo29) (v := ?vv29) ?hi29 (by kernel_rfl) (by kernel_rfl) (by kernel_rfl) (fun _ _ _ h => h) (Or.inl ⟨?hw29, ?hy29⟩) HS0 ?rest29
              case hi29 => (simp only [List.getElem?_toArray, List.getElem?_cons_zero, List.getElem?_cons_succ]; try rfl)
              case hw29 => rfl
              case hy29 => (intro w hSw; obtain ⟨s0, s1, s2, s3, _⟩ := hSw; go_simp; (try with_reducible rfl))
              try simp only [Act.put, List.setIfInBounds_toArray, List.set_cons_zero, List.set_cons_succ]
              refine wpAnyH_take (i := 30) (oi := ?oo30) (v := ?vv30) ?hi30 (by kernel_rfl) (by kernel_rfl) (by kernel_rfl) (fun _ _ _ h => h) (Or.inl ⟨?hw30, ?hy30⟩) HS0 ?rest30
              case hi30 => (simp only [List.getElem?_toArray, List.getElem?_cons_zero, List.getElem?_cons_succ]; try rfl)
              case hw30 => rfl
              case hy30 => (intro w hSw; obtain ⟨s0, s1, s2, s3, _⟩ := hSw; go_simp; (try with_reducible rfl))
              try simp only [Act.put, List.setIfInBounds_toArray, List.set_cons_zero, List.set_cons_succ]
              refine wpAnyH_take (i := 31) (oi := ?oo31) (v := ?vv31) ?hi31 (by kernel_rfl) (by kernel_rfl) (by kernel_rfl) (fun _ _ _ h => h) (Or.inl ⟨?hw31, ?hy31⟩) HS0 ?rest31
              case hi31 => (simp only [List.getElem?_toArray, List.getElem?_cons_zero, List.getElem?_cons_succ]; try rfl)
              case hw31 => rfl
              case hy31 => (intro w hSw; obtain ⟨s0, s1, s2, s3, _⟩ := hSw; go_simp; (try with_reducible rfl))
              try simp only [Act.put, List.setIfInBounds_toArray, List.set_cons_zero, List.set_cons_succ]
              refine wpAnyH_take (i := 33) (oi := ?oo32) (v := ?vv32) ?hi32 (by kernel_rfl) (by kernel_rfl) (by kernel_rfl) (fun _ _ _ h => h) (Or.inl ⟨?hw32, ?hy32⟩) HS0 ?rest32
              case hi32 => (simp only [List.getElem?_toArray, List.getElem?_cons_zero, List.getElem?_cons_succ]; try rfl)
              case hw32 => rfl
              case hy32 => (intro w hSw; obtain ⟨s0, s1, s2, s3, _⟩ := hSw; go_simp; (try with_reducible rfl))
              try simp only [Act.put, List.setIfInBounds_toArray, List.set_cons_zero, List.set_cons_succ]
              refine wpAnyH_take (i := 34) (oi := ?oo33) (v := ?vv33) ?hi33 (by kernel_rfl) (by kernel_rfl) (by kernel_rfl) (fun _ _ _ h => h) (Or.inl ⟨?hw33, ?hy33⟩) HS0 ?rest33
              case hi33 => (simp only [List.getElem?_toArray, List.getElem?_cons_zero, List.getElem?_cons_succ]; try rfl)
              case hw33 => rfl
              case hy33 => (intro w hSw; obtain ⟨s0, s1, s2, s3, _⟩ := hSw; go_simp; (try with_reducible rfl))
              try simp only [Act.put, List.setIfInBounds_toArray, List.set_cons_zero, List.set_cons_succ]
              refine wpAnyH_ready (rs := [32]) (by kernel_rfl) (by simp) ?_
              refine AllReadyH.cons rfl (fun K2 hK => ?_) ?_
              · go_simp
                refine (HK.out _ _ HS0.2.2.2.2 (by omega) (by omega)).mono ?_
                rintro e w9 ⟨rfl, hg9⟩
                have HS9 : w9.cell? ⟨B, 0, none⟩ = some (.int .i64 q) ∧ w9.cell? ⟨B, 1, none⟩ = some (.string y) ∧ w9.cell? ⟨B, 2, none⟩ = some (.int .i64 u) ∧ w9.cell? ⟨B, 3, none⟩ = some (.int .i64 v) ∧ wb.grownBy w9 none := ⟨hg9.cell (a := ⟨B, 0, none⟩) HS0.1 (by simp), hg9.cell (a := ⟨B, 1, none⟩) HS0.2.1 (by simp), hg9.cell (a := ⟨B, 2, none⟩) HS0.2.2.1 (by simp), hg9.cell (a := ⟨B, 3, none⟩) HS0.2.2.2.1 (by simp), HS0.2.2.2.2.trans hg9⟩
                clear hg9 HS0
                dsimp only
                refine hK.out _ _ HS9 (fun _ => ?_)
                clear hK K2
                try simp only [Act.put, List.getElem_toArray, List.getElem_cons_zero, List.getElem_cons_succ, List.setIfInBounds_toArray, List.set_cons_zero, List.set_cons_succ]
                have HS0 := HS9
                clear HS9
                refine wpAnyH_take (i := 35) (oi := ?oo34) (v := ?vv34) ?hi34 (by kernel_rfl) (by kernel_rfl) (by kernel_rfl) (fun _ _ _ h => h) (Or.inl ⟨?hw34, ?hy34⟩) HS0 ?rest34
                case hi34 => (simp only [List.getElem?_toArray, List.getElem?_cons_zero, List.getElem?_cons_succ]; try rfl)
                case hw34 => rfl
                case hy34 => (intro w hSw; obtain ⟨s0, s1, s2, s3, _⟩ := hSw; go_simp; (try with_reducible rfl))
                try simp only [Act.put, List.setIfInBounds_toArray, List.set_cons_zero, List.set_cons_succ]
                refine wpAnyH_take (i := 36) (oi := ?oo35) (v := ?vv35) ?hi35 (by kernel_rfl) (by kernel_rfl) (by kernel_rfl) (fun _ _ _ h => h) (Or.inl ⟨?hw35, ?hy35⟩) HS0 ?rest35
                case hi35 => (simp only [List.getElem?_toArray, List.getElem?_cons_zero, List.getElem?_cons_succ]; try rfl)
                case hw35 => rfl
                case hy35 => (intro w hSw; obtain ⟨s0, s1, s2, s3, _⟩ := hSw; go_simp; (try with_reducible rfl))
                try simp only [Act.put, List.setIfInBounds_toArray, List.set_cons_zero, List.set_cons_succ]
                refine wpAnyH_take (i := 37) (oi := ?oo36) (v := ?vv36) ?hi36 (by kernel_rfl) (by kernel_rfl) (by kernel_rfl) (fun _ _ _ h => h) (Or.inl ⟨?hw36, ?hy36⟩) HS0 ?rest36
                case hi36 => (simp only [List.getElem?_toArray, List.getElem?_cons_zero, List.getElem?_cons_succ]; try rfl)
                case hw36 => rfl
                case hy36 => (intro w hSw; obtain ⟨s0, s1, s2, s3, _⟩ := hSw; go_simp; (try with_reducible rfl))
                try simp only [Act.put, List.setIfInBounds_toArray, List.set_cons_zero, List.set_cons_succ]
                refine wpAnyH_done (by kernel_rfl) (NoPanic.normal ?_) _
                have hHeld := HS0
                clear HS0
                have HH := Lib.hid hHeld.2.2.2.2
                go_wp2_with fail
                have HQ := Lib.hid (And.intro q0 (And.intro q1 (And.intro q2 q3)))
                clear hHeld q0 q1 q2 q3
                skip
                obtain ⟨D, hD⟩ : ∃ D : Nat, (D : Int) = v - u := ⟨(v - u).toNat, by omega⟩
                go_loopg [10] D (fun k s wx => ∃ m : Nat, k + m = D ∧ s = .int .i64 (u + m) ∧ wb.grownBy wx none)
                case atStart => exact ⟨0, by omega, by simp, HH.out⟩
                case round =>
                  obtain ⟨m, hm, rfl, hgx⟩ := hrel
                  have x3 := hgx.cell (a := ⟨B, 3, none⟩) HQ.out.2.2.2 (by simp)
                  have x0 : wr.drew.cell? ⟨B, 0, none⟩ = some (.int .i64 q) := hgx.cell (a := ⟨B, 0, none⟩) HQ.out.1 (by simp)
                  have x1 : wr.drew.cell? ⟨B, 1, none⟩ = some (.string y) := hgx.cell (a := ⟨B, 1, none⟩) HQ.out.2.1 (by simp)
                  have x2 : wr.drew.cell? ⟨B, 2, none⟩ = some (.int .i64 u) := hgx.cell (a := ⟨B, 2, none⟩) HQ.out.2.2.1 (by simp)
                  have x4 : wb.grownBy wr.drew none := grown_drew hgx
                  have x5 : wr.drew.cell? ⟨B, 3, none⟩ = some (.int .i64 v) := x3
                  have hwm : IntKind.i64.wrap (u + m + 1) = u + m + 1 := IntWalk.i64_in _ (by omega)
                  by_cases hlm : m < D
                  · have hlv : u + (m : Int) < v := by omega
                    have hnm : ((atS V q (u + m)).toList == y.toList) = true := by rw [HR.out.2.2.2.1 (u + m) (by omega) hlv]; simp
                    go_wp2_with fail
                    go_region_held3 (fun w' => w'.cell? ⟨B, 0, none⟩ = some (.int .i64 q) ∧ w'.cell? ⟨B, 1, none⟩ = some (.string y) ∧ w'.cell? ⟨B, 2, none⟩ = some (.int .i64 u) ∧ w'.cell? ⟨B, 3, none⟩ = some (.int .i64 v) ∧ wb.grownBy w' none) (go_keep)
                      (first | ((go_at_call 8; refine (HK.out _ _ (by assumption) (by omega) (by omega)).mono ?_; rintro e w9 ⟨rfl, hg9⟩; have z0 := hg9.cell (a := ⟨B, 0, none⟩) (by assumption) (by simp); have z1 := hg9.cell (a := ⟨B, 1, none⟩) (by assumption) (by simp); have z2 := hg9.cell (a := ⟨B, 2, none⟩) (by assumption) (by simp); have z3 := hg9.cell (a := ⟨B, 3, none⟩) (by assumption) (by simp); have z4 := World.grownBy.trans (by assumption) hg9)))
                    rename_i hHeld2
                    have HH2 := Lib.hid hHeld2.2.2.2.2
                    clear hHeld2
                    go_wp2_with fail
                    go_roundg (gk - 1)
                    case measure => omega
                    case rel => exact ⟨m + 1, by omega, by go_num, HH2.out⟩
                  · have hlv : ¬ u + (m : Int) < v := by omega
                    go_wp2_with fail
                    have hjo := HR.out.1
                    have hsm := HC.out.2.2.2.2.2.2
                    go_roundg (ko - 1)
                    case measure => omega
                    case rel => exact ⟨j + 1, by omega, by rw [show wrap64 ((j : Int) + 1) = ((j + 1 : Nat) : Int) from by unfold wrap64; omega], (HR.out.2.1.trans hgR).trans hgx⟩
              · exact AllReadyH.nil
            · exact AllReadyH.nil
          · have hf1 : decide (v < 20) = false := by simpa using f1
            refine wp_region_noPanic ?_
            refine wp_region_held_drew (S := fun w' => w'.cell? ⟨B, 0, none⟩ = some (.int .i64 q) ∧ w'.cell? ⟨B, 1, none⟩ = some (.string y) ∧ w'.cell? ⟨B, 2, none⟩ = some (.int .i64 u) ∧ w'.cell? ⟨B, 3, none⟩ = some (.int .i64 v) ∧ wb.grownBy w' none) (by kernel_rfl) ⟨q0, q1, q2, q3, hg0⟩ (fun HS0 => ?_)
            simp only [List.size_toArray, List.length_cons, List.length_nil, Nat.reduceAdd]
            refine wpAnyH_take (i := 0) (oi := ?oo37) (v := ?vv37) ?hi37 (by kernel_rfl) (by kernel_rfl) (by kernel_rfl) (fun _ _ _ h => h) (Or.inl ⟨?hw37, ?hy37⟩) HS0 ?rest37
            case hi37 => (simp only [List.getElem?_toArray, List.getElem?_cons_zero]; try rfl)
            case hw37 => rfl
            case hy37 => (intro w hSw; obtain ⟨s0, s1, s2, s3, _⟩ := hSw; go_simp; (try with_reducible rfl))
            try simp only [Act.put, List.setIfInBounds_toArray, List.set_cons_zero, List.set_cons_succ]
            refine wpAnyH_take (i := 1) (oi := ?oo38) (v := ?vv38) ?hi38 (by kernel_rfl) (by kernel_rfl) (by kernel_rfl) (fun _ _ _ h => h) (Or.inl ⟨?hw38, ?hy38⟩) HS0 ?rest38
            case hi38 => (simp only [List.getElem?_toArray, List.getElem?_cons_zero, List.getElem?_cons_succ]; try rfl)
            case hw38 => rfl
            case hy38 => (intro w hSw; obtain ⟨s0, s1, s2, s3, _⟩ := hSw; go_simp; (try with_reducible rfl))
            try simp only [Act.put, List.setIfInBounds_toArray, List.set_cons_zero, List.set_cons_succ]
            refine wpAnyH_take (i := 2) (oi := ?oo39) (v := ?vv39) ?hi39 (by kernel_rfl) (by kernel_rfl) (by kernel_rfl) (fun _ _ _ h => h) (Or.inl ⟨?hw39, ?hy39⟩) HS0 ?rest39
            case hi39 => (simp only [List.getElem?_toArray, List.getElem?_cons_zero, List.getElem?_cons_succ]; try rfl)
            case hw39 => rfl
            case hy39 => (intro w hSw; obtain ⟨s0, s1, s2, s3, _⟩ := hSw; go_simp; (try with_reducible rfl))
            try simp only [Act.put, List.setIfInBounds_toArray, List.set_cons_zero, List.set_cons_succ]
            refine wpAnyH_take (i := 3) (oi := ?oo40) (v := ?vv40) ?hi40 (by kernel_rfl) (by kernel_rfl) (by kernel_rfl) (fun _ _ _ h => h) (Or.inl ⟨?hw40, ?hy40⟩) HS0 ?rest40
            case hi40 => (simp only [List.getElem?_toArray, List.getElem?_cons_zero, List.getElem?_cons_succ]; try rfl)
            case hw40 => rfl
            case hy40 => (intro w hSw; obtain ⟨s0, s1, s2, s3, _⟩ := hSw; go_simp; (try with_reducible rfl))
            try simp only [Act.put, List.setIfInBounds_toArray, List.set_cons_zero, List.set_cons_succ]
            refine wpAnyH_take (i := 4) (oi := ?oo41) (v := ?vv41) ?hi41 (by kernel_rfl) (by kernel_rfl) (by kernel_rfl) (fun _ _ _ h => h) (Or.inl ⟨?hw41, ?hy41⟩) HS0 ?rest41
            case hi41 => (simp only [List.getElem?_toArray, List.getElem?_cons_zero, List.getElem?_cons_succ]; try rfl)
            case hw41 => rfl
            case hy41 => (intro w hSw; obtain ⟨s0, s1, s2, s3, _⟩ := hSw; go_simp; (try with_reducible rfl))
            try simp only [Act.put, List.setIfInBounds_toArray, List.set_cons_zero, List.set_cons_succ]
            refine wpAnyH_take (i := 5) (oi := ?oo42) (v := ?vv42) ?hi42 (by kernel_rfl) (by kernel_rfl) (by kernel_rfl) (fun _ _ _ h => h) (Or.inl ⟨?hw42, ?hy42⟩) HS0 ?rest42
            case hi42 => (simp only [List.getElem?_toArray, List.getElem?_cons_zero, List.getElem?_cons_succ]; try rfl)
            case hw42 => rfl
            case hy42 => (intro w hSw; obtain ⟨s0, s1, s2, s3, _⟩ := hSw; go_simp; (try with_reducible rfl))
            try simp only [Act.put, List.setIfInBounds_toArray, List.set_cons_zero, List.set_cons_succ]
            refine wpAnyH_take (i := 6) (oi := ?oo43) (v := ?vv43) ?hi43 (by kernel_rfl) (by kernel_rfl) (by kernel_rfl) (fun _ _ _ h => h) (Or.inl ⟨?hw43, ?hy43⟩) HS0 ?rest43
            case hi43 => (simp only [List.getElem?_toArray, List.getElem?_cons_zero, List.getElem?_cons_succ]; try rfl)
            case hw43 => rfl
            case hy43 => (intro w hSw; obtain ⟨s0, s1, s2, s3, _⟩ := hSw; go_simp; (try with_reducible rfl))
            try simp only [Act.put, List.setIfInBounds_toArray, List.set_cons_zero, List.set_cons_succ]
            refine wpAnyH_take (i := 7) (oi := ?oo44) (v := ?vv44) ?hi44 (by kernel_rfl) (by kernel_rfl) (by kernel_rfl) (fun _ _ _ h => h) (Or.inl ⟨?hw44, ?hy44⟩) HS0 ?rest44
            case hi44 => (simp only [List.getElem?_toArray, List.getElem?_cons_zero, List.getElem?_cons_succ]; try rfl)
            case hw44 => rfl
            case hy44 => (intro w hSw; obtain ⟨s0, s1, s2, s3, _⟩ := hSw; go_simp; (try with_reducible rfl))
            try simp only [Act.put, List.setIfInBounds_toArray, List.set_cons_zero, List.set_cons_succ]
            refine wpAnyH_take (i := 8) (oi := ?oo45) (v := ?vv45) ?hi45 (by kernel_rfl) (by kernel_rfl) (by kernel_rfl) (fun _ _ _ h => h) (Or.inl ⟨?hw45, ?hy45⟩) HS0 ?rest45
            case hi45 => (simp only [List.getElem?_toArray, List.getElem?_cons_zero, List.getElem?_cons_succ]; try rfl)
            case hw45 => rfl
            case hy45 => (intro w hSw; obtain ⟨s0, s1, s2, s3, _⟩ := hSw; go_simp; (try with_reducible rfl))
            try simp only [Act.put, List.setIfInBounds_toArray, List.set_cons_zero, List.set_cons_succ]
            refine wpAnyH_take (i := 9) (oi := ?oo46) (v := ?vv46) ?hi46 (by kernel_rfl) (by kernel_rfl) (by kernel_rfl) (fun _ _ _ h => h) (Or.inl ⟨?hw46, ?hy46⟩) HS0 ?rest46
            case hi46 => (simp only [List.getElem?_toArray, List.getElem?_cons_zero, List.getElem?_cons_succ]; try rfl)
            case hw46 => rfl
            case hy46 => (intro w hSw; obtain ⟨s0, s1, s2, s3, _⟩ := hSw; go_simp; (try with_reducible rfl))
            try simp only [Act.put, List.setIfInBounds_toArray, List.set_cons_zero, List.set_cons_succ]
            refine wpAnyH_take (i := 10) (oi := ?oo47) (v := ?vv47) ?hi47 (by kernel_rfl) (by kernel_rfl) (by kernel_rfl) (fun _ _ _ h => h) (Or.inl ⟨?hw47, ?hy47⟩) HS0 ?rest47
            case hi47 => (simp only [List.getElem?_toArray, List.getElem?_cons_zero, List.getElem?_cons_succ]; try rfl)
            case hw47 => rfl
            case hy47 => (intro w hSw; obtain ⟨s0, s1, s2, s3, _⟩ := hSw; go_simp; (try with_reducible rfl))
            try simp only [Act.put, List.setIfInBounds_toArray, List.set_cons_zero, List.set_cons_succ]
            refine wpAnyH_take (i := 11) (oi := ?oo48) (v := ?vv48) ?hi48 (by kernel_rfl) (by kernel_rfl) (by kernel_rfl) (fun _ _ _ h => h) (Or.inl ⟨?hw48, ?hy48⟩) HS0 ?rest48
            case hi48 => (simp only [List.getElem?_toArray, List.getElem?_cons_zero, List.getElem?_cons_succ]; try rfl)
            case hw48 => rfl
            case hy48 => (intro w hSw; obtain ⟨s0, s1, s2, s3, _⟩ := hSw; go_simp; (try with_reducible rfl))
            try simp only [Act.put, List.setIfInBounds_toArray, List.set_cons_zero, List.set_cons_succ]
            refine wpAnyH_take (i := 12) (oi := ?oo49) (v := ?vv49) ?hi49 (by kernel_rfl) (by kernel_rfl) (by kernel_rfl) (fun _ _ _ h => h) (Or.inl ⟨?hw49, ?hy49⟩) HS0 ?rest49
            case hi49 => (simp only [List.getElem?_toArray, List.getElem?_cons_zero, List.getElem?_cons_succ]; try rfl)
            case hw49 => rfl
            case hy49 => (intro w hSw; obtain ⟨s0, s1, s2, s3, _⟩ := hSw; go_simp; (try with_reducible rfl))
            try simp only [Act.put, List.setIfInBounds_toArray, List.set_cons_zero, List.set_cons_succ]
            refine wpAnyH_take (i := 13) (oi := ?oo50) (v := ?vv50) ?hi50 (by kernel_rfl) (by kernel_rfl) (by kernel_rfl) (fun _ _ _ h => h) (Or.inl ⟨?hw50, ?hy50⟩) HS0 ?rest50
            case hi50 => (simp only [List.getElem?_toArray, List.getElem?_cons_zero, List.getElem?_cons_succ]; try rfl)
            case hw50 => rfl
            case hy50 => (intro w hSw; obtain ⟨s0, s1, s2, s3, _⟩ := hSw; go_simp; (try with_reducible rfl))
            try simp only [Act.put, List.setIfInBounds_toArray, List.set_cons_zero, List.set_cons_succ]
            refine wpAnyH_take (i := 14) (oi := ?oo51) (v := ?vv51) ?hi51 (by kernel_rfl) (by kernel_rfl) (by kernel_rfl) (fun _ _ _ h => h) (Or.inl ⟨?hw51, ?hy51⟩) HS0 ?rest51
            case hi51 => (simp only [List.getElem?_toArray, List.getElem?_cons_zero, List.getElem?_cons_succ]; try rfl)
            case hw51 => rfl
            case hy51 => (intro w hSw; obtain ⟨s0, s1, s2, s3, _⟩ := hSw; go_simp; (try with_reducible rfl))
            try simp only [Act.put, List.setIfInBounds_toArray, List.set_cons_zero, List.set_cons_succ]
            refine wpAnyH_take (i := 15) (oi := ?oo52) (v := ?vv52) ?hi52 (by kernel_rfl) (by kernel_rfl) (by kernel_rfl) (fun _ _ _ h => h) (Or.inl ⟨?hw52, ?hy52⟩) HS0 ?rest52
            case hi52 => (simp only [List.getElem?_toArray, List.getElem?_cons_zero, List.getElem?_cons_succ]; try rfl)
            case hw52 => rfl
            case hy52 => (intro w hSw; obtain ⟨s0, s1, s2, s3, _⟩ := hSw; go_simp; (try with_reducible rfl))
            try simp only [Act.put, List.setIfInBounds_toArray, List.set_cons_zero, List.set_cons_succ]
            refine wpAnyH_take (i := 17) (oi := ?oo53) (v := ?vv53) ?hi53 (by kernel_rfl) (by kernel_rfl) (by kernel_rfl) (fun _ _ _ h => h) (Or.inl ⟨?hw53, ?hy53⟩) HS0 ?rest53
            case hi53 => (simp only [List.getElem?_toArray, List.getElem?_cons_zero, List.getElem?_cons_succ]; try rfl)
            case hw53 => rfl
            case hy53 => (intro w hSw; obtain ⟨s0, s1, s2, s3, _⟩ := hSw; go_simp; (try with_reducible rfl))
            try simp only [Act.put, List.setIfInBounds_toArray, List.set_cons_zero, List.set_cons_succ]
            refine wpAnyH_take (i := 18) (oi := ?oo54) (v := ?vv54) ?hi54 (by kernel_rfl) (by kernel_rfl) (by kernel_rfl) (fun _ _ _ h => h) (Or.inl ⟨?hw54, ?hy54⟩) HS0 ?rest54
            case hi54 => (simp only [List.getElem?_toArray, List.getElem?_cons_zero, List.getElem?_cons_succ]; try rfl)
            case hw54 => rfl
            case hy54 => (intro w hSw; obtain ⟨s0, s1, s2, s3, _⟩ := hSw; go_simp; (try with_reducible rfl))
            try simp only [Act.put, List.setIfInBounds_toArray, List.set_cons_zero, List.set_cons_succ]
            refine wpAnyH_ready (rs := [16]) (by kernel_rfl) (by simp) ?_
            refine AllReadyH.cons rfl (fun K2 hK => ?_) ?_
            · go_simp
              refine (HK.out _ _ HS0.2.2.2.2 (by omega) (by omega)).mono ?_
              rintro e w9 ⟨rfl, hg9⟩
              have HS9 : w9.cell? ⟨B, 0, none⟩ = some (.int .i64 q) ∧ w9.cell? ⟨B, 1, none⟩ = some (.string y) ∧ w9.cell? ⟨B, 2, none⟩ = some (.int .i64 u) ∧ w9.cell? ⟨B, 3, none⟩ = some (.int .i64 v) ∧ wb.grownBy w9 none := ⟨hg9.cell (a := ⟨B, 0, none⟩) HS0.1 (by simp), hg9.cell (a := ⟨B, 1, none⟩) HS0.2.1 (by simp), hg9.cell (a := ⟨B, 2, none⟩) HS0.2.2.1 (by simp), hg9.cell (a := ⟨B, 3, none⟩) HS0.2.2.2.1 (by simp), HS0.2.2.2.2.trans hg9⟩
              clear hg9 HS0
              dsimp only
              refine hK.out _ _ HS9 (fun _ => ?_)
              clear hK K2
              try simp only [Act.put, List.getElem_toArray, List.getElem_cons_zero, List.getElem_cons_succ, List.setIfInBounds_toArray, List.set_cons_zero, List.set_cons_succ]
              have HS0 := HS9
              clear HS9
              refine wpAnyH_take (i := 19) (oi := ?oo55) (v := ?vv55) ?hi55 (by kernel_rfl) (by kernel_rfl) (by kernel_rfl) (fun _ _ _ h => h) (Or.inl ⟨?hw55, ?hy55⟩) HS0 ?rest55
              case hi55 => (simp only [List.getElem?_toArray, List.getElem?_cons_zero, List.getElem?_cons_succ]; try rfl)
              case hw55 => rfl
              case hy55 => (intro w hSw; obtain ⟨s0, s1, s2, s3, _⟩ := hSw; go_simp; (try with_reducible rfl))
              try simp only [Act.put, List.setIfInBounds_toArray, List.set_cons_zero, List.set_cons_succ]
              refine wpAnyH_take (i := 20) (oi := ?oo56) (v := ?vv56) ?hi56 (by kernel_rfl) (by kernel_rfl) (by kernel_rfl) (fun _ _ _ h => h) (Or.inl ⟨?hw56, ?hy56⟩) HS0 ?rest56
              case hi56 => (simp only [List.getElem?_toArray, List.getElem?_cons_zero, List.getElem?_cons_succ]; try rfl)
              case hw56 => rfl
              case hy56 => (intro w hSw; obtain ⟨s0, s1, s2, s3, _⟩ := hSw; go_simp; (try with_reducible rfl))
              try simp only [Act.put, List.setIfInBounds_toArray, List.set_cons_zero, List.set_cons_succ]
              refine wpAnyH_take (i := 21) (oi := ?oo57) (v := ?vv57) ?hi57 (by kernel_rfl) (by kernel_rfl) (by kernel_rfl) (fun _ _ _ h => h) (Or.inl ⟨?hw57, ?hy57⟩) HS0 ?rest57
              case hi57 => (simp only [List.getElem?_toArray, List.getElem?_cons_zero, List.getElem?_cons_succ]; try rfl)
              case hw57 => rfl
              case hy57 => (intro w hSw; obtain ⟨s0, s1, s2, s3, _⟩ := hSw; go_simp; (try with_reducible rfl))
              try simp only [Act.put, List.setIfInBounds_toArray, List.set_cons_zero, List.set_cons_succ]
              refine wpAnyH_take (i := 22) (oi := ?oo58) (v := ?vv58) ?hi58 (by kernel_rfl) (by kernel_rfl) (by kernel_rfl) (fun _ _ _ h => h) (Or.inl ⟨?hw58, ?hy58⟩) HS0 ?rest58
              case hi58 => (simp only [List.getElem?_toArray, List.getElem?_cons_zero, List.getElem?_cons_succ]; try rfl)
              case hw58 => rfl
              case hy58 => (intro w hSw; obtain ⟨s0, s1, s2, s3, _⟩ := hSw; go_simp; (try with_reducible rfl))
              try simp only [Act.put, List.setIfInBounds_toArray, List.set_cons_zero, List.set_cons_succ]
              refine wpAnyH_take (i := 23) (oi := ?oo59) (v := ?vv59) ?hi59 (by kernel_rfl) (by kernel_rfl) (by kernel_rfl) (fun _ _ _ h => h) (Or.inl ⟨?hw59, ?hy59⟩) HS0 ?rest59
              case hi59 => (simp only [List.getElem?_toArray, List.getElem?_cons_zero, List.getElem?_cons_succ]; try rfl)
              case hw59 => rfl
              case hy59 => (intro w hSw; obtain ⟨s0, s1, s2, s3, _⟩ := hSw; go_simp; (try with_reducible rfl))
              try simp only [Act.put, List.setIfInBounds_toArray, List.set_cons_zero, List.set_cons_succ]
              refine wpAnyH_take (i := 24) (oi := ?oo60) (v := ?vv60) ?hi60 (by kernel_rfl) (by kernel_rfl) (by kernel_rfl) (fun _ _ _ h => h) (Or.inl ⟨?hw60, ?hy60⟩) HS0 ?rest60
              case hi60 => (simp only [List.getElem?_toArray, List.getElem?_cons_zero, List.getElem?_cons_succ]; try rfl)
              case hw60 => rfl
              case hy60 => (intro w hSw; obtain ⟨s0, s1, s2, s3, _⟩ := hSw; go_simp; (try with_reducible rfl))
              try simp only [Act.put, List.setIfInBounds_toArray, List.set_cons_zero, List.set_cons_succ]
              refine wpAnyH_take (i := 25) (oi := ?oo61) (v := ?vv61) ?hi61 (by kernel_rfl) (by kernel_rfl) (by kernel_rfl) (fun _ _ _ h => h) (Or.inl ⟨?hw61, ?hy61⟩) HS0 ?rest61
              case hi61 => (simp only [List.getElem?_toArray, List.getElem?_cons_zero, List.getElem?_cons_succ]; try rfl)
              case hw61 => rfl
              case hy61 => (intro w hSw; obtain ⟨s0, s1, s2, s3, _⟩ := hSw; go_simp; (try with_reducible rfl))
              try simp only [Act.put, List.setIfInBounds_toArray, List.set_cons_zero, List.set_cons_succ]
              refine wpAnyH_take (i := 26) (oi := ?oo62) (v := ?vv62) ?hi62 (by kernel_rfl) (by kernel_rfl) (by kernel_rfl) (fun _ _ _ h => h) (Or.inl ⟨?hw62, ?hy62⟩) HS0 ?rest62
              case hi62 => (simp only [List.getElem?_toArray, List.getElem?_cons_zero, List.getElem?_cons_succ]; try rfl)
              case hw62 => rfl
              case hy62 => (intro w hSw; obtain ⟨s0, s1, s2, s3, _⟩ := hSw; go_simp; (try with_reducible rfl))
              try simp only [Act.put, List.setIfInBounds_toArray, List.set_cons_zero, List.set_cons_succ]
              refine wpAnyH_take (i := 27) (oi := ?oo63) (v := ?vv63) ?hi63 (by kernel_rfl) (by kernel_rfl) (by kernel_rfl) (fun _ _ _ h => h) (Or.inr ⟨?hw63, ?hy63⟩) HS0 ?rest63
              case hi63 => (simp only [List.getElem?_toArray, List.getElem?_cons_zero, List.getElem?_cons_succ]; try rfl)
              case hw63 => rfl
              case hy63 => rfl
              try simp only [Act.put, List.setIfInBounds_toArray, List.set_cons_zero, List.set_cons_succ]
              refine wpAnyH_take (i := 28) (oi := ?oo64) (v := ?vv64) ?hi64 (by kernel_rfl) (by kernel_rfl) (by kernel_rfl) (fun _ _ _ h => h) (Or.inr ⟨?hw64, ?hy64⟩) HS0 ?rest64
              case hi64 => (simp only [List.getElem?_toArray, List.getElem?_cons_zero, List.getElem?_cons_succ]; try rfl)
              case hw64 => rfl
              case hy64 => rfl
              try simp only [Act.put, List.setIfInBounds_toArray, List.set_cons_zero, List.set_cons_succ]
              refine wpAnyH_take (i := 29) (oi := ?oo65) (v := ?vv65) ?hi65 (by kernel_rfl) (by kernel_rfl) (by kernel_rfl) (fun _ _ _ h => h) (Or.inr ⟨?hw65, ?hy65⟩) HS0 ?rest65
              case hi65 => (simp only [List.getElem?_toArray, List.getElem?_cons_zero, List.getElem?_cons_succ]; try rfl)
              case hw65 => rfl
              case hy65 => rfl
              try simp only [Act.put, List.setIfInBounds_toArray, List.set_cons_zero, List.set_cons_succ]
              refine wpAnyH_take (i := 30) (oi := ?oo66) (v := ?vv66) ?hi66 (by kernel_rfl) (by kernel_rfl) (by kernel_rfl) (fun _ _ _ h => h) (Or.inr ⟨?hw66, ?hy66⟩) HS0 ?rest66
              case hi66 => (simp only [List.getElem?_toArray, List.getElem?_cons_zero, List.getElem?_cons_succ]; try rfl)
              case hw66 => rfl
              case hy66 => rfl
              try simp only [Act.put, List.setIfInBounds_toArray, List.set_cons_zero, List.set_cons_succ]
              refine wpAnyH_take (i := 31) (oi := ?oo67) (v := ?vv67) ?hi67 (by kernel_rfl) (by kernel_rfl) (by kernel_rfl) (fun _ _ _ h => h) (Or.inr ⟨?hw67, ?hy67⟩) HS0 ?rest67
              case hi67 => (simp only [List.getElem?_toArray, List.getElem?_cons_zero, List.getElem?_cons_succ]; try rfl)
              case hw67 => rfl
              case hy67 => rfl
              try simp only [Act.put, List.setIfInBounds_toArray, List.set_cons_zero, List.set_cons_succ]
              refine wpAnyH_take (i := 32) (oi := ?oo68) (v := ?vv68) ?hi68 (by kernel_rfl) (by kernel_rfl) (by kernel_rfl) (fun _ _ _ h => h) (Or.inr ⟨?hw68, ?hy68⟩) HS0 ?rest68
              case hi68 => (simp only [List.getElem?_toArray, List.getElem?_cons_zero, List.getElem?_cons_succ]; try rfl)
              case hw68 => rfl
              case hy68 => rfl
              try simp only [Act.put, List.setIfInBounds_toArray, List.set_cons_zero, List.set_cons_succ]
              refine wpAnyH_take (i := 33) (oi := ?oo69) (v := ?vv69) ?hi69 (by kernel_rfl) (by kernel_rfl) (by kernel_rfl) (fun _ _ _ h => h) (Or.inr ⟨?hw69, ?hy69⟩) HS0 ?rest69
              case hi69 => (simp only [List.getElem?_toArray, List.getElem?_cons_zero, List.getElem?_cons_succ]; try rfl)
              case hw69 => rfl
              case hy69 => rfl
              try simp only [Act.put, List.setIfInBounds_toArray, List.set_cons_zero, List.set_cons_succ]
              refine wpAnyH_take (i := 34) (oi := ?oo70) (v := ?vv70) ?hi70 (by kernel_rfl) (by kernel_rfl) (by kernel_rfl) (fun _ _ _ h => h) (Or.inr ⟨?hw70, ?hy70⟩) HS0 ?rest70
              case hi70 => (simp only [List.getElem?_toArray, List.getElem?_cons_zero, List.getElem?_cons_succ]; try rfl)
              case hw70 => rfl
              case hy70 => rfl
              try simp only [Act.put, List.setIfInBounds_toArray, List.set_cons_zero, List.set_cons_succ]
              refine wpAnyH_take (i := 35) (oi := ?oo71) (v := ?vv71) ?hi71 (by kernel_rfl) (by kernel_rfl) (by kernel_rfl) (fun _ _ _ h => h) (Or.inr ⟨?hw71, ?hy71⟩) HS0 ?rest71
              case hi71 => (simp only [List.getElem?_toArray, List.getElem?_cons_zero, List.getElem?_cons_succ]; try rfl)
              case hw71 => rfl
              case hy71 => rfl
              try simp only [Act.put, List.setIfInBounds_toArray, List.set_cons_zero, List.set_cons_succ]
              refine wpAnyH_take (i := 36) (oi := ?oo72) (v := ?vv72) ?hi72 (by kernel_rfl) (by kernel_rfl) (by kernel_rfl) (fun _ _ _ h => h) (Or.inl ⟨?hw72, ?hy72⟩) HS0 ?rest72
              case hi72 => (simp only [List.getElem?_toArray, List.getElem?_cons_zero, List.getElem?_cons_succ]; try rfl)
              case hw72 => rfl
              case hy72 => (intro w hSw; obtain ⟨s0, s1, s2, s3, _⟩ := hSw; go_simp; (try with_reducible rfl))
              try simp only [Act.put, List.setIfInBounds_toArray, List.set_cons_zero, List.set_cons_succ]
              refine wpAnyH_take (i := 37) (oi := ?oo73) (v := ?vv73) ?hi73 (by kernel_rfl) (by kernel_rfl) (by kernel_rfl) (fun _ _ _ h => h) (Or.inl ⟨?hw73, ?hy73⟩) HS0 ?rest73
              case hi73 => (simp only [List.getElem?_toArray, List.getElem?_cons_zero, List.getElem?_cons_succ]; try rfl)
              case hw73 => rfl
              case hy73 => (intro w hSw; obtain ⟨s0, s1, s2, s3, _⟩ := hSw; go_simp; (try with_reducible rfl))
              try simp only [Act.put, List.setIfInBounds_toArray, List.set_cons_zero, List.set_cons_succ]
              refine wpAnyH_done (by kernel_rfl) (NoPanic.normal ?_) _
              have hHeld := HS0
              clear HS0
              have HH := Lib.hid hHeld.2.2.2.2
              go_wp2_with fail
              have HQ := Lib.hid (And.intro q0 (And.intro q1 (And.intro q2 q3)))
              clear hHeld q0 q1 q2 q3
              skip
              obtain ⟨D, hD⟩ : ∃ D : Nat, (D : Int) = v - u := ⟨(v - u).toNat, by omega⟩
              go_loopg [10] D (fun k s wx => ∃ m : Nat, k + m = D ∧ s = .int .i64 (u + m) ∧ wb.grownBy wx none)
              case atStart => exact ⟨0, by omega, by simp, HH.out⟩
              case round =>
                obtain ⟨m, hm, rfl, hgx⟩ := hrel
                have x3 := hgx.cell (a := ⟨B, 3, none⟩) HQ.out.2.2.2 (by simp)
                have x0 : wr.drew.cell? ⟨B, 0, none⟩ = some (.int .i64 q) := hgx.cell (a := ⟨B, 0, none⟩) HQ.out.1 (by simp)
                have x1 : wr.drew.cell? ⟨B, 1, none⟩ = some (.string y) := hgx.cell (a := ⟨B, 1, none⟩) HQ.out.2.1 (by simp)
                have x2 : wr.drew.cell? ⟨B, 2, none⟩ = some (.int .i64 u) := hgx.cell (a := ⟨B, 2, none⟩) HQ.out.2.2.1 (by simp)
                have x4 : wb.grownBy wr.drew none := grown_drew hgx
                have x5 : wr.drew.cell? ⟨B, 3, none⟩ = some (.int .i64 v) := x3
                have hwm : IntKind.i64.wrap (u + m + 1) = u + m + 1 := IntWalk.i64_in _ (by omega)
                by_cases hlm : m < D
                · have hlv : u + (m : Int) < v := by omega
                  have hnm : ((atS V q (u + m)).toList == y.toList) = true := by rw [HR.out.2.2.2.1 (u + m) (by omega) hlv]; simp
                  go_wp2_with fail
                  go_region_held3 (fun w' => w'.cell? ⟨B, 0, none⟩ = some (.int .i64 q) ∧ w'.cell? ⟨B, 1, none⟩ = some (.string y) ∧ w'.cell? ⟨B, 2, none⟩ = some (.int .i64 u) ∧ w'.cell? ⟨B, 3, none⟩ = some (.int .i64 v) ∧ wb.grownBy w' none) (go_keep)
                    (first | ((go_at_call 8; refine (HK.out _ _ (by assumption) (by omega) (by omega)).mono ?_; rintro e w9 ⟨rfl, hg9⟩; have z0 := hg9.cell (a := ⟨B, 0, none⟩) (by assumption) (by simp); have z1 := hg9.cell (a := ⟨B, 1, none⟩) (by assumption) (by simp); have z2 := hg9.cell (a := ⟨B, 2, none⟩) (by assumption) (by simp); have z3 := hg9.cell (a := ⟨B, 3, none⟩) (by assumption) (by simp); have z4 := World.grownBy.trans (by assumption) hg9)))
                  rename_i hHeld2
                  have HH2 := Lib.hid hHeld2.2.2.2.2
                  clear hHeld2
                  go_wp2_with fail
                  go_roundg (gk - 1)
                  case measure => omega
                  case rel => exact ⟨m + 1, by omega, by go_num, HH2.out⟩
                · have hlv : ¬ u + (m : Int) < v := by omega
                  go_wp2_with fail
                  have hjo := HR.out.1
                  have hsm := HC.out.2.2.2.2.2.2
                  go_roundg (ko - 1)
                  case measure => omega
                  case rel => exact ⟨j + 1, by omega, by rw [show wrap64 ((j : Int) + 1) = ((j + 1 : Nat) : Int) from by unfold wrap64; omega], (HR.out.2.1.trans hgR).trans hgx⟩
            · exact AllReadyH.nil
        · have hf0 : decide (0 < u) = false := by simpa using f0
          by_cases f1 : v < 20
          · have hf1 : decide (v < 20) = true := by simpa using f1
            have hn1 : ((atS V q v).toList == y.toList) = false := sEq_ne.2 (HR.out.2.2.2.2.2 f1)
            refine wp_region_noPanic ?_
            refine wp_region_held_drew (S := fun w' => w'.cell? ⟨B, 0, none⟩ = some (.int .i64 q) ∧ w'.cell? ⟨B, 1, none⟩ = some (.string y) ∧ w'.cell? ⟨B, 2, none⟩ = some (.int .i64 u) ∧ w'.cell? ⟨B, 3, none⟩ = some (.int .i64 v) ∧ wb.grownBy w' none) (by kernel_rfl) ⟨q0, q1, q2, q3, hg0⟩ (fun HS0 => ?_)
            simp only [List.size_toArray, List.length_cons, List.length_nil, Nat.reduceAdd]
            refine wpAnyH_take (i := 0) (oi := ?oo74) (v := ?vv74) ?hi74 (by kernel_rfl) (by kernel_rfl) (by kernel_rfl) (fun _ _ _ h => h) (Or.inl ⟨?hw74, ?hy74⟩) HS0 ?rest74
            case hi74 => (simp only [List.getElem?_toArray, List.getElem?_cons_zero]; try rfl)
            case hw74 => rfl
            case hy74 => (intro w hSw; obtain ⟨s0, s1, s2, s3, _⟩ := hSw; go_simp; (try with_reducible rfl))
            try simp only [Act.put, List.setIfInBounds_toArray, List.set_cons_zero, List.set_cons_succ]
            refine wpAnyH_take (i := 1) (oi := ?oo75) (v := ?vv75) ?hi75 (by kernel_rfl) (by kernel_rfl) (by kernel_rfl) (fun _ _ _ h => h) (Or.inl ⟨?hw75, ?hy75⟩) HS0 ?rest75
            case hi75 => (simp only [List.getElem?_toArray, List.getElem?_cons_zero, List.getElem?_cons_succ]; try rfl)
            case hw75 => rfl
            case hy75 => (intro w hSw; obtain ⟨s0, s1, s2, s3, _⟩ := hSw; go_simp; (try with_reducible rfl))
            try simp only [Act.put, List.setIfInBounds_toArray, List.set_cons_zero, List.set_cons_succ]
            refine wpAnyH_take (i := 2) (oi := ?oo76) (v := ?vv76) ?hi76 (by kernel_rfl) (by kernel_rfl) (by kernel_rfl) (fun _ _ _ h => h) (Or.inl ⟨?hw76, ?hy76⟩) HS0 ?rest76
            case hi76 => (simp only [List.getElem?_toArray, List.getElem?_cons_zero, List.getElem?_cons_succ]; try rfl)
            case hw76 => rfl
            case hy76 => (intro w hSw; obtain ⟨s0, s1, s2, s3, _⟩ := hSw; go_simp; (try with_reducible rfl))
            try simp only [Act.put, List.setIfInBounds_toArray, List.set_cons_zero, List.set_cons_succ]
            refine wpAnyH_take (i := 3) (oi := ?oo77) (v := ?vv77) ?hi77 (by kernel_rfl) (by kernel_rfl) (by kernel_rfl) (fun _ _ _ h => h) (Or.inl ⟨?hw77, ?hy77⟩) HS0 ?rest77
            case hi77 => (simp only [List.getElem?_toArray, List.getElem?_cons_zero, List.getElem?_cons_succ]; try rfl)
            case hw77 => rfl
            case hy77 => (intro w hSw; obtain ⟨s0, s1, s2, s3, _⟩ := hSw; go_simp; (try with_reducible rfl))
            try simp only [Act.put, List.setIfInBounds_toArray, List.set_cons_zero, List.set_cons_succ]
            refine wpAnyH_take (i := 4) (oi := ?oo78) (v := ?vv78) ?hi78 (by kernel_rfl) (by kernel_rfl) (by kernel_rfl) (fun _ _ _ h => h) (Or.inl ⟨?hw78, ?hy78⟩) HS0 ?rest78
            case hi78 => (simp only [List.getElem?_toArray, List.getElem?_cons_zero, List.getElem?_cons_succ]; try rfl)
            case hw78 => rfl
            case hy78 => (intro w hSw; obtain ⟨s0, s1, s2, s3, _⟩ := hSw; go_simp; (try with_reducible rfl))
            try simp only [Act.put, List.setIfInBounds_toArray, List.set_cons_zero, List.set_cons_succ]
            refine wpAnyH_take (i := 5) (oi := ?oo79) (v := ?vv79) ?hi79 (by kernel_rfl) (by kernel_rfl) (by kernel_rfl) (fun _ _ _ h => h) (Or.inl ⟨?hw79, ?hy79⟩) HS0 ?rest79
            case hi79 => (simp only [List.getElem?_toArray, List.getElem?_cons_zero, List.getElem?_cons_succ]; try rfl)
            case hw79 => rfl
            case hy79 => (intro w hSw; obtain ⟨s0, s1, s2, s3, _⟩ := hSw; go_simp; (try with_reducible rfl))
            try simp only [Act.put, List.setIfInBounds_toArray, List.set_cons_zero, List.set_cons_succ]
            refine wpAnyH_take (i := 6) (oi := ?oo80) (v := ?vv80) ?hi80 (by kernel_rfl) (by kernel_rfl) (by kernel_rfl) (fun _ _ _ h => h) (Or.inl ⟨?hw80, ?hy80⟩) HS0 ?rest80
            case hi80 => (simp only [List.getElem?_toArray, List.getElem?_cons_zero, List.getElem?_cons_succ]; try rfl)
            case hw80 => rfl
            case hy80 => (intro w hSw; obtain ⟨s0, s1, s2, s3, _⟩ := hSw; go_simp; (try with_reducible rfl))
            try simp only [Act.put, List.setIfInBounds_toArray, List.set_cons_zero, List.set_cons_succ]
            refine wpAnyH_take (i := 7) (oi := ?oo81) (v := ?vv81) ?hi81 (by kernel_rfl) (by kernel_rfl) (by kernel_rfl) (fun _ _ _ h => h) (Or.inl ⟨?hw81, ?hy81⟩) HS0 ?rest81
            case hi81 => (simp only [List.getElem?_toArray, List.getElem?_cons_zero, List.getElem?_cons_succ]; try rfl)
            case hw81 => rfl
            case hy81 => (intro w hSw; obtain ⟨s0, s1, s2, s3, _⟩ := hSw; go_simp; (try with_reducible rfl))
            try simp only [Act.put, List.setIfInBounds_toArray, List.set_cons_zero, List.set_cons_succ]
            refine wpAnyH_take (i := 8) (oi := ?oo82) (v := ?vv82) ?hi82 (by kernel_rfl) (by kernel_rfl) (by kernel_rfl) (fun _ _ _ h => h) (Or.inl ⟨?hw82, ?hy82⟩) HS0 ?rest82
            case hi82 => (simp only [List.getElem?_toArray, List.getElem?_cons_zero, List.getElem?_cons_succ]; try rfl)
            case hw82 => rfl
            case hy82 => (intro w hSw; obtain ⟨s0, s1, s2, s3, _⟩ := hSw; go_simp; (try with_reducible rfl))
            try simp only [Act.put, List.setIfInBounds_toArray, List.set_cons_zero, List.set_cons_succ]
            refine wpAnyH_take (i := 9) (oi := ?oo83) (v := ?vv83) ?hi83 (by kernel_rfl) (by kernel_rfl) (by kernel_rfl) (fun _ _ _ h => h) (Or.inl ⟨?hw83, ?hy83⟩) HS0 ?rest83
            case hi83 => (simp only [List.getElem?_toArray, List.getElem?_cons_zero, List.getElem?_cons_succ]; try rfl)
            case hw83 => rfl
            case hy83 => (intro w hSw; obtain ⟨s0, s1, s2, s3, _⟩ := hSw; go_simp; (try with_reducible rfl))
            try simp only [Act.put, List.setIfInBounds_toArray, List.set_cons_zero, List.set_cons_succ]
            refine wpAnyH_take (i := 10) (oi := ?oo84) (v := ?vv84) ?hi84 (by kernel_rfl) (by kernel_rfl) (by kernel_rfl) (fun _ _ _ h => h) (Or.inr ⟨?hw84, ?hy84⟩) HS0 ?rest84
            case hi84 => (simp only [List.getElem?_toArray, List.getElem?_cons_zero, List.getElem?_cons_succ]; try rfl)
            case hw84 => rfl
            case hy84 => rfl
            try simp only [Act.put, List.setIfInBounds_toArray, List.set_cons_zero, List.set_cons_succ]
            refine wpAnyH_take (i := 11) (oi := ?oo85) (v := ?vv85) ?hi85 (by kernel_rfl) (by kernel_rfl) (by kernel_rfl) (fun _ _ _ h => h) (Or.inr ⟨?hw85, ?hy85⟩) HS0 ?rest85
            case hi85 => (simp only [List.getElem?_toArray, List.getElem?_cons_zero, List.getElem?_cons_succ]; try rfl)
            case hw85 => rfl
            case hy85 => rfl
            try simp only [Act.put, List.setIfInBounds_toArray, List.set_cons_zero, List.set_cons_succ]
            refine wpAnyH_take (i := 12) (oi := ?oo86) (v := ?vv86) ?hi86 (by kernel_rfl) (by kernel_rfl) (by kernel_rfl) (fun _ _ _ h => h) (Or.inr ⟨?hw86, ?hy86⟩) HS0 ?rest86
            case hi86 => (simp only [List.getElem?_toArray, List.getElem?_cons_zero, List.getElem?_cons_succ]; try rfl)
            case hw86 => rfl
            case hy86 => rfl
            try simp only [Act.put, List.setIfInBounds_toArray, List.set_cons_zero, List.set_cons_succ]
            refine wpAnyH_take (i := 13) (oi := ?oo87) (v := ?vv87) ?hi87 (by kernel_rfl) (by kernel_rfl) (by kernel_rfl) (fun _ _ _ h => h) (Or.inr ⟨?hw87, ?hy87⟩) HS0 ?rest87
            case hi87 => (simp only [List.getElem?_toArray, List.getElem?_cons_zero, List.getElem?_cons_succ]; try rfl)
            case hw87 => rfl
            case hy87 => rfl
            try simp only [Act.put, List.setIfInBounds_toArray, List.set_cons_zero, List.set_cons_succ]
            refine wpAnyH_take (i := 14) (oi := ?oo88) (v := ?vv88) ?hi88 (by kernel_rfl) (by kernel_rfl) (by kernel_rfl) (fun _ _ _ h => h) (Or.inr ⟨?hw88, ?hy88⟩) HS0 ?rest88
            case hi88 => (simp only [List.getElem?_toArray, List.getElem?_cons_zero, List.getElem?_cons_succ]; try rfl)
            case hw88 => rfl
            case hy88 => rfl
            try simp only [Act.put, List.setIfInBounds_toArray, List.set_cons_zero, List.set_cons_succ]
            refine wpAnyH_take (i := 15) (oi := ?oo89) (v := ?vv89) ?hi89 (by kernel_rfl) (by kernel_rfl) (by kernel_rfl) (fun _ _ _ h => h) (Or.inr ⟨?hw89, ?hy89⟩) HS0 ?rest89
            case hi89 => (simp only [List.getElem?_toArray, List.getElem?_cons_zero, List.getElem?_cons_succ]; try rfl)
            case hw89 => rfl
            case hy89 => rfl
            try simp only [Act.put, List.setIfInBounds_toArray, List.set_cons_zero, List.set_cons_succ]
            refine wpAnyH_take (i := 16) (oi := ?oo90) (v := ?vv90) ?hi90 (by kernel_rfl) (by kernel_rfl) (by kernel_rfl) (fun _ _ _ h => h) (Or.inr ⟨?hw90, ?hy90⟩) HS0 ?rest90
            case hi90 => (simp only [List.getElem?_toArray, List.getElem?_cons_zero, List.getElem?_cons_succ]; try rfl)
            case hw90 => rfl
            case hy90 => rfl
            try simp only [Act.put, List.setIfInBounds_toArray, List.set_cons_zero, List.set_cons_succ]
            refine wpAnyH_take (i := 17) (oi := ?oo91) (v := ?vv91) ?hi91 (by kernel_rfl) (by kernel_rfl) (by kernel_rfl) (fun _ _ _ h => h) (Or.inr ⟨?hw91, ?hy91⟩) HS0 ?rest91
            case hi91 => (simp only [List.getElem?_toArray, List.getElem?_cons_zero, List.getElem?_cons_succ]; try rfl)
            case hw91 => rfl
            case hy91 => rfl
            try simp only [Act.put, List.setIfInBounds_toArray, List.set_cons_zero, List.set_cons_succ]
            refine wpAnyH_take (i := 18) (oi := ?oo92) (v := ?vv92) ?hi92 (by kernel_rfl) (by kernel_rfl) (by kernel_rfl) (fun _ _ _ h => h) (Or.inr ⟨?hw92, ?hy92⟩) HS0 ?rest92
            case hi92 => (simp only [List.getElem?_toArray, List.getElem?_cons_zero, List.getElem?_cons_succ]; try rfl)
            case hw92 => rfl
            case hy92 => rfl
            try simp only [Act.put, List.setIfInBounds_toArray, List.set_cons_zero, List.set_cons_succ]
            refine wpAnyH_take (i := 19) (oi := ?oo93) (v := ?vv93) ?hi93 (by kernel_rfl) (by kernel_rfl) (by kernel_rfl) (fun _ _ _ h => h) (Or.inr ⟨?hw93, ?hy93⟩) HS0 ?rest93
            case hi93 => (simp only [List.getElem?_toArray, List.getElem?_cons_zero, List.getElem?_cons_succ]; try rfl)
            case hw93 => rfl
            case hy93 => rfl
            try simp only [Act.put, List.setIfInBounds_toArray, List.set_cons_zero, List.set_cons_succ]
            refine wpAnyH_take (i := 20) (oi := ?oo94) (v := ?vv94) ?hi94 (by kernel_rfl) (by kernel_rfl) (by kernel_rfl) (fun _ _ _ h => h) (Or.inl ⟨?hw94, ?hy94⟩) HS0 ?rest94
            case hi94 => (simp only [List.getElem?_toArray, List.getElem?_cons_zero, List.getElem?_cons_succ]; try rfl)
            case hw94 => rfl
            case hy94 => (intro w hSw; obtain ⟨s0, s1, s2, s3, _⟩ := hSw; go_simp; (try with_reducible rfl))
            try simp only [Act.put, List.setIfInBounds_toArray, List.set_cons_zero, List.set_cons_succ]
            refine wpAnyH_take (i := 21) (oi := ?oo95) (v := ?vv95) ?hi95 (by kernel_rfl) (by kernel_rfl) (by kernel_rfl) (fun _ _ _ h => h) (Or.inl ⟨?hw95, ?hy95⟩) HS0 ?rest95
            case hi95 => (simp only [List.getElem?_toArray, List.getElem?_cons_zero, List.getElem?_cons_succ]; try rfl)
            case hw95 => rfl
            case hy95 => (intro w hSw; obtain ⟨s0, s1, s2, s3, _⟩ := hSw; go_simp; (try with_reducible rfl))
            try simp only [Act.put, List.setIfInBounds_toArray, List.set_cons_zero, List.set_cons_succ]
            refine wpAnyH_take (i := 22) (oi := ?oo96) (v := ?vv96) ?hi96 (by kernel_rfl) (by kernel_rfl) (by kernel_rfl) (fun _ _ _ h => h) (Or.inl ⟨?hw96, ?hy96⟩) HS0 ?rest96
            case hi96 => (simp only [List.getElem?_toArray, List.getElem?_cons_zero, List.getElem?_cons_succ]; try rfl)
            case hw96 => rfl
            case hy96 => (intro w hSw; obtain ⟨s0, s1, s2, s3, _⟩ := hSw; go_simp; (try with_reducible rfl))
            try simp only [Act.put, List.setIfInBounds_toArray, List.set_cons_zero, List.set_cons_succ]
            refine wpAnyH_take (i := 23) (oi := ?oo97) (v := ?vv97) ?hi97 (by kernel_rfl) (by kernel_rfl) (by kernel_rfl) (fun _ _ _ h => h) (Or.inl ⟨?hw97, ?hy97⟩) HS0 ?rest97
            case hi97 => (simp only [List.getElem?_toArray, List.getElem?_cons_zero, List.getElem?_cons_succ]; try rfl)
            case hw97 => rfl
            case hy97 => (intro w hSw; obtain ⟨s0, s1, s2, s3, _⟩ := hSw; go_simp; (try with_reducible rfl))
            try simp only [Act.put, List.setIfInBounds_toArray, List.set_cons_zero, List.set_cons_succ]
            refine wpAnyH_take (i := 24) (oi := ?oo98) (v := ?vv98) ?hi98 (by kernel_rfl) (by kernel_rfl) (by kernel_rfl) (fun _ _ _ h => h) (Or.inl ⟨?hw98, ?hy98⟩) HS0 ?rest98
            case hi98 => (simp only [List.getElem?_toArray, List.getElem?_cons_zero, List.getElem?_cons_succ]; try rfl)
            case hw98 => rfl
            case hy98 => (intro w hSw; obtain ⟨s0, s1, s2, s3, _⟩ := hSw; go_simp; (try with_reducible rfl))
            try simp only [Act.put, List.setIfInBounds_toArray, List.set_cons_zero, List.set_cons_succ]
            refine wpAnyH_take (i := 25) (oi := ?oo99) (v := ?vv99) ?hi99 (by kernel_rfl) (by kernel_rfl) (by kernel_rfl) (fun _ _ _ h => h) (Or.inl ⟨?hw99, ?hy99⟩) HS0 ?rest99
            case hi99 => (simp only [List.getElem?_toArray, List.getElem?_cons_zero, List.getElem?_cons_succ]; try rfl)
            case hw99 => rfl
            case hy99 => (intro w hSw; obtain ⟨s0, s1, s2, s3, _⟩ := hSw; go_simp; (try with_reducible rfl))
            try simp only [Act.put, List.setIfInBounds_toArray, List.set_cons_zero, List.set_cons_succ]
            refine wpAnyH_take (i := 26) (oi := ?oo100) (v := ?vv100) ?hi100 (by kernel_rfl) (by kernel_rfl) (by kernel_rfl) (fun _ _ _ h => h) (Or.inl ⟨?hw100, ?hy100⟩) HS0 ?rest100
            case hi100 => (simp only [List.getElem?_toArray, List.getElem?_cons_zero, List.getElem?_cons_succ]; try rfl)
            case hw100 => rfl
            case hy100 => (intro w hSw; obtain ⟨s0, s1, s2, s3, _⟩ := hSw; go_simp; (try with_reducible rfl))
            try simp only [Act.put, List.setIfInBounds_toArray, List.set_cons_zero, List.set_cons_succ]
            refine wpAnyH_take (i := 27) (oi := ?oo101) (v := ?vv101) ?hi101 (by kernel_rfl) (by kernel_rfl) (by kernel_rfl) (fun _ _ _ h => h) (Or.inl ⟨?hw101, ?hy101⟩) HS0 ?rest101
            case hi101 => (simp only [List.getElem?_toArray, List.getElem?_cons_zero, List.getElem?_cons_succ]; try rfl)
            case hw101 => rfl
            case hy101 => (intro w hSw; obtain ⟨s0, s1, s2, s3, _⟩ := hSw; go_simp; (try with_reducible rfl))
            try simp only [Act.put, List.setIfInBounds_toArray, List.set_cons_zero, List.set_cons_succ]
            refine wpAnyH_take (i := 28) (oi := ?oo102) (v := ?vv102) ?hi102 (by kernel_rfl) (by kernel_rfl) (by kernel_rfl) (fun _ _ _ h => h) (Or.inl ⟨?hw102, ?hy102⟩) HS0 ?rest102
            case hi102 => (simp only [List.getElem?_toArray, List.getElem?_cons_zero, List.getElem?_cons_succ]; try rfl)
            case hw102 => rfl
            case hy102 => (intro w hSw; obtain ⟨s0, s1, s2, s3, _⟩ := hSw; go_simp; (try with_reducible rfl))
            try simp only [Act.put, List.setIfInBounds_toArray, List.set_cons_zero, List.set_cons_succ]
            refine wpAnyH_take (i := 29) (oi := ?oo103) (v := ?vv103) ?hi103 (by kernel_rfl) (by kernel_rfl) (by kernel_rfl) (fun _ _ _ h => h) (Or.inl ⟨?hw103, ?hy103⟩) HS0 ?rest103
            case hi103 => (simp only [List.getElem?_toArray, List.getElem?_cons_zero, List.getElem?_cons_succ]; try rfl)
            case hw103 => rfl
            case hy103 => (intro w hSw; obtain ⟨s0, s1, s2, s3, _⟩ := hSw; go_simp; (try with_reducible rfl))
            try simp only [Act.put, List.setIfInBounds_toArray, List.set_cons_zero, List.set_cons_succ]
            refine wpAnyH_take (i := 30) (oi := ?oo104) (v := ?vv104) ?hi104 (by kernel_rfl) (by kernel_rfl) (by kernel_rfl) (fun _ _ _ h => h) (Or.inl ⟨?hw104, ?hy104⟩) HS0 ?rest104
            case hi104 => (simp only [List.getElem?_toArray, List.getElem?_cons_zero, List.getElem?_cons_succ]; try rfl)
            case hw104 => rfl
            case hy104 => (intro w hSw; obtain ⟨s0, s1, s2, s3, _⟩ := hSw; go_simp; (try with_reducible rfl))
            try simp only [Act.put, List.setIfInBounds_toArray, List.set_cons_zero, List.set_cons_succ]
            refine wpAnyH_take (i := 31) (oi := ?oo105) (v := ?vv105) ?hi105 (by kernel_rfl) (by kernel_rfl) (by kernel_rfl) (fun _ _ _ h => h) (Or.inl ⟨?hw105, ?hy105⟩) HS0 ?rest105
            case hi105 => (simp only [List.getElem?_toArray, List.getElem?_cons_zero, List.getElem?_cons_succ]; try rfl)
            case hw105 => rfl
            case hy105 => (intro w hSw; obtain ⟨s0, s1, s2, s3, _⟩ := hSw; go_simp; (try with_reducible rfl))
            try simp only [Act.put, List.setIfInBounds_toArray, List.set_cons_zero, List.set_cons_succ]
            refine wpAnyH_take (i := 33) (oi := ?oo106) (v := ?vv106) ?hi106 (by kernel_rfl) (by kernel_rfl) (by kernel_rfl) (fun _ _ _ h => h) (Or.inl ⟨?hw106, ?hy106⟩) HS0 ?rest106
            case hi106 => (simp only [List.getElem?_toArray, List.getElem?_cons_zero, List.getElem?_cons_succ]; try rfl)
            case hw106 => rfl
            case hy106 => (intro w hSw; obtain ⟨s0, s1, s2, s3, _⟩ := hSw; go_simp; (try with_reducible rfl))
            try simp only [Act.put, List.setIfInBounds_toArray, List.set_cons_zero, List.set_cons_succ]
            refine wpAnyH_take (i := 34) (oi := ?oo107) (v := ?vv107) ?hi107 (by kernel_rfl) (by kernel_rfl) (by kernel_rfl) (fun _ _ _ h => h) (Or.inl ⟨?hw107, ?hy107⟩) HS0 ?rest107
            case hi107 => (simp only [List.getElem?_toArray, List.getElem?_cons_zero, List.getElem?_cons_succ]; try rfl)
            case hw107 => rfl
            case hy107 => (intro w hSw; obtain ⟨s0, s1, s2, s3, _⟩ := hSw; go_simp; (try with_reducible rfl))
            try simp only [Act.put, List.setIfInBounds_toArray, List.set_cons_zero, List.set_cons_succ]
            refine wpAnyH_ready (rs := [32]) (by kernel_rfl) (by simp) ?_
            refine AllReadyH.cons rfl (fun K2 hK => ?_) ?_
            · go_simp
              refine (HK.out _ _ HS0.2.2.2.2 (by omega) (by omega)).mono ?_
              rintro e w9 ⟨rfl, hg9⟩
              have HS9 : w9.cell? ⟨B, 0, none⟩ = some (.int .i64 q) ∧ w9.cell? ⟨B, 1, none⟩ = some (.string y) ∧ w9.cell? ⟨B, 2, none⟩ = some (.int .i64 u) ∧ w9.cell? ⟨B, 3, none⟩ = some (.int .i64 v) ∧ wb.grownBy w9 none := ⟨hg9.cell (a := ⟨B, 0, none⟩) HS0.1 (by simp), hg9.cell (a := ⟨B, 1, none⟩) HS0.2.1 (by simp), hg9.cell (a := ⟨B, 2, none⟩) HS0.2.2.1 (by simp), hg9.cell (a := ⟨B, 3, none⟩) HS0.2.2.2.1 (by simp), HS0.2.2.2.2.trans hg9⟩
              clear hg9 HS0
              dsimp only
              refine hK.out _ _ HS9 (fun _ => ?_)
              clear hK K2
              try simp only [Act.put, List.getElem_toArray, List.getElem_cons_zero, List.getElem_cons_succ, List.setIfInBounds_toArray, List.set_cons_zero, List.set_cons_succ]
              have HS0 := HS9
              clear HS9
              refine wpAnyH_take (i := 35) (oi := ?oo108) (v := ?vv108) ?hi108 (by kernel_rfl) (by kernel_rfl) (by kernel_rfl) (fun _ _ _ h => h) (Or.inl ⟨?hw108, ?hy108⟩) HS0 ?rest108
              case hi108 => (simp only [List.getElem?_toArray, List.getElem?_cons_zero, List.getElem?_cons_succ]; try rfl)
              case hw108 => rfl
              case hy108 => (intro w hSw; obtain ⟨s0, s1, s2, s3, _⟩ := hSw; go_simp; (try with_reducible rfl))
              try simp only [Act.put, List.setIfInBounds_toArray, List.set_cons_zero, List.set_cons_succ]
              refine wpAnyH_take (i := 36) (oi := ?oo109) (v := ?vv109) ?hi109 (by kernel_rfl) (by kernel_rfl) (by kernel_rfl) (fun _ _ _ h => h) (Or.inl ⟨?hw109, ?hy109⟩) HS0 ?rest109
              case hi109 => (simp only [List.getElem?_toArray, List.getElem?_cons_zero, List.getElem?_cons_succ]; try rfl)
              case hw109 => rfl
              case hy109 => (intro w hSw; obtain ⟨s0, s1, s2, s3, _⟩ := hSw; go_simp; (try with_reducible rfl))
              try simp only [Act.put, List.setIfInBounds_toArray, List.set_cons_zero, List.set_cons_succ]
              refine wpAnyH_take (i := 37) (oi := ?oo110) (v := ?vv110) ?hi110 (by kernel_rfl) (by kernel_rfl) (by kernel_rfl) (fun _ _ _ h => h) (Or.inl ⟨?hw110, ?hy110⟩) HS0 ?rest110
              case hi110 => (simp only [List.getElem?_toArray, List.getElem?_cons_zero, List.getElem?_cons_succ]; try rfl)
              case hw110 => rfl
              case hy110 => (intro w hSw; obtain ⟨s0, s1, s2, s3, _⟩ := hSw; go_simp; (try with_reducible rfl))
              try simp only [Act.put, List.setIfInBounds_toArray, List.set_cons_zero, List.set_cons_succ]
              refine wpAnyH_done (by kernel_rfl) (NoPanic.normal ?_) _
              have hHeld := HS0
              clear HS0
              have HH := Lib.hid hHeld.2.2.2.2
              go_wp2_with fail
              have HQ := Lib.hid (And.intro q0 (And.intro q1 (And.intro q2 q3)))
              clear hHeld q0 q1 q2 q3
              skip
              obtain ⟨D, hD⟩ : ∃ D : Nat, (D : Int) = v - u := ⟨(v - u).toNat, by omega⟩
              go_loopg [10] D (fun k s wx => ∃ m : Nat, k + m = D ∧ s = .int .i64 (u + m) ∧ wb.grownBy wx none)
              case atStart => exact ⟨0, by omega, by simp, HH.out⟩
              case round =>
                obtain ⟨m, hm, rfl, hgx⟩ := hrel
                have x3 := hgx.cell (a := ⟨B, 3, none⟩) HQ.out.2.2.2 (by simp)
                have x0 : wr.drew.cell? ⟨B, 0, none⟩ = some (.int .i64 q) := hgx.cell (a := ⟨B, 0, none⟩) HQ.out.1 (by simp)
                have x1 : wr.drew.cell? ⟨B, 1, none⟩ = some (.string y) := hgx.cell (a := ⟨B, 1, none⟩) HQ.out.2.1 (by simp)
                have x2 : wr.drew.cell? ⟨B, 2, none⟩ = some (.int .i64 u) := hgx.cell (a := ⟨B, 2, none⟩) HQ.out.2.2.1 (by simp)
                have x4 : wb.grownBy wr.drew none := grown_drew hgx
                have x5 : wr.drew.cell? ⟨B, 3, none⟩ = some (.int .i64 v) := x3
                have hwm : IntKind.i64.wrap (u + m + 1) = u + m + 1 := IntWalk.i64_in _ (by omega)
                by_cases hlm : m < D
                · have hlv : u + (m : Int) < v := by omega
                  have hnm : ((atS V q (u + m)).toList == y.toList) = true := by rw [HR.out.2.2.2.1 (u + m) (by omega) hlv]; simp
                  go_wp2_with fail
                  go_region_held3 (fun w' => w'.cell? ⟨B, 0, none⟩ = some (.int .i64 q) ∧ w'.cell? ⟨B, 1, none⟩ = some (.string y) ∧ w'.cell? ⟨B, 2, none⟩ = some (.int .i64 u) ∧ w'.cell? ⟨B, 3, none⟩ = some (.int .i64 v) ∧ wb.grownBy w' none) (go_keep)
                    (first | ((go_at_call 8; refine (HK.out _ _ (by assumption) (by omega) (by omega)).mono ?_; rintro e w9 ⟨rfl, hg9⟩; have z0 := hg9.cell (a := ⟨B, 0, none⟩) (by assumption) (by simp); have z1 := hg9.cell (a := ⟨B, 1, none⟩) (by assumption) (by simp); have z2 := hg9.cell (a := ⟨B, 2, none⟩) (by assumption) (by simp); have z3 := hg9.cell (a := ⟨B, 3, none⟩) (by assumption) (by simp); have z4 := World.grownBy.trans (by assumption) hg9)))
                  rename_i hHeld2
                  have HH2 := Lib.hid hHeld2.2.2.2.2
                  clear hHeld2
                  go_wp2_with fail
                  go_roundg (gk - 1)
                  case measure => omega
                  case rel => exact ⟨m + 1, by omega, by go_num, HH2.out⟩
                · have hlv : ¬ u + (m : Int) < v := by omega
                  go_wp2_with fail
                  have hjo := HR.out.1
                  have hsm := HC.out.2.2.2.2.2.2
                  go_roundg (ko - 1)
                  case measure => omega
                  case rel => exact ⟨j + 1, by omega, by rw [show wrap64 ((j : Int) + 1) = ((j + 1 : Nat) : Int) from by unfold wrap64; omega], (HR.out.2.1.trans hgR).trans hgx⟩
            · exact AllReadyH.nil
          · have hf1 : decide (v < 20) = false := by simpa using f1
            refine wp_region_noPanic ?_
            refine wp_region_held_drew (S := fun w' => w'.cell? ⟨B, 0, none⟩ = some (.int .i64 q) ∧ w'.cell? ⟨B, 1, none⟩ = some (.string y) ∧ w'.cell? ⟨B, 2, none⟩ = some (.int .i64 u) ∧ w'.cell? ⟨B, 3, none⟩ = some (.int .i64 v) ∧ wb.grownBy w' none) (by kernel_rfl) ⟨q0, q1, q2, q3, hg0⟩ (fun HS0 => ?_)
            simp only [List.size_toArray, List.length_cons, List.length_nil, Nat.reduceAdd]
            refine wpAnyH_take (i := 0) (oi := ?oo111) (v := ?vv111) ?hi111 (by kernel_rfl) (by kernel_rfl) (by kernel_rfl) (fun _ _ _ h => h) (Or.inl ⟨?hw111, ?hy111⟩) HS0 ?rest111
            case hi111 => (simp only [List.getElem?_toArray, List.getElem?_cons_zero]; try rfl)
            case hw111 => rfl
            case hy111 => (intro w hSw; obtain ⟨s0, s1, s2, s3, _⟩ := hSw; go_simp; (try with_reducible rfl))
            try simp only [Act.put, List.setIfInBounds_toArray, List.set_cons_zero, List.set_cons_succ]
            refine wpAnyH_take (i := 1) (oi := ?oo112) (v := ?vv112) ?hi112 (by kernel_rfl) (by kernel_rfl) (by kernel_rfl) (fun _ _ _ h => h) (Or.inl ⟨?hw112, ?hy112⟩) HS0 ?rest112
            case hi112 => (simp only [List.getElem?_toArray, List.getElem?_cons_zero, List.getElem?_cons_succ]; try rfl)
            case hw112 => rfl
            case hy112 => (intro w hSw; obtain ⟨s0, s1, s2, s3, _⟩ := hSw; go_simp; (try with_reducible rfl))
            try simp only [Act.put, List.setIfInBounds_toArray, List.set_cons_zero, List.set_cons_succ]
            refine wpAnyH_take (i := 2) (oi := ?oo113) (v := ?vv113) ?hi113 (by kernel_rfl) (by kernel_rfl) (by kernel_rfl) (fun _ _ _ h => h) (Or.inl ⟨?hw113, ?hy113⟩) HS0 ?rest113
            case hi113 => (simp only [List.getElem?_toArray, List.getElem?_cons_zero, List.getElem?_cons_succ]; try rfl)
            case hw113 => rfl
            case hy113 => (intro w hSw; obtain ⟨s0, s1, s2, s3, _⟩ := hSw; go_simp; (try with_reducible rfl))
            try simp only [Act.put, List.setIfInBounds_toArray, List.set_cons_zero, List.set_cons_succ]
            refine wpAnyH_take (i := 3) (oi := ?oo114) (v := ?vv114) ?hi114 (by kernel_rfl) (by kernel_rfl) (by kernel_rfl) (fun _ _ _ h => h) (Or.inl ⟨?hw114, ?hy114⟩) HS0 ?rest114
            case hi114 => (simp only [List.getElem?_toArray, List.getElem?_cons_zero, List.getElem?_cons_succ]; try rfl)
            case hw114 => rfl
            case hy114 => (intro w hSw; obtain ⟨s0, s1, s2, s3, _⟩ := hSw; go_simp; (try with_reducible rfl))
            try simp only [Act.put, List.setIfInBounds_toArray, List.set_cons_zero, List.set_cons_succ]
            refine wpAnyH_take (i := 4) (oi := ?oo115) (v := ?vv115) ?hi115 (by kernel_rfl) (by kernel_rfl) (by kernel_rfl) (fun _ _ _ h => h) (Or.inl ⟨?hw115, ?hy115⟩) HS0 ?rest115
            case hi115 => (simp only [List.getElem?_toArray, List.getElem?_cons_zero, List.getElem?_cons_succ]; try rfl)
            case hw115 => rfl
            case hy115 => (intro w hSw; obtain ⟨s0, s1, s2, s3, _⟩ := hSw; go_simp; (try with_reducible rfl))
            try simp only [Act.put, List.setIfInBounds_toArray, List.set_cons_zero, List.set_cons_succ]
            refine wpAnyH_take (i := 5) (oi := ?oo116) (v := ?vv116) ?hi116 (by kernel_rfl) (by kernel_rfl) (by kernel_rfl) (fun _ _ _ h => h) (Or.inl ⟨?hw116, ?hy116⟩) HS0 ?rest116
            case hi116 => (simp only [List.getElem?_toArray, List.getElem?_cons_zero, List.getElem?_cons_succ]; try rfl)
            case hw116 => rfl
            case hy116 => (intro w hSw; obtain ⟨s0, s1, s2, s3, _⟩ := hSw; go_simp; (try with_reducible rfl))
            try simp only [Act.put, List.setIfInBounds_toArray, List.set_cons_zero, List.set_cons_succ]
            refine wpAnyH_take (i := 6) (oi := ?oo117) (v := ?vv117) ?hi117 (by kernel_rfl) (by kernel_rfl) (by kernel_rfl) (fun _ _ _ h => h) (Or.inl ⟨?hw117, ?hy117⟩) HS0 ?rest117
            case hi117 => (simp only [List.getElem?_toArray, List.getElem?_cons_zero, List.getElem?_cons_succ]; try rfl)
            case hw117 => rfl
            case hy117 => (intro w hSw; obtain ⟨s0, s1, s2, s3, _⟩ := hSw; go_simp; (try with_reducible rfl))
            try simp only [Act.put, List.setIfInBounds_toArray, List.set_cons_zero, List.set_cons_succ]
            refine wpAnyH_take (i := 7) (oi := ?oo118) (v := ?vv118) ?hi118 (by kernel_rfl) (by kernel_rfl) (by kernel_rfl) (fun _ _ _ h => h) (Or.inl ⟨?hw118, ?hy118⟩) HS0 ?rest118
            case hi118 => (simp only [List.getElem?_toArray, List.getElem?_cons_zero, List.getElem?_cons_succ]; try rfl)
            case hw118 => rfl
            case hy118 => (intro w hSw; obtain ⟨s0, s1, s2, s3, _⟩ := hSw; go_simp; (try with_reducible rfl))
            try simp only [Act.put, List.setIfInBounds_toArray, List.set_cons_zero, List.set_cons_succ]
            refine wpAnyH_take (i := 8) (oi := ?oo119) (v := ?vv119) ?hi119 (by kernel_rfl) (by kernel_rfl) (by kernel_rfl) (fun _ _ _ h => h) (Or.inl ⟨?hw119, ?hy119⟩) HS0 ?rest119
            case hi119 => (simp only [List.getElem?_toArray, List.getElem?_cons_zero, List.getElem?_cons_succ]; try rfl)
            case hw119 => rfl
            case hy119 => (intro w hSw; obtain ⟨s0, s1, s2, s3, _⟩ := hSw; go_simp; (try with_reducible rfl))
            try simp only [Act.put, List.setIfInBounds_toArray, List.set_cons_zero, List.set_cons_succ]
            refine wpAnyH_take (i := 9) (oi := ?oo120) (v := ?vv120) ?hi120 (by kernel_rfl) (by kernel_rfl) (by kernel_rfl) (fun _ _ _ h => h) (Or.inl ⟨?hw120, ?hy120⟩) HS0 ?rest120
            case hi120 => (simp only [List.getElem?_toArray, List.getElem?_cons_zero, List.getElem?_cons_succ]; try rfl)
            case hw120 => rfl
            case hy120 => (intro w hSw; obtain ⟨s0, s1, s2, s3, _⟩ := hSw; go_simp; (try with_reducible rfl))
            try simp only [Act.put, List.setIfInBounds_toArray, List.set_cons_zero, List.set_cons_succ]
            refine wpAnyH_take (i := 10) (oi := ?oo121) (v := ?vv121) ?hi121 (by kernel_rfl) (by kernel_rfl) (by kernel_rfl) (fun _ _ _ h => h) (Or.inr ⟨?hw121, ?hy121⟩) HS0 ?rest121
            case hi121 => (simp only [List.getElem?_toArray, List.getElem?_cons_zero, List.getElem?_cons_succ]; try rfl)
            case hw121 => rfl
            case hy121 => rfl
            try simp only [Act.put, List.setIfInBounds_toArray, List.set_cons_zero, List.set_cons_succ]
            refine wpAnyH_take (i := 11) (oi := ?oo122) (v := ?vv122) ?hi122 (by kernel_rfl) (by kernel_rfl) (by kernel_rfl) (fun _ _ _ h => h) (Or.inr ⟨?hw122, ?hy122⟩) HS0 ?rest122
            case hi122 => (simp only [List.getElem?_toArray, List.getElem?_cons_zero, List.getElem?_cons_succ]; try rfl)
            case hw122 => rfl
            case hy122 => rfl
            try simp only [Act.put, List.setIfInBounds_toArray, List.set_cons_zero, List.set_cons_succ]
            refine wpAnyH_take (i := 12) (oi := ?oo123) (v := ?vv123) ?hi123 (by kernel_rfl) (by kernel_rfl) (by kernel_rfl) (fun _ _ _ h => h) (Or.inr ⟨?hw123, ?hy123⟩) HS0 ?rest123
            case hi123 => (simp only [List.getElem?_toArray, List.getElem?_cons_zero, List.getElem?_cons_succ]; try rfl)
            case hw123 => rfl
            case hy123 => rfl
            try simp only [Act.put, List.setIfInBounds_toArray, List.set_cons_zero, List.set_cons_succ]
            refine wpAnyH_take (i := 13) (oi := ?oo124) (v := ?vv124) ?hi124 (by kernel_rfl) (by kernel_rfl) (by kernel_rfl) (fun _ _ _ h => h) (Or.inr ⟨?hw124, ?hy124⟩) HS0 ?rest124
            case hi124 => (simp only [List.getElem?_toArray, List.getElem?_cons_zero, List.getElem?_cons_succ]; try rfl)
            case hw124 => rfl
            case hy124 => rfl
            try simp only [Act.put, List.setIfInBounds_toArray, List.set_cons_zero, List.set_cons_succ]
            refine wpAnyH_take (i := 14) (oi := ?oo125) (v := ?vv125) ?hi125 (by kernel_rfl) (by kernel_rfl) (by kernel_rfl) (fun _ _ _ h => h) (Or.inr ⟨?hw125, ?hy125⟩) HS0 ?rest125
            case hi125 => (simp only [List.getElem?_toArray, List.getElem?_cons_zero, List.getElem?_cons_succ]; try rfl)
            case hw125 => rfl
            case hy125 => rfl
            try simp only [Act.put, List.setIfInBounds_toArray, List.set_cons_zero, List.set_cons_succ]
            refine wpAnyH_take (i := 15) (oi := ?oo126) (v := ?vv126) ?hi126 (by kernel_rfl) (by kernel_rfl) (by kernel_rfl) (fun _ _ _ h => h) (Or.inr ⟨?hw126, ?hy126⟩) HS0 ?rest126
            case hi126 => (simp only [List.getElem?_toArray, List.getElem?_cons_zero, List.getElem?_cons_succ]; try rfl)
            case hw126 => rfl
            case hy126 => rfl
            try simp only [Act.put, List.setIfInBounds_toArray, List.set_cons_zero, List.set_cons_succ]
            refine wpAnyH_take (i := 16) (oi := ?oo127) (v := ?vv127) ?hi127 (by kernel_rfl) (by kernel_rfl) (by kernel_rfl) (fun _ _ _ h => h) (Or.inr ⟨?hw127, ?hy127⟩) HS0 ?rest127
            case hi127 => (simp only [List.getElem?_toArray, List.getElem?_cons_zero, List.getElem?_cons_succ]; try rfl)
            case hw127 => rfl
            case hy127 => rfl
            try simp only [Act.put, List.setIfInBounds_toArray, List.set_cons_zero, List.set_cons_succ]
            refine wpAnyH_take (i := 17) (oi := ?oo128) (v := ?vv128) ?hi128 (by kernel_rfl) (by kernel_rfl) (by kernel_rfl) (fun _ _ _ h => h) (Or.inr ⟨?hw128, ?hy128⟩) HS0 ?rest128
            case hi128 => (simp only [List.getElem?_toArray, List.getElem?_cons_zero, List.getElem?_cons_succ]; try rfl)
            case hw128 => rfl
            case hy128 => rfl
            try simp only [Act.put, List.setIfInBounds_toArray, List.set_cons_zero, List.set_cons_succ]
            refine wpAnyH_take (i := 18) (oi := ?oo129) (v := ?vv129) ?hi129 (by kernel_rfl) (by kernel_rfl) (by kernel_rfl) (fun _ _ _ h => h) (Or.inr ⟨?hw129, ?hy129⟩) HS0 ?rest129
            case hi129 => (simp only [List.getElem?_toArray, List.getElem?_cons_zero, List.getElem?_cons_succ]; try rfl)
            case hw129 => rfl
            case hy129 => rfl
            try simp only [Act.put, List.setIfInBounds_toArray, List.set_cons_zero, List.set_cons_succ]
            refine wpAnyH_take (i := 19) (oi := ?oo130) (v := ?vv130) ?hi130 (by kernel_rfl) (by kernel_rfl) (by kernel_rfl) (fun _ _ _ h => h) (Or.inr ⟨?hw130, ?hy130⟩) HS0 ?rest130
            case hi130 => (simp only [List.getElem?_toArray, List.getElem?_cons_zero, List.getElem?_cons_succ]; try rfl)
            case hw130 => rfl
            case hy130 => rfl
            try simp only [Act.put, List.setIfInBounds_toArray, List.set_cons_zero, List.set_cons_succ]
            refine wpAnyH_take (i := 20) (oi := ?oo131) (v := ?vv131) ?hi131 (by kernel_rfl) (by kernel_rfl) (by kernel_rfl) (fun _ _ _ h => h) (Or.inl ⟨?hw131, ?hy131⟩) HS0 ?rest131
            case hi131 => (simp only [List.getElem?_toArray, List.getElem?_cons_zero, List.getElem?_cons_succ]; try rfl)
            case hw131 => rfl
            case hy131 => (intro w hSw; obtain ⟨s0, s1, s2, s3, _⟩ := hSw; go_simp; (try with_reducible rfl))
            try simp only [Act.put, List.setIfInBounds_toArray, List.set_cons_zero, List.set_cons_succ]
            refine wpAnyH_take (i := 21) (oi := ?oo132) (v := ?vv132) ?hi132 (by kernel_rfl) (by kernel_rfl) (by kernel_rfl) (fun _ _ _ h => h) (Or.inl ⟨?hw132, ?hy132⟩) HS0 ?rest132
            case hi132 => (simp only [List.getElem?_toArray, List.getElem?_cons_zero, List.getElem?_cons_succ]; try rfl)
            case hw132 => rfl
            case hy132 => (intro w hSw; obtain ⟨s0, s1, s2, s3, _⟩ := hSw; go_simp; (try with_reducible rfl))
            try simp only [Act.put, List.setIfInBounds_toArray, List.set_cons_zero, List.set_cons_succ]
            refine wpAnyH_take (i := 22) (oi := ?oo133) (v := ?vv133) ?hi133 (by kernel_rfl) (by kernel_rfl) (by kernel_rfl) (fun _ _ _ h => h) (Or.inl ⟨?hw133, ?hy133⟩) HS0 ?rest133
            case hi133 => (simp only [List.getElem?_toArray, List.getElem?_cons_zero, List.getElem?_cons_succ]; try rfl)
            case hw133 => rfl
            case hy133 => (intro w hSw; obtain ⟨s0, s1, s2, s3, _⟩ := hSw; go_simp; (try with_reducible rfl))
            try simp only [Act.put, List.setIfInBounds_toArray, List.set_cons_zero, List.set_cons_succ]
            refine wpAnyH_take (i := 23) (oi := ?oo134) (v := ?vv134) ?hi134 (by kernel_rfl) (by kernel_rfl) (by kernel_rfl) (fun _ _ _ h => h) (Or.inl ⟨?hw134, ?hy134⟩) HS0 ?rest134
            case hi134 => (simp only [List.getElem?_toArray, List.getElem?_cons_zero, List.getElem?_cons_succ]; try rfl)
            case hw134 => rfl
            case hy134 => (intro w hSw; obtain ⟨s0, s1, s2, s3, _⟩ := hSw; go_simp; (try with_reducible rfl))
            try simp only [Act.put, List.setIfInBounds_toArray, List.set_cons_zero, List.set_cons_succ]
            refine wpAnyH_take (i := 24) (oi := ?oo135) (v := ?vv135) ?hi135 (by kernel_rfl) (by kernel_rfl) (by kernel_rfl) (fun _ _ _ h => h) (Or.inl ⟨?hw135, ?hy135⟩) HS0 ?rest135
            case hi135 => (simp only [List.getElem?_toArray, List.getElem?_cons_zero, List.getElem?_cons_succ]; try rfl)
            case hw135 => rfl
            case hy135 => (intro w hSw; obtain ⟨s0, s1, s2, s3, _⟩ := hSw; go_simp; (try with_reducible rfl))
            try simp only [Act.put, List.setIfInBounds_toArray, List.set_cons_zero, List.set_cons_succ]
            refine wpAnyH_take (i := 25) (oi := ?oo136) (v := ?vv136) ?hi136 (by kernel_rfl) (by kernel_rfl) (by kernel_rfl) (fun _ _ _ h => h) (Or.inl ⟨?hw136, ?hy136⟩) HS0 ?rest136
            case hi136 => (simp only [List.getElem?_toArray, List.getElem?_cons_zero, List.getElem?_cons_succ]; try rfl)
            case hw136 => rfl
            case hy136 => (intro w hSw; obtain ⟨s0, s1, s2, s3, _⟩ := hSw; go_simp; (try with_reducible rfl))
            try simp only [Act.put, List.setIfInBounds_toArray, List.set_cons_zero, List.set_cons_succ]
            refine wpAnyH_take (i := 26) (oi := ?oo137) (v := ?vv137) ?hi137 (by kernel_rfl) (by kernel_rfl) (by kernel_rfl) (fun _ _ _ h => h) (Or.inl ⟨?hw137, ?hy137⟩) HS0 ?rest137
            case hi137 => (simp only [List.getElem?_toArray, List.getElem?_cons_zero, List.getElem?_cons_succ]; try rfl)
            case hw137 => rfl
            case hy137 => (intro w hSw; obtain ⟨s0, s1, s2, s3, _⟩ := hSw; go_simp; (try with_reducible rfl))
            try simp only [Act.put, List.setIfInBounds_toArray, List.set_cons_zero, List.set_cons_succ]
            refine wpAnyH_take (i := 27) (oi := ?oo138) (v := ?vv138) ?hi138 (by kernel_rfl) (by kernel_rfl) (by kernel_rfl) (fun _ _ _ h => h) (Or.inr ⟨?hw138, ?hy138⟩) HS0 ?rest138
            case hi138 => (simp only [List.getElem?_toArray, List.getElem?_cons_zero, List.getElem?_cons_succ]; try rfl)
            case hw138 => rfl
            case hy138 => rfl
            try simp only [Act.put, List.setIfInBounds_toArray, List.set_cons_zero, List.set_cons_succ]
            refine wpAnyH_take (i := 28) (oi := ?oo139) (v := ?vv139) ?hi139 (by kernel_rfl) (by kernel_rfl) (by kernel_rfl) (fun _ _ _ h => h) (Or.inr ⟨?hw139, ?hy139⟩) HS0 ?rest139
            case hi139 => (simp only [List.getElem?_toArray, List.getElem?_cons_zero, List.getElem?_cons_succ]; try rfl)
            case hw139 => rfl
            case hy139 => rfl
            try simp only [Act.put, List.setIfInBounds_toArray, List.set_cons_zero, List.set_cons_succ]
            refine wpAnyH_take (i := 29) (oi := ?oo140) (v := ?vv140) ?hi140 (by kernel_rfl) (by kernel_rfl) (by kernel_rfl) (fun _ _ _ h => h) (Or.inr ⟨?hw140, ?hy140⟩) HS0 ?rest140
            case hi140 => (simp only [List.getElem?_toArray, List.getElem?_cons_zero, List.getElem?_cons_succ]; try rfl)
            case hw140 => rfl
            case hy140 => rfl
            try simp only [Act.put, List.setIfInBounds_toArray, List.set_cons_zero, List.set_cons_succ]
            refine wpAnyH_take (i := 30) (oi := ?oo141) (v := ?vv141) ?hi141 (by kernel_rfl) (by kernel_rfl) (by kernel_rfl) (fun _ _ _ h => h) (Or.inr ⟨?hw141, ?hy141⟩) HS0 ?rest141
            case hi141 => (simp only [List.getElem?_toArray, List.getElem?_cons_zero, List.getElem?_cons_succ]; try rfl)
            case hw141 => rfl
            case hy141 => rfl
            try simp only [Act.put, List.setIfInBounds_toArray, List.set_cons_zero, List.set_cons_succ]
            refine wpAnyH_take (i := 31) (oi := ?oo142) (v := ?vv142) ?hi142 (by kernel_rfl) (by kernel_rfl) (by kernel_rfl) (fun _ _ _ h => h) (Or.inr ⟨?hw142, ?hy142⟩) HS0 ?rest142
            case hi142 => (simp only [List.getElem?_toArray, List.getElem?_cons_zero, List.getElem?_cons_succ]; try rfl)
            case hw142 => rfl
            case hy142 => rfl
            try simp only [Act.put, List.setIfInBounds_toArray, List.set_cons_zero, List.set_cons_succ]
            refine wpAnyH_take (i := 32) (oi := ?oo143) (v := ?vv143) ?hi143 (by kernel_rfl) (by kernel_rfl) (by kernel_rfl) (fun _ _ _ h => h) (Or.inr ⟨?hw143, ?hy143⟩) HS0 ?rest143
            case hi143 => (simp only [List.getElem?_toArray, List.getElem?_cons_zero, List.getElem?_cons_succ]; try rfl)
            case hw143 => rfl
            case hy143 => rfl
            try simp only [Act.put, List.setIfInBounds_toArray, List.set_cons_zero, List.set_cons_succ]
            refine wpAnyH_take (i := 33) (oi := ?oo144) (v := ?vv144) ?hi144 (by kernel_rfl) (by kernel_rfl) (by kernel_rfl) (fun _ _ _ h => h) (Or.inr ⟨?hw144, ?hy144⟩) HS0 ?rest144
            case hi144 => (simp only [List.getElem?_toArray, List.getElem?_cons_zero, List.getElem?_cons_succ]; try rfl)
            case hw144 => rfl
            case hy144 => rfl
            try simp only [Act.put, List.setIfInBounds_toArray, List.set_cons_zero, List.set_cons_succ]
            refine wpAnyH_take (i := 34) (oi := ?oo145) (v := ?vv145) ?hi145 (by kernel_rfl) (by kernel_rfl) (by kernel_rfl) (fun _ _ _ h => h) (Or.inr ⟨?hw145, ?hy145⟩) HS0 ?rest145
            case hi145 => (simp only [List.getElem?_toArray, List.getElem?_cons_zero, List.getElem?_cons_succ]; try rfl)
            case hw145 => rfl
            case hy145 => rfl
            try simp only [Act.put, List.setIfInBounds_toArray, List.set_cons_zero, List.set_cons_succ]
            refine wpAnyH_take (i := 35) (oi := ?oo146) (v := ?vv146) ?hi146 (by kernel_rfl) (by kernel_rfl) (by kernel_rfl) (fun _ _ _ h => h) (Or.inr ⟨?hw146, ?hy146⟩) HS0 ?rest146
            case hi146 => (simp only [List.getElem?_toArray, List.getElem?_cons_zero, List.getElem?_cons_succ]; try rfl)
            case hw146 => rfl
            case hy146 => rfl
            try simp only [Act.put, List.setIfInBounds_toArray, List.set_cons_zero, List.set_cons_succ]
            refine wpAnyH_take (i := 36) (oi := ?oo147) (v := ?vv147) ?hi147 (by kernel_rfl) (by kernel_rfl) (by kernel_rfl) (fun _ _ _ h => h) (Or.inl ⟨?hw147, ?hy147⟩) HS0 ?rest147
            case hi147 => (simp only [List.getElem?_toArray, List.getElem?_cons_zero, List.getElem?_cons_succ]; try rfl)
            case hw147 => rfl
            case hy147 => (intro w hSw; obtain ⟨s0, s1, s2, s3, _⟩ := hSw; go_simp; (try with_reducible rfl))
            try simp only [Act.put, List.setIfInBounds_toArray, List.set_cons_zero, List.set_cons_succ]
            refine wpAnyH_take (i := 37) (oi := ?oo148) (v := ?vv148) ?hi148 (by kernel_rfl) (by kernel_rfl) (by kernel_rfl) (fun _ _ _ h => h) (Or.inl ⟨?hw148, ?hy148⟩) HS0 ?rest148
            case hi148 => (simp only [List.getElem?_toArray, List.getElem?_cons_zero, List.getElem?_cons_succ]; try rfl)
            case hw148 => rfl
            case hy148 => (intro w hSw; obtain ⟨s0, s1, s2, s3, _⟩ := hSw; go_simp; (try with_reducible rfl))
            try simp only [Act.put, List.setIfInBounds_toArray, List.set_cons_zero, List.set_cons_succ]
            refine wpAnyH_done (by kernel_rfl) (NoPanic.normal ?_) _
            have hHeld := HS0
            clear HS0
            have HH := Lib.hid hHeld.2.2.2.2
            go_wp2_with fail
            have HQ := Lib.hid (And.intro q0 (And.intro q1 (And.intro q2 q3)))
            clear hHeld q0 q1 q2 q3
            skip
            obtain ⟨D, hD⟩ : ∃ D : Nat, (D : Int) = v - u := ⟨(v - u).toNat, by omega⟩
            go_loopg [10] D (fun k s wx => ∃ m : Nat, k + m = D ∧ s = .int .i64 (u + m) ∧ wb.grownBy wx none)
            case atStart => exact ⟨0, by omega, by simp, HH.out⟩
            case round =>
              obtain ⟨m, hm, rfl, hgx⟩ := hrel
              have x3 := hgx.cell (a := ⟨B, 3, none⟩) HQ.out.2.2.2 (by simp)
              have x0 : wr.drew.cell? ⟨B, 0, none⟩ = some (.int .i64 q) := hgx.cell (a := ⟨B, 0, none⟩) HQ.out.1 (by simp)
              have x1 : wr.drew.cell? ⟨B, 1, none⟩ = some (.string y) := hgx.cell (a := ⟨B, 1, none⟩) HQ.out.2.1 (by simp)
              have x2 : wr.drew.cell? ⟨B, 2, none⟩ = some (.int .i64 u) := hgx.cell (a := ⟨B, 2, none⟩) HQ.out.2.2.1 (by simp)
              have x4 : wb.grownBy wr.drew none := grown_drew hgx
              have x5 : wr.drew.cell? ⟨B, 3, none⟩ = some (.int .i64 v) := x3
              have hwm : IntKind.i64.wrap (u + m + 1) = u + m + 1 := IntWalk.i64_in _ (by omega)
              by_cases hlm : m < D
              · have hlv : u + (m : Int) < v := by omega
                have hnm : ((atS V q (u + m)).toList == y.toList) = true := by rw [HR.out.2.2.2.1 (u + m) (by omega) hlv]; simp
                go_wp2_with fail
                go_region_held3 (fun w' => w'.cell? ⟨B, 0, none⟩ = some (.int .i64 q) ∧ w'.cell? ⟨B, 1, none⟩ = some (.string y) ∧ w'.cell? ⟨B, 2, none⟩ = some (.int .i64 u) ∧ w'.cell? ⟨B, 3, none⟩ = some (.int .i64 v) ∧ wb.grownBy w' none) (go_keep)
                  (first | ((go_at_call 8; refine (HK.out _ _ (by assumption) (by omega) (by omega)).mono ?_; rintro e w9 ⟨rfl, hg9⟩; have z0 := hg9.cell (a := ⟨B, 0, none⟩) (by assumption) (by simp); have z1 := hg9.cell (a := ⟨B, 1, none⟩) (by assumption) (by simp); have z2 := hg9.cell (a := ⟨B, 2, none⟩) (by assumption) (by simp); have z3 := hg9.cell (a := ⟨B, 3, none⟩) (by assumption) (by simp); have z4 := World.grownBy.trans (by assumption) hg9)))
                rename_i hHeld2
                have HH2 := Lib.hid hHeld2.2.2.2.2
                clear hHeld2
                go_wp2_with fail
                go_roundg (gk - 1)
                case measure => omega
                case rel => exact ⟨m + 1, by omega, by go_num, HH2.out⟩
              · have hlv : ¬ u + (m : Int) < v := by omega
                go_wp2_with fail
                have hjo := HR.out.1
                have hsm := HC.out.2.2.2.2.2.2
                go_roundg (ko - 1)
                case measure => omega
                case rel => exact ⟨j + 1, by omega, by rw [show wrap64 ((j : Int) + 1) = ((j + 1 : Nat) : Int) from by unfold wrap64; omega], (HR.out.2.1.trans hgR).trans hgx⟩
      · obtain rfl : j = n := by omega
        go_wp2_with fail
        refine (keepShelves_any _).mono ?_
        rintro e w9 ⟨rfl, hg9⟩
        go_wp2_with fail
        go_ret
        exact ⟨rfl, HC.out.2.2.2.2.1.trans (HS.out.2.trans (hg.trans hg9))⟩
  · have hvb : (versF V == 0) = false := by simp [hv]
    have hVF := versionsFault_any wA.heap.size A c V w2 hR2
    rw [hN] at hVF
    generalize versF V = f at *
    refine hVF.mono ?_
    rintro e w3 ⟨rfl, hg3⟩
    clear hVF
    go_wp2_with fail
    refine (keepShelves_any _).mono ?_
    rintro e w4 ⟨rfl, hg4⟩
    go_wp2_with fail
    go_ret
    exact ⟨rfl, hgw2.trans (hg3.trans hg4)⟩

end Go.Proofs.YtcaeochiippdgaaDoor
