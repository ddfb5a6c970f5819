/- The walk of the law CoilsAge. -/
import Derived.Test.YtidfhgpjpieajaaDoorMkB
import Derived.Test.YtidfhgpjpieajaaDoorCount
import Derived.Test.YtidfhgpjpieajaaDoorRefP
import Derived.Test.YtidfhgpjpieajaaDoorNumbs
import Derived.Test.YtidfhgpjpieajaaDoorIn
import Derived.Test.YtidfhgpjpieajaaDoorOrE
namespace Go.Proofs.YtidfhgpjpieajaaDoor
open Go.RowKit

theorem base_bad {L : List Lot} {C : Coil} {d : Int} {S : List Int} (h : orE (lotsF L) (coilF C) ≠ 0) : expF L C d = orE (lotsF L) (coilF C) ∧ stlF L C d S = orE (lotsF L) (coilF C) := by
  have h1 : expF L C d = orE (lotsF L) (coilF C) := by
    unfold expF orE at *
    by_cases hl : lotsF L = 0
    · rw [if_pos hl] at h ⊢
      rw [if_neg (by omega), if_pos h]
    · rw [if_neg hl, if_pos hl]
  refine ⟨h1, ?_⟩
  unfold stlF
  rw [h1, if_pos h]
theorem base_ok {L : List Lot} {C : Coil} {d : Int} {S : List Int} (h : orE (lotsF L) (coilF C) = 0) : lotsF L = 0 ∧ coilF C = 0 ∧ expF L C d = orE (knF L C.ps) (if btw d 0 4000 = false then 1 else 0) ∧ stlF L C d S = stF L C d S := by
  have hl : lotsF L = 0 := by
    unfold orE at h
    by_cases hl : lotsF L = 0
    · exact hl
    · rw [if_neg hl] at h; exact h
  have hc : coilF C = 0 := by unfold orE at h; rw [if_pos hl] at h; exact h
  have h1 : expF L C d = orE (knF L C.ps) (if btw d 0 4000 = false then 1 else 0) := by
    unfold expF knF orE
    rw [if_neg (by omega), if_neg (by omega)]
    by_cases hk : knownB L C.ps = false
    · simp [hk]
    · simp [hk]
  refine ⟨hl, hc, h1, ?_⟩
  unfold stlF stF
  rw [h1]
  have h2 : (allB S 0 1000 = false) ↔ (S.any fun x => !(btw x 0 1000)) = true := by
    unfold allB
    rw [List.all_eq_false, List.any_eq_true]
    simp
  by_cases hb : allB S 0 1000 = false
  · rw [if_pos hb, if_pos (h2.1 hb)]
  · rw [if_neg hb, if_neg (fun h => hb (h2.2 h))]

theorem blocked_all (L : List Lot) (C : Coil) (A B : Option Addr) (c cl : Nat) (d : Int) (w : World) (hr : Rd w 2 A C.ps.length (pcFlat C.ps)) (hlen : C.ps.length ≤ 1000000) (hL : Rd w 4 B L.length (lotFlat L)) :
    Calls Tryd.prog 32 #[.agg #[.string C.pr, .int .i64 C.most, .slice A C.ps.length c], .slice B L.length cl, .int .i64 d] w
      fun e w' => e = .returned (.tuple #[.int .i64 (if expF L C d = 0 then blkP (endsP L C.ps) d else 0), .int .i64 (expF L C d)]) ∧ w.grownBy w' none := by
  have he : Enters Tryd.prog 121 := enters_of Tryd.func121 (by kernel_rfl) rfl
  have he2 : Enters Tryd.prog 82 := enters_of Tryd.func82 (by kernel_rfl) rfl
  by_cases h : expF L C d = 0
  · have := blocked_ok L C A B c cl d w hr hL he he2 h
    rw [if_pos h, h]; exact this
  · have := blocked_bad L C A B c cl d w hr hlen hL he h
    rw [if_neg h]; exact this
theorem stale_all (L : List Lot) (C : Coil) (A B D : Option Addr) (c cl cs : Nat) (d : Int) (S : List Int) (w : World) (hr : Rd w 2 A C.ps.length (pcFlat C.ps)) (hlen : C.ps.length ≤ 1000000) (hL : Rd w 4 B L.length (lotFlat L)) (hS : Rd w 1 D S.length (ints S)) (hS1 : S.length ≤ 1000000) :
    Calls Tryd.prog 33 #[.agg #[.string C.pr, .int .i64 C.most, .slice A C.ps.length c], .slice B L.length cl, .int .i64 d, .slice D S.length cs] w
      fun e w' => e = .returned (.tuple #[.int .i64 (if stlF L C d S = 0 then staleP (endsP L C.ps) d S else 0), .int .i64 (stlF L C d S)]) ∧ w.grownBy w' none := by
  have he : Enters Tryd.prog 121 := enters_of Tryd.func121 (by kernel_rfl) rfl
  by_cases h : stlF L C d S = 0
  · have := stale_ok L C A B D c cl cs d S w hr hL hS he h
    rw [if_pos h, h]; exact this
  · have := stale_bad L C A B D c cl cs d S w hr hlen hL hS hS1 he h
    rw [if_neg h]; exact this

set_option maxRecDepth 100000 in
set_option maxHeartbeats 4000000 in
theorem coilsAge_walk (a0 : Option Addr) (len0 cap0 : Nat) (z0 : List Int) (w : World) (w0 : InRow w a0 len0 cap0 z0) :
    Calls Tryd.prog 4 #[.slice a0 len0 cap0] w fun e w' => e = .returned (.bool true) ∧ w.grownBy w' none := by
  obtain ⟨hlen, hs0⟩ := str_start w0
  have hg0 : w.grownBy (w.alloc (.cells #[.slice a0 len0 cap0, .int .i64 0] 25)) none := grown_alloc (grown_refl w) _
  have hz0 : (w.alloc (.cells #[.slice a0 len0 cap0, .int .i64 0] 25)).heap.size = w.heap.size + 1 := by simp
  clear hlen w0
  generalize z0.take len0 = L at *
  go_enter Tryd.func4, Tryd.ntmps4
  go_wp2_with fail
  generalize w.alloc (.cells #[.slice a0 len0 cap0, .int .i64 0] 25) = wA at *
  obtain ⟨bs, hbs⟩ : ∃ bs, bs = w.heap.size := ⟨_, rfl⟩
  rw [← hbs] at hs0 hz0 ⊢
  have HZ := Lib.hid hbs
  clear hbs
  have hbA : bs < wA.heap.size := by omega
  refine (coil_any bs L 0 _ hs0 (by omega)).mono ?_
  rintro e w1 ⟨v1, rfl, hownC, hs1, hg1⟩
  obtain ⟨hb1, hb2⟩ := coilM_bound L 0
  generalize (coilM L 0).2 = C at *
  generalize (coilM L 0).1 = t1 at *
  go_wp2_with fail
  refine (lots_any bs L t1 _ hs1 (by omega)).mono ?_
  rintro e w2 ⟨v2, rfl, hownL, hs2, hg2⟩
  obtain ⟨hb3, hb4⟩ := lotsM_bound L t1
  have hownC2 := hownC.kept hg2 (own_ne hownC hbA)
  generalize (lotsM L t1).2 = T at *
  generalize (lotsM L t1).1 = t2 at *
  go_wp2_with fail
  refine (day_any bs L t2 _ hs2 (by omega)).mono ?_
  rintro e w3 ⟨rfl, hs3, hg3⟩
  have hownC3 := hownC2.kept hg3 (own_ne hownC2 hbA)
  have hownL3 := hownL.kept hg3 (own_ne hownL hs1.lt)
  have hgw3 := ((hg0.but (some bs)).trans hg1).trans (hg2.trans hg3)
  generalize dayM L t2 = d at *
  obtain ⟨A, c, rfl, _, _, hrC, _⟩ := Rd.of_own hownC3
  obtain ⟨B, cl, rfl, _, _, hrL, _⟩ := Rd.of_own hownL3
  have hBx := Blk.new w3 58 #[.string C.pr, .int .i64 C.most, .slice A C.ps.length c]
  have hgx := grown_alloc (grown_refl w3) (.cells #[.string C.pr, .int .i64 C.most, .slice A C.ps.length c] 58)
  have hs4 := hs3.grown hgx (by simp)
  have hoC := hownC3.alloc (.cells #[.string C.pr, .int .i64 C.most, .slice A C.ps.length c] 58)
  have hoL := hownL3.alloc (.cells #[.string C.pr, .int .i64 C.most, .slice A C.ps.length c] 58)
  have hgw4 := grown_alloc hgw3 (.cells #[.string C.pr, .int .i64 C.most, .slice A C.ps.length c] 58)
  have hbg : bs < w3.heap.size := hs3.lt
  have hb1lt := hs1.lt
  clear hg1 hg2 hg3 hownC hownC2 hownC3 hownL hownL3 hgw3 hgx hs0 hs1 hs2 hs3 hrC hrL hg0 hz0
  have HB := Lib.hid (And.intro hBx (And.intro hoC (And.intro hoL hgw4)))
  clear hBx hoC hoL hgw4
  go_wp2_with fail
  generalize w3.alloc (.cells #[.string C.pr, .int .i64 C.most, .slice A C.ps.length c] 58) = w4 at *
  refine (next_any bs L (t2 + 1 + 1) 7 _ hs4 (by omega) (by omega)).mono ?_
  obtain ⟨h70, h71⟩ := nx_in L (t2 + 1 + 1) 7 (by omega)
  obtain ⟨k, hk⟩ := Int.eq_ofNat_of_zero_le h70
  rw [hk]
  have hk7 : k < 7 := by omega
  clear hk h70 h71
  rintro e w5 ⟨rfl, hs5, hg5⟩
  go_wp2_with fail
  refine (numbers_any bs L (t2 + 1 + 1 + 1) k 3 _ hs5 (by omega) (by omega) (by omega)).mono ?_
  rintro e w6 ⟨v6, rfl, hown6, hs6, hg6⟩
  obtain ⟨_, hb6⟩ := numbersM_bound L (t2 + 1 + 1 + 1) k 3
  generalize (numbersM L (t2 + 1 + 1 + 1) k 3).2 = S at *
  obtain ⟨D, cs, rfl, _, _, hrS, _⟩ := Rd.of_own hown6
  obtain ⟨hBx, hoC, hoL, hgw4⟩ := HB.out
  have hg46 := hg5.trans hg6
  have hB6 := hBx.grown hg46 (by simp; omega)
  obtain ⟨_, _, eC, _, _, hrC, _⟩ := Rd.of_own (hoC.kept hg46 (own_ne hoC hbA))
  injection eC with eC1 eC2 eC3
  subst eC1
  obtain ⟨_, _, eL, _, _, hrL, _⟩ := Rd.of_own (hoL.kept hg46 (own_ne hoL hb1lt))
  injection eL with eL1 eL2 eL3
  subst eL1
  have hgw6 := hgw4.trans hg46
  generalize w3.heap.size = g at *
  clear HB hBx hoC hoL hgw4 hg46 hg5 hg6 hs4 hs5 hs6 hown6 eC2 eC3 eL2 eL3 hb1 hb3 hb1lt hbg
  have hgf : w.grownBy w6 none := grown_below (grown_refl w) hgw6 (fun j hj => .inl (by cases hj; have := HZ.out; omega))
  clear hgw6
  have hBl := fun w1 (h : w6.grownBy w1 none) => blocked_all T C A B c cl d w1 (hrC.grown h) (by omega) (hrL.grown h)
  have hSt := fun w1 (h : w6.grownBy w1 none) => stale_all T C A B D c cl cs d S w1 (hrC.grown h) (by omega) (hrL.grown h) (hrS.grown h) (by omega)
  have hCF := fun w1 (h : w6.grownBy w1 none) => coilsFault_any T C A B c cl w1 (hrC.grown h) (by omega) (hrL.grown h)
  have hbox : ∀ w1, w6.grownBy w1 none → Blk w1 g 58 #[.string C.pr, .int .i64 C.most, .slice A C.ps.length c] := fun w1 h => hB6.grown h (by simp)
  by_cases hb : orE (lotsF T) (coilF C) = 0
  · obtain ⟨hl, hco, hF, hG⟩ := base_ok (d := d) (S := S) hb
    obtain ⟨_, hmost, _, _, hpok, hsum⟩ := coil_ok hco
    rw [hb] at hCF
    have hKn := fun w1 (h : w6.grownBy w1 none) => knownFault_any T C A B c cl w1 (hrC.grown h) (by omega) (hrL.grown h) (by omega)
    have heD : Enters Tryd.prog 77 := enters_of Tryd.func77 (by kernel_rfl) rfl
    have heS : Enters Tryd.prog 86 := enters_of Tryd.func86 (by kernel_rfl) rfl
    have hDF : ∀ BB w1 (hr : Rd w1 1 (some ⟨BB, 0, none⟩) 1 (ints [d])), Calls Tryd.prog 21 #[.slice (some ⟨BB, 0, none⟩) 1 1] w1 (fun e w' => e = .returned (.int .i64 (if btw d 0 4000 = false then 1 else 0)) ∧ w1.grownBy w' none) := fun BB w1 hr => by
      refine (dayFault_any (some ⟨BB, 0, none⟩) 1 1 [d] w1 hr (by omega) heD).mono ?_
      rintro e w' ⟨rfl, hg⟩
      refine ⟨?_, hg⟩
      unfold dayFs
      cases h : btw d 0 4000 <;> simp [h]
    have hSF := fun w1 (h : w6.grownBy w1 none) => staleFault_any T C A B D c cl cs d S w1 (hrC.grown h) (by omega) (hrL.grown h) (by omega) (hrS.grown h) (by omega) heD heS
    have hBO := fun w1 (h : w6.grownBy w1 none) => blockedOf_any T C A B c cl d w1 (hrC.grown h) (by omega) hpok (by omega) (hrL.grown h) (by omega)
    have hSO : stlF T C d S = 0 → ∀ w1, w6.grownBy w1 none → _ := fun h0 w1 (h : w6.grownBy w1 none) => staleOf_any T C A B D c cl cs d S w1 (hrC.grown h) (by omega) hpok (by omega) (hrL.grown h) (by omega) (hrS.grown h) (by omega) (stlF_ok h0).2.2 (btw_true.1 (expF_ok (stlF_ok h0).1).2.2.2).1 (btw_true.1 (expF_ok (stlF_ok h0).1).2.2.2).2
    have hrel : stlF T C d S = 0 → expF T C d = 0 := fun h => (stlF_ok h).1
    rw [hF] at hBl hrel
    rw [hG] at hSt hSO hrel
    have hOr := fun w => or_any (knF T C.ps) (if btw d 0 4000 = false then (1 : Int) else 0) w
    generalize blkP (endsP T C.ps) d = bv at *
    generalize staleP (endsP T C.ps) d S = sv at *
    generalize knF T C.ps = kv at *
    generalize (if btw d 0 4000 = false then (1 : Int) else 0) = dv at *
    generalize orE kv dv = one at *
    generalize stF T C d S = all at *
    obtain ⟨n0, hn0⟩ : ∃ n0, (if one = 0 then bv else 0) = n0 := ⟨_, rfl⟩
    obtain ⟨m0, hm0⟩ : ∃ m0, (if all = 0 then sv else 0) = m0 := ⟨_, rfl⟩
    rw [hn0] at hBl
    rw [hm0] at hSt
    have HNM := Lib.hid (And.intro hn0 hm0)
    clear hn0 hm0
    have hRd := fun (wz : World) => (rd_new wz [d] 3 : Rd (wz.alloc (.cells #[.int .i64 d] 3)) 1 (some ⟨wz.heap.size, 0, none⟩) 1 (ints [d]))
    have HC := Lib.hid (And.intro hBl (And.intro hSt (And.intro hCF (And.intro hKn (And.intro hDF (And.intro hOr (And.intro hSF (And.intro hBO (And.intro hSO (And.intro hbox (And.intro hRd (And.intro hgf hrel))))))))))))
    clear hBl hSt hCF hKn hDF hOr hSF hBO hSO hRd hgf hrel hb hl hco hF hG hpok hsum hmost heD heS hrC hrL hrS hB6
    have k6 := (hbox w6 (grown_refl w6)).three
    clear hbox
    go_wp2_with fail
    refine (HC.out.1 _ (grown_refl _)).mono ?_
    rintro e w7 ⟨rfl, hg7⟩
    have k7 := (HC.out.2.2.2.2.2.2.2.2.2.1 _ hg7).three
    go_wp2_with fail
    refine (HC.out.2.1 _ hg7).mono ?_
    rintro e w8 ⟨rfl, hg8⟩
    have hg78 := hg7.trans hg8
    have k8 := (HC.out.2.2.2.2.2.2.2.2.2.1 _ hg78).three
    go_wp2_with fail
    refine (HC.out.2.2.1 _ hg78).mono ?_
    rintro e w9 ⟨rfl, hg9⟩
    have hgg9 := hg78.trans hg9
    obtain ⟨q0, q1, q2, _⟩ := (HC.out.2.2.2.2.2.2.2.2.2.1 _ hgg9).three
    have q0a := fun o => (HC.out.2.2.2.2.2.2.2.2.2.1 _ (grown_alloc hgg9 o)).three.1
    have q1a := fun o => (HC.out.2.2.2.2.2.2.2.2.2.1 _ (grown_alloc hgg9 o)).three.2.1
    have q2a := fun o => (HC.out.2.2.2.2.2.2.2.2.2.1 _ (grown_alloc hgg9 o)).three.2.2.1
    have HG9 := Lib.hid hgg9
    clear k6 k7 k8 hg7 hg8 hg9 hg78 hgg9
    go_wp2_with fail
    go_region_law (first
      | (go_simp; go_at_call 36; refine (HC.out.2.2.2.2.2.2.1 _ hggc).mono ?_; rintro e wd ⟨rfl, hgd⟩; dsimp only; have hggd := hggc.trans hgd)
      | (go_simp; go_at_call 18; refine (HC.out.2.2.2.2.2.1 _).mono ?_; rintro e wc ⟨rfl, hgc⟩; dsimp only; have hggc := hggb.trans hgc; obtain ⟨qc0, qc1, qc2, _⟩ := (HC.out.2.2.2.2.2.2.2.2.2.1 _ hggc).three)
      | (go_simp; go_at_call 21; refine (HC.out.2.2.2.2.1 _ _ (by first | exact HC.out.2.2.2.2.2.2.2.2.2.2.1 wa | exact (Rd.dr (HC.out.2.2.2.2.2.2.2.2.2.2.1 w9)).grown hga)).mono ?_; rintro e wb ⟨rfl, hgb⟩; dsimp only; have hggb := (by first | exact hgga.trans hgb | exact (grown_alloc hgga _).trans hgb : w6.grownBy wb none); obtain ⟨qb0, qb1, qb2, _⟩ := (HC.out.2.2.2.2.2.2.2.2.2.1 _ hggb).three; have qb0a := fun o => (HC.out.2.2.2.2.2.2.2.2.2.1 _ (grown_alloc hggb o)).three.1; have qb1a := fun o => (HC.out.2.2.2.2.2.2.2.2.2.1 _ (grown_alloc hggb o)).three.2.1; have qb2a := fun o => (HC.out.2.2.2.2.2.2.2.2.2.1 _ (grown_alloc hggb o)).three.2.2.1)
      | (go_simp; go_at_call 35; refine (HC.out.2.2.2.1 _ (by first | exact grown_drew (grown_alloc HG9.out _) | exact grown_drew HG9.out)).mono ?_; rintro e wa ⟨rfl, hga⟩; dsimp only; have hgga := (by first | exact (grown_drew (grown_alloc HG9.out _)).trans hga | exact (grown_drew HG9.out).trans hga : w6.grownBy wa none); obtain ⟨qa0, qa1, qa2, _⟩ := (HC.out.2.2.2.2.2.2.2.2.2.1 _ hgga).three; have qa0a := fun o => (HC.out.2.2.2.2.2.2.2.2.2.1 _ (grown_alloc hgga o)).three.1; have qa1a := fun o => (HC.out.2.2.2.2.2.2.2.2.2.1 _ (grown_alloc hgga o)).three.2.1; have qa2a := fun o => (HC.out.2.2.2.2.2.2.2.2.2.1 _ (grown_alloc hgga o)).three.2.2.1))
    all_goals (
      by_cases h1 : one = 0
      · have hn1 : bv = n0 := by rw [← HNM.out.1, if_pos h1]
        subst h1 hn1
        by_cases h2 : all = 0
        · have hm1 : sv = m0 := by rw [← HNM.out.2, if_pos h2]
          subst h2 hm1
          go_wp2_with fail
          refine (stocks_any _).mono ?_
          rintro e we ⟨rfl, hge⟩
          have hgge := hggd.trans hge
          have ke := (HC.out.2.2.2.2.2.2.2.2.2.1 _ hgge).three
          go_wp2_with fail
          refine (HC.out.2.2.2.2.2.2.2.1 _ hgge).mono ?_
          rintro e wf ⟨rfl, hgf⟩
          have hggf := hgge.trans hgf
          have kf := (HC.out.2.2.2.2.2.2.2.2.2.1 _ hggf).three
          go_wp2_with fail
          refine (HC.out.2.2.2.2.2.2.2.2.1 (by simp) _ hggf).mono ?_
          rintro e wh ⟨rfl, hgh⟩
          go_wp2_with fail
          go_ret
          exact ⟨rfl, HC.out.2.2.2.2.2.2.2.2.2.2.2.1.trans (hggf.trans hgh)⟩
        · have z2 : (all != 0) = true := by rw [bne_iff_ne]; exact h2
          clear h2
          go_wp2_with fail
          refine (stocks_any _).mono ?_
          rintro e we ⟨rfl, hge⟩
          have hgge := hggd.trans hge
          have ke := (HC.out.2.2.2.2.2.2.2.2.2.1 _ hgge).three
          go_wp2_with fail
          refine (HC.out.2.2.2.2.2.2.2.1 _ hgge).mono ?_
          rintro e wf ⟨rfl, hgf⟩
          go_wp2_with fail
          go_ret
          exact ⟨rfl, HC.out.2.2.2.2.2.2.2.2.2.2.2.1.trans (hgge.trans hgf)⟩
      · have h2 : all ≠ 0 := fun h => h1 (HC.out.2.2.2.2.2.2.2.2.2.2.2.2 h)
        have z1 : (one != 0) = true := by rw [bne_iff_ne]; exact h1
        have z2 : (all != 0) = true := by rw [bne_iff_ne]; exact h2
        clear h1 h2
        go_wp2_with fail
        refine (stocks_any _).mono ?_
        rintro e we ⟨rfl, hge⟩
        go_wp2_with fail
        go_ret
        exact ⟨rfl, HC.out.2.2.2.2.2.2.2.2.2.2.2.1.trans (hggd.trans hge)⟩)
  · obtain ⟨hF, hG⟩ := base_bad (d := d) (S := S) hb
    obtain ⟨V, hV⟩ : ∃ V, orE (lotsF T) (coilF C) = V := ⟨_, rfl⟩
    rw [hV] at hF hG hb hCF
    rw [hF] at hBl
    rw [hG] at hSt
    rw [if_neg hb] at hBl hSt
    have hv1 : (V == 0) = false := by simpa using hb
    have hv2 : (V != 0) = true := by rw [bne_iff_ne]; exact hb
    have HC := Lib.hid (And.intro hBl (And.intro hSt (And.intro hCF (And.intro hbox hgf))))
    have k6 := (hbox w6 (grown_refl w6)).three
    clear hBl hSt hCF hbox hgf hB6 hF hG hV hb hrC hrL hrS
    go_wp2_with fail
    refine (HC.out.1 _ (grown_refl _)).mono ?_
    rintro e w7 ⟨rfl, hg7⟩
    have k7 := (HC.out.2.2.2.1 _ hg7).three
    go_wp2_with fail
    refine (HC.out.2.1 _ hg7).mono ?_
    rintro e w8 ⟨rfl, hg8⟩
    have hg78 := hg7.trans hg8
    have k8 := (HC.out.2.2.2.1 _ hg78).three
    go_wp2_with fail
    refine (HC.out.2.2.1 _ hg78).mono ?_
    rintro e w9 ⟨rfl, hg9⟩
    go_wp2_with fail
    refine (stocks_any _).mono ?_
    rintro e w10 ⟨rfl, hg10⟩
    go_wp2_with fail
    go_ret
    exact ⟨rfl, ((HC.out.2.2.2.2.trans hg78).trans hg9).trans hg10⟩

end Go.Proofs.YtidfhgpjpieajaaDoor
