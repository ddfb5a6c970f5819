/- The walk of the law SitesUrgent. -/
import Derived.Test.YtoneebofjbnjpaaDoorSim1
import Derived.Test.YtoneebofjbnjpaaDoorSitR
import Derived.Test.YtoneebofjbnjpaaDoorDueR
import Derived.Test.YtoneebofjbnjpaaDoorFar
import Derived.Test.YtoneebofjbnjpaaDoorEq
import Derived.Test.YtoneebofjbnjpaaDoorIn
namespace Go.Proofs.YtoneebofjbnjpaaDoor
open Go.RowKit

set_option maxRecDepth 100000 in
set_option maxHeartbeats 4000000 in
theorem sitesUrgent_walk (a0 : Option Addr) (len0 cap0 : Nat) (z0 : List Int) (w : World) (w0 : InRow w a0 len0 cap0 z0) :
    Calls Tryd.prog 3 #[.slice a0 len0 cap0] w fun e w' => e = .returned (.bool true) ∧ w.grownBy w' none := by
  obtain ⟨hlen, hs0⟩ := str_start w0
  have hg0 : w.grownBy (w.alloc (.cells #[.slice a0 len0 cap0, .int .i64 0] 25)) none := grown_alloc (grown_refl w) _
  have hz0 : (w.alloc (.cells #[.slice a0 len0 cap0, .int .i64 0] 25)).heap.size = w.heap.size + 1 := by simp
  clear hlen w0
  generalize z0.take len0 = L at *
  go_enter Tryd.func3, Tryd.ntmps3
  go_wp2_with fail
  generalize w.alloc (.cells #[.slice a0 len0 cap0, .int .i64 0] 25) = wA at *
  obtain ⟨bs, hbs⟩ : ∃ bs, bs = w.heap.size := ⟨_, rfl⟩
  rw [← hbs] at hs0 hz0 ⊢
  have HZ := Lib.hid hbs
  clear hbs
  refine (sites_any bs L 0 _ hs0 (by omega)).mono ?_
  rintro e w1 ⟨A, c, rfl, hR1, hs1, hg1⟩
  obtain ⟨hb1, hb2⟩ := sitesM_b L 0
  generalize (sitesM L 0).2 = V at *
  generalize (sitesM L 0).1 = t1 at *
  have hlt1 := hs1.lt
  go_wp2_with fail
  refine (pick_lit bs L t1 [0, 3, 10, 100, 4000, -1, 4001] w1 hs1 (by omega) (by simp) (by simp) 3).mono ?_
  obtain ⟨d, hd⟩ : ∃ d, pk L t1 [0, 3, 10, 100, 4000, -1, 4001] = d := ⟨_, rfl⟩
  have hdm := pk_mem L t1 [0, 3, 10, 100, 4000, -1, 4001] (by simp)
  rw [hd] at hdm ⊢
  simp only [List.mem_cons, List.not_mem_nil, or_false] at hdm
  clear hd
  rintro e w2 ⟨rfl, _, hg2⟩
  have hg12 : w1.grownBy w2 (some bs) := hg2
  have hgw : w.grownBy w2 none := by
    have h2 := (hg0.but (some bs)).trans (hg1.trans hg12)
    exact ⟨h2.os, h2.tape, h2.output, h2.size, fun k hk _ => h2.block k hk (fun e => by injection e with e; have := HZ.out; omega)⟩
  have hR2 := hR1.grown_ hg12 (fun j hj => by injection hj with hj; omega)
  have hV20 : V.length < 20 := by omega
  generalize wA.heap.size + 1 = B0 at *
  clear hs0 hs1 hg1 hg2 hg12 hR1 hg0 hz0 hlt1 hb1
  go_wp2_with fail
  have hSF := fun wx (h : w2.grownBy wx none) => sitesFault_any B0 A c V wx (hR2.grown h)
  have hCS := fun wx (h : w2.grownBy wx none) => checkSites_any B0 A c V wx (hR2.grown h)
  obtain ⟨N, hN⟩ : ∃ N, V.length = N := ⟨_, rfl⟩
  rw [hN]
  by_cases hf : sitF V = 0
  · have hLf := fun wx (h : w2.grownBy wx none) => left_any B0 A c V wx (hR2.grown h) hf
    have hLo := fun wx (h : w2.grownBy wx none) => leftOf_any B0 A c V wx (hR2.grown h) hf
    have hll : (leftsOf V).length = N := by simp [leftsOf, hN]
    have hpos : ∀ i, i < N → 0 ≤ (leftsOf V).getD i 0 := fun i hi => by
      have hi' : i < V.length := by omega
      have hx := (sitF_ok hf).2 V[i] (List.getElem_mem hi')
      unfold leftsOf
      rw [List.getD_eq_getElem?_getD, List.getElem?_map, List.getElem?_eq_getElem hi']
      exact (leftOf_in hx.2.2.1 hx.2.1).1
    rw [hf] at hSF hCS
    rw [hN] at hSF hCS hLf hLo
    by_cases hd : btw d 0 4000 = true
    · obtain ⟨dn, rfl⟩ := Int.eq_ofNat_of_zero_le (btw_true.1 hd).1
      have hdn : dn ≤ 4000 := by have := (btw_true.1 hd).2; omega
      have hDu := fun wx (h : w2.grownBy wx none) => due_ok B0 A c V dn wx (hR2.grown h) hf hd hV20
      have hDo := fun wx (h : w2.grownBy wx none) => dueOf_any B0 A c V dn wx (hR2.grown h) hf hdn hV20
      rw [hN] at hDu hDo hV20
      have hlen : (keysAt V (dueT (leftsOf V) N (dn + 1))).length ≤ 1000000 := by
        rw [keysAt_len]
        have := dueT_len (leftsOf V) N (dn + 1)
        have : (dn + 1) * N ≤ 4001 * 20 := Nat.mul_le_mul (by omega) (by omega)
        omega
      have hsame := fun S h1 h2 => due_same (S := S) (d := dn) hpos h1 h2
      have HA := Lib.hid (And.intro hSF (And.intro hCS (And.intro hLf (And.intro hDu (And.intro hLo (And.intro hDo (And.intro hsame (And.intro hlen (And.intro hgw hll)))))))))
      have hd1 : ¬ (4000 : Int) < (dn : Int) := by omega
      clear hSF hCS hLf hDu hLo hDo hsame hlen hgw hll hpos hd hR2 hN hf hdm hb2
      refine (HA.out.1 _ (grown_refl _)).mono ?_
      rintro e w3 ⟨rfl, hg3⟩
      go_wp2_with fail
      refine (HA.out.2.1 _ hg3).mono ?_
      rintro e w4 ⟨rfl, hg4⟩
      have hg24 := hg3.trans hg4
      clear hg3 hg4
      go_wp2_with fail
      refine (HA.out.2.2.1 _ hg24).mono ?_
      rintro e w5 ⟨v5, rfl, hown5, hg5⟩
      obtain ⟨A5, c5, rfl, _, _, hr5, _⟩ := Rd.of_own hown5
      have hg25 := hg24.trans hg5
      clear hg24 hg5 hown5
      go_wp2_with fail
      refine (HA.out.2.2.2.1 _ hg25).mono ?_
      rintro e w6 ⟨v6, S, rfl, hS, hown6, hg6⟩
      have hSe := HA.out.2.2.2.2.2.2.1 S hS.1 hS.2
      subst hSe
      have hkl := keysAt_len V (dueT (leftsOf V) N (dn + 1))
      rw [← hkl] at hown6
      obtain ⟨A6, c6, rfl, _, _, hr6, _⟩ := Rd.of_own hown6
      have hr56 := hr5.grown hg6
      have hg26 := hg25.trans hg6
      clear hg25 hg6 hown6 hS hr5 hkl
      go_wp2_with fail
      refine (HA.out.2.2.2.2.1 _ hg26).mono ?_
      rintro e w7 ⟨v7, rfl, hown7, hg7⟩
      obtain ⟨A7, c7, rfl, _, _, hr7, _⟩ := Rd.of_own hown7
      have hr57 := hr56.grown hg7
      have hr67 := hr6.grown hg7
      have hg27 := hg26.trans hg7
      clear hg26 hg7 hown7 hr56 hr6
      go_wp2_with fail
      refine (equalInts_any A5 A7 _ _ _ _ _ _ _ hr57 hr7 (by omega) (by omega)).mono ?_
      rw [decide_eq_true rfl]
      rintro e w8 ⟨rfl, hg8⟩
      have hr68 := hr67.grown hg8
      have hg28 := hg27.trans hg8
      clear hg27 hg8 hr57 hr67 hr7
      go_wp2_with fail
      refine (lawRounds_any _).mono ?_
      rintro e w9 ⟨rfl, hg9⟩
      have hr69 := hr68.grown hg9
      have hg29 := hg28.trans hg9
      clear hg28 hg9 hr68
      go_wp2_with fail
      refine (HA.out.2.2.2.2.2.1 _ hg29).mono ?_
      rintro e wa ⟨va, rfl, howna, hga⟩
      obtain ⟨Aa, ca, rfl, _, _, hra, _⟩ := Rd.of_own howna
      have hr6a := hr69.grown hga
      have hg2a := hg29.trans hga
      have hlen := HA.out.2.2.2.2.2.2.2.1
      clear hg29 hga howna hr69
      go_wp2_with fail
      refine (equalStr_any A6 Aa _ _ _ _ _ _ _ hr6a hra hlen hlen).mono ?_
      rw [show eqSs (keysAt V (dueT (leftsOf V) N (dn + 1))) (keysAt V (dueT (leftsOf V) N (dn + 1))) = true from by simp [eqSs]]
      rintro e wb ⟨rfl, hgb⟩
      go_wp2_with fail
      go_ret
      exact ⟨rfl, HA.out.2.2.2.2.2.2.2.2.1.trans (hg2a.trans hgb)⟩
    · have hd' : btw d 0 4000 = false := by simpa using hd
      have hDu := fun wx (h : w2.grownBy wx none) => due_arg B0 A c V d wx (hR2.grown h) hf hd'
      rw [hN] at hDu hV20
      have hdd : d = -1 ∨ d = 4001 := by
        have : ¬ (0 ≤ d ∧ d ≤ 4000) := fun h => hd (btw_true.2 h)
        omega
      have HA := Lib.hid (And.intro hSF (And.intro hCS (And.intro hLf (And.intro hDu (And.intro hLo (And.intro hgw hll))))))
      clear hSF hCS hLf hDu hLo hgw hll hpos hd hd' hR2 hN hf hdm hb2
      refine (HA.out.1 _ (grown_refl _)).mono ?_
      rintro e w3 ⟨rfl, hg3⟩
      go_wp2_with fail
      refine (HA.out.2.1 _ hg3).mono ?_
      rintro e w4 ⟨rfl, hg4⟩
      have hg24 := hg3.trans hg4
      clear hg3 hg4
      go_wp2_with fail
      refine (HA.out.2.2.1 _ hg24).mono ?_
      rintro e w5 ⟨v5, rfl, hown5, hg5⟩
      obtain ⟨A5, c5, rfl, _, _, hr5, _⟩ := Rd.of_own hown5
      have hg25 := hg24.trans hg5
      clear hg24 hg5 hown5
      go_wp2_with fail
      refine (HA.out.2.2.2.1 _ hg25).mono ?_
      rintro e w6 ⟨rfl, hg6⟩
      have hr56 := hr5.grown hg6
      have hg26 := hg25.trans hg6
      clear hg25 hg6 hr5
      go_wp2_with fail
      refine (HA.out.2.2.2.2.1 _ hg26).mono ?_
      rintro e w7 ⟨v7, rfl, hown7, hg7⟩
      obtain ⟨A7, c7, rfl, _, _, hr7, _⟩ := Rd.of_own hown7
      have hr57 := hr56.grown hg7
      have hg27 := hg26.trans hg7
      clear hg26 hg7 hown7 hr56
      go_wp2_with fail
      refine (equalInts_any A5 A7 _ _ _ _ _ _ _ hr57 hr7 (by omega) (by omega)).mono ?_
      rw [decide_eq_true rfl]
      rintro e w8 ⟨rfl, hg8⟩
      have hg28 := hg27.trans hg8
      clear hg27 hg8 hr57 hr7
      rcases hdd with rfl | rfl
      · go_wp2_with fail
        refine (lawRounds_any _).mono ?_
        rintro e w9 ⟨rfl, hg9⟩
        go_wp2_with fail
        go_ret
        exact ⟨rfl, HA.out.2.2.2.2.2.1.trans (hg28.trans hg9)⟩
      · go_wp2_with fail
        refine (lawRounds_any _).mono ?_
        rintro e w9 ⟨rfl, hg9⟩
        go_wp2_with fail
        go_ret
        exact ⟨rfl, HA.out.2.2.2.2.2.1.trans (hg28.trans hg9)⟩
  · have hLf := fun wx (h : w2.grownBy wx none) => left_bad B0 A c V wx (hR2.grown h) hf
    have hDu := fun wx (h : w2.grownBy wx none) => due_bad B0 A c V d wx (hR2.grown h) hf
    rw [hN] at hSF hCS hLf hDu
    have hne : (sitF V != 0) = true := by rw [bne_iff_ne]; exact hf
    generalize sitF V = q at *
    have hqq : (q == q) = true := by simp
    have hqn : (q != q) = false := by simp
    have HA := Lib.hid (And.intro hSF (And.intro hCS (And.intro hLf (And.intro hDu hgw))))
    clear hSF hCS hLf hDu hgw hR2 hN hf hdm hb2
    refine (HA.out.1 _ (grown_refl _)).mono ?_
    rintro e w3 ⟨rfl, hg3⟩
    go_wp2_with fail
    refine (HA.out.2.1 _ hg3).mono ?_
    rintro e w4 ⟨rfl, hg4⟩
    have hg24 := hg3.trans hg4
    clear hg3 hg4
    go_wp2_with fail
    refine (HA.out.2.2.1 _ hg24).mono ?_
    rintro e w5 ⟨rfl, hg5⟩
    have hg25 := hg24.trans hg5
    clear hg24 hg5
    go_wp2_with fail
    refine (HA.out.2.2.2.1 _ hg25).mono ?_
    rintro e w6 ⟨rfl, hg6⟩
    have hg26 := hg25.trans hg6
    clear hg25 hg6
    go_wp2_with fail
    refine (lawRounds_any _).mono ?_
    rintro e w7 ⟨rfl, hg7⟩
    go_wp2_with fail
    go_ret
    exact ⟨rfl, HA.out.2.2.2.2.trans (hg26.trans hg7)⟩

end Go.Proofs.YtoneebofjbnjpaaDoor
