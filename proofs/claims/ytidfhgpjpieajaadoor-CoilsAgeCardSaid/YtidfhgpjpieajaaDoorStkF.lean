/- The walk of package stock's Stale. -/
import Derived.Test.YtidfhgpjpieajaaDoorStkE
namespace Go.Proofs.YtidfhgpjpieajaaDoor
open Go.RowKit

/-- What is wrong, of Stale. -/
def stlF (L : List Lot) (C : Coil) (d : Int) (S : List Int) : Int := if expF L C d ≠ 0 then expF L C d else if 400 < S.length then 2 else if allB S 0 1000 = false then 1 else 0
theorem stlF_ok {L : List Lot} {C : Coil} {d : Int} {S : List Int} (h : stlF L C d S = 0) : expF L C d = 0 ∧ S.length ≤ 400 ∧ allB S 0 1000 = true := by
  unfold stlF at h
  by_cases h1 : expF L C d = 0
  · rw [if_neg (by omega)] at h
    by_cases h2 : 400 < S.length
    · rw [if_pos h2] at h; cases h
    · rw [if_neg h2] at h
      by_cases h3 : allB S 0 1000 = true
      · exact ⟨h1, by omega, h3⟩
      · rw [if_pos (by simpa using h3)] at h; cases h
  · rw [if_pos h1] at h; exact absurd h h1

theorem staleP_step (E : List Int) (d : Int) (m : Nat) (r : List Int) (q : Nat) (hq : q = if m ≤ E.length then m else E.length) : staleP E d ((m : Int) :: r) = befP (E.take q) d + staleP (E.drop q) (d + 1) r := by
  rw [staleP, Int.toNat_natCast]
  by_cases h : m ≤ E.length
  · rw [if_pos h] at hq; rw [hq]
  · rw [if_neg h] at hq
    rw [hq, List.take_of_length_le (by omega), List.take_of_length_le (Nat.le_refl _), List.drop_of_length_le (by omega), List.drop_of_length_le (Nat.le_refl _)]

theorem sizeInt (w : World) : (sizeOf (Tryd.prog.elem 22)).run Tryd.prog w = .ok 1 w := by kernel_rfl
theorem undInt : Tryd.prog.underlying 22 = some (.slice (Tryd.prog.elem 22)) := by kernel_rfl

theorem ints_take (l : List Int) (q : Nat) : (ints l).take (q * 1) = ints (l.take q) := by simp [ints]
theorem ints_drop (l : List Int) (q : Nat) : (ints l).drop (q * 1) = ints (l.drop q) := by simp [ints]
theorem allB_mem {l : List Int} {a b : Int} (h : allB l a b = true) {x : Int} (hx : x ∈ l) : a ≤ x ∧ x ≤ b := btw_true.1 (List.all_eq_true.1 h x hx)

set_option maxHeartbeats 2000000 in
theorem stale_bad (L : List Lot) (C : Coil) (A B D : Option Addr) (c cl cs : Nat) (d : Int) (S : List Int) (w : World) (hr : Rd w 2 A C.ps.length (pcFlat C.ps)) (hlen : C.ps.length ≤ 1000000) (hL : Rd w 4 B L.length (lotFlat L)) (hS : Rd w 1 D S.length (ints S)) (hS1 : S.length ≤ 1000000)
    (he : Enters Tryd.prog 121) (hF : stlF L C d S ≠ 0) :
    Calls Tryd.prog 33 #[.agg #[.string C.pr, .int .i64 C.most, .slice A C.ps.length c], .slice B L.length cl, .int .i64 d, .slice D S.length cs] w
      fun e w' => e = .returned (.tuple #[.int .i64 0, .int .i64 (stlF L C d S)]) ∧ w.grownBy w' none := by
  have hg0 := grown_alloc (grown_refl w) (.cells #[.string C.pr, .int .i64 C.most, .slice A C.ps.length c] 58)
  obtain ⟨V, hV⟩ : ∃ V, stlF L C d S = V := ⟨_, rfl⟩
  rw [hV] at hF ⊢
  unfold stlF at hV
  by_cases h1 : expF L C d = 0
  · rw [if_neg (by omega)] at hV
    have hc := expiries_ok L C A B c cl d _ (hr.grown hg0) (hL.grown hg0) he h1
    by_cases h2 : 400 < S.length
    · rw [if_pos h2] at hV
      have h2' : (400 : Int) < (S.length : Int) := by omega
      subst hV
      have HC := Lib.hid hc
      clear hc h1 hF
      go_enter Tryd.func33, Tryd.ntmps33
      go_wp2_with fail
      refine HC.out.mono ?_
      rintro e w1 ⟨v, rfl, hown, hg1⟩
      clear hown
      go_wp2_with fail
      go_ret2
      exact ⟨rfl, hg0.trans hg1⟩
    · rw [if_neg h2] at hV
      have h2' : ¬ (400 : Int) < (S.length : Int) := by omega
      have h3 : allB S 0 1000 = false := by
        cases h : allB S 0 1000 with
        | false => rfl
        | true => rw [if_neg (by simp [h])] at hV; exact absurd hV.symm hF
      rw [if_pos h3] at hV
      subst hV
      have ha := fun w1 (h : w.grownBy w1 none) => allBetween_any D S.length cs S 0 1000 w1 (hS.grown h) hS1
      rw [h3] at ha
      have HC := Lib.hid (And.intro hc ha)
      clear hc ha h1 hF h3
      go_enter Tryd.func33, Tryd.ntmps33
      go_wp2_with fail
      refine HC.out.1.mono ?_
      rintro e w1 ⟨v, rfl, hown, hg1⟩
      clear hown
      go_wp2_with fail
      refine (HC.out.2 _ (hg0.trans hg1)).mono ?_
      rintro e w2 ⟨rfl, hg2⟩
      go_wp2_with fail
      go_ret2
      exact ⟨rfl, (hg0.trans hg1).trans hg2⟩
  · rw [if_pos h1] at hV
    have hc := expiries_bad L C A B c cl d _ (hr.grown hg0) hlen (hL.grown hg0) he h1
    rw [hV] at hc
    have h1' : (V != 0) = true := by rw [bne_iff_ne]; exact hF
    have HC := Lib.hid hc
    clear hc h1 hV hF
    go_enter Tryd.func33, Tryd.ntmps33
    go_wp2_with fail
    refine HC.out.mono ?_
    rintro e w1 ⟨rfl, hg1⟩
    go_wp2_with fail
    go_ret2
    exact ⟨rfl, hg0.trans hg1⟩

set_option maxRecDepth 100000 in
set_option maxHeartbeats 4000000 in
theorem stale_ok (L : List Lot) (C : Coil) (A B D : Option Addr) (c cl cs : Nat) (d : Int) (S : List Int) (w : World) (hr : Rd w 2 A C.ps.length (pcFlat C.ps)) (hL : Rd w 4 B L.length (lotFlat L)) (hS : Rd w 1 D S.length (ints S))
    (he : Enters Tryd.prog 121) (hF : stlF L C d S = 0) :
    Calls Tryd.prog 33 #[.agg #[.string C.pr, .int .i64 C.most, .slice A C.ps.length c], .slice B L.length cl, .int .i64 d, .slice D S.length cs] w
      fun e w' => e = .returned (.tuple #[.int .i64 (staleP (endsP L C.ps) d S), .int .i64 0]) ∧ w.grownBy w' none := by
  have hg0 := grown_alloc (grown_refl w) (.cells #[.string C.pr, .int .i64 C.most, .slice A C.ps.length c] 58)
  obtain ⟨h1, h2, h3⟩ := stlF_ok hF
  obtain ⟨_, hco, _, hd⟩ := expF_ok h1
  obtain ⟨hd0, hd1⟩ := btw_true.1 hd
  obtain ⟨_, hmost, _, _, hpok, hsum⟩ := coil_ok hco
  have hc := expiries_ok L C A B c cl d _ (hr.grown hg0) (hL.grown hg0) he h1
  have hel : (endsP L C.ps).length ≤ 1000 := by have := ends_len (L := L) hpok; omega
  have ha := fun w1 (h : w.grownBy w1 none) => allBetween_any D S.length cs S 0 1000 w1 (hS.grown h) (by omega)
  rw [h3] at ha
  obtain ⟨V, hV⟩ : ∃ V, staleP (endsP L C.ps) d S = V := ⟨_, rfl⟩
  rw [hV]
  generalize endsP L C.ps = E at *
  obtain ⟨n, hn⟩ : ∃ n, S.length = n := ⟨_, rfl⟩
  rw [hn] at hS ha h2 ⊢
  have h2' : ¬ (400 : Int) < (n : Int) := by omega
  have HC := Lib.hid (And.intro hc (And.intro ha (And.intro hV (And.intro hn h3))))
  clear hc ha hV hn h3 hF h1 hco hpok hsum hmost hd
  go_enter Tryd.func33, Tryd.ntmps33
  go_wp2_with fail
  refine HC.out.1.mono ?_
  rintro e w1 ⟨v, rfl, hown, hg1⟩
  obtain ⟨AE, cE, rfl, hcE, _, hrE, _⟩ := Rd.of_own hown
  have hgg1 := hg0.trans hg1
  clear hown
  go_wp2_with fail
  refine (HC.out.2.1 _ hgg1).mono ?_
  rintro e w2 ⟨rfl, hg2⟩
  have hgg2 := hgg1.trans hg2
  have hrE2 := hrE.grown hg2
  clear hrE
  go_wp2_with fail
  go_loopg [10, 12, 34] n (fun k ve va i wr => ∃ (j : Nat) (a : Int) (Ej : List Int) (Aj : Option Addr) (cj : Nat), k + j = n ∧ i = .int .i64 j ∧ va = .int .i64 a ∧ ve = .slice Aj Ej.length cj ∧ Ej.length ≤ cj ∧ Ej.length ≤ 1000 ∧ 0 ≤ a ∧ a ≤ 1000 * (j : Int) ∧ Rd wr 1 Aj Ej.length (ints Ej) ∧ w.grownBy wr none ∧ Hid (a + staleP Ej (d + (j : Int)) (S.drop j) = V))
  case atStart => exact ⟨0, 0, E, AE, cE, by omega, rfl, rfl, rfl, hcE, hel, by omega, by omega, hrE2, hgg2, Lib.hid (by simpa using HC.out.2.2.1)⟩
  case round =>
    clear hrE2 hgg2 hcE hel
    obtain ⟨j, a, Ej, Aj, cj, hj, rfl, rfl, rfl, hcE, hel, ha0, ha1, hrE, hg, H⟩ := hrel
    by_cases hlt : j < n
    · obtain ⟨b, off, rfl, hb, x, hx, cx⟩ := int_cells (hS.grown hg) hlt
      obtain ⟨_, _, _, hn, hall⟩ := HC.out
      have hx0 := allB_mem hall (List.mem_of_getElem? hx)
      obtain ⟨m, rfl⟩ : ∃ m : Nat, x = m := ⟨x.toNat, by omega⟩
      have hdr := drop_at hx
      obtain ⟨q, hq⟩ : ∃ q, q = if m ≤ Ej.length then m else Ej.length := ⟨_, rfl⟩
      have hst := staleP_step Ej (d + (j : Int)) m (S.drop (j + 1)) q hq
      rw [← hdr] at hst
      have hqn : q ≤ Ej.length := by rw [hq]; split <;> omega
      obtain ⟨A1, hs1, hr1⟩ := win_h (P := Tryd.prog) undInt sizeInt hrE hqn hcE
      obtain ⟨A2, hs2, hr2⟩ := win_l (P := Tryd.prog) undInt sizeInt hrE hqn hcE
      rw [ints_take] at hr1
      rw [ints_drop] at hr2
      have hbf := fun w1 (h : wr.grownBy w1 none) => before_any A1 q cj (Ej.take q) (d + (j : Int)) w1 (hr1.grown h) (by omega)
      have hb0 := befP_nonneg (Ej.take q) (d + (j : Int))
      have htl : (Ej.take q).length ≤ 1000 := by rw [List.length_take]; omega
      have hE2 : (Ej.drop q).length = Ej.length - q := List.length_drop
      have HH := Lib.hid (And.intro hbf (And.intro hst (And.intro hj (And.intro hr2 hE2))))
      generalize befP (Ej.take q) (d + (j : Int)) = f at *
      generalize hnn : Ej.length = N at *
      have hjl : (j : Int) < (n : Int) := by omega
      have HQ := Lib.hid (And.intro hq hnn)
      clear hbf hst hj hr2 hE2 hdr hx hn hall hr1 hrE hnn
      by_cases hmn : m ≤ N
      · rw [if_pos hmn] at hq
        subst hq
        have hmn' : (q : Int) ≤ (N : Int) := by omega
        clear HQ
        go_wp2_with fail
        refine (HH.out.1 _ (grown_refl _)).mono ?_
        rintro e w3 ⟨rfl, hg3⟩
        go_wp2_with fail
        obtain ⟨_, hst, hj, hr2, hE2⟩ := HH.out
        go_roundg (gk - 1)
        case measure => omega
        case rel =>
          refine ⟨j + 1, a + f, Ej.drop q, A2, cj - q, by omega, by go_num, rfl, by rw [hE2], by omega, by omega, by omega, by omega, by rw [hE2]; exact hr2.grown hg3, hg.trans hg3, Lib.hid ?_⟩
          rw [← H.out, hst, show d + ((j + 1 : Nat) : Int) = d + (j : Int) + 1 from by omega]
          omega
      · rw [if_neg hmn] at hq
        subst hq
        have hmn' : ¬ (m : Int) ≤ (q : Int) := by omega
        clear HQ
        go_wp2_with fail
        refine (HH.out.1 _ (grown_refl _)).mono ?_
        rintro e w3 ⟨rfl, hg3⟩
        go_wp2_with fail
        obtain ⟨_, hst, hj, hr2, hE2⟩ := HH.out
        go_roundg (gk - 1)
        case measure => omega
        case rel =>
          refine ⟨j + 1, a + f, Ej.drop q, A2, cj - q, by omega, by go_num, rfl, by rw [hE2, Nat.sub_self], by omega, by omega, by omega, by omega, by rw [hE2]; exact hr2.grown hg3, hg.trans hg3, Lib.hid ?_⟩
          rw [← H.out, hst, show d + ((j + 1 : Nat) : Int) = d + (j : Int) + 1 from by omega]
          omega
    · obtain rfl : j = n := by omega
      have hz : S.drop j = [] := List.drop_of_length_le (by have := HC.out.2.2.2.1; omega)
      have hH := H.out
      rw [hz] at hH
      have hbf := fun w1 (h : wr.grownBy w1 none) => before_any Aj Ej.length cj Ej (d + (j : Int)) w1 (hrE.grown h) (by omega)
      have hb0 := befP_nonneg Ej (d + (j : Int))
      have hH' : a + befP Ej (d + (j : Int)) = V := hH
      generalize befP Ej (d + (j : Int)) = f at *
      have HH := Lib.hid (And.intro hbf hH')
      clear hbf hH hH' hz H hj
      go_wp2_with fail
      refine (HH.out.1 _ (grown_refl _)).mono ?_
      rintro e w3 ⟨rfl, hg3⟩
      go_wp2_with fail
      go_ret2
      exact ⟨retT HH.out.2, hg.trans hg3⟩

end Go.Proofs.YtidfhgpjpieajaaDoor
