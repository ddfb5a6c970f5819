/- The walks of the reference: KnownFault, StaleFault, units. -/
import Derived.Test.YtidfhgpjpieajaaDoorRefM
import Derived.Test.YtidfhgpjpieajaaDoorOne
namespace Go.Proofs.YtidfhgpjpieajaaDoor
open Go.RowKit

def KnInv (L : List Lot) (l : List Pc) (j : Nat) : Prop := ∀ i x, i < j → l[i]? = some x → (lotOf L x.lot).isSome = true
theorem KnInv.bad {L : List Lot} {l : List Pc} {j : Nat} {t : Pc} (ht : l[j]? = some t) (h : (lotOf L t.lot).isSome = false) : knownB L l = false := by
  unfold knownB
  rw [List.all_eq_false]
  exact ⟨t, List.mem_of_getElem? ht, by simp [h]⟩
theorem KnInv.done {L : List Lot} {l : List Pc} (h : KnInv L l l.length) : knownB L l = true := by
  unfold knownB
  rw [List.all_eq_true]
  intro x hx
  obtain ⟨i, hi, e⟩ := List.getElem_of_mem hx
  exact h i x hi (by rw [← e]; exact List.getElem?_eq_getElem hi)
def knF (L : List Lot) (l : List Pc) : Int := if knownB L l = false then 8 else 0

set_option maxRecDepth 100000 in
set_option maxHeartbeats 1000000 in
theorem knownFault_any (L : List Lot) (C : Coil) (A B : Option Addr) (c cl : Nat) (w : World) (hr : Rd w 2 A C.ps.length (pcFlat C.ps)) (hlen : C.ps.length ≤ 1000000) (hL : Rd w 4 B L.length (lotFlat L)) (hLn : L.length ≤ 1000000) :
    Calls Tryd.prog 35 #[.agg #[.string C.pr, .int .i64 C.most, .slice A C.ps.length c], .slice B L.length cl] w fun e w' => e = .returned (.int .i64 (knF L C.ps)) ∧ w.grownBy w' none := by
  have hB := Blk.new w 58 #[.string C.pr, .int .i64 C.most, .slice A C.ps.length c]
  have hg0 := grown_alloc (grown_refl w) (.cells #[.string C.pr, .int .i64 C.most, .slice A C.ps.length c] 58)
  have k0 := hB.three
  obtain ⟨V, hV⟩ : ∃ V, knF L C.ps = V := ⟨_, rfl⟩
  rw [hV]
  obtain ⟨pr, most, ps⟩ := C
  simp only at *
  obtain ⟨n, hn⟩ : ∃ n, ps.length = n := ⟨_, rfl⟩
  rw [hn] at hr hB hg0 k0 hlen ⊢
  have HV := Lib.hid (And.intro hV hn)
  clear hV hn hB
  go_enter Tryd.func35, Tryd.ntmps35
  go_wp2_with fail
  go_loopg [12] n (fun k i wr => ∃ j : Nat, k + j = n ∧ i = .int .i64 j ∧ w.grownBy wr none ∧ KnInv L ps j)
  case atStart => exact ⟨0, by omega, rfl, hg0, fun i x h => absurd h (by omega)⟩
  case round =>
    clear k0 hg0
    obtain ⟨j, hj, rfl, hg, H⟩ := hrel
    by_cases hlt : j < n
    · obtain ⟨b, off, rfl, hb, t, ht, c0, c1⟩ := pc_cells (hr.grown hg) hlt
      have hgx := grown_alloc hg (.cells #[.string t.lot, .int .i64 t.mn] 54)
      have hlo := lotOf_any B L.length cl L t.lot _ (hL.grown hgx) hLn
      obtain ⟨q, hq⟩ : ∃ q, (lotOf L t.lot).isSome = q := ⟨_, rfl⟩
      rw [hq] at hlo
      generalize lotR L t.lot = R at *
      have HH := Lib.hid (And.intro hlo (And.intro hgx (And.intro hj (And.intro ht (And.intro hq H)))))
      clear hlo hgx hj ht hq H hg
      go_wp2_with fail
      refine HH.out.1.mono ?_
      rintro e w1 ⟨rfl, hg1⟩
      cases q
      · have HW := Lib.hid (show 8 = V by rw [← HV.out.1]; unfold knF; rw [KnInv.bad HH.out.2.2.2.1 HH.out.2.2.2.2.1]; rfl)
        go_wp2_with fail
        go_ret
        exact ⟨retI HW.out, grown_alloc (HH.out.2.1.trans hg1) _⟩
      · go_wp2_with fail
        obtain ⟨_, hgx, hj, ht, hq, H⟩ := HH.out
        go_roundg (gk - 1)
        case measure => omega
        case rel => exact ⟨j + 1, by omega, by go_num, grown_alloc (hgx.trans hg1) _, fun i x hi hx => by
          by_cases e : i = j
          · subst e; rw [ht] at hx; cases hx; exact hq
          · exact H i x (by omega) hx⟩
    · obtain rfl : j = n := by omega
      have HW := Lib.hid (show 0 = V by rw [← HV.out.1]; unfold knF; rw [KnInv.done (by rw [HV.out.2]; exact H)]; rfl)
      clear H
      go_wp2_with fail
      go_ret
      exact ⟨retI HW.out, hg⟩

/-- What is wrong with a coil's pieces, a day and sales. -/
def stF (L : List Lot) (C : Coil) (d : Int) (S : List Int) : Int := if orE (knF L C.ps) (if btw d 0 4000 = false then 1 else 0) ≠ 0 then orE (knF L C.ps) (if btw d 0 4000 = false then 1 else 0) else if 400 < S.length then 2 else if (S.any fun x => !(btw x 0 1000)) = true then 1 else 0

set_option maxRecDepth 100000 in
set_option maxHeartbeats 2000000 in
theorem staleFault_any (L : List Lot) (C : Coil) (A B D : Option Addr) (c cl cs : Nat) (d : Int) (S : List Int) (w : World) (hr : Rd w 2 A C.ps.length (pcFlat C.ps)) (hlen : C.ps.length ≤ 1000000) (hL : Rd w 4 B L.length (lotFlat L)) (hLn : L.length ≤ 1000000)
    (hS : Rd w 1 D S.length (ints S)) (hSn : S.length ≤ 1000000) (he : Enters Tryd.prog 77) (he2 : Enters Tryd.prog 86) :
    Calls Tryd.prog 36 #[.agg #[.string C.pr, .int .i64 C.most, .slice A C.ps.length c], .slice B L.length cl, .int .i64 d, .slice D S.length cs] w
      fun e w' => e = .returned (.int .i64 (stF L C d S)) ∧ w.grownBy w' none := by
  have hg0 := grown_alloc (grown_refl w) (.cells #[.string C.pr, .int .i64 C.most, .slice A C.ps.length c] 58)
  have hB := (Blk.new w 58 #[.string C.pr, .int .i64 C.most, .slice A C.ps.length c]).three
  have h1 := knownFault_any L C A B c cl _ (hr.grown hg0) hlen (hL.grown hg0) hLn
  have h2 := fun w => dayFault_one d w he
  have h3 := fun w1 (h : w.grownBy w1 none) => containsFunc_any 86 (fun x => !(btw x 0 1000)) D S.length cs S w1 (hS.grown h) hSn he2 (fun x w1 => staleF1_any x w1)
  obtain ⟨V, hV⟩ : ∃ V, stF L C d S = V := ⟨_, rfl⟩
  rw [hV]
  unfold stF at hV
  generalize (S.any fun x => !(btw x 0 1000)) = q at *
  generalize knF L C.ps = x at *
  generalize (if btw d 0 4000 = false then (1 : Int) else 0) = y at *
  have h4 := fun w => or_any x y w
  generalize orE x y = z at *
  have HC := Lib.hid (And.intro h1 (And.intro h2 (And.intro h3 (And.intro h4 hg0))))
  clear h1 h2 h3 h4 hg0
  by_cases hz : z = 0
  · rw [if_neg (by omega)] at hV
    have hz' : (z != 0) = false := by simp [hz]
    by_cases h4 : 400 < S.length
    · rw [if_pos h4] at hV
      subst hV
      have h4' : (400 : Int) < (S.length : Int) := by omega
      clear hz h4
      go_enter Tryd.func36, Tryd.ntmps36
      go_wp2_with fail
      refine HC.out.1.mono ?_
      rintro e w1 ⟨rfl, hg1⟩
      go_wp2_with fail
      refine (HC.out.2.1 _).mono ?_
      rintro e w2 ⟨rfl, hg2⟩
      go_wp2_with fail
      refine (HC.out.2.2.2.1 _).mono ?_
      rintro e w3 ⟨rfl, hg3⟩
      go_wp2_with fail
      go_ret
      exact ⟨rfl, ((HC.out.2.2.2.2.trans hg1).trans hg2).trans hg3⟩
    · rw [if_neg h4] at hV
      have h4' : ¬ (400 : Int) < (S.length : Int) := by omega
      have HV := Lib.hid hV
      clear hz h4 hV
      cases q
      · go_enter Tryd.func36, Tryd.ntmps36
        go_wp2_with fail
        refine HC.out.1.mono ?_
        rintro e w1 ⟨rfl, hg1⟩
        go_wp2_with fail
        refine (HC.out.2.1 _).mono ?_
        rintro e w2 ⟨rfl, hg2⟩
        go_wp2_with fail
        refine (HC.out.2.2.2.1 _).mono ?_
        rintro e w3 ⟨rfl, hg3⟩
        have hgg := ((HC.out.2.2.2.2.trans hg1).trans hg2).trans hg3
        go_wp2_with fail
        refine (HC.out.2.2.1 _ hgg).mono ?_
        rintro e w4 ⟨rfl, hg4⟩
        go_wp2_with fail
        go_ret
        exact ⟨retI HV.out, hgg.trans hg4⟩
      · go_enter Tryd.func36, Tryd.ntmps36
        go_wp2_with fail
        refine HC.out.1.mono ?_
        rintro e w1 ⟨rfl, hg1⟩
        go_wp2_with fail
        refine (HC.out.2.1 _).mono ?_
        rintro e w2 ⟨rfl, hg2⟩
        go_wp2_with fail
        refine (HC.out.2.2.2.1 _).mono ?_
        rintro e w3 ⟨rfl, hg3⟩
        have hgg := ((HC.out.2.2.2.2.trans hg1).trans hg2).trans hg3
        go_wp2_with fail
        refine (HC.out.2.2.1 _ hgg).mono ?_
        rintro e w4 ⟨rfl, hg4⟩
        go_wp2_with fail
        go_ret
        exact ⟨retI HV.out, hgg.trans hg4⟩
  · rw [if_pos hz] at hV
    subst hV
    have hz' : (z != 0) = true := by rw [bne_iff_ne]; exact hz
    clear hz
    go_enter Tryd.func36, Tryd.ntmps36
    go_wp2_with fail
    refine HC.out.1.mono ?_
    rintro e w1 ⟨rfl, hg1⟩
    go_wp2_with fail
    refine (HC.out.2.1 _).mono ?_
    rintro e w2 ⟨rfl, hg2⟩
    go_wp2_with fail
    refine (HC.out.2.2.2.1 _).mono ?_
    rintro e w3 ⟨rfl, hg3⟩
    go_wp2_with fail
    go_ret
    exact ⟨rfl, ((HC.out.2.2.2.2.trans hg1).trans hg2).trans hg3⟩

end Go.Proofs.YtidfhgpjpieajaaDoor
