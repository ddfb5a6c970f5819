/- The walk of the reference's InsteadFault. -/
import Derived.Test.YtkfijicmeekmiaaInsP
import Derived.Test.YtkfijicmeekmiaaTabFR
import Derived.Test.YtkfijicmeekmiaaConcat
namespace Go.Proofs.Ytkfijicmeekmiaa
open Go.RowKit

def ifB (n : Int) : Bool := !btw n 0 1000000
theorem insF1_any (x : Int) (w : World) : Calls Try.prog 112 #[.int .i64 x] w fun e w2 => e = .returned (.bool (ifB x)) ∧ w = w2 := by
  by_cases h : x < 0
  · go_enter Try.func112, Try.ntmps112
    go_wp2_with fail
    go_ret
    exact ⟨retB (by rw [Bool.eq_iff_iff]; simp [ifB, btw] <;> omega), rfl⟩
  · have h' : 0 ≤ x := by omega
    clear h
    go_enter Try.func112, Try.ntmps112
    go_wp2_with fail
    go_ret
    exact ⟨retB (by rw [Bool.eq_iff_iff]; simp [ifB, btw] <;> omega), rfl⟩
theorem any_if (l m : List Int) : (l ++ m).any ifB = !(allB l 0 1000000 && allB m 0 1000000) := by
  have h : ∀ l : List Int, l.any ifB = !allB l 0 1000000 := by
    intro l
    unfold allB ifB
    induction l with
    | nil => rfl
    | cons a r ih => simp [ih]
  rw [List.any_append, h, h]
  cases allB l 0 1000000 <;> cases allB m 0 1000000 <;> rfl
/-- A slice that is nil has no room. -/
theorem own_cap {w : World} {base e size n c : Nat} {A : Option Addr} {xs : List Value} (h : w.ownsRow base e size (.slice A n c) n xs) : A = none → c = 0 := by
  intro ha
  rcases h.2 with ⟨e, _⟩ | ⟨g, cap, cur, e, _⟩
  · injection e
  · injection e with e1 _ _; rw [ha] at e1; cases e1

set_option maxRecDepth 100000 in
set_option maxHeartbeats 2000000 in
theorem refInsF_any (base : Nat) (A B C : Option Addr) (c cb cs : Nat) (R : List (List Int)) (W S : List Int) (w : World) (hr : RdT w base A R) (hn : R.length ≤ 100000) (hW : Rd w 1 B W.length (ints W)) (hS : Rd w 1 C S.length (ints S)) (hB : B = none → cb = 0) (hC : C = none → cs = 0) :
    Calls Try.prog 60 #[.agg #[.slice A R.length c], .slice B W.length cb, .slice C S.length cs] w fun e w' => e = .returned (.int .i64 (insF R W S)) ∧ w.grownBy w' none := by
  have hBx := Blk.new w 70 #[.slice A R.length c]
  have hg0 := grown_alloc (grown_refl w) (.cells #[.slice A R.length c] 70)
  have c0 := hBx.cell 0
  have hct := refTableF_any base A c R _ (hr.grown hg0) hn
  obtain ⟨V, hV⟩ : ∃ V, V = insF R W S := ⟨_, rfl⟩
  rw [← hV]
  unfold insF at hV
  generalize hft : tabF R = f at *
  by_cases h1 : f = 0
  · subst h1
    have hf0 := hft
    clear hft
    rw [if_neg (by simp)] at hV
    by_cases h2 : W.length = R.length
    · rw [if_neg (by omega)] at hV
      by_cases h3 : S.length = R.length
      · rw [if_neg (by omega)] at hV
        obtain ⟨⟨_, hR30⟩, _⟩ := tabF_ok hf0
        have hcc := fun w1 (hg : w.grownBy w1 none) => concat_any B C W.length cb S.length cs W S w1 (hW.grown hg) (hS.grown hg) hB hC (by omega) (by omega)
        have hcf := fun A2 c2 w1 (hr : Rd w1 1 A2 (W.length + S.length) (ints (W ++ S))) => containsFunc_any 112 ifB A2 (W.length + S.length) c2 (W ++ S) w1 hr (by omega) (enters_of Try.func112 (by kernel_rfl) rfl) insF1_any
        simp only [any_if] at hcf
        have HC := Lib.hid (And.intro hct (And.intro hcc hcf))
        have i2 : ((W.length : Int) != (R.length : Int)) = false := by simp [h2]
        have i3 : ((S.length : Int) != (R.length : Int)) = false := by simp [h3]
        have hV2 : V = if (allB W 0 1000000 && allB S 0 1000000) = true then 0 else 1 := by
          rw [hV]
          cases allB W 0 1000000 <;> cases allB S 0 1000000 <;> rfl
        generalize (allB W 0 1000000 && allB S 0 1000000) = q at *
        have HV := Lib.hid hV2
        clear hV hV2 hct hcc hcf h2 h3 hf0 hR30
        go_enter Try.func60, Try.ntmps60
        go_wp2_with fail
        refine HC.out.1.mono ?_
        rintro e w1 ⟨rfl, hg1⟩
        have c1 := (hBx.grown hg1 (by simp)).cell 0
        have hgg1 := hg0.trans hg1
        go_wp2_with fail
        refine (HC.out.2.1 _ hgg1).mono ?_
        rintro e w2 ⟨v2, rfl, hown2, hg2⟩
        obtain ⟨A2, c2, rfl, _, _, hr2, _⟩ := Rd.of_own hown2
        have hgg2 := hgg1.trans hg2
        go_wp2_with fail
        refine (HC.out.2.2 _ _ _ hr2).mono ?_
        rintro e w3 ⟨rfl, hg3⟩
        have hgg3 := hgg2.trans hg3
        cases q
        · go_wp2_with fail
          go_ret
          exact ⟨retI (by rw [HV.out]; rfl), hgg3⟩
        · go_wp2_with fail
          go_ret
          exact ⟨retI (by rw [HV.out]; rfl), hgg3⟩
      · rw [if_pos h3] at hV
        have i2 : ((W.length : Int) != (R.length : Int)) = false := by simp [h2]
        have i3 : ((S.length : Int) != (R.length : Int)) = true := by rw [bne_iff_ne]; omega
        have HC := Lib.hid hct
        have HV := Lib.hid hV
        clear hV hct h2 h3 hf0
        go_enter Try.func60, Try.ntmps60
        go_wp2_with fail
        refine HC.out.mono ?_
        rintro e w1 ⟨rfl, hg1⟩
        have c1 := (hBx.grown hg1 (by simp)).cell 0
        have hgg1 := hg0.trans hg1
        go_wp2_with fail
        go_ret
        exact ⟨retI HV.out.symm, hgg1⟩
    · rw [if_pos h2] at hV
      have i2 : ((W.length : Int) != (R.length : Int)) = true := by rw [bne_iff_ne]; omega
      have HC := Lib.hid hct
      have HV := Lib.hid hV
      clear hV hct h2 hf0
      go_enter Try.func60, Try.ntmps60
      go_wp2_with fail
      refine HC.out.mono ?_
      rintro e w1 ⟨rfl, hg1⟩
      have c1 := (hBx.grown hg1 (by simp)).cell 0
      have hgg1 := hg0.trans hg1
      go_wp2_with fail
      go_ret
      exact ⟨retI HV.out.symm, hgg1⟩
  · rw [if_pos h1] at hV
    have i1 : (f != 0) = true := by rw [bne_iff_ne]; exact h1
    have HC := Lib.hid hct
    have HV := Lib.hid hV
    clear hV hct h1 hft
    go_enter Try.func60, Try.ntmps60
    go_wp2_with fail
    refine HC.out.mono ?_
    rintro e w1 ⟨rfl, hg1⟩
    go_wp2_with fail
    go_ret
    exact ⟨retI HV.out.symm, hg0.trans hg1⟩

end Go.Proofs.Ytkfijicmeekmiaa
