/- The walks of Tubes and Amount: tubes and an amount made of the stream's numbers. -/
import Derived.Test.YtoaeflegcfecaaaTubes
namespace Go.Proofs.Ytoaeflegcfecaaa
open Go.RowKit

/-- Tubes. -/
def tubesM (L : List Int) (t : Nat) : Nat × List Tub :=
  if nx L (rightTubes L t).1 12 == 0 then ((rightTubes L t).1 + 4, (rightTubes L t).2 ++ [⟨pk L ((rightTubes L t).1 + 1) [0, 5, 10001, 200], pk L ((rightTubes L t).1 + 2) [-1, 0, 5], pk L ((rightTubes L t).1 + 3) [-1, 1001, 5]⟩])
  else ((rightTubes L t).1 + 1, (rightTubes L t).2)

theorem rt_bound (L : List Int) (t : Nat) : (rightTubes L t).1 ≤ t + 15 ∧ (rightTubes L t).2.length ≤ 5 := rtState_bound L t 5 (Nat.le_refl _)
theorem tubesM_bound (L : List Int) (t : Nat) : (tubesM L t).1 ≤ t + 19 ∧ (tubesM L t).2.length ≤ 6 := by
  have := rt_bound L t
  unfold tubesM; split <;> simp <;> omega

set_option maxHeartbeats 400000 in
theorem tubes_any (bs : Nat) (L : List Int) (t : Nat) (w : World) (hs : Str w bs L t) (ht : t ≤ 800000) :
    Calls Try.prog 8 #[.pointer (some ⟨bs, 0, none⟩)] w
      fun e w' => ∃ v, e = .returned v ∧ w'.ownsRow w.heap.size 70 3 v (tubesM L t).2.length (tubFlat (tubesM L t).2) ∧ Str w' bs L (tubesM L t).1 ∧ w.grownBy w' (some bs) := by
  have hbs := hs.lt
  have hM : tubesM L t = if nx L (rightTubes L t).1 12 == 0 then ((rightTubes L t).1 + 4, (rightTubes L t).2 ++ [⟨pk L ((rightTubes L t).1 + 1) [0, 5, 10001, 200], pk L ((rightTubes L t).1 + 2) [-1, 0, 5], pk L ((rightTubes L t).1 + 3) [-1, 1001, 5]⟩])
    else ((rightTubes L t).1 + 1, (rightTubes L t).2) := rfl
  have hb := rt_bound L t
  have hR := rightTubes_any bs L t w hs (by omega)
  generalize tubesM L t = M at *
  generalize rightTubes L t = R at *
  have HM := Lib.hid hM
  have HR := Lib.hid hR
  clear hM hR
  go_enter Try.func8, Try.ntmps8
  go_wp2_with fail
  refine HR.out.mono ?_
  rintro e w1 ⟨v, rfl, hown1, hs1, hg1⟩
  go_wp2_with fail
  refine (flip_any bs L _ 12 _ hs1 (by omega) (by omega)).mono ?_
  rintro e w2 ⟨rfl, hs2, hg2⟩
  have hown2 := hown1.kept hg2 (own_ne hown1 hbs)
  have hgg2 := hg1.trans hg2
  by_cases hf : (nx L R.1 12 == 0) = true
  · have hM := HM.out
    rw [if_pos hf] at hM
    rw [hf]
    have HM2 := Lib.hid hM
    clear hM hf
    go_wp2_with fail
    refine (pick_lit bs L _ [0, 5, 10001, 200] _ hs2 (by omega) (by decide) (by decide) 3).mono ?_
    rintro e w3 ⟨rfl, hs3, hg3⟩
    have hown3 := hown2.kept hg3 (own_ne hown2 hbs)
    go_wp2_with fail
    refine (pick_lit bs L _ [-1, 0, 5] _ hs3 (by omega) (by decide) (by decide) 3).mono ?_
    rintro e w4 ⟨rfl, hs4, hg4⟩
    have hown4 := hown3.kept hg4 (own_ne hown3 hbs)
    go_wp2_with fail
    refine (pick_lit bs L _ [-1, 1001, 5] _ hs4 (by omega) (by decide) (by decide) 3).mono ?_
    rintro e w5 ⟨rfl, hs5, hg5⟩
    have hown5 := hown4.kept hg5 (own_ne hown4 hbs)
    have hgg5 := ((hgg2.trans hg3).trans hg4).trans hg5
    have hlen : R.2.length ≤ 1000000000 := by omega
    have hsz := hgg5.size
    go_wp2_with (at_builtin; refine ap_tub w5 ⟨pk L (R.1 + 1) [0, 5, 10001, 200], pk L (R.1 + 1 + 1) [-1, 0, 5], pk L (R.1 + 1 + 1 + 1) [-1, 1001, 5]⟩ rfl _ _ rfl w.heap.size _ R.2 rfl hown5 rfl hlen hsz ?_; intro v6 w6 hown6 hg6)
    go_ret
    have hgg6 := ap_grown hgg5 hown5 hg6 (Nat.le_refl _)
    have hs6 := ap_str hs5 hown5 hg6 hbs
    rw [HM2.out]
    exact ⟨_, rfl, hown6, hs6, hgg6⟩
  · have hf' : (nx L R.1 12 == 0) = false := by simpa using hf
    have hM := HM.out
    rw [if_neg hf] at hM
    rw [hf']
    have HM2 := Lib.hid hM
    clear hM hf hf'
    go_wp2_with fail
    go_ret
    rw [HM2.out]
    exact ⟨_, rfl, hown2, hs2, hgg2⟩

/-- Amount. -/
def amountM (L : List Int) (t : Nat) : Int := pk L (t + 3) [0, 5, 15, 30, 40, 55, 95, 100, 200, 5 * nx L t 60, nx L (t + 1) 300, pk L (t + 2) [7, -1, 20000, 20001]]

set_option maxHeartbeats 400000 in
theorem amount_any (bs : Nat) (L : List Int) (t : Nat) (w : World) (hs : Str w bs L t) (ht : t ≤ 900000) :
    Calls Try.prog 9 #[.pointer (some ⟨bs, 0, none⟩)] w fun e w' => e = .returned (.int .i64 (amountM L t)) ∧ Str w' bs L (t + 4) ∧ w.grownBy w' (some bs) := by
  obtain ⟨n0, n1⟩ := nx_in L t 60 (by omega)
  have w1 : IntKind.i64.wrap (5 * nx L t 60) = 5 * nx L t 60 := IntWalk.i64_in _ (by omega)
  go_enter Try.func9, Try.ntmps9
  go_wp2_with fail
  refine (next_any bs L _ 60 _ hs (by omega) (by omega)).mono ?_
  rintro e w2 ⟨rfl, hs2, hg2⟩
  go_wp2_with fail
  refine (next_any bs L _ 300 _ hs2 (by omega) (by omega)).mono ?_
  rintro e w3 ⟨rfl, hs3, hg3⟩
  go_wp2_with fail
  refine (pick_lit bs L _ [7, -1, 20000, 20001] _ hs3 (by omega) (by decide) (by decide) 3).mono ?_
  rintro e w4 ⟨rfl, hs4, hg4⟩
  go_wp2_with fail
  refine (pick_lit bs L _ [0, 5, 15, 30, 40, 55, 95, 100, 200, 5 * nx L t 60, nx L (t + 1) 300, pk L (t + 1 + 1) [7, -1, 20000, 20001]] _ hs4 (by omega) (by simp) (by simp) 3).mono ?_
  rintro e w5 ⟨rfl, hs5, hg5⟩
  go_wp2_with fail
  go_ret
  exact ⟨rfl, hs5, ((hg2.trans hg3).trans hg4).trans hg5⟩

end Go.Proofs.Ytoaeflegcfecaaa
