/- The walk of RightTubes: tubes made of the stream's numbers. -/
import Derived.Test.YtoaeflegcfecaaaApp
namespace Go.Proofs.Ytoaeflegcfecaaa
open Go.RowKit

def rtVals : List Int := [5, 10, 25, 50, 100]
def rtMosts : List Int := [0, 1, 3, 8, 20]
def rtMost (L : List Int) (t : Nat) : Int := rtMosts.getD (nx L t 5).toNat 0
def rtStep (L : List Int) (s : Nat × List Tub) (v : Int) : Nat × List Tub :=
  if nx L s.1 3 == 0 then (s.1 + 1, s.2)
  else (s.1 + 3, s.2 ++ [⟨v, nx L (s.1 + 1 + 1) (rtMost L (s.1 + 1) + 1), rtMost L (s.1 + 1)⟩])
def rtState (L : List Int) (t j : Nat) : Nat × List Tub := (rtVals.take j).foldl (rtStep L) (t, [])
def rightTubes (L : List Int) (t : Nat) : Nat × List Tub := rtState L t 5

theorem rtState_succ (L : List Int) (t j : Nat) (h : j < 5) : rtState L t (j + 1) = rtStep L (rtState L t j) (rtVals.getD j 0) := by
  have h5 : j < rtVals.length := h
  unfold rtState
  rw [List.take_succ_eq_append_getElem h5, List.foldl_append]
  simp [List.getD, h5]

theorem rtMost_mem (L : List Int) (t : Nat) : 0 ≤ rtMost L t ∧ rtMost L t ≤ 20 := by
  unfold rtMost rtMosts
  have h0 : 0 ≤ nx L t 5 := by unfold nx; split <;> exact belowI_nonneg _ _
  have h1 : nx L t 5 < 5 := by unfold nx; split <;> exact belowI_lt _ _ (by omega)
  obtain ⟨k, hk⟩ := Int.eq_ofNat_of_zero_le h0
  rw [hk] at h1 ⊢
  have : k = 0 ∨ k = 1 ∨ k = 2 ∨ k = 3 ∨ k = 4 := by omega
  rcases this with rfl | rfl | rfl | rfl | rfl <;> simp

theorem rtState_bound (L : List Int) (t j : Nat) (h : j ≤ 5) : (rtState L t j).1 ≤ t + 3 * j ∧ (rtState L t j).2.length ≤ j := by
  induction j with
  | zero => simp [rtState]
  | succ j ih =>
    have := ih (by omega)
    rw [rtState_succ L t j (by omega)]
    unfold rtStep
    split <;> simp <;> omega

theorem pickMost (bs : Nat) (L : List Int) (t : Nat) (w : World) (hs : Str w bs L t) (ht : t ≤ 1000000) :
    Calls Try.prog 21 #[.pointer (some ⟨bs, 0, none⟩), .slice (some ⟨w.heap.size, 0, none⟩) 5 5] (w.alloc (.cells #[.int .i64 0, .int .i64 1, .int .i64 3, .int .i64 8, .int .i64 20] 3))
      fun e w' => e = .returned (.int .i64 (rtMost L t)) ∧ Str w' bs L (t + 1) ∧ w.grownBy w' (some bs) := by
  have hlt := hs.lt
  have h := pick_any bs L t (some ⟨w.heap.size, 0, none⟩) 5 rtMosts _ (hs.grown (grown_alloc (grown_refl w) (.cells #[.int .i64 0, .int .i64 1, .int .i64 3, .int .i64 8, .int .i64 20] 3)) (by simp)) ht (by decide) (by decide) (rd_new w rtMosts _)
    (by intro a e; cases e; simp; omega)
  exact h.mono fun e w' ⟨he, h1, h2⟩ => ⟨he, h1, (grown_alloc (World.grownBy.refl w _) _).trans h2⟩

set_option maxHeartbeats 400000 in
theorem rightTubes_any (bs : Nat) (L : List Int) (t : Nat) (w : World) (hs : Str w bs L t) (ht : t ≤ 900000) :
    Calls Try.prog 40 #[.pointer (some ⟨bs, 0, none⟩)] w
      fun e w' => ∃ v, e = .returned v ∧ w'.ownsRow w.heap.size 70 3 v (rightTubes L t).2.length (tubFlat (rightTubes L t).2) ∧ Str w' bs L (rightTubes L t).1 ∧ w.grownBy w' (some bs) := by
  have hbs := hs.lt
  go_enter Try.func40, Try.ntmps40
  go_wp2_with fail
  have hs1 : Str (w.alloc (.cells #[.int .i64 5, .int .i64 10, .int .i64 25, .int .i64 50, .int .i64 100] 3)) bs L t := hs.grown (grown_alloc (grown_refl w) _) (by simp)
  have hv1 : ∀ j, j < 5 → (w.alloc (.cells #[.int .i64 5, .int .i64 10, .int .i64 25, .int .i64 50, .int .i64 100] 3)).cell? ⟨w.heap.size, j, none⟩ = some (.int .i64 (rtVals.getD j 0)) := by
    intro j hj
    rw [World.cell?_alloc_new]
    have : j = 0 ∨ j = 1 ∨ j = 2 ∨ j = 3 ∨ j = 4 := by omega
    rcases this with rfl | rfl | rfl | rfl | rfl <;> rfl
  have hz : (w.alloc (.cells #[.int .i64 5, .int .i64 10, .int .i64 25, .int .i64 50, .int .i64 100] 3)).heap.size = w.heap.size + 1 := by simp
  have hgw : w.grownBy (w.alloc (.cells #[.int .i64 5, .int .i64 10, .int .i64 25, .int .i64 50, .int .i64 100] 3)) (some bs) := grown_alloc (World.grownBy.refl w _) _
  generalize w.alloc (.cells #[.int .i64 5, .int .i64 10, .int .i64 25, .int .i64 50, .int .i64 100] 3) = w0 at *
  go_loopg [3, 9] 5 (fun k v i wr => ∃ j : Nat, k + j = 5 ∧ i = .int .i64 j ∧ wr.ownsRow w0.heap.size 70 3 v (rtState L t j).2.length (tubFlat (rtState L t j).2) ∧ Str wr bs L (rtState L t j).1 ∧ w0.grownBy wr (some bs))
  case atStart => exact ⟨0, by omega, rfl, World.ownsRow_nil _ _ _ _, hs1, World.grownBy.refl _ _⟩
  case round =>
    obtain ⟨j, hj, rfl, hown, hst, hg⟩ := hrel
    by_cases hlt : j < 5
    · have hc := hg.cell (a := ⟨w.heap.size, j, none⟩) (hv1 j hlt) (by simp; omega)
      have hb := rtState_bound L t j (by omega)
      have hsucc := rtState_succ L t j hlt
      have hm := rtMost_mem L ((rtState L t j).1 + 1)
      generalize rtState L t j = st at *
      generalize hvv : rtVals.getD j 0 = vv at *
      have HS := Lib.hid hsucc
      have HV := Lib.hid hvv
      have HJ := Lib.hid hj
      have HZ := Lib.hid hz
      clear hsucc hvv hj hz hv1 hs1 hgw
      go_wp2_with fail
      refine (flip_any bs L _ 3 _ hst (by omega) (by omega)).mono ?_
      rintro e w1 ⟨rfl, hst1, hg1⟩
      have hown1 := hown.kept hg1 (own_ne hown (by have := HZ.out; omega))
      have hgg1 := hg.trans hg1
      by_cases hf : (nx L st.1 3 == 0) = true
      · go_wp2_with fail
        have hj := HJ.out
        have hst' : rtState L t (j + 1) = (st.1 + 1, st.2) := by rw [HS.out]; simp [rtStep, hf]
        go_roundg (gk - 1)
        case measure => omega
        case rel => exact ⟨j + 1, by omega, by go_num, by rw [hst']; exact hown1, by rw [hst']; exact hst1, hgg1⟩
      · have hf' : (nx L st.1 3 == 0) = false := by simpa using hf
        have hst' : rtState L t (j + 1) = (st.1 + 3, st.2 ++ [⟨vv, nx L (st.1 + 1 + 1) (rtMost L (st.1 + 1) + 1), rtMost L (st.1 + 1)⟩]) := by rw [HS.out]; simp only [rtStep, hf']; rfl
        have HT := Lib.hid hst'
        clear hst' hf
        go_wp2_with fail
        refine (pickMost bs L _ _ hst1 (by omega)).mono ?_
        rintro e w2 ⟨rfl, hst2, hg2⟩
        have hown2 := hown1.kept hg2 (own_ne hown1 (by have := HZ.out; omega))
        have hgg2 := hgg1.trans hg2
        go_wp2_with fail
        refine (next_any bs L _ _ _ hst2 (by omega) (by omega)).mono ?_
        rintro e w3 ⟨rfl, hst3, hg3⟩
        have hown3 := hown2.kept hg3 (own_ne hown2 (by have := HZ.out; omega))
        have hgg3 := hgg2.trans hg3
        go_wp2_with (at_builtin; refine ap_tub w3 ⟨vv, nx L (st.1 + 1 + 1) (rtMost L (st.1 + 1) + 1), rtMost L (st.1 + 1)⟩ rfl _ _ rfl w0.heap.size _ st.2 rfl hown3 rfl (by omega) hgg3.size ?_; intro v4 w4 hown4 hg4)
        have hj := HJ.out
        have hz := HZ.out
        have hgg4 := ap_grown hgg3 hown3 hg4 (Nat.le_refl _)
        have hst4 := ap_str hst3 hown3 hg4 (by omega)
        go_roundg (gk - 1)
        case measure => omega
        case rel =>
          refine ⟨j + 1, by omega, by go_num, ?_, by rw [HT.out]; exact hst4, hgg4⟩
          rw [HT.out]
          exact hown4
    · obtain rfl : j = 5 := by omega
      go_wp2_with fail
      go_ret
      exact ⟨_, rfl, own_mono hown (by have := hgw.size; omega), hst, hgw.trans hg⟩

end Go.Proofs.Ytoaeflegcfecaaa
