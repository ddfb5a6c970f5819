/- The walks of the stream's RightLots, Lots, Product, Day. -/
import Derived.Test.YtidfhgpjpieajaaDoorLot
import Derived.Test.YtidfhgpjpieajaaDoorOne
namespace Go.Proofs.YtidfhgpjpieajaaDoor
open Go.RowKit
variable {Q : Nat → Prop}

def bLa : ByteArray := ⟨#[108, 97]⟩
def bLb : ByteArray := ⟨#[108, 98]⟩
def bLc : ByteArray := ⟨#[108, 99]⟩
def bLd : ByteArray := ⟨#[108, 100]⟩
def bLe : ByteArray := ⟨#[108, 101]⟩
def sCan : ByteArray := ⟨#[99, 97, 110]⟩
def sBar : ByteArray := ⟨#[98, 97, 114]⟩

def rlIds : List ByteArray := [bLa, bLb, bLc, bLd, bLe]
def rlNew (L : List Int) (t : Nat) (v : ByteArray) : Lot := ⟨v, pkS L (t + 1) [sCan, sCan, sBar], pk L (t + 1 + 1) [3, 5, 5, 7, 9, 20], pk L (t + 1 + 1 + 1) [0, 1, 3, 5, 8]⟩
def rlStep (L : List Int) (s : Nat × List Lot) (v : ByteArray) : Nat × List Lot := if nx L s.1 4 == 0 then (s.1 + 1, s.2) else (s.1 + 4, s.2 ++ [rlNew L s.1 v])
def rlState (L : List Int) (t j : Nat) : Nat × List Lot := (rlIds.take j).foldl (rlStep L) (t, [])
def rightLots (L : List Int) (t : Nat) : Nat × List Lot := rlState L t 5
theorem rlState_succ (L : List Int) (t j : Nat) (h : j < 5) : rlState L t (j + 1) = rlStep L (rlState L t j) (rlIds.getD j ByteArray.empty) := by
  have h5 : j < rlIds.length := h
  unfold rlState
  rw [List.take_succ_eq_append_getElem h5, List.foldl_append]
  simp [List.getD, h5]
theorem rlState_bound (L : List Int) (t j : Nat) (h : j ≤ 5) : (rlState L t j).1 ≤ t + 4 * j ∧ (rlState L t j).2.length ≤ j := by
  induction j with
  | zero => simp [rlState]
  | succ j ih =>
    have := ih (by omega)
    rw [rlState_succ L t j (by omega)]
    unfold rlStep
    split <;> simp <;> omega

set_option maxRecDepth 100000 in
set_option maxHeartbeats 1000000 in
theorem rightLots_any (bs : Nat) (L : List Int) (t : Nat) (w : World) (hs : StrQ Q w bs L t) (ht : t ≤ 900000) :
    Calls Tryd.prog 39 #[.pointer (some ⟨bs, 0, none⟩)] w
      fun e w' => ∃ v, e = .returned v ∧ w'.ownsRow w.heap.size 51 4 v (rightLots L t).2.length (lotFlat (rightLots L t).2) ∧ StrQ Q w' bs L (rightLots L t).1 ∧ w.grownBy w' (some bs) := by
  have hbs := hs.lt
  go_enter Tryd.func39, Tryd.ntmps39
  go_wp2_with fail
  have hs1 : StrQ Q (w.alloc (.cells #[.string bLa, .string bLb, .string bLc, .string bLd, .string bLe] 9)) bs L t := hs.grown (grown_alloc (grown_refl w) _) (by simp)
  have hv1 : ∀ j, j < 5 → (w.alloc (.cells #[.string bLa, .string bLb, .string bLc, .string bLd, .string bLe] 9)).cell? ⟨w.heap.size, j, none⟩ = some (.string (rlIds.getD j ByteArray.empty)) := by
    intro j hj
    rw [World.cell?_alloc_new]
    have : j = 0 ∨ j = 1 ∨ j = 2 ∨ j = 3 ∨ j = 4 := by omega
    rcases this with rfl | rfl | rfl | rfl | rfl <;> rfl
  have hz : (w.alloc (.cells #[.string bLa, .string bLb, .string bLc, .string bLd, .string bLe] 9)).heap.size = w.heap.size + 1 := by simp
  have hgw : w.grownBy (w.alloc (.cells #[.string bLa, .string bLb, .string bLc, .string bLd, .string bLe] 9)) (some bs) := grown_alloc (World.grownBy.refl w _) _
  unfold bLa bLb bLc bLd bLe at hs1 hv1 hz hgw
  generalize w.alloc (.cells #[.string ⟨#[108, 97]⟩, .string ⟨#[108, 98]⟩, .string ⟨#[108, 99]⟩, .string ⟨#[108, 100]⟩, .string ⟨#[108, 101]⟩] 9) = w0 at *
  go_loopg [3, 8] 5 (fun k v i wr => ∃ j : Nat, k + j = 5 ∧ i = .int .i64 j ∧ wr.ownsRow w0.heap.size 51 4 v (rlState L t j).2.length (lotFlat (rlState L t j).2) ∧ StrQ Q wr bs L (rlState L t j).1 ∧ w0.grownBy wr (some bs))
  case atStart => exact ⟨0, by omega, rfl, World.ownsRow_nil _ _ _ _, hs1, World.grownBy.refl _ _⟩
  case round =>
    obtain ⟨j, hj, rfl, hown, hst, hg⟩ := hrel
    by_cases hlt : j < 5
    · have hc := hg.cell (a := ⟨w.heap.size, j, none⟩) (hv1 j hlt) (by simp; omega)
      have hb := rlState_bound L t j (by omega)
      have hsucc := rlState_succ L t j hlt
      generalize rlState L t j = st at *
      generalize hvv : rlIds.getD j ByteArray.empty = vv at *
      have HS := Lib.hid hsucc
      have HJ := Lib.hid hj
      have HZ := Lib.hid hz
      clear hsucc hvv hj hz hv1 hs1 hgw
      go_wp2_with fail
      refine (flip_any bs L _ 4 _ hst (by omega) (by omega)).mono ?_
      rintro e w1 ⟨rfl, hst1, hg1⟩
      have hown1 := hown.kept hg1 (own_ne hown (by have := HZ.out; omega))
      have hgg1 := hg.trans hg1
      by_cases hf : (nx L st.1 4 == 0) = true
      · go_wp2_with fail
        have hj := HJ.out
        have hst' : rlState L t (j + 1) = (st.1 + 1, st.2) := by rw [HS.out]; simp [rlStep, hf]
        go_roundg (gk - 1)
        case measure => omega
        case rel => exact ⟨j + 1, by omega, by go_num, by rw [hst']; exact hown1, by rw [hst']; exact hst1, hgg1⟩
      · have hf' : (nx L st.1 4 == 0) = false := by simpa using hf
        have hst' : rlState L t (j + 1) = (st.1 + 4, st.2 ++ [rlNew L st.1 vv]) := by rw [HS.out]; simp only [rlStep, hf']; rfl
        have HT := Lib.hid hst'
        clear hst' hf
        go_wp2_with fail
        refine (one_lit bs L _ [sCan, sCan, sBar] _ hst1 (by omega) (by decide) (by decide) 9).mono ?_
        rintro e w2 ⟨rfl, hst2, hg2⟩
        have hown2 := hown1.kept hg2 (own_ne hown1 (by have := HZ.out; omega))
        have hgg2 := hgg1.trans hg2
        go_wp2_with fail
        refine (pick_lit bs L _ [3, 5, 5, 7, 9, 20] _ hst2 (by omega) (by decide) (by decide) 3).mono ?_
        rintro e w3 ⟨rfl, hst3, hg3⟩
        have hown3 := hown2.kept hg3 (own_ne hown2 (by have := HZ.out; omega))
        have hgg3 := hgg2.trans hg3
        go_wp2_with fail
        refine (pick_lit bs L _ [0, 1, 3, 5, 8] _ hst3 (by omega) (by decide) (by decide) 3).mono ?_
        rintro e w4 ⟨rfl, hst4, hg4⟩
        have hown4 := hown3.kept hg4 (own_ne hown3 (by have := HZ.out; omega))
        have hgg4 := hgg3.trans hg4
        go_wp2_with (at_builtin; refine ap_lot w4 (rlNew L st.1 vv) rfl _ _ rfl w0.heap.size _ st.2 rfl hown4 rfl (by omega) hgg4.size ?_; intro v5 w5 hown5 hg5)
        have hj := HJ.out
        have hz := HZ.out
        have hgg5 := ap_grown hgg4 hown4 hg5 (Nat.le_refl _)
        have hst5 := ap_str hst4 hown4 hg5 (by omega)
        go_roundg (gk - 1)
        case measure => omega
        case rel =>
          refine ⟨j + 1, by omega, by go_num, ?_, by rw [HT.out]; exact hst5, hgg5⟩
          rw [HT.out]
          exact hown5
    · obtain rfl : j = 5 := by omega
      go_wp2_with fail
      go_ret
      exact ⟨_, rfl, own_mono hown (by have := hgw.size; omega), hst, hgw.trans hg⟩

def sZ : ByteArray := ⟨#[122]⟩
def sCc : ByteArray := ⟨#[67]⟩
def sPie : ByteArray := ⟨#[112, 105, 101]⟩
/-- Lots, mostly right ones. -/
def lotsX (L : List Int) (t : Nat) : Lot := ⟨pkS L (t + 1) [ByteArray.empty, bLa, sZ], pkS L (t + 1 + 1) [ByteArray.empty, sCan], pk L (t + 1 + 1 + 1) [-1, 5, 4001], pk L (t + 1 + 1 + 1 + 1) [-1, 5, 100001]⟩
def lotsM (L : List Int) (t : Nat) : Nat × List Lot := if nx L (rightLots L t).1 15 == 0 then ((rightLots L t).1 + 5, (rightLots L t).2 ++ [lotsX L (rightLots L t).1]) else ((rightLots L t).1 + 1, (rightLots L t).2)
theorem lotsM_bound (L : List Int) (t : Nat) : (lotsM L t).1 ≤ t + 25 ∧ (lotsM L t).2.length ≤ 6 := by
  have := rlState_bound L t 5 (by omega)
  unfold lotsM rightLots
  split <;> simp <;> omega

set_option maxRecDepth 100000 in
set_option maxHeartbeats 1000000 in
theorem lots_any (bs : Nat) (L : List Int) (t : Nat) (w : World) (hs : StrQ Q w bs L t) (ht : t ≤ 800000) :
    Calls Tryd.prog 8 #[.pointer (some ⟨bs, 0, none⟩)] w
      fun e w' => ∃ v, e = .returned v ∧ w'.ownsRow w.heap.size 51 4 v (lotsM L t).2.length (lotFlat (lotsM L t).2) ∧ StrQ Q w' bs L (lotsM L t).1 ∧ w.grownBy w' (some bs) := by
  have hbs := hs.lt
  have hb := rlState_bound L t 5 (by omega)
  obtain ⟨M, hM⟩ : ∃ M, lotsM L t = M := ⟨_, rfl⟩
  rw [hM]
  unfold lotsM at hM
  have hrl := rightLots_any bs L t w hs (by omega)
  have hb1 : (rightLots L t).1 ≤ t + 20 := hb.1
  have hb2 : (rightLots L t).2.length ≤ 5 := hb.2
  generalize rightLots L t = R at *
  have HM := Lib.hid (And.intro hM hrl)
  clear hM hrl hb
  go_enter Tryd.func8, Tryd.ntmps8
  go_wp2_with fail
  refine HM.out.2.mono ?_
  rintro e w1 ⟨v1, rfl, hown1, hst1, hg1⟩
  go_wp2_with fail
  refine (flip_any bs L _ 15 _ hst1 (by omega) (by omega)).mono ?_
  rintro e w2 ⟨rfl, hst2, hg2⟩
  have hown2 := hown1.kept hg2 (own_ne hown1 hbs)
  have hgg2 := hg1.trans hg2
  by_cases hf : (nx L R.1 15 == 0) = true
  · have hM2 := HM.out.1
    rw [if_pos hf] at hM2
    subst hM2
    go_wp2_with fail
    refine (one_lit bs L _ [ByteArray.empty, bLa, sZ] _ hst2 (by omega) (by decide) (by decide) 9).mono ?_
    rintro e w3 ⟨rfl, hst3, hg3⟩
    have hown3 := hown2.kept hg3 (own_ne hown2 hbs)
    have hgg3 := hgg2.trans hg3
    go_wp2_with fail
    refine (one_lit bs L _ [ByteArray.empty, sCan] _ hst3 (by omega) (by decide) (by decide) 9).mono ?_
    rintro e w4 ⟨rfl, hst4, hg4⟩
    have hown4 := hown3.kept hg4 (own_ne hown3 hbs)
    have hgg4 := hgg3.trans hg4
    go_wp2_with fail
    refine (pick_lit bs L _ [-1, 5, 4001] _ hst4 (by omega) (by decide) (by decide) 3).mono ?_
    rintro e w5 ⟨rfl, hst5, hg5⟩
    have hown5 := hown4.kept hg5 (own_ne hown4 hbs)
    have hgg5 := hgg4.trans hg5
    go_wp2_with fail
    refine (pick_lit bs L _ [-1, 5, 100001] _ hst5 (by omega) (by decide) (by decide) 3).mono ?_
    rintro e w6 ⟨rfl, hst6, hg6⟩
    have hown6 := hown5.kept hg6 (own_ne hown5 hbs)
    have hgg6 := hgg5.trans hg6
    go_wp2_with (at_builtin; refine ap_lot w6 (lotsX L R.1) rfl _ _ rfl w.heap.size _ R.2 rfl hown6 rfl (by omega) hgg6.size ?_; intro v7 w7 hown7 hg7)
    have hgg7 := ap_grown hgg6 hown6 hg7 (Nat.le_refl _)
    have hst7 := ap_str hst6 hown6 hg7 hbs
    go_ret
    rw [List.length_append] at hown7
    exact ⟨_, rfl, hown7, hst7, hgg7⟩
  · have hM2 := HM.out.1
    rw [if_neg hf] at hM2
    subst hM2
    have hf' : (nx L R.1 15 == 0) = false := by simpa using hf
    clear hf
    go_wp2_with fail
    go_ret
    exact ⟨_, rfl, hown2, hst2, hgg2⟩

def dayM (L : List Int) (t : Nat) : Int := pk L (t + 1) [0, 2, 3, 5, 6, 8, pk L t [4, -1, 4000, 4001]]
set_option maxRecDepth 100000 in
theorem day_any (bs : Nat) (L : List Int) (t : Nat) (w : World) (hs : StrQ Q w bs L t) (ht : t ≤ 900000) :
    Calls Tryd.prog 10 #[.pointer (some ⟨bs, 0, none⟩)] w
      fun e w' => e = .returned (.int .i64 (dayM L t)) ∧ StrQ Q w' bs L (t + 1 + 1) ∧ w.grownBy w' (some bs) := by
  go_enter Tryd.func10, Tryd.ntmps10
  go_wp2_with fail
  refine (pick_lit bs L t [4, -1, 4000, 4001] _ hs (by omega) (by decide) (by decide) 3).mono ?_
  rintro e w1 ⟨rfl, hst1, hg1⟩
  go_wp2_with fail
  refine (pick_lit bs L _ [0, 2, 3, 5, 6, 8, pk L t [4, -1, 4000, 4001]] _ hst1 (by omega) (by simp) (by simp) 3).mono ?_
  rintro e w2 ⟨rfl, hst2, hg2⟩
  go_wp2_with fail
  go_ret
  exact ⟨rfl, hst2, hg1.trans hg2⟩

def prodM (L : List Int) (t : Nat) : ByteArray := pkS L t [sCan, sCan, sCan, sBar, sPie, ByteArray.empty, sCc]
set_option maxRecDepth 100000 in
theorem product_any (bs : Nat) (L : List Int) (t : Nat) (w : World) (hs : StrQ Q w bs L t) (ht : t ≤ 900000) :
    Calls Tryd.prog 9 #[.pointer (some ⟨bs, 0, none⟩)] w
      fun e w' => e = .returned (.string (prodM L t)) ∧ StrQ Q w' bs L (t + 1) ∧ w.grownBy w' (some bs) := by
  go_enter Tryd.func9, Tryd.ntmps9
  go_wp2_with fail
  refine (one_lit bs L t [sCan, sCan, sCan, sBar, sPie, ByteArray.empty, sCc] _ hs (by omega) (by decide) (by decide) 9).mono ?_
  rintro e w1 ⟨rfl, hst1, hg1⟩
  go_wp2_with fail
  go_ret
  exact ⟨rfl, hst1, hg1⟩

end Go.Proofs.YtidfhgpjpieajaaDoor
