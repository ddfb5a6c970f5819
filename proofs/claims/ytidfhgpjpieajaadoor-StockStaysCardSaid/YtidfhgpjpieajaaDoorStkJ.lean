/- The walks of package stock's Push and Room. -/
import Derived.Test.YtidfhgpjpieajaaDoorStkI
import Derived.Test.YtidfhgpjpieajaaDoorRes
namespace Go.Proofs.YtidfhgpjpieajaaDoor
open Go.RowKit

theorem pushF_ok {L : List Lot} {C : Coil} {P : List Pc} (h : pushF L C P = 0) : lotsF L = 0 ∧ coilF C = 0 ∧ (∀ t ∈ P, PcOk t) ∧ (∀ t ∈ P, lkF L C.pr t = 0) ∧ numP C.ps + numP P ≤ C.most := by
  unfold pushF at h
  by_cases h1 : lotsF L = 0
  · rw [if_neg (by omega)] at h
    by_cases h2 : coilF C = 0
    · rw [if_neg (by omega)] at h
      by_cases h3 : pcsF L C.pr P = 0
      · rw [if_neg (by omega)] at h
        by_cases h4 : C.most < numP C.ps + numP P
        · rw [if_pos h4] at h; cases h
        · have hz := pcsF_zero.2 h3
          exact ⟨h1, h2, fun t ht => lkF_ok (lots_ok h1).2.1 (hz t ht), hz, by omega⟩
      · rw [if_pos h3] at h; exact absurd h h3
    · rw [if_pos h2] at h; exact absurd h h2
  · rw [if_pos h1] at h; exact absurd h h1

set_option maxHeartbeats 1000000 in
theorem push_bad (L : List Lot) (C : Coil) (P : List Pc) (A B D : Option Addr) (c cl n cp : Nat) (w : World) (hr : Rd w 2 A C.ps.length (pcFlat C.ps)) (hlen : C.ps.length ≤ 1000000) (hL : Rd w 4 B L.length (lotFlat L)) (hp : Rd w 2 D n (pcFlat P)) (hn : n ≤ 1000000)
    (hx : ∀ t ∈ P, t.lot.size ≤ maxLen) (hF : pushF L C P ≠ 0) :
    Calls Tryd.prog 49 #[.agg #[.string C.pr, .int .i64 C.most, .slice A C.ps.length c], .slice B L.length cl, .slice D n cp] w
      fun e w' => e = .returned (.tuple #[.agg #[.string ByteArray.empty, .int .i64 0, .slice none 0 0], .int .i64 (pushF L C P)]) ∧ w.grownBy w' none := by
  have hg0 := grown_alloc (grown_refl w) (.cells #[.string C.pr, .int .i64 C.most, .slice A C.ps.length c] 58)
  have hB := Blk.new w 58 #[.string C.pr, .int .i64 C.most, .slice A C.ps.length c]
  have hR := Blk.new (w.alloc (.cells #[.string C.pr, .int .i64 C.most, .slice A C.ps.length c] 58)) 58 #[.string ByteArray.empty, .int .i64 0, .slice none 0 0]
  rw [show (w.alloc (.cells #[.string C.pr, .int .i64 C.most, .slice A C.ps.length c] 58)).heap.size = w.heap.size + 1 from by simp] at hR
  have hB1 := hB.alloc (.cells #[.string ByteArray.empty, .int .i64 0, .slice none 0 0] 58)
  have hg1 := grown_alloc hg0 (.cells #[.string ByteArray.empty, .int .i64 0, .slice none 0 0] 58)
  have hck := checkPush_any L C P A B D c cl n cp _ (hr.grown hg1) hlen (hL.grown hg1) (hp.grown hg1) hn hx
  have k0 := hB1.three
  generalize pushF L C P = V at *
  have hV : (V != 0) = true := by rw [bne_iff_ne]; exact hF
  have HC := Lib.hid (And.intro hck (And.intro hR hg1))
  clear hck hR hg1 hB hB1 hg0 hF hr hL hp
  go_enter Tryd.func49, Tryd.ntmps49
  go_wp2_with fail
  refine HC.out.1.mono ?_
  rintro e w1 ⟨rfl, hg2⟩
  have hR1 := HC.out.2.1.grown hg2 (by simp)
  have k1 := hR1.three
  have hfin := res_coil hR1 (.string ByteArray.empty) (.int .i64 0) (.slice none 0 0)
  have hgf := grown_set (grown_set (grown_set (HC.out.2.2.trans hg2) (p := ⟨w.heap.size + 1, 0, none⟩) (.inl (by simp)) (.string ByteArray.empty)) (p := ⟨w.heap.size + 1, 1, none⟩) (.inl (by simp)) (.int .i64 0)) (p := ⟨w.heap.size + 1, 2, none⟩) (.inl (by simp)) (.slice none 0 0)
  have HF := Lib.hid (And.intro hfin.1 hgf)
  clear hfin hgf hR1 hg2
  go_wp2_with fail
  refine bodyPost_ret (results_row_tmp rfl _ _ (w.heap.size + 1) _ _ _ _ rfl HF.out.1 Tryd.underlying58 rfl (by kernel_rfl)) rfl ?_
  exact ⟨rfl, HF.out.2⟩

set_option maxRecDepth 100000 in
set_option maxHeartbeats 2000000 in
theorem push_ok (L : List Lot) (C : Coil) (P : List Pc) (A B D : Option Addr) (c cl n cp : Nat) (w : World) (hr : Rd w 2 A C.ps.length (pcFlat C.ps)) (hL : Rd w 4 B L.length (lotFlat L)) (hp : Rd w 2 D n (pcFlat P)) (hn : n ≤ 1000) (hA : A = none → c = 0) (hD : D = none → cp = 0)
    (hx : ∀ t ∈ P, t.lot.size ≤ maxLen) (hF : pushF L C P = 0) :
    Calls Tryd.prog 49 #[.agg #[.string C.pr, .int .i64 C.most, .slice A C.ps.length c], .slice B L.length cl, .slice D n cp] w
      fun e w' => ∃ A' c', e = .returned (.tuple #[.agg #[.string C.pr, .int .i64 C.most, .slice A' (refillP (C.ps ++ P)).length c'], .int .i64 0]) ∧
        w'.ownsRow w.heap.size 54 2 (.slice A' (refillP (C.ps ++ P)).length c') (refillP (C.ps ++ P)).length (pcFlat (refillP (C.ps ++ P))) ∧ w.grownBy w' none := by
  obtain ⟨h1, h2, h3, _, _⟩ := pushF_ok hF
  obtain ⟨_, hmost, hlen, _, hpok, hsum⟩ := coil_ok h2
  have hpl : P.length = n := by have := hp.1; rw [pcFlat_len] at this; omega
  have hmn : ∀ t ∈ C.ps ++ P, 0 ≤ t.mn ∧ t.mn ≤ 1000 := by
    intro t ht
    rcases List.mem_append.1 ht with ht | ht
    · have := (hpok t ht).2; omega
    · have := (h3 t ht).2; omega
  have hal : (C.ps ++ P).length ≤ 1000000 := by rw [List.length_append]; omega
  have hg0 := grown_alloc (grown_refl w) (.cells #[.string C.pr, .int .i64 C.most, .slice A C.ps.length c] 58)
  have hB := Blk.new w 58 #[.string C.pr, .int .i64 C.most, .slice A C.ps.length c]
  have hR := Blk.new (w.alloc (.cells #[.string C.pr, .int .i64 C.most, .slice A C.ps.length c] 58)) 58 #[.string ByteArray.empty, .int .i64 0, .slice none 0 0]
  rw [show (w.alloc (.cells #[.string C.pr, .int .i64 C.most, .slice A C.ps.length c] 58)).heap.size = w.heap.size + 1 from by simp] at hR
  have hB1 := hB.alloc (.cells #[.string ByteArray.empty, .int .i64 0, .slice none 0 0] 58)
  have hg1 := grown_alloc hg0 (.cells #[.string ByteArray.empty, .int .i64 0, .slice none 0 0] 58)
  have hck := checkPush_any L C P A B D c cl n cp _ (hr.grown hg1) (by omega) (hL.grown hg1) (hp.grown hg1) (by omega) hx
  have k0 := hB1.three
  rw [hF] at hck
  have hcon : ∀ w0 g (_ : w.grownBy w0 none) (_ : w0.cell? ⟨g, 0, none⟩ = some (.slice A C.ps.length c)) (_ : w0.cell? ⟨g, 1, none⟩ = some (.slice D n cp)), Calls Tryd.prog 96 #[.slice (some ⟨g, 0, none⟩) 2 2] w0
      fun e w' => ∃ A' c', e = .returned (.slice A' (C.ps ++ P).length c') ∧ Rd w' 2 A' (C.ps ++ P).length (pcFlat (C.ps ++ P)) ∧ w0.grownBy w' none := by
    intro w0 g h c0 c1
    refine (concatP_any A D C.ps.length c n cp g C.ps P _ c0 c1 (hr.grown h) (hp.grown h) hA hD (by omega) hn).mono ?_
    rintro e w' ⟨v, rfl, hown, hg⟩
    obtain ⟨A', c', rfl, _, _, hrd, _⟩ := Rd.of_own hown
    exact ⟨A', c', rfl, hrd, hg⟩
  have href : ∀ w1 A' c' (_ : Rd w1 2 A' (C.ps ++ P).length (pcFlat (C.ps ++ P))), Calls Tryd.prog 95 #[.agg #[.string C.pr, .int .i64 C.most, .slice A C.ps.length c], .slice A' (C.ps ++ P).length c'] w1
      fun e w' => ∃ A'' c'', e = .returned (.agg #[.string C.pr, .int .i64 C.most, .slice A'' (refillP (C.ps ++ P)).length c'']) ∧ w'.ownsRow w1.heap.size 54 2 (.slice A'' (refillP (C.ps ++ P)).length c'') (refillP (C.ps ++ P)).length (pcFlat (refillP (C.ps ++ P))) ∧ w1.grownBy w' none :=
    fun w1 A' c' h => refill_any C.pr C.most A C.ps.length c A' (C.ps ++ P).length c' (C.ps ++ P) w1 h hal hmn
  obtain ⟨pr, most, ps⟩ := C
  simp only at *
  generalize ps ++ P = Z at *
  generalize hm : ps.length = m at *
  have HC := Lib.hid (And.intro hck (And.intro hR (And.intro hg1 (And.intro hB1 (And.intro hcon href)))))
  clear hck hR hg1 hB hB1 hg0 hF hr hL hp hcon href hmn hx hpok h3 h1 h2 hsum
  go_enter Tryd.func49, Tryd.ntmps49
  go_wp2_with fail
  refine HC.out.1.mono ?_
  rintro e w1 ⟨rfl, hg2⟩
  have hB2 := HC.out.2.2.2.1.grown hg2 (by simp)
  have hR2 := HC.out.2.1.grown hg2 (by simp)
  have hgA := HC.out.2.2.1.trans hg2
  have hl1 := hR2.lt
  have hc0 : ∀ wz : World, (wz.alloc (.cells #[.slice A m c, .slice D n cp] 36)).cell? ⟨wz.heap.size, 0, none⟩ = some (.slice A m c) := fun wz => by rw [World.cell?_alloc_new]; rfl
  have hc1 : ∀ wz : World, (wz.alloc (.cells #[.slice A m c, .slice D n cp] 36)).cell? ⟨wz.heap.size, 1, none⟩ = some (.slice D n cp) := fun wz => by rw [World.cell?_alloc_new]; rfl
  have HW := Lib.hid (And.intro hB2 (And.intro hR2 (And.intro hgA (And.intro hc0 hc1))))
  have hl0 : w.heap.size < w1.heap.size := by omega
  obtain ⟨k10, k11, k12, _⟩ := hB2.three
  clear hB2 hR2 hgA hg2 hc0 hc1
  go_wp2_with fail
  go_region_law (first
    | (go_simp; go_at_call 96; refine (HC.out.2.2.2.2.1 _ _ (by first | exact grown_drew (grown_alloc HW.out.2.2.1 _) | exact grown_alloc (grown_drew HW.out.2.2.1) _) (by first | exact HW.out.2.2.2.1 w1 | exact HW.out.2.2.2.1 w1.drew) (by first | exact HW.out.2.2.2.2 w1 | exact HW.out.2.2.2.2 w1.drew)).mono ?_; rintro e w4 ⟨A4, c4, rfl, hrd4, hg4⟩; dsimp only; have hgx : w1.grownBy w4 none := by { first | exact (grown_drew (grown_alloc (grown_refl w1) _)).trans hg4 | exact (grown_alloc (grown_drew (grown_refl w1)) _).trans hg4 }; have HX := Lib.hid (And.intro (HW.out.1.grown hgx (by simp)) (And.intro (HW.out.2.1.grown hgx (by simp)) (HW.out.2.2.1.trans hgx))); obtain ⟨k40, k41, k42, _⟩ := HX.out.1.three)
    | (go_simp; go_at_call 95; refine (HC.out.2.2.2.2.2 _ _ _ hrd4).mono ?_; rintro e w5 ⟨A5, c5, rfl, hown5, hg5⟩; dsimp only; have hR5 := HX.out.2.1.grown hg5 (by simp); obtain ⟨k50, k51, k52, f50, f51, f52⟩ := hR5.three))
  all_goals (
    have hfin := res_coil hR5 (.string pr) (.int .i64 most) (.slice A5 (refillP Z).length c5)
    have hne := own_bx0 hown5 hR5 (by decide)
    have hof := own_mono2 (hown5.kept hfin.2 (.inr hne.symm)) HX.out.2.2.size
    have hgf := grown_set (grown_set (grown_set (HX.out.2.2.trans hg5) (p := ⟨w.heap.size + 1, 0, none⟩) (.inl (by simp)) (.string pr)) (p := ⟨w.heap.size + 1, 1, none⟩) (.inl (by simp)) (.int .i64 most)) (p := ⟨w.heap.size + 1, 2, none⟩) (.inl (by simp)) (.slice A5 (refillP Z).length c5)
    have HF := Lib.hid (And.intro hfin.1 (And.intro hof hgf))
    clear hfin hne hof hgf hown5 hg5 hR5
    go_wp2_with fail
    refine bodyPost_ret (results_row_tmp rfl _ _ (w.heap.size + 1) _ _ _ _ rfl HF.out.1 Tryd.underlying58 rfl (by kernel_rfl)) rfl ?_
    exact ⟨_, _, rfl, HF.out.2.1, HF.out.2.2⟩)

/-- How many units have room. -/
def roomF (C : Coil) : Int := if coilF C ≠ 0 then 0 else C.most - numP C.ps

set_option maxRecDepth 100000 in
set_option maxHeartbeats 2000000 in
theorem room_any (C : Coil) (A : Option Addr) (c : Nat) (w : World) (hr : Rd w 2 A C.ps.length (pcFlat C.ps)) (hlen : C.ps.length ≤ 1000000) :
    Calls Tryd.prog 51 #[.agg #[.string C.pr, .int .i64 C.most, .slice A C.ps.length c]] w fun e w' => e = .returned (.tuple #[.int .i64 (roomF C), .int .i64 (coilF C)]) ∧ w.grownBy w' none := by
  have hg0 := grown_alloc (grown_refl w) (.cells #[.string C.pr, .int .i64 C.most, .slice A C.ps.length c] 58)
  have hB := Blk.new w 58 #[.string C.pr, .int .i64 C.most, .slice A C.ps.length c]
  have hck := checkCoil_any C A c _ (hr.grown hg0) hlen
  have k0 := hB.three
  unfold roomF
  by_cases h : coilF C = 0
  · rw [h] at hck ⊢
    obtain ⟨_, hmost, hlen', _, hpok, hsum⟩ := coil_ok h
    have hps := numP_nonneg hpok
    have hnn := fun w1 (h : w.grownBy w1 none) => number_any A C.ps.length c C.ps w1 (hr.grown h) (by omega) hpok
    rw [if_neg (by simp)]
    obtain ⟨pr, most, ps⟩ := C
    simp only at *
    generalize numP ps = S at *
    generalize ps.length = m at *
    have hw : IntKind.i64.wrap (most - S) = most - S := IntWalk.i64_in _ (by omega)
    have HC := Lib.hid (And.intro hck (And.intro hnn (And.intro hB hg0)))
    clear hck hnn hB hg0 h hpok hr
    go_enter Tryd.func51, Tryd.ntmps51
    go_wp2_with fail
    refine HC.out.1.mono ?_
    rintro e w1 ⟨rfl, hg1⟩
    have hB1 := HC.out.2.2.1.grown hg1 (by simp)
    obtain ⟨k10, k11, k12, _⟩ := hB1.three
    have HW := Lib.hid (And.intro hB1 (HC.out.2.2.2.trans hg1))
    clear hB1 hg1
    go_wp2_with fail
    go_region_law (first
      | (go_simp; go_at_call 98; refine (HC.out.2.1 _ (grown_drew HW.out.2)).mono ?_; rintro e w4 ⟨rfl, hg4⟩; dsimp only; have hgx : w1.grownBy w4 none := (grown_drew (grown_refl w1)).trans hg4; obtain ⟨k40, k41, k42, _⟩ := (HW.out.1.grown hgx (by simp)).three))
    all_goals (
      go_wp2_with fail
      go_ret2
      exact ⟨rfl, HW.out.2.trans hgx⟩)
  · rw [if_pos h]
    generalize coilF C = V at *
    have hV : (V != 0) = true := by rw [bne_iff_ne]; exact h
    have HC := Lib.hid (And.intro hck hg0)
    clear hck hg0 hB h hr
    go_enter Tryd.func51, Tryd.ntmps51
    go_wp2_with fail
    refine HC.out.1.mono ?_
    rintro e w1 ⟨rfl, hg1⟩
    go_wp2_with fail
    go_ret2
    exact ⟨rfl, HC.out.2.trans hg1⟩

end Go.Proofs.YtidfhgpjpieajaaDoor
