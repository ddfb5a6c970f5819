/- The walks of the reference: CoilsFault, DayFault, lotOf, KnownFault, StaleFault. -/
import Derived.Test.YtidfhgpjpieajaaDoorRefL
import Derived.Test.YtidfhgpjpieajaaDoorOrE
import Derived.Test.YtidfhgpjpieajaaDoorIdx
import Derived.Test.YtidfhgpjpieajaaDoorRes
namespace Go.Proofs.YtidfhgpjpieajaaDoor
open Go.RowKit

set_option maxRecDepth 100000 in
set_option maxHeartbeats 2000000 in
theorem coilsFault_any (L : List Lot) (C : Coil) (A B : Option Addr) (c cl : Nat) (w : World) (hr : Rd w 2 A C.ps.length (pcFlat C.ps)) (hlen : C.ps.length ≤ 1000000) (hL : Rd w 4 B L.length (lotFlat L)) :
    Calls Tryd.prog 34 #[.agg #[.string C.pr, .int .i64 C.most, .slice A C.ps.length c], .slice B L.length cl] w fun e w' => e = .returned (.int .i64 (orE (lotsF L) (coilF C))) ∧ w.grownBy w' none := by
  have hB : Blk (w.alloc (.cells #[.string C.pr, .int .i64 C.most, .slice A C.ps.length c] 58)).drew w.heap.size 58 #[.string C.pr, .int .i64 C.most, .slice A C.ps.length c] := Blk.new w 58 #[.string C.pr, .int .i64 C.most, .slice A C.ps.length c]
  have hg0 : w.grownBy (w.alloc (.cells #[.string C.pr, .int .i64 C.most, .slice A C.ps.length c] 58)).drew none := grown_drew (grown_alloc (grown_refl w) _)
  have k0 := hB.three
  have h1 := fun w1 (h : w.grownBy w1 none) => refLotsF_any B L.length cl L w1 (hL.grown h)
  have h2 := fun w1 (h : w.grownBy w1 none) => refCoilF_any C A c w1 (hr.grown h) hlen
  have HC := Lib.hid (And.intro h1 (And.intro h2 (And.intro hB hg0)))
  clear h1 h2 hB hg0
  generalize lotsF L = x at *
  generalize coilF C = y at *
  go_enter Tryd.func34, Tryd.ntmps34
  go_wp2_with fail
  generalize w.alloc (.cells #[.string C.pr, .int .i64 C.most, .slice A C.ps.length c] 58) = w0 at *
  go_region_law (first
    | (go_simp; go_at_call 18; refine (or_any _ _ _).mono ?_; rintro e w8 ⟨rfl, hg8⟩; dsimp only)
    | (go_simp; go_at_call 47; refine (HC.out.2.1 _ hgg6).mono ?_; rintro e w7 ⟨rfl, hg7⟩; dsimp only; have hgg7 := hgg6.trans hg7)
    | (go_simp; go_at_call 12; refine (HC.out.1 _ HC.out.2.2.2).mono ?_; rintro e w6 ⟨rfl, hg6⟩; dsimp only; have hgg6 := HC.out.2.2.2.trans hg6; have k6 := (HC.out.2.2.1.grown hg6 (by simp)).three))
  all_goals (
    go_wp2_with fail
    go_ret
    exact ⟨rfl, hgg7.trans hg8⟩)

theorem dayF1_any (x : Int) (w : World) : Calls Tryd.prog 77 #[.int .i64 x] w fun e w' => e = .returned (.bool (!(btw x 0 4000))) ∧ w = w' := by
  by_cases h1 : x < 0
  · go_enter Tryd.func77, Tryd.ntmps77
    go_wp2_with fail
    go_ret
    exact ⟨retB (by rw [btw_false.2 (.inl h1)]; rfl), rfl⟩
  · by_cases h2 : 4000 < x
    · go_enter Tryd.func77, Tryd.ntmps77
      go_wp2_with fail
      go_ret
      exact ⟨retB (by rw [btw_false.2 (.inr h2)]; rfl), rfl⟩
    · go_enter Tryd.func77, Tryd.ntmps77
      go_wp2_with fail
      go_ret
      exact ⟨retB (by rw [btw_true.2 (by omega)]; rfl), rfl⟩

/-- ErrArg of days. -/
def dayFs (l : List Int) : Int := if (l.any fun x => !(btw x 0 4000)) = true then 1 else 0
theorem dayFault_any (A : Option Addr) (n c : Nat) (l : List Int) (w : World) (hr : Rd w 1 A n (ints l)) (hn : n ≤ 1000000) (he : Enters Tryd.prog 77) :
    Calls Tryd.prog 21 #[.slice A n c] w fun e w' => e = .returned (.int .i64 (dayFs l)) ∧ w.grownBy w' none := by
  have hc := containsFunc_any 77 (fun x => !(btw x 0 4000)) A n c l w hr hn he (fun x w1 => dayF1_any x w1)
  unfold dayFs
  generalize (l.any fun x => !(btw x 0 4000)) = q at *
  have HC := Lib.hid hc
  clear hc
  cases q
  · go_enter Tryd.func21, Tryd.ntmps21
    go_wp2_with fail
    refine HC.out.mono ?_
    rintro e w1 ⟨rfl, hg1⟩
    go_wp2_with fail
    go_ret
    exact ⟨rfl, hg1⟩
  · go_enter Tryd.func21, Tryd.ntmps21
    go_wp2_with fail
    refine HC.out.mono ?_
    rintro e w1 ⟨rfl, hg1⟩
    go_wp2_with fail
    go_ret
    exact ⟨rfl, hg1⟩
theorem dayFault_one (d : Int) (w : World) (he : Enters Tryd.prog 77) :
    Calls Tryd.prog 21 #[.slice (some ⟨w.heap.size, 0, none⟩) 1 1] (w.alloc (.cells #[.int .i64 d] 3)) fun e w' => e = .returned (.int .i64 (if btw d 0 4000 = false then 1 else 0)) ∧ w.grownBy w' none := by
  have h := dayFault_any (some ⟨w.heap.size, 0, none⟩) 1 1 [d] _ (rd_new w [d] 3) (by omega) he
  refine h.mono ?_
  rintro e w' ⟨rfl, hg⟩
  refine ⟨?_, (grown_alloc (grown_refl w) _).trans hg⟩
  unfold dayFs
  cases h : btw d 0 4000 <;> simp [h]

theorem staleF1_any (x : Int) (w : World) : Calls Tryd.prog 86 #[.int .i64 x] w fun e w' => e = .returned (.bool (!(btw x 0 1000))) ∧ w = w' := by
  by_cases h1 : x < 0
  · go_enter Tryd.func86, Tryd.ntmps86
    go_wp2_with fail
    go_ret
    exact ⟨retB (by rw [btw_false.2 (.inl h1)]; rfl), rfl⟩
  · by_cases h2 : 1000 < x
    · go_enter Tryd.func86, Tryd.ntmps86
      go_wp2_with fail
      go_ret
      exact ⟨retB (by rw [btw_false.2 (.inr h2)]; rfl), rfl⟩
    · go_enter Tryd.func86, Tryd.ntmps86
      go_wp2_with fail
      go_ret
      exact ⟨retB (by rw [btw_true.2 (by omega)]; rfl), rfl⟩

/-- The lot with an Id, or nothing. -/
def lotR (L : List Lot) (s : ByteArray) : Lot := (lotOf L s).getD ⟨ByteArray.empty, ByteArray.empty, 0, 0⟩
theorem exOf_lotR (L : List Lot) (s : ByteArray) : exOf L s = (lotR L s).ex := by
  unfold exOf lotR
  cases lotOf L s <;> rfl
def LotFree (L : List Lot) (s : ByteArray) (j : Nat) : Prop := ∀ i x, i < j → L[i]? = some x → sEq x.id s = false
theorem LotFree.found {L : List Lot} {s : ByteArray} {j : Nat} {t : Lot} (h : LotFree L s j) (ht : L[j]? = some t) (he : sEq t.id s = true) : lotOf L s = some t := by
  unfold lotOf
  obtain ⟨hj, e⟩ := List.getElem?_eq_some_iff.1 ht
  rw [List.find?_eq_some_iff_getElem]
  refine ⟨he, j, hj, e, fun i hi => ?_⟩
  rw [h i _ hi (List.getElem?_eq_getElem (by omega))]; rfl
theorem LotFree.done {L : List Lot} {s : ByteArray} (h : LotFree L s L.length) : lotOf L s = none := by
  unfold lotOf
  rw [List.find?_eq_none]
  intro x hx
  obtain ⟨i, hi, e⟩ := List.getElem_of_mem hx
  rw [h i x hi (by rw [← e]; exact List.getElem?_eq_getElem hi)]
  simp

set_option maxRecDepth 100000 in
set_option maxHeartbeats 1000000 in
theorem lotOf_any (A : Option Addr) (n c : Nat) (L : List Lot) (s : ByteArray) (w : World) (hr : Rd w 4 A n (lotFlat L)) (hn : n ≤ 1000000) :
    Calls Tryd.prog 85 #[.slice A n c, .string s] w fun e w' => e = .returned (.tuple #[.agg #[.string (lotR L s).id, .string (lotR L s).pr, .int .i64 (lotR L s).ex, .int .i64 (lotR L s).mn], .bool (lotOf L s).isSome]) ∧ w.grownBy w' none := by
  have hl : L.length = n := by have := hr.1; rw [lotFlat_len] at this; omega
  have hB0 := Blk.new w 51 #[.string ByteArray.empty, .string ByteArray.empty, .int .i64 0, .int .i64 0]
  have hg0 := grown_alloc (grown_refl w) (.cells #[.string ByteArray.empty, .string ByteArray.empty, .int .i64 0, .int .i64 0] 51)
  obtain ⟨R, hR⟩ : ∃ R, lotR L s = R := ⟨_, rfl⟩
  obtain ⟨q, hq⟩ : ∃ q, (lotOf L s).isSome = q := ⟨_, rfl⟩
  rw [hR, hq]
  have HL := Lib.hid (And.intro hl (And.intro hR hq))
  clear hl hR hq
  go_enter Tryd.func85, Tryd.ntmps85
  go_wp2_with fail
  go_loopg [10] n (fun k i wr => ∃ j : Nat, k + j = n ∧ i = .int .i64 j ∧ Blk wr w.heap.size 51 #[.string ByteArray.empty, .string ByteArray.empty, .int .i64 0, .int .i64 0] ∧ w.grownBy wr none ∧ LotFree L s j)
  case atStart => exact ⟨0, by omega, rfl, hB0, hg0, fun i x h => absurd h (by omega)⟩
  case round =>
    clear hB0 hg0
    obtain ⟨j, hj, rfl, hB, hg, H⟩ := hrel
    have k0 := hB.four
    by_cases hlt : j < n
    · obtain ⟨b, off, rfl, hb, t, ht, c0, c1, c2, c3⟩ := lot_cells (hr.grown hg) hlt
      have hBl := hB.lt
      have hBx := hB.alloc (.cells #[.string t.id, .string t.pr, .int .i64 t.ex, .int .i64 t.mn] 51)
      have hgx := grown_alloc hg (.cells #[.string t.id, .string t.pr, .int .i64 t.ex, .int .i64 t.mn] 51)
      by_cases he : (t.id.toList == s.toList) = true
      · have hf := H.found ht he
        have hr1 : t = R := by rw [← HL.out.2.1]; unfold lotR; rw [hf]; rfl
        have hq1 : true = q := by rw [← HL.out.2.2, hf]; rfl
        subst hr1 hq1
        have HH := Lib.hid (And.intro hB hg)
        clear hBx hgx hf ht H hj hB hg
        go_wp2_with fail
        obtain ⟨hB, hg⟩ := HH.out
        have hBz := (((((hB.set_ 0 (.string t.id)).set_ 1 (.string t.pr)).set_ 2 (.int .i64 t.ex)).set_ 3 (.int .i64 t.mn)).alloc (.cells #[.string t.id, .string t.pr, .int .i64 t.ex, .int .i64 t.mn] 51)).eq (show _ = #[.string t.id, .string t.pr, .int .i64 t.ex, .int .i64 t.mn] from rfl)
        refine bodyPost_ret (results_row_tmp rfl _ _ w.heap.size _ _ _ _ rfl hBz Tryd.underlying51 rfl (by kernel_rfl)) rfl ?_
        exact ⟨rfl, grown_alloc (grown_set (grown_set (grown_set (grown_set hg (.inl (by simp)) _) (.inl (by simp)) _) (.inl (by simp)) _) (.inl (by simp)) _) _⟩
      · have he' : (t.id.toList == s.toList) = false := by simpa using he
        have HH := Lib.hid (And.intro hBx (And.intro hgx (And.intro hj (And.intro ht (And.intro H (show sEq t.id s = false from he'))))))
        clear hBx hgx ht H hj hB hg he
        go_wp2_with fail
        obtain ⟨hBx, hgx, hj, ht, H, hs⟩ := HH.out
        go_roundg (gk - 1)
        case measure => omega
        case rel => exact ⟨j + 1, by omega, by go_num, hBx, hgx, fun i x hi hx => by
          by_cases e : i = j
          · subst e; rw [ht] at hx; cases hx; exact hs
          · exact H i x (by omega) hx⟩
    · obtain rfl : j = n := by omega
      have hf : lotOf L s = none := LotFree.done (by rw [HL.out.1]; exact H)
      have hr1 : (⟨ByteArray.empty, ByteArray.empty, 0, 0⟩ : Lot) = R := by rw [← HL.out.2.1]; unfold lotR; rw [hf]; rfl
      have hq1 : false = q := by rw [← HL.out.2.2, hf]; rfl
      subst hr1 hq1
      have HH := Lib.hid (And.intro hB hg)
      clear hB hg hf H hj hlt
      go_wp2_with fail
      obtain ⟨hB, hg⟩ := HH.out
      have hBz := ((((hB.set_ 0 (.string ByteArray.empty)).set_ 1 (.string ByteArray.empty)).set_ 2 (.int .i64 0)).set_ 3 (.int .i64 0)).eq (show _ = #[.string ByteArray.empty, .string ByteArray.empty, .int .i64 0, .int .i64 0] from rfl)
      refine bodyPost_ret (results_row_tmp rfl _ _ w.heap.size _ _ _ _ rfl hBz Tryd.underlying51 rfl (by kernel_rfl)) rfl ?_
      exact ⟨rfl, grown_set (grown_set (grown_set (grown_set hg (.inl (by simp)) _) (.inl (by simp)) _) (.inl (by simp)) _) (.inl (by simp)) _⟩

end Go.Proofs.YtidfhgpjpieajaaDoor
