/- The walk of Float. -/
import Derived.Test.YtoaeflegcfecaaaFloatP
import Derived.RegionTactic
import Derived.Deep.OwnRows
namespace Go.Proofs.Ytoaeflegcfecaaa
open Go.RowKit

def floatFault (l : List Tub) (want : Int) : Int := if tubFault l ≠ 0 then tubFault l else if btw want 0 1000000000 = false then 1 else 0

set_option maxHeartbeats 400000 in
theorem float_bad (A : Option Addr) (n c : Nat) (l : List Tub) (want : Int) (w : World) (hr : Rd w 3 A n (tubFlat l)) (hf : floatFault l want ≠ 0) :
    Calls Try.prog 32 #[.slice A n c, .int .i64 want] w
      fun e w' => e = .returned (.tuple #[.slice none 0 0, .int .i64 (floatFault l want)]) ∧ w.grownBy w' none := by
  have hc := checkTubes_any A n c l w hr
  by_cases h0 : tubFault l = 0
  · have h2 : btw want 0 1000000000 = false := by
      by_cases h : btw want 0 1000000000 = false
      · exact h
      · exact absurd (by simp [floatFault, h0, h]) hf
    have hs : floatFault l want = 1 := by simp [floatFault, h0, h2]
    rw [hs]
    rw [h0] at hc
    have HC := Lib.hid hc
    clear hc hf hs h0
    go_enter Try.func32, Try.ntmps32
    go_wp2_with fail
    refine HC.out.mono ?_
    rintro e w1 ⟨rfl, hg1⟩
    go_wp2_with (go_at_call 48; refine (between_any _ _ _ _).mono ?_; rintro e w' ⟨rfl, rfl⟩)
    go_ret2
    exact ⟨rfl, hg1⟩
  · have hs : floatFault l want = tubFault l := by simp [floatFault, h0]
    rw [hs]
    have hb : (tubFault l != 0) = true := by rw [bne_iff_ne]; exact h0
    clear hs hf
    generalize tubFault l = f at *
    have HC := Lib.hid hc
    clear hc h0
    go_enter Try.func32, Try.ntmps32
    go_wp2_with fail
    refine HC.out.mono ?_
    rintro e w1 ⟨rfl, hg1⟩
    go_wp2_with fail
    go_ret2
    exact ⟨rfl, hg1⟩

set_option maxHeartbeats 800000 in
theorem float_ok (A : Option Addr) (n c : Nat) (l : List Tub) (want : Int) (w : World) (hr : Rd w 3 A n (tubFlat l)) (hf : floatFault l want = 0) :
    Calls Try.prog 32 #[.slice A n c, .int .i64 want] w
      fun e w' => ∃ v k, FEnd l want k ∧ e = .returned (.tuple #[v, .int .i64 0]) ∧ w'.ownsRow w.heap.size 3 1 v n (ints (fSub l (fIter l want k).g n)) ∧ w.grownBy w' none := by
  have hl : l.length = n := by have := hr.1; rw [tubFlat_len] at this; omega
  have h0 : tubFault l = 0 := by
    by_cases h : tubFault l = 0
    · exact h
    · simp [floatFault, h] at hf
  have h2 : btw want 0 1000000000 = true := by
    by_cases h : btw want 0 1000000000 = true
    · exact h
    · simp [floatFault, h0, h] at hf
  obtain ⟨hlen, hright, _⟩ := right_of h0
  obtain ⟨hw0, hw1⟩ := btw_true.1 h2
  have hn10 : n ≤ 10 := by omega
  have hF0 : FInv l want (fIter l want 0) := FInv.start l want hw0 (fun t ht => by have := hright t ht; unfold RightT at this; omega)
  have hc := checkTubes_any A n c l w hr
  rw [h0] at hc
  have hrep : (fIter l want 0).g = List.replicate n 0 := by simp [fIter, hl]
  have HH := Lib.hid (And.intro hl (And.intro hright (And.intro h2 (And.intro hF0 hrep))))
  have HC := Lib.hid hc
  have hmk := fun w => run_make_row' (P := Try.prog) 22 3 (.int .i64 0) 8 Try.underlying22 Try.infoInt rfl .i64 .i64 n (by omega) (by omega) w
  clear hc hf h0 h2 hl hlen hright hF0 hrep
  go_enter Try.func32, Try.ntmps32
  go_wp2_with fail
  refine HC.out.mono ?_
  rintro e w1 ⟨rfl, hg1⟩
  go_wp2_with fail
  refine (between_any _ _ _ _).mono ?_
  rw [HH.out.2.2.1]
  rintro e w1' ⟨rfl, rfl⟩
  go_wp2_with fail
  have hown0 : (w1.alloc (.cells (madeCells #[.int .i64 0] n) 3)).ownsRow w.heap.size 3 1 (.slice (some ⟨w1.heap.size, 0, none⟩) n n) n (ints (fIter l want 0).g) := by
    have h := World.ownsRow_lit (base := w.heap.size) (size := 1) (e := 3) w1 (madeCells #[.int .i64 0] n) n hg1.size (by unfold maxLen; omega) (by simp [size_madeCells])
    rw [toList_madeCells_one] at h
    rw [HH.out.2.2.2.2]
    simpa [ints] using h
  have hgg0 : w.grownBy (w1.alloc (.cells (madeCells #[.int .i64 0] n) 3)) none := grown_alloc hg1 _
  have hgw := hg1.size
  generalize w1.alloc (.cells (madeCells #[.int .i64 0] n) 3) = w2 at *
  generalize w1.heap.size = g at *
  clear hmk hw0
  go_loopg [8, 9] (want.toNat + 1) (fun k lf mo wr => ∃ i : Nat, lf = .int .i64 (fIter l want i).left ∧ mo = .bool (fIter l want i).more ∧ Hid (∀ i', i' < i → (fIter l want i').more = true) ∧
    (fIter l want i).left.toNat + (if (fIter l want i).more = true then 1 else 0) ≤ k ∧ wr.ownsRow w.heap.size 3 1 (.slice (some ⟨g, 0, none⟩) n n) n (ints (fIter l want i).g) ∧ w.grownBy wr none)
  case atStart => exact ⟨0, rfl, rfl, Lib.hid (fun i' h => absurd h (by omega)), by simp [fIter], hown0, hgg0⟩
  case round =>
    obtain ⟨i, rfl, rfl, HM, hk, hown, hg⟩ := hrel
    have hFi := HH.out.2.2.2.1.iter i
    by_cases hmore : (fIter l want i).more = true
    · have hnext : fIter l want (i + 1) = fTurnN l (fIter l want i) n := by rw [← HH.out.1]; rfl
      have HM' : Hid (∀ i', i' < i + 1 → (fIter l want i').more = true) := Lib.hid (fun i' h => by
        rcases Nat.lt_or_ge i' i with h1 | h1
        · exact HM.out i' h1
        · obtain rfl : i' = i := by omega
          exact hmore)
      rw [if_pos hmore] at hk
      rw [hmore]
      have hleft := fun j hj => fTurnN_left (l := l) (s := fIter l want i) (fun t ht => (HH.out.2.1 t ht).1) j hj
      have hTurn := fun j hj => hFi.turnN j hj
      have hsl := fIter_left (l := l) (want := want) (fun t ht => (HH.out.2.1 t ht).1) i
      generalize fIter l want i = s at *
      have HT := Lib.hid hTurn
      have HL := Lib.hid hleft
      have HK := Lib.hid hk
      have HN := Lib.hid hnext
      clear hTurn hleft hk hnext hFi HM
      go_wp2_with fail
      obtain ⟨wo, rfl⟩ : ∃ wo : World, wo = wr := ⟨_, rfl⟩
      generalize gk = ko at *
      go_loopg [8, 9, 29] n (fun k lf mo ii wr => ∃ j : Nat, k + j = n ∧ ii = .int .i64 j ∧ lf = .int .i64 (fTurnN l s j).left ∧ mo = .bool (fTurnN l s j).more ∧
        wr.ownsRow w.heap.size 3 1 (.slice (some ⟨g, 0, none⟩) n n) n (ints (fTurnN l s j).g) ∧ w.grownBy wr none)
      case atStart => exact ⟨0, by omega, rfl, rfl, rfl, hown, hg⟩
      case round =>
        obtain ⟨j, hj, rfl, rfl, rfl, hown3, hg3⟩ := hrel
        by_cases hlt : j < n
        · obtain ⟨b, off, rfl, hb, t, ht, c0, c1, c2⟩ := tub_cells (hr.grown hg3) hlt
          have hbw : b < w.heap.size := by
            obtain ⟨b2, off2, e2, h2, _⟩ := hr.2 (by omega)
            cases e2; exact h2
          have hcg := own_int hown3 hlt
          have hfz := hown3.frozenAt j
          have hI := HT.out j (by have := HH.out.1; omega)
          obtain ⟨g0, g1⟩ := hI.rng j (by have := HH.out.1; omega)
          have hp := hI.pos
          have hsum := hI.sum
          obtain ⟨r1, r2, r3, r4, r5⟩ := HH.out.2.1 t (List.mem_of_getElem? ht)
          rw [tubD_at ht] at g1
          have hstep : fTurnN l s (j + 1) = fOne l (fTurnN l s j) j := rfl
          have hlf := (HL.out j (by have := HH.out.1; omega)).1
          have hglt : g < wr.heap.size := by
            obtain ⟨_, _, hv, _, h⟩ := hown3.form (by omega)
            simp at hv; omega
          generalize fTurnN l s j = u at *
          generalize hgj : u.g.getD j 0 = gj at *
          have HS := Lib.hid hstep
          have HG := Lib.hid hgj
          have HJ := Lib.hid hj
          have HTt := Lib.hid ht
          have hlt' : (j : Int) < (n : Int) := by omega
          have hne1 : g ≠ b := by omega
          clear hstep hgj hj ht hI hsum
          by_cases h1 : gj < t.m
          · by_cases h2 : t.v ≤ u.left
            · have hE : fOne l u j = ⟨u.g.set j (gj + 1), u.left - t.v, true⟩ := by
                unfold fOne; rw [tubD_at HTt.out, HG.out, if_pos ⟨h1, h2⟩]
              have HE := Lib.hid hE
              clear hE
              have hset := own_int_set (hown3.alloc (.cells #[.int .i64 t.v, .int .i64 t.c, .int .i64 t.m] 70)) j (gj + 1)
              go_wp2_with fail
              go_quiet (fail)
              go_wp2_with fail
              have hj := HJ.out
              go_roundg (gk - 1)
              case measure => omega
              case rel => exact ⟨j + 1, by omega, by go_num, by rw [HS.out, HE.out], by rw [HS.out, HE.out], by rw [HS.out, HE.out]; exact hset,
                grown_set (p := ⟨g, j, none⟩) (grown_drewN (grown_alloc hg3 _) _) (.inl hgw) _⟩
            · have hE : fOne l u j = u := by
                unfold fOne; rw [tubD_at HTt.out, HG.out, if_neg (fun h => h2 h.2)]
              have HE := Lib.hid hE
              clear hE
              go_wp2_with fail
              go_quiet (fail)
              go_wp2_with fail
              have hj := HJ.out
              go_roundg (gk - 1)
              case measure => omega
              case rel => exact ⟨j + 1, by omega, by go_num, by rw [HS.out, HE.out], by rw [HS.out, HE.out], by rw [HS.out, HE.out]; exact hown3.alloc _, grown_drewN (grown_alloc hg3 _) _⟩
          · have hE : fOne l u j = u := by
              unfold fOne; rw [tubD_at HTt.out, HG.out, if_neg (fun h => h1 h.1)]
            have HE := Lib.hid hE
            clear hE
            have hd : decide (gj < t.m) = false := by simpa using h1
            go_wp2_with fail
            go_quiet (fail)
            go_wp2_with fail
            have hj := HJ.out
            go_roundg (gk - 1)
            case measure => omega
            case rel => exact ⟨j + 1, by omega, by go_num, by rw [HS.out, HE.out], by rw [HS.out, HE.out], by rw [HS.out, HE.out]; exact hown3.alloc _, grown_drewN (grown_alloc hg3 _) _⟩
        · obtain rfl : j = n := by omega
          have hI := HT.out j (by have := HH.out.1; omega)
          have hlf := HL.out j (by have := HH.out.1; omega)
          have hp := hI.pos
          go_wp2_with fail
          have hk := HK.out
          go_roundg ((fTurnN l s j).left.toNat + (if (fTurnN l s j).more = true then 1 else 0))
          case measure =>
            split
            · rename_i h; have := hlf.2 h; omega
            · have := hlf.1; omega
          case rel => exact ⟨i + 1, by rw [HN.out], by rw [HN.out], HM', by rw [HN.out]; exact Nat.le_refl _, by rw [HN.out]; exact hown3, hg3⟩
    · have hm' : (fIter l want i).more = false := by simpa using hmore
      rw [hm']
      have HE : Hid (FEnd l want i) := Lib.hid ⟨HM.out, hm'⟩
      have hlenI := hFi.len
      have hrng := hFi.rng
      generalize (fIter l want i).left = lf at *
      generalize hgg : (fIter l want i).g = gg at *
      have HGG := Lib.hid hgg
      have HRN := Lib.hid hrng
      have HLN := Lib.hid hlenI
      clear hgg hk hmore hm' hFi HM hrng hlenI
      go_wp2_with fail
      go_loopg [60] n (fun k ii wr => ∃ j : Nat, k + j = n ∧ ii = .int .i64 j ∧ wr.ownsRow w.heap.size 3 1 (.slice (some ⟨g, 0, none⟩) n n) n (ints (fSub l gg j)) ∧ w.grownBy wr none)
      case atStart => exact ⟨0, by omega, rfl, hown, hg⟩
      case round =>
        obtain ⟨j, hj, rfl, hown3, hg3⟩ := hrel
        by_cases hlt : j < n
        · obtain ⟨b, off, rfl, hb, t, ht, c0, c1, c2⟩ := tub_cells (hr.grown hg3) hlt
          have hbw : b < w.heap.size := by
            obtain ⟨b2, off2, e2, h2, _⟩ := hr.2 (by omega)
            cases e2; exact h2
          have hcg := own_int hown3 hlt
          have hfz := hown3.frozenAt j
          obtain ⟨g0, g1⟩ := HRN.out j (by have := HH.out.1; omega)
          obtain ⟨r1, r2, r3, r4, r5⟩ := HH.out.2.1 t (List.mem_of_getElem? ht)
          rw [tubD_at ht] at g1
          have hat : (fSub l gg j).getD j 0 = gg.getD j 0 := by simp only [List.getD]; rw [fSub_at l gg j j (Nat.le_refl _)]
          rw [hat] at hcg
          have hstep : fSub l gg (j + 1) = (fSub l gg j).set j (gg.getD j 0 - t.c) := by simp only [fSub]; rw [tubD_at ht]
          have hglt : g < wr.heap.size := by
            obtain ⟨_, _, hv, _, h⟩ := hown3.form (by omega)
            simp at hv; omega
          generalize gg.getD j 0 = gj at *
          have HS := Lib.hid hstep
          have HJ := Lib.hid hj
          have hlt' : (j : Int) < (n : Int) := by omega
          have hne1 : g ≠ b := by omega
          have w1 : IntKind.i64.wrap (gj - t.c) = gj - t.c := IntWalk.i64_in _ (by omega)
          clear hstep hj ht hat
          go_wp2_with fail
          go_region
          all_goals go_wp2_with fail
          all_goals
            have hj := HJ.out
            go_roundg (gk - 1)
            case measure => omega
            case rel => exact ⟨j + 1, by omega, by go_num, by rw [HS.out]; exact (own_int_set hown3 j _).alloc _, grown_drew (grown_alloc (grown_set (p := ⟨g, j, none⟩) hg3 (.inl hgw) _) _)⟩
        · obtain rfl : j = n := by omega
          go_wp2_with fail
          go_ret2
          exact ⟨_, i, HE.out, rfl, by rw [HGG.out]; exact hown3, hg3⟩

end Go.Proofs.Ytoaeflegcfecaaa
