/- The walks of package stock: Blocked, Stale. -/
import Derived.Test.YtidfhgpjpieajaaDoorStkD
import Derived.Test.YtidfhgpjpieajaaDoorWin
import Derived.Test.YtidfhgpjpieajaaDoorIdx
namespace Go.Proofs.YtidfhgpjpieajaaDoor
open Go.RowKit

theorem retT {k k2 : IntKind} {a a' b : Int} (h : a = a') : Ending.returned (.tuple #[.int k a, .int k2 b]) = Ending.returned (.tuple #[.int k a', .int k2 b]) := by rw [h]

/-- How many units at the front can be sold no more. -/
def blkP (l : List Int) (d : Int) : Int := (l.findIdx fun x => decide (d ≤ x) : Nat)
theorem blk_idx (l : List Int) (d : Int) : (idxI (fun x => decide (d ≤ x)) l < 0 ∧ blkP l d = l.length) ∨ (0 ≤ idxI (fun x => decide (d ≤ x)) l ∧ blkP l d = idxI (fun x => decide (d ≤ x)) l) := by
  unfold idxI blkP
  cases h : l.findIdx? fun x => decide (d ≤ x) with
  | none =>
    rw [List.findIdx?_eq_none_iff] at h
    refine .inl ⟨by simp, ?_⟩
    have : l.findIdx (fun x => decide (d ≤ x)) = l.length := List.findIdx_eq_length.2 h
    rw [this]
  | some k =>
    refine .inr ⟨by simp, ?_⟩
    have := (List.findIdx?_eq_some_iff_findIdx_eq.1 h).2
    rw [this]

theorem blocked1_any (x d : Int) (gb : Nat) (w : World) (hB : w.cell? ⟨gb, 0, none⟩ = some (.int .i64 d)) :
    Calls Tryd.prog 82 #[.int .i64 x, .pointer (some ⟨gb, 0, none⟩)] w fun e w' => e = .returned (.bool (decide (d ≤ x))) ∧ w = w' := by
  by_cases h : d ≤ x
  · have h1 : decide (d ≤ x) = true := by simpa using h
    rw [h1]
    go_enter Tryd.func82, Tryd.ntmps82
    go_wp2_with fail
    go_ret
    exact ⟨rfl, rfl⟩
  · have h1 : decide (d ≤ x) = false := by simpa using h
    rw [h1]
    go_enter Tryd.func82, Tryd.ntmps82
    go_wp2_with fail
    go_ret
    exact ⟨by simp, rfl⟩

set_option maxHeartbeats 2000000 in
theorem blocked_bad (L : List Lot) (C : Coil) (A B : Option Addr) (c cl : Nat) (d : Int) (w : World) (hr : Rd w 2 A C.ps.length (pcFlat C.ps)) (hlen : C.ps.length ≤ 1000000) (hL : Rd w 4 B L.length (lotFlat L)) (he : Enters Tryd.prog 121) (hF : expF L C d ≠ 0) :
    Calls Tryd.prog 32 #[.agg #[.string C.pr, .int .i64 C.most, .slice A C.ps.length c], .slice B L.length cl, .int .i64 d] w
      fun e w' => e = .returned (.tuple #[.int .i64 0, .int .i64 (expF L C d)]) ∧ w.grownBy w' none := by
  have hg0 := grown_alloc (grown_alloc (grown_refl w) (.cells #[.string C.pr, .int .i64 C.most, .slice A C.ps.length c] 58)) (.cells #[.int .i64 d] 3)
  have hc := expiries_bad L C A B c cl d _ (hr.grown hg0) hlen (hL.grown hg0) he hF
  obtain ⟨V, hV⟩ : ∃ V, expF L C d = V := ⟨_, rfl⟩
  rw [hV] at hF hc ⊢
  have h1 : (V != 0) = true := by rw [bne_iff_ne]; exact hF
  have HC := Lib.hid (And.intro hc hg0)
  clear hc hg0 hV hF
  go_enter Tryd.func32, Tryd.ntmps32
  go_wp2_with fail
  refine HC.out.1.mono ?_
  rintro e w1 ⟨rfl, hg1⟩
  go_wp2_with fail
  go_ret2
  exact ⟨rfl, HC.out.2.trans hg1⟩

set_option maxHeartbeats 2000000 in
theorem blocked_ok (L : List Lot) (C : Coil) (A B : Option Addr) (c cl : Nat) (d : Int) (w : World) (hr : Rd w 2 A C.ps.length (pcFlat C.ps)) (hL : Rd w 4 B L.length (lotFlat L)) (he : Enters Tryd.prog 121) (he2 : Enters Tryd.prog 82) (hF : expF L C d = 0) :
    Calls Tryd.prog 32 #[.agg #[.string C.pr, .int .i64 C.most, .slice A C.ps.length c], .slice B L.length cl, .int .i64 d] w
      fun e w' => e = .returned (.tuple #[.int .i64 (blkP (endsP L C.ps) d), .int .i64 0]) ∧ w.grownBy w' none := by
  have hg0 := grown_alloc (grown_alloc (grown_refl w) (.cells #[.string C.pr, .int .i64 C.most, .slice A C.ps.length c] 58)) (.cells #[.int .i64 d] 3)
  have hB := Blk.new (w.alloc (.cells #[.string C.pr, .int .i64 C.most, .slice A C.ps.length c] 58)) 3 #[.int .i64 d]
  rw [show (w.alloc (.cells #[.string C.pr, .int .i64 C.most, .slice A C.ps.length c] 58)).heap.size = w.heap.size + 1 from by simp] at hB
  have hc := expiries_ok L C A B c cl d _ (hr.grown hg0) (hL.grown hg0) he hF
  obtain ⟨_, h2, _, _⟩ := expF_ok hF
  obtain ⟨_, hmost, _, _, hpok, hsum⟩ := coil_ok h2
  have hel : (endsP L C.ps).length ≤ 1000 := by have := ends_len (L := L) hpok; omega
  have hbl := blk_idx (endsP L C.ps) d
  generalize endsP L C.ps = E at *
  obtain ⟨V, hV⟩ : ∃ V, blkP E d = V := ⟨_, rfl⟩
  rw [hV] at hbl ⊢
  clear hV
  have HC := Lib.hid (And.intro hc (And.intro hg0 (And.intro hbl hB)))
  clear hc hg0 hbl hB hpok hsum hmost h2 hF
  go_enter Tryd.func32, Tryd.ntmps32
  go_wp2_with fail
  refine HC.out.1.mono ?_
  rintro e w1 ⟨v, rfl, hown, hg1⟩
  obtain ⟨AE, cE, rfl, hcE, _, hrE, _⟩ := Rd.of_own hown
  have hB1 := HC.out.2.2.2.grown hg1 (by simp)
  have hix := indexFunc1_any 82 (.pointer (some ⟨w.heap.size + 1, 0, none⟩)) (fun x => decide (d ≤ x)) AE E.length cE E w1 hrE (by omega) he2 (fun x w2 hg2 => blocked1_any x d (w.heap.size + 1) w2 ((hB1.grown hg2 (by simp)).cell 0))
  have hbl := HC.out.2.2.1
  obtain ⟨q, hq⟩ : ∃ q, idxI (fun x => decide (d ≤ x)) E = q := ⟨_, rfl⟩
  rw [hq] at hix hbl
  have HX := Lib.hid hix
  have hgg1 := HC.out.2.1.trans hg1
  clear hix hq hown hrE hB1 HC
  rcases hbl with ⟨hq0, hv⟩ | ⟨hq0, hv⟩ <;> have HV := Lib.hid hv <;> clear hv
  · go_wp2_with fail
    refine HX.out.mono ?_
    rintro e w2 ⟨rfl, hg2⟩
    go_wp2_with fail
    go_ret2
    exact ⟨retT HV.out.symm, hgg1.trans hg2⟩
  · go_wp2_with fail
    refine HX.out.mono ?_
    rintro e w2 ⟨rfl, hg2⟩
    go_wp2_with fail
    go_ret2
    exact ⟨retT HV.out.symm, hgg1.trans hg2⟩

end Go.Proofs.YtidfhgpjpieajaaDoor
