/- The walk of slices.Concat over two slices of pieces. -/
import Derived.Test.YtidfhgpjpieajaaDoorStkH
import Derived.Test.YtidfhgpjpieajaaDoorLaidGP
import Derived.Deep.LoopGhost
import Derived.Deep.Upon
namespace Go.Proofs.YtidfhgpjpieajaaDoor
open Go.RowKit

theorem own_mono2 {w : World} {b b' e size n : Nat} {v : Value} {xs : List Value} (h : w.ownsRow b e size v n xs) (hb : b' ≤ b) : w.ownsRow b' e size v n xs := by
  refine ⟨h.1, ?_⟩
  rcases h.2 with h' | ⟨g, cap, cur, h1, h2, h3⟩
  · exact .inl h'
  · exact .inr ⟨g, cap, cur, h1, Nat.le_trans hb h2, h3⟩

theorem growP_nil (n : Nat) (w : World) (hn : n ≤ 1000000) :
    Calls Tryd.prog 119 #[.slice none 0 0, .int .i64 n] w fun e w' => ∃ v, e = .returned v ∧ w'.ownsRow w.heap.size 54 2 v 0 (pcFlat []) ∧ w.grownBy w' none := by
  rcases Nat.eq_zero_or_pos n with h0 | h0
  · subst h0
    refine (Tryd.slices_GrowPc_room none 0 0 0 w (by omega) (by omega) (by omega) (by omega)).mono ?_
    rintro e w' ⟨rfl, rfl⟩
    exact ⟨_, rfl, World.ownsRow_nil _ _ _ _, grown_refl w'⟩
  · obtain ⟨i0, hi, hz0, hz1, hz2⟩ := info_parts Tryd.infoPc
    refine (Tryd.slices_GrowPc_nil i0 hi hz0 hz1 hz2 n w h0 hn).mono ?_
    rintro e w' ⟨rfl, rfl⟩
    have hge := grownCap_ge w (0 + n) 0 54
    have hle := grownCap_le_maxLen w (0 + n) 0 54 (by unfold maxLen; omega)
    generalize grownCap w (0 + n) 0 54 = cap at *
    refine ⟨_, rfl, ?_, grown_alloc (grown_drew (grown_refl w)) _⟩
    refine ⟨rfl, .inr ⟨w.heap.size, cap, _, rfl, Nat.le_refl _, heap_alloc_new w.drew _, by omega, hle, ?_, by simp [pcFlat]⟩⟩
    simp [Builtin.zeroCells, Value.cells]
    omega

set_option maxRecDepth 100000 in
set_option maxHeartbeats 1000000 in
theorem concatP_any (B C : Option Addr) (np cp nt ct g : Nat) (l1 l2 : List Pc) (w0 : World) (c0 : w0.cell? ⟨g, 0, none⟩ = some (.slice B np cp)) (c1 : w0.cell? ⟨g, 1, none⟩ = some (.slice C nt ct))
    (k1 : Rd w0 2 B np (pcFlat l1)) (k2 : Rd w0 2 C nt (pcFlat l2)) (hB : B = none → cp = 0) (hC : C = none → ct = 0) (hnp : np ≤ 1000) (hnt : nt ≤ 1000) :
    Calls Tryd.prog 96 #[.slice (some ⟨g, 0, none⟩) 2 2] w0
      fun e w' => ∃ v, e = .returned v ∧ w'.ownsRow w0.heap.size 54 2 v (l1 ++ l2).length (pcFlat (l1 ++ l2)) ∧ w0.grownBy w' none := by
  have hl1 : l1.length = np := by have := k1.1; rw [pcFlat_len] at this; omega
  have hl2 : l2.length = nt := by have := k2.1; rw [pcFlat_len] at this; omega
  have HB := Lib.hid (And.intro hB (And.intro hC (And.intro hl1 hl2)))
  clear hB hC hl1 hl2
  go_enter Tryd.func96, Tryd.ntmps96
  go_wp2_with fail
  go_loopg [3, 11] 2 (fun k sv i wr => ∃ j s : Nat, k + j = 2 ∧ i = .int .i64 j ∧ sv = .int .i64 s ∧ s ≤ 1000 * j ∧ (j = 2 → s = np + nt) ∧ (j = 1 → s = np) ∧ (j = 0 → s = 0) ∧ wr = w0)
  case atStart => exact ⟨0, 0, by omega, rfl, rfl, by omega, fun h => by omega, fun h => by omega, fun _ => rfl, rfl⟩
  case round =>
    obtain ⟨j, s, hj, rfl, rfl, hs1, hs2, hs3, hs4, hw⟩ := hrel
    replace hw := hw.symm
    subst hw
    have hjc : j = 0 ∨ j = 1 ∨ j = 2 := by omega
    rcases hjc with rfl | rfl | rfl
    · obtain rfl : s = 0 := hs4 rfl
      simp only [Int.natCast_zero]
      clear hs2 hs3 hs4 hs1
      go_wp2_with fail
      go_roundg (gk - 1)
      case measure => omega
      case rel => exact ⟨1, np, by omega, by go_num, by go_num, by omega, fun h => by omega, fun _ => rfl, fun h => by omega, rfl⟩
    · obtain rfl : s = np := hs3 rfl
      simp only [Int.natCast_one]
      clear hs2 hs3 hs4 hs1
      go_wp2_with fail
      go_roundg (gk - 1)
      case measure => omega
      case rel => exact ⟨2, s + nt, by omega, by go_num, by go_num, by omega, fun _ => rfl, fun h => by omega, fun h => by omega, rfl⟩
    · have HS := Lib.hid (hs2 rfl)
      have hs120 : s ≤ 2000 := by omega
      clear hs2 hs3 hs4 hs1
      go_wp2_with fail
      refine (growP_nil s w0 (by omega)).mono ?_
      rintro e w1 ⟨v, rfl, hown, hg⟩
      generalize gk = ko at *
      go_wp2_with fail
      go_loopg [6, 27] 2 (fun k vv i wr => ∃ (j : Nat) (l : List Pc), k + j = 2 ∧ i = .int .i64 j ∧ wr.ownsRow w0.heap.size 54 2 vv l.length (pcFlat l) ∧ w0.grownBy wr none ∧
        (j = 0 → l = []) ∧ (j = 1 → l = l1) ∧ (j = 2 → l = l1 ++ l2))
      case atStart => exact ⟨0, [], by omega, rfl, hown, hg, fun _ => rfl, fun h => by omega, fun h => by omega⟩
      case round =>
        clear hown hg
        obtain ⟨j, l, hj, rfl, hown, hg, h0, h1, h2⟩ := hrel
        have c0' := hg.cell c0 (by simp)
        have c1' := hg.cell c1 (by simp)
        have k1' := k1.grown hg
        have k2' := k2.grown hg
        have hsz := hg.size
        have hjc : j = 0 ∨ j = 1 ∨ j = 2 := by omega
        rcases hjc with rfl | rfl | rfl
        · obtain rfl := h0 rfl
          simp only [Int.natCast_zero]
          clear h0 h1 h2
          go_wp2_with (at_builtin; refine ap_pcs wr l1 B np cp rfl _ _ rfl w0.heap.size _ [] rfl hown rfl k1' HB.out.1 (by simp) (by omega) hsz ?_; intro v4 w4 hown4 hg4)
          go_roundg (gk - 1)
          case measure => omega
          case rel => exact ⟨1, l1, by omega, by go_num, by simpa using hown4, grown_below hg hg4 (fun i hi => .inl (hown.lt i hi).1), fun h => by omega, fun _ => rfl, fun h => by omega⟩
        · obtain rfl := h1 rfl
          simp only [Int.natCast_one]
          clear h0 h1 h2
          go_wp2_with (at_builtin; refine ap_pcs wr l2 C nt ct rfl _ _ rfl w0.heap.size _ l rfl hown rfl k2' HB.out.2.1 (by have := HB.out.2.2.1; omega) (by omega) hsz ?_; intro v4 w4 hown4 hg4)
          go_roundg (gk - 1)
          case measure => omega
          case rel => exact ⟨2, l ++ l2, by omega, by go_num, hown4, grown_below hg hg4 (fun i hi => .inl (hown.lt i hi).1), fun h => by omega, fun h => by omega, fun _ => rfl⟩
        · obtain rfl := h2 rfl
          clear h0 h1 h2
          go_wp2_with fail
          go_ret
          exact ⟨_, rfl, hown, hg⟩

end Go.Proofs.YtidfhgpjpieajaaDoor
