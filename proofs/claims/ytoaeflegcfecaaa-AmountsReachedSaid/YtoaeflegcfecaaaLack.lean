/- The walks of windowsOf, ReachOf, LackingOf, Lacking, slices.Equal over windows, cmp.Or. -/
import Derived.Test.YtoaeflegcfecaaaOrE
import Derived.Test.YtoaeflegcfecaaaPayable
import Derived.Test.YtoaeflegcfecaaaChange
namespace Go.Proofs.Ytoaeflegcfecaaa
open Go.RowKit

theorem win_last {w : World} {base gw cap m : Nat} {l : List Int} {x y : Int} (h : w.ownsRow base 53 2 (.slice (some ⟨gw, 0, none⟩) (m + 1) cap) (m + 1) (ints (l ++ [x, y]))) (hl : l.length = 2 * m) :
    w.cell? ⟨gw, m * 2 + 1, none⟩ = some (.int .i64 y) ∧ w.frozen? ⟨gw, m * 2 + 1, none⟩ = false := by
  have h1 := h.cellAt (m * 2 + 1) (by omega)
  refine ⟨?_, h.frozenAt _⟩
  rw [h1]
  have e : (l ++ [x, y])[m * 2 + 1]? = some y := by
    rw [List.getElem?_append_right (by omega), show m * 2 + 1 - l.length = 1 from by omega]; rfl
  simp only [ints, List.getElem?_map, e]; rfl
theorem win_put {l : List Int} {m : Nat} {x y z : Int} (hl : l.length = 2 * m) : (l ++ [x, y]).set (m * 2 + 1) z = l ++ [x, z] := by
  rw [List.set_append_right _ _ (by omega), show m * 2 + 1 - l.length = 1 from by omega]; rfl

set_option maxRecDepth 100000 in
set_option maxHeartbeats 1000000 in
theorem windowsOf_any (g N c base : Nat) (F : Nat → Bool) (w : World) (hown : w.ownsRow base 4 1 (.slice (some ⟨g, 0, none⟩) N c) N (bls N F)) (hN : N ≤ 100000) :
    Calls Try.prog 53 #[.slice (some ⟨g, 0, none⟩) N c] w
      fun e w' => ∃ v m, e = .returned v ∧ (winL F N).length = 2 * m ∧ m ≤ N ∧ w'.ownsRow w.heap.size 53 2 v m (ints (winL F N)) ∧ w.grownBy w' none := by
  go_enter Try.func53, Try.ntmps53
  go_wp2_with fail
  go_loopg [3, 8] N (fun k v i wr => ∃ j m : Nat, k + j = N ∧ i = .int .i64 j ∧ (winL F j).length = 2 * m ∧ m ≤ j ∧ (opnB F j = true → 1 ≤ m) ∧ wr.ownsRow w.heap.size 53 2 v m (ints (winL F j)) ∧ w.grownBy wr none)
  case atStart => exact ⟨0, 0, by omega, rfl, rfl, by omega, fun h => by simp [opnB] at h, World.ownsRow_nil _ _ _ _, grown_refl w⟩
  case round =>
    obtain ⟨j, m, hj, rfl, hlen, hmj, hop, hownW, hgj⟩ := hrel
    by_cases hlt : j < N
    · have hownB := hown.kept hgj (.inr (by simp [Value.ownBlock]))
      have cj := own_bool hownB hlt
      have hsz := hgj.size
      by_cases hF : F j = true
      · by_cases ho : opnB F j = true
        · -- a window goes on
          obtain ⟨p, rfl⟩ : ∃ p, m = p + 1 := ⟨m - 1, by have := hop ho; omega⟩
          obtain ⟨q, rfl⟩ : ∃ q, j = q + 1 := by
            cases j with
            | zero => simp [opnB] at ho
            | succ q => exact ⟨q, rfl⟩
          have cq := own_bool hownB (j := q) (by omega)
          have hFq : F q = true := ho
          rw [hFq] at cq
          obtain ⟨gw, cap, rfl, hgb, hglt⟩ := hownW.form (by omega)
          have hon := winL_on hF ho
          rw [show (winL F (q + 1)).length - 1 = p * 2 + 1 from by omega] at hon
          have hst := own_win_set hownW (p * 2 + 1) (((q + 1 : Nat) : Int) + 1)
          have hcc := hownW.cellAt (p * 2 + 1) (by omega)
          have hfr := hownW.frozenAt (p * 2 + 1)
          rw [List.getElem?_eq_getElem (show p * 2 + 1 < (ints (winL F (q + 1))).length from by simp [ints]; omega)] at hcc
          obtain ⟨u, hu⟩ : ∃ u, wr.cell? ⟨gw, p * 2 + 1, none⟩ = some u := ⟨_, hcc⟩
          rw [← hon] at hst
          have hpb : p ≤ 100000 := by omega
          have HS := Lib.hid (And.intro hst (And.intro hon (And.intro hj (And.intro hlen hF))))
          rw [hF] at cj
          have hqn : (q : Int) < (N : Int) := by omega
          have hqe : ((q : Int) + 1 == 0) = false := by rw [beq_eq_false_iff_ne]; omega
          clear hst hon hcc hj hlen hop hF ho hownB hFq
          go_wp2_with fail
          obtain ⟨hst, hon, hj, hlen, hF⟩ := HS.out
          go_roundg (gk - 1)
          case measure => omega
          case rel => exact ⟨q + 1 + 1, p + 1, by omega, by go_num, by rw [hon, List.length_set]; exact hlen, by omega, fun _ => by omega, hst, grown_set (p := ⟨gw, p * 2 + 1, none⟩) hgj (.inl hgb) _⟩
        · have ho' : opnB F j = false := by simpa using ho
          rcases j with _ | q
          · simp only [Int.natCast_zero]
            have hnew := winL_new hF ho'
            have HS := Lib.hid (And.intro hnew (And.intro hj (And.intro hlen hF)))
            rw [hF] at cj
            have hmb : m ≤ 1000000000 := by omega
            clear hnew hj hop hF ho ho' hownB
            go_wp2_with (at_builtin; refine ap_win wr (((0 : Nat) : Int)) 0 rfl _ _ rfl w.heap.size _ m (winL F (0)) hlen rfl hownW rfl hmb hsz ?_; intro v4 w4 hown4 hg4; obtain ⟨gw, cap, rfl, hgb, hglt⟩ := hown4.form (by omega); obtain ⟨hc4, hf4⟩ := win_last hown4 hlen)
            obtain ⟨hnew, hj, hlen, hF⟩ := HS.out
            have hst := own_win_set hown4 (m * 2 + 1) (((0 : Nat) : Int) + 1)
            rw [win_put hlen] at hst
            have hgg := ap_grown hgj hownW hg4 (Nat.le_refl _)
            go_roundg (gk - 1)
            case measure => omega
            case rel => exact ⟨0 + 1, m + 1, by omega, by go_num, by rw [hnew]; simp; omega, by omega, fun _ => by omega, by rw [hnew]; exact hst, grown_set (p := ⟨gw, m * 2 + 1, none⟩) hgg (.inl hgb) _⟩
          · have cq := own_bool hownB (j := q) (by omega)
            have hFq : F q = false := ho'
            rw [hFq] at cq
            have hqn : (q : Int) < (N : Int) := by omega
            have hqe : ((q : Int) + 1 == 0) = false := by rw [beq_eq_false_iff_ne]; omega
            have hnew := winL_new hF ho'
            have HS := Lib.hid (And.intro hnew (And.intro hj (And.intro hlen hF)))
            rw [hF] at cj
            have hmb : m ≤ 1000000000 := by omega
            clear hFq
            clear hnew hj hop hF ho ho' hownB
            go_wp2_with (at_builtin; refine ap_win wr (((q + 1 : Nat) : Int)) 0 rfl _ _ rfl w.heap.size _ m (winL F (q + 1)) hlen rfl hownW rfl hmb hsz ?_; intro v4 w4 hown4 hg4; obtain ⟨gw, cap, rfl, hgb, hglt⟩ := hown4.form (by omega); obtain ⟨hc4, hf4⟩ := win_last hown4 hlen)
            obtain ⟨hnew, hj, hlen, hF⟩ := HS.out
            have hst := own_win_set hown4 (m * 2 + 1) (((q + 1 : Nat) : Int) + 1)
            rw [win_put hlen] at hst
            have hgg := ap_grown hgj hownW hg4 (Nat.le_refl _)
            go_roundg (gk - 1)
            case measure => omega
            case rel => exact ⟨q + 1 + 1, m + 1, by omega, by go_num, by rw [hnew]; simp; omega, by omega, fun _ => by omega, by rw [hnew]; exact hst, grown_set (p := ⟨gw, m * 2 + 1, none⟩) hgg (.inl hgb) _⟩
      · have hF' : F j = false := by simpa using hF
        have HS := Lib.hid (And.intro hj (And.intro hlen hF'))
        rw [hF'] at cj
        clear hj hlen hop hF hF' hownB
        go_wp2_with fail
        obtain ⟨hj, hlen, hF'⟩ := HS.out
        go_roundg (gk - 1)
        case measure => omega
        case rel => exact ⟨j + 1, m, by omega, by go_num, by rw [winL_off hF']; exact hlen, by omega, fun h => by simp [opnB, hF'] at h, by rw [winL_off hF']; exact hownW, hgj⟩
    · obtain rfl : j = N := by omega
      go_wp2_with fail
      go_ret
      exact ⟨_, m, rfl, hlen, hmj, hownW, hgj⟩

set_option maxHeartbeats 400000 in
theorem reachOf_any (A : Option Addr) (n c : Nat) (l : List Tub) (most : Nat) (w : World) (hr : Rd w 3 A n (tubFlat l)) (hf : tubFault l = 0) (hm : most ≤ 20000) :
    Calls Try.prog 26 #[.slice A n c, .int .i64 most] w
      fun e w' => ∃ v m, e = .returned v ∧ (winL (paysB l) (most + 1)).length = 2 * m ∧ m ≤ most + 1 ∧ w'.ownsRow w.heap.size 53 2 v m (ints (winL (paysB l) (most + 1))) ∧ w.grownBy w' none := by
  have HF := Lib.hid hf
  clear hf
  go_enter Try.func26, Try.ntmps26
  go_wp2_with fail
  refine (payable_any A n c l most w hr HF.out hm).mono ?_
  rintro e w1 ⟨g, cap, rfl, hown1, hg1⟩
  go_wp2_with fail
  refine (windowsOf_any g (most + 1) cap _ (paysB l) w1 hown1 (by omega)).mono ?_
  rintro e w2 ⟨v, m, rfl, hlen, hm2, hown2, hg2⟩
  go_wp2_with fail
  go_ret
  exact ⟨_, m, rfl, hlen, hm2, own_mono hown2 hg1.size, hg1.trans hg2⟩

set_option maxHeartbeats 400000 in
theorem reach_bad (A : Option Addr) (n c : Nat) (l : List Tub) (x : Int) (w : World) (hr : Rd w 3 A n (tubFlat l)) (hf : amtFault l x ≠ 0) :
    Calls Try.prog 22 #[.slice A n c, .int .i64 x] w fun e w' => e = .returned (.tuple #[.slice none 0 0, .int .i64 (amtFault l x)]) ∧ w.grownBy w' none := by
  have hc := checkAmount_any A n c l x w hr
  have hb : (amtFault l x != 0) = true := by rw [bne_iff_ne]; exact hf
  generalize amtFault l x = f at *
  have HC := Lib.hid hc
  clear hc hf
  go_enter Try.func22, Try.ntmps22
  go_wp2_with fail
  refine HC.out.mono ?_
  rintro e w1 ⟨rfl, hg1⟩
  go_wp2_with fail
  go_ret2
  exact ⟨rfl, hg1⟩

/-- slices.Equal of the same windows. -/
theorem equalWin_any (A B : Option Addr) (n c d : Nat) (l : List Int) (w : World) (hr : Rd w 2 A n (ints l)) (hr2 : Rd w 2 B n (ints l)) (hn : n ≤ 1000000) :
    Calls Try.prog 25 #[.slice A n c, .slice B n d] w fun e w' => e = .returned (.bool true) ∧ w.grownBy w' none := by
  go_enter Try.func25, Try.ntmps25
  go_wp2_with fail
  go_loopg [13] n (fun g i wr => ∃ j : Nat, g + j = n ∧ i = .int .i64 j ∧ w.grownBy wr none)
  case atStart => exact ⟨0, by omega, rfl, grown_refl w⟩
  case round =>
    obtain ⟨j, hj, rfl, hg⟩ := hrel
    by_cases hlt : j < n
    · obtain ⟨b, off, rfl, hb, c0, c1⟩ := win_cells (hr.grown hg) hlt
      obtain ⟨b', off', rfl, hb', d0, d1⟩ := win_cells (hr2.grown hg) hlt
      generalize l.getD (2 * j) 0 = x at *
      generalize l.getD (2 * j + 1) 0 = y at *
      have hlt' : (j : Int) < (n : Int) := by omega
      have HJ := Lib.hid hj
      clear hj
      go_wp2_with fail
      go_quiet (fail)
      go_wp2_with fail
      have hj := HJ.out
      go_roundg (gk - 1)
      case measure => omega
      case rel => exact ⟨j + 1, by omega, by go_num, grown_drewN hg _⟩
    · obtain rfl : j = n := by omega
      go_wp2_with fail
      go_ret
      exact ⟨rfl, hg⟩

/-- The least amount of a, a + step .. that is not so. -/
def lackG (F : Nat → Bool) (most step : Nat) : Nat → Nat → Option Nat
  | 0, _ => none
  | k + 1, a => if a ≤ most then (if F a then lackG F most step k (a + step) else some a) else none
def lackA (o : Option Nat) : Int := match o with | some a => a | none => 0
theorem lackG_out {F : Nat → Bool} {most step k a : Nat} (h : most < a) : lackG F most step k a = none := by
  cases k with
  | zero => rfl
  | succ k => simp only [lackG]; rw [if_neg (by omega)]
theorem lackG_hit {F : Nat → Bool} {most step k a : Nat} (h : a ≤ most) (hk : 0 < k) (hF : F a = false) : lackG F most step k a = some a := by
  obtain ⟨k0, rfl⟩ : ∃ k0, k = k0 + 1 := ⟨k - 1, by omega⟩
  simp only [lackG]; rw [if_pos h, if_neg (by simp [hF])]
theorem lackG_on {F : Nat → Bool} {most step k a : Nat} (h : a ≤ most) (hk : 0 < k) (hF : F a = true) : lackG F most step k a = lackG F most step (k - 1) (a + step) := by
  obtain ⟨k0, rfl⟩ : ∃ k0, k = k0 + 1 := ⟨k - 1, by omega⟩
  simp only [lackG]; rw [if_pos h, if_pos hF]; rfl

set_option maxHeartbeats 600000 in
theorem lackingOf_any (A : Option Addr) (n c : Nat) (l : List Tub) (most step : Nat) (w : World) (hr : Rd w 3 A n (tubFlat l)) (hf : tubFault l = 0) (hm : most ≤ 20000) (hs1 : 1 ≤ step) (hs2 : step ≤ 20000) :
    Calls Try.prog 27 #[.slice A n c, .int .i64 most, .int .i64 step] w
      fun e w' => e = .returned (.tuple #[.int .i64 (lackA (lackG (paysB l) most step (most + 1) step)), .bool (lackG (paysB l) most step (most + 1) step).isSome]) ∧ w.grownBy w' none := by
  have HF := Lib.hid hf
  clear hf
  go_enter Try.func27, Try.ntmps27
  go_wp2_with fail
  refine (payable_any A n c l most w hr HF.out hm).mono ?_
  rintro e w1 ⟨g, cap, rfl, hown1, hg1⟩
  go_wp2_with fail
  go_loopg [9] (most + 1) (fun k av wr => ∃ a : Nat, av = .int .i64 a ∧ most < a + k ∧ wr = w1 ∧ lackG (paysB l) most step (most + 1) step = lackG (paysB l) most step k a)
  case atStart => exact ⟨step, rfl, by omega, rfl, rfl⟩
  case round =>
    obtain ⟨a, rfl, hk, rfl, hE⟩ := hrel
    by_cases hle : a ≤ most
    · have ca := own_bool hown1 (j := a) (by omega)
      have ha' : (a : Int) < (most : Int) + 1 := by omega
      have hle' : (a : Int) ≤ (most : Int) := by omega
      have hgk : 0 < gk := by omega
      by_cases hF : paysB l a = true
      · have hE2 := hE.trans (lackG_on hle hgk hF)
        rw [hF] at ca
        have HE := Lib.hid (And.intro hE2 hk)
        clear hE hE2 hF hk
        go_wp2_with fail
        obtain ⟨hE, hk⟩ := HE.out
        go_roundg (gk - 1)
        case measure => omega
        case rel => exact ⟨a + step, by go_num, by omega, rfl, hE⟩
      · have hF' : paysB l a = false := by simpa using hF
        have hE2 := hE.trans (lackG_hit hle hgk hF')
        rw [hF'] at ca
        have HE := Lib.hid hE2
        clear hE hE2 hF hF' hk
        go_wp2_with fail
        go_ret2
        exact ⟨by rw [HE.out]; rfl, hg1⟩
    · have hE2 := hE.trans (lackG_out (by omega))
      have hle' : decide ((a : Int) ≤ (most : Int)) = false := by simp; omega
      have HE := Lib.hid hE2
      clear hE hE2 hk
      go_wp2_with fail
      go_ret2
      exact ⟨by rw [HE.out]; rfl, hg1⟩

set_option maxHeartbeats 600000 in
theorem lacking_ok (A : Option Addr) (n c : Nat) (l : List Tub) (most step : Nat) (w : World) (hr : Rd w 3 A n (tubFlat l)) (hf : amtFault l (most : Int) = 0) (hs1 : 1 ≤ step) (hs2 : step ≤ 20000) :
    Calls Try.prog 23 #[.slice A n c, .int .i64 most, .int .i64 step] w
      fun e w' => e = .returned (.tuple #[.int .i64 (lackA (lackG (paysB l) most step (most + 1) step)), .bool (lackG (paysB l) most step (most + 1) step).isSome, .int .i64 0]) ∧ w.grownBy w' none := by
  have hc := checkAmount_any A n c l most w hr
  obtain ⟨h0, h1⟩ := amt_parts hf
  rw [hf] at hc
  have hbs : btw (step : Int) 1 20000 = true := btw_true.2 ⟨by omega, by omega⟩
  have HC := Lib.hid (And.intro hc (And.intro h0 hbs))
  have he : ∀ (args : Array Value) (w : World), (callFunc 71 args).run Try.prog w = .ok (.enter 71 args) w := enters_of Try.func71 (by kernel_rfl) rfl
  clear hc hf h0 hbs
  go_enter Try.func23, Try.ntmps23
  go_wp2_with fail
  refine HC.out.1.mono ?_
  rintro e w1 ⟨rfl, hg1⟩
  go_wp2_with fail
  refine (between_any _ _ _ _).mono ?_
  rw [HC.out.2.2]
  rintro e w2 ⟨rfl, rfl⟩
  go_wp2_with fail
  refine (payer_any A n c l most w1 (hr.grown hg1) HC.out.2.1 h1).mono ?_
  rintro e w2 ⟨B, rfl, hpay, hg2⟩
  have hgw := hg1.trans hg2
  go_wp2_with fail
  go_loopg [11] (most + 1) (fun k av wr => ∃ a : Nat, av = .int .i64 a ∧ most < a + k ∧ wr = w2 ∧ lackG (paysB l) most step (most + 1) step = lackG (paysB l) most step k a)
  case atStart => exact ⟨step, rfl, by omega, rfl, rfl⟩
  case round =>
    obtain ⟨a, rfl, hk, rfl, hE⟩ := hrel
    by_cases hle : a ≤ most
    · have hcall := payer1_any l (most + 1) B w1.heap.size a wr hpay (by omega)
      have HCA := Lib.hid hcall
      have ha' : (a : Int) < (most : Int) + 1 := by omega
      have hle' : (a : Int) ≤ (most : Int) := by omega
      have hgk : 0 < gk := by omega
      have HE0 := Lib.hid (And.intro hE hk)
      clear hcall hE hk
      go_wp2_with fail
      refine HCA.out.mono ?_
      rintro e w3 ⟨rfl, rfl⟩
      obtain ⟨hE, hk⟩ := HE0.out
      by_cases hF : paysB l a = true
      · have hE2 := hE.trans (lackG_on hle hgk hF)
        rw [hF]
        have HE := Lib.hid (And.intro hE2 hk)
        clear hE hE2 hF hk
        go_wp2_with fail
        obtain ⟨hE, hk⟩ := HE.out
        go_roundg (gk - 1)
        case measure => omega
        case rel => exact ⟨a + step, by go_num, by omega, rfl, hE⟩
      · have hF' : paysB l a = false := by simpa using hF
        have hE2 := hE.trans (lackG_hit hle hgk hF')
        rw [hF']
        have HE := Lib.hid hE2
        clear hE hE2 hF hF' hk
        go_wp2_with fail
        go_ret3
        exact ⟨by rw [HE.out]; rfl, hgw⟩
    · have hE2 := hE.trans (lackG_out (by omega))
      have hle' : decide ((a : Int) ≤ (most : Int)) = false := by simp; omega
      have HE := Lib.hid hE2
      clear hE hE2 hk
      go_wp2_with fail
      go_ret3
      exact ⟨by rw [HE.out]; rfl, hgw⟩

/-- What Lacking says is wrong. -/
def lackFault (l : List Tub) (x s : Int) : Int := if amtFault l x ≠ 0 then amtFault l x else if btw s 1 20000 = false then 1 else 0
set_option maxHeartbeats 400000 in
theorem lacking_bad (A : Option Addr) (n c : Nat) (l : List Tub) (x s : Int) (w : World) (hr : Rd w 3 A n (tubFlat l)) (hf : lackFault l x s ≠ 0) :
    Calls Try.prog 23 #[.slice A n c, .int .i64 x, .int .i64 s] w fun e w' => e = .returned (.tuple #[.int .i64 0, .bool false, .int .i64 (lackFault l x s)]) ∧ w.grownBy w' none := by
  have hc := checkAmount_any A n c l x w hr
  by_cases h0 : amtFault l x = 0
  · have hb : btw s 1 20000 = false := by
      by_cases h : btw s 1 20000 = false
      · exact h
      · simp [lackFault, h0, h] at hf
    have hl : lackFault l x s = 1 := by simp [lackFault, h0, hb]
    rw [hl]
    rw [h0] at hc
    have HC := Lib.hid (And.intro hc hb)
    clear hc hb hl h0 hf
    go_enter Try.func23, Try.ntmps23
    go_wp2_with fail
    refine HC.out.1.mono ?_
    rintro e w1 ⟨rfl, hg1⟩
    go_wp2_with fail
    refine (between_any _ _ _ _).mono ?_
    rw [HC.out.2]
    rintro e w2 ⟨rfl, rfl⟩
    go_wp2_with fail
    go_ret3
    exact ⟨rfl, hg1⟩
  · have hl : lackFault l x s = amtFault l x := by simp [lackFault, h0]
    rw [hl]
    have hb : (amtFault l x != 0) = true := by rw [bne_iff_ne]; exact h0
    clear hl hf
    generalize amtFault l x = f at *
    have HC := Lib.hid hc
    clear hc h0
    go_enter Try.func23, Try.ntmps23
    go_wp2_with fail
    refine HC.out.mono ?_
    rintro e w1 ⟨rfl, hg1⟩
    go_wp2_with fail
    go_ret3
    exact ⟨rfl, hg1⟩

end Go.Proofs.Ytoaeflegcfecaaa
