/- The walk of the reference's GreedyOf. -/
import Derived.Test.YtoaeflegcfecaaaPayM
import Derived.Test.YtoaeflegcfecaaaRefB
namespace Go.Proofs.Ytoaeflegcfecaaa
open Go.RowKit

theorem greedy_stop {left u c v : Int} (hv : 1 ≤ v) (h1 : u ≤ c) (h2 : u * v ≤ left) (h3 : c ≤ u ∨ left - u * v < v) : u = min c (left / v) := by
  have h4 : u ≤ left / v := (Int.le_ediv_iff_mul_le (by omega)).2 h2
  rcases h3 with h3 | h3
  · omega
  · have h5 : left / v < u + 1 := Int.ediv_lt_of_lt_mul (by omega) (by rw [Int.add_mul]; omega)
    omega

theorem set_same {l : List Int} {p : Nat} (h : l.getD p 0 = 0) : l.set p 0 = l := by
  apply List.ext_getElem?
  intro i
  by_cases e : p = i
  · subst e
    rw [List.getElem?_set]
    simp only [List.getD] at h
    cases h2 : l[p]? with
    | none =>
      have : ¬ p < l.length := fun hh => by rw [List.getElem?_eq_getElem hh] at h2; cases h2
      simp [this]
    | some y =>
      have hp := (List.getElem?_eq_some_iff.1 h2).1
      rw [h2] at h
      simp only [Option.getD_some] at h
      simp [hp, h]
  · rw [List.getElem?_set_ne e]

set_option maxRecDepth 100000 in
set_option maxHeartbeats 1000000 in
theorem greedyOf_any (A : Option Addr) (n c : Nat) (l : List Tub) (x : Int) (w : World) (hr : Rd w 3 A n (tubFlat l)) (hx0 : 0 ≤ x) (hx1 : x ≤ 20000) (hf0 : tubFault l = 0) :
    Calls Try.prog 19 #[.slice A n c, .int .i64 x] w fun e w' => ∃ v, e = .returned (.tuple #[v, .int .i64 (gRun n x (backAll l)).2]) ∧
      w'.ownsRow w.heap.size 3 1 v n (ints (gRun n x (backAll l)).1) ∧ w.grownBy w' none := by
  have hl : l.length = n := by have := hr.1; rw [tubFlat_len] at this; omega
  obtain ⟨hlen, hright, _⟩ := right_of hf0
  have hn10 : n ≤ 10 := by omega
  have HH := Lib.hid (And.intro hl hright)
  have hmk := fun w => run_make_row' (P := Try.prog) 22 3 (.int .i64 0) 8 Try.underlying22 Try.infoInt rfl .i64 .i64 n (by omega) (by omega) w
  clear hf0 hl hlen hright
  go_enter Try.func19, Try.ntmps19
  go_wp2_with fail
  have hown0 : (w.alloc (.cells (madeCells #[.int .i64 0] n) 3)).ownsRow w.heap.size 3 1 (.slice (some ⟨w.heap.size, 0, none⟩) n n) n (ints (List.replicate n 0)) := by
    have h := World.ownsRow_lit (base := w.heap.size) (size := 1) (e := 3) w (madeCells #[.int .i64 0] n) n (Nat.le_refl _) (by unfold maxLen; omega) (by simp [size_madeCells])
    rw [toList_madeCells_one] at h
    simpa [ints] using h
  have hg0 : w.grownBy (w.alloc (.cells (madeCells #[.int .i64 0] n) 3)) none := grown_alloc (grown_refl w) _
  generalize w.alloc (.cells (madeCells #[.int .i64 0] n) 3) = w0 at *
  clear hmk
  obtain ⟨g, hg⟩ : ∃ g, g = w.heap.size := ⟨_, rfl⟩
  have hgw : w.heap.size ≤ g := by omega
  rw [← hg] at hown0 ⊢
  have HG := Lib.hid hg
  clear hg
  go_loopg [1, 7] (n + 1) (fun k xv kv wr => ∃ j : Nat, j ≤ n ∧ j < k ∧ kv = .int .i64 ((j : Int) - 1) ∧ xv = .int .i64 (gRun n x ((backAll l).take (n - j))).2 ∧ wr.ownsRow g 3 1 (.slice (some ⟨g, 0, none⟩) n n) n (ints (gRun n x ((backAll l).take (n - j))).1) ∧ w.grownBy wr none)
  case atStart => exact ⟨n, Nat.le_refl _, by omega, rfl, by rw [Nat.sub_self, List.take_zero]; rfl, by rw [Nat.sub_self, List.take_zero]; exact hown0, hg0⟩
  case round =>
    obtain ⟨j, hjn, hjk, rfl, rfl, hown, hgr⟩ := hrel
    rcases j with _ | p
    · have hall : (backAll l).take (n - 0) = backAll l := by rw [← HH.out.1]; exact back_all l
      rw [hall] at hown ⊢
      clear hall
      simp only [Int.natCast_zero]
      obtain ⟨s, hs⟩ : ∃ s, s = gRun n x (backAll l) := ⟨_, rfl⟩
      rw [← hs] at hown ⊢
      have HS0 := Lib.hid hs
      clear hs
      go_wp2_with fail
      go_ret2
      exact ⟨.slice (some ⟨g, 0, none⟩) n n, by rw [← HS0.out]; rfl, by rw [← HS0.out]; exact own_mono hown hgw, hgr⟩
    · rw [show ((p + 1 : Nat) : Int) - 1 = (p : Int) from by omega]
      obtain ⟨b, off, rfl, hb, t, ht, c0, c1, c2⟩ := tub_cells hr (k := p) (by omega)
      obtain ⟨t', y, ht', hye, htk⟩ := back_step (l := l) (j := p) (by rw [HH.out.1]; omega)
      rw [ht] at ht'
      obtain rfl : t = t' := by simpa using ht'
      have hdn := greedy_down l x hx0 HH.out.2 (n - (p + 1)) (p + 1) (by rw [HH.out.1]; omega)
      rw [HH.out.1] at htk hdn
      have hsn := gRun_snoc n x ((backAll l).take (n - (p + 1))) y
      rw [← htk, hye] at hsn
      simp only [gStep] at hsn
      obtain ⟨r1, r2, r3, r4, r5⟩ := HH.out.2 t (List.mem_of_getElem? ht)
      have hlow := hdn.low p (by omega)
      have hpos := hdn.pos
      have hcl := hdn.len
      have hle : (gRun n x ((backAll l).take (n - (p + 1)))).2 ≤ x := (gRun_rng n x hx0 HH.out.2 _).2
      clear hdn htk ht' hye
      generalize gRun n x ((backAll l).take (n - (p + 1))) = s at *
      obtain ⟨coins, left⟩ := s
      simp only at hsn hlow hpos hcl hle hown ⊢
      have hset0 : coins.set p 0 = coins := set_same hlow
      have HS := Lib.hid (And.intro hsn (And.intro hset0 (And.intro ht (And.intro hjk (And.intro hlow hcl)))))
      clear hsn hset0 ht hjk hlow hcl
      have hpn : (p : Int) < (n : Int) := by omega
      have hgb : g ≠ b := by
        obtain ⟨b2, off2, e2, hb2, _⟩ := hr.2 (by omega)
        cases e2
        omega
      generalize gk = ko at *
      have e0 : wr.cell? ⟨b, off + p * 3, none⟩ = some (.int .i64 t.v) := hgr.cell c0 (by simp)
      go_wp2_with fail
      go_loopg [1] 1001 (fun k xv wr => ∃ u : Nat, (u : Int) ≤ t.c ∧ 1000 - u < k ∧ (u : Int) * t.v ≤ left ∧ xv = .int .i64 (left - u * t.v) ∧ wr.ownsRow g 3 1 (.slice (some ⟨g, 0, none⟩) n n) n (ints (coins.set p (u : Int))) ∧ w.grownBy wr none)
      case atStart => exact ⟨0, by omega, by omega, by simpa using hpos, by simp, by rw [show ((0 : Nat) : Int) = 0 from rfl, HS.out.2.1]; exact hown, hgr⟩
      case round =>
        obtain ⟨u, hu1, hu2, hu3, rfl, hown2, hg2⟩ := hrel
        have hgr2 := hg2
        have d0 : wr.cell? ⟨b, off + p * 3, none⟩ = some (.int .i64 t.v) := hg2.cell c0 (by simp)
        have d1 : wr.cell? ⟨b, off + p * 3 + 1, none⟩ = some (.int .i64 t.c) := hg2.cell c1 (by simp)
        have cG := own_int hown2 (j := p) (by omega)
        have fG := hown2.frozenAt p
        have hgd : (coins.set p (u : Int)).getD p 0 = (u : Int) := by
          have := HS.out.2.2.2.2.2
          simp [List.getD, show p < coins.length from by rw [this, HH.out.1]; omega]
        rw [hgd] at cG
        clear hgd
        have p0 : 0 ≤ (u : Int) * t.v := Int.mul_nonneg (by omega) (by omega)
        have hnx : ((u + 1 : Nat) : Int) * t.v = (u : Int) * t.v + t.v := by rw [show ((u + 1 : Nat) : Int) = (u : Int) + 1 from by omega, Int.add_mul, Int.one_mul]
        have hst := own_int_set hown2 p ((u : Int) + 1)
        rw [List.set_set] at hst
        obtain ⟨m, hm⟩ : ∃ m, m = (u : Int) * t.v := ⟨_, rfl⟩
        rw [← hm] at p0 hu3 hnx ⊢
        have HM := Lib.hid (And.intro hm (And.intro hnx hst))
        clear hm hnx hst
        by_cases hc1 : (u : Int) < t.c
        · by_cases hc2 : t.v ≤ left - m
          · have w1 : IntKind.i64.wrap ((u : Int) + 1) = (u : Int) + 1 := IntWalk.i64_in _ (by omega)
            have w2 : IntKind.i64.wrap (left - m - t.v) = left - m - t.v := IntWalk.i64_in _ (by omega)
            go_wp2_with fail
            go_quiet (fail)
            go_wp2_with fail
            obtain ⟨hm, hnx, hst⟩ := HM.out
            go_roundg (gk - 1)
            case measure => omega
            case rel => exact ⟨u + 1, by omega, by omega, by rw [hnx]; omega, by rw [hnx]; go_num, by rw [show ((u + 1 : Nat) : Int) = (u : Int) + 1 from by omega]; exact hst, grown_set (p := ⟨g, p, none⟩) (grown_drewN hg2 _) (.inl hgw) _⟩
          · have hd2 : decide (t.v ≤ left - m) = false := by simpa using hc2
            go_wp2_with fail
            go_quiet (fail)
            go_wp2_with fail
            obtain ⟨hm, hnx, hst⟩ := HM.out
            obtain ⟨hsn, _, _, hjk, _, _⟩ := HS.out
            have hstop := greedy_stop (left := left) (u := (u : Int)) (c := t.c) (v := t.v) r1 (by omega) (by omega) (by omega)
            go_roundg (ko - 1)
            case measure => omega
            case rel =>
              rw [← hstop] at hsn
              exact ⟨p, by omega, by omega, by go_num, by rw [hsn, hm], by rw [hsn]; exact hown2, grown_drewN hgr2 _⟩
        · have hd1 : decide ((u : Int) < t.c) = false := by simpa using hc1
          go_wp2_with fail
          go_quiet (fail)
          go_wp2_with fail
          obtain ⟨hm, hnx, hst⟩ := HM.out
          obtain ⟨hsn, _, _, hjk, _, _⟩ := HS.out
          have hstop := greedy_stop (left := left) (u := (u : Int)) (c := t.c) (v := t.v) r1 (by omega) (by omega) (by omega)
          go_roundg (ko - 1)
          case measure => omega
          case rel =>
            rw [← hstop] at hsn
            exact ⟨p, by omega, by omega, by go_num, by rw [hsn, hm], by rw [hsn]; exact hown2, grown_drewN hgr2 _⟩

end Go.Proofs.Ytoaeflegcfecaaa
