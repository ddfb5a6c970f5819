/- The walk of the reference's ChangeOf. -/
import Derived.Test.YtoaeflegcfecaaaChangeOf
namespace Go.Proofs.Ytoaeflegcfecaaa
open Go.RowKit

/-- The first row, as far as it is filled. -/
def need0 (j a : Nat) : Int := if a = 0 then 0 else if a < j then 1099511627776 else 0

theorem up_exit (base : Nat → Int) (tv tc u p : Nat) (h1 : u ≤ tc + 1) (h : u = tc + 1 ∨ p < u * tv) : upP base tv u p = up base tv tc p := by
  cases u with
  | zero => simp at h
  | succ m =>
    show up base tv m p = _
    rcases h with h | h
    · rw [show m = tc from by omega]
    · refine up_cap _ _ _ _ _ fun k h2 h3 => ?_
      have h4 : k < m + 1 := Nat.lt_of_mul_lt_mul_right (a := tv) (by omega)
      omega

set_option maxRecDepth 100000 in
set_option maxHeartbeats 4000000 in
theorem changeOf_any (A : Option Addr) (n c : Nat) (l : List Tub) (a : Nat) (w : World) (hr : Rd w 3 A n (tubFlat l)) (hf : tubFault l = 0) (ha : a ≤ 20000) :
    Calls Try.prog 18 #[.slice A n c, .int .i64 a] w fun e w' => ∃ v, e = .returned (.tuple #[v, .int .i64 (chgE l a)]) ∧
      w'.ownsRow w.heap.size 3 1 v (chg l a).length (ints (chg l a)) ∧ w.grownBy w' none := by
  have hl : l.length = n := by have := hr.1; rw [tubFlat_len] at this; omega
  obtain ⟨hlen, hright, _⟩ := right_of hf
  have hn10 : n ≤ 10 := by omega
  have HH := Lib.hid (And.intro hl hright)
  have hmk := fun w => run_make_row' (P := Try.prog) 22 3 (.int .i64 0) 8 Try.underlying22 Try.infoInt rfl .i64 .i64 (a + 1) (by omega) (by omega) w
  rw [show ((a + 1 : Nat) : Int) = (a : Int) + 1 from by omega] at hmk
  have hmk2 := fun w => run_make_row' (P := Try.prog) 22 3 (.int .i64 0) 8 Try.underlying22 Try.infoInt rfl .i64 .i64 n (by omega) (by omega) w
  clear hf hl hlen hright
  go_enter Try.func18, Try.ntmps18
  go_wp2_with fail
  have hown0 : (w.alloc (.cells (madeCells #[.int .i64 0] (a + 1)) 3)).ownsRow w.heap.size 3 1 (.slice (some ⟨w.heap.size, 0, none⟩) (a + 1) (a + 1)) (a + 1) (ints (fl (a + 1) (need0 1))) := by
    have h := World.ownsRow_lit (base := w.heap.size) (size := 1) (e := 3) w (madeCells #[.int .i64 0] (a + 1)) (a + 1) (Nat.le_refl _) (by unfold maxLen; omega) (by simp [size_madeCells])
    rw [toList_madeCells_one] at h
    rw [fl_congr (g := firstF 1) (fun b _ => by
      unfold need0 firstF
      split
      · rfl
      · rw [if_neg (by omega), if_neg (by omega)]), first_ints]; exact h
  have hg0 : w.grownBy (w.alloc (.cells (madeCells #[.int .i64 0] (a + 1)) 3)) none := grown_alloc (grown_refl w) _
  have hz0 : (w.alloc (.cells (madeCells #[.int .i64 0] (a + 1)) 3)).heap.size = w.heap.size + 1 := by simp
  generalize w.alloc (.cells (madeCells #[.int .i64 0] (a + 1)) 3) = w0 at *
  obtain ⟨g, hg⟩ : ∃ g, g = w.heap.size := ⟨_, rfl⟩
  rw [← hg] at hown0 hz0 ⊢
  have hrows0 : (w0.alloc (.cells #[.slice (some ⟨g, 0, none⟩) (a + 1) (a + 1)] 22)).ownsRow w.heap.size 22 1 (.slice (some ⟨w0.heap.size, 0, none⟩) 1 1) (0 + 1) [.slice (some ⟨g, 0, none⟩) (a + 1) (a + 1)] :=
    World.ownsRow_lit w0 #[.slice (some ⟨g, 0, none⟩) (a + 1) (a + 1)] 1 hg0.size (by unfold maxLen; omega) rfl
  have hown1 := hown0.alloc (.cells #[.slice (some ⟨g, 0, none⟩) (a + 1) (a + 1)] 22)
  have hg1 := grown_alloc hg0 (.cells #[.slice (some ⟨g, 0, none⟩) (a + 1) (a + 1)] 22)
  have hcR : (w0.alloc (.cells #[.slice (some ⟨g, 0, none⟩) (a + 1) (a + 1)] 22)).cell? ⟨w0.heap.size, 0, none⟩ = some (.slice (some ⟨g, 0, none⟩) (a + 1) (a + 1)) := by rw [World.cell?_alloc_new]; rfl
  generalize w0.alloc (.cells #[.slice (some ⟨g, 0, none⟩) (a + 1) (a + 1)] 22) = w1 at *
  rw [hz0] at hrows0 hcR
  have HG := Lib.hid hg
  have hgw : w.heap.size ≤ g := by omega
  clear hg hz0 hown0 hg0
  go_loopg [7] (a + 1) (fun k i wr => ∃ j : Nat, 1 ≤ j ∧ j ≤ a + 1 ∧ a + 1 - j < k ∧ i = .int .i64 j ∧ wr.ownsRow g 3 1 (.slice (some ⟨g, 0, none⟩) (a + 1) (a + 1)) (a + 1) (ints (fl (a + 1) (need0 j))) ∧ w1.grownBy wr (some g))
  case atStart => exact ⟨1, by omega, by omega, by omega, rfl, hown1, World.grownBy.refl _ _⟩
  case round =>
    obtain ⟨j, hj1, hj2, hk, rfl, hown, hgr⟩ := hrel
    have cR2 : wr.cell? ⟨g + 1, 0, none⟩ = some (.slice (some ⟨g, 0, none⟩) (a + 1) (a + 1)) := hgr.cell hcR (by simp)
    by_cases hlt : j ≤ a
    · have c0 := own_int hown (j := j) (by omega)
      have hfr := hown.frozenAt j
      have hset := own_int_set hown j 1099511627776
      rw [fl_set, fl_congr (g := need0 (j + 1)) (fun b _ => by
        by_cases e : b = j
        · subst e; rw [if_pos rfl]; unfold need0; rw [if_neg (by omega), if_pos (by omega)]
        · rw [if_neg e]
          unfold need0
          by_cases h0 : b = 0
          · rw [if_pos h0, if_pos h0]
          · rw [if_neg h0, if_neg h0]
            by_cases h1 : b < j
            · rw [if_pos h1, if_pos (by omega)]
            · rw [if_neg h1, if_neg (by omega)])] at hset
      have HS := Lib.hid hset
      have HK := Lib.hid hk
      clear hset hk
      go_wp2_with fail
      have hk := HK.out
      go_roundg (gk - 1)
      case measure => omega
      case rel => exact ⟨j + 1, by omega, by omega, by omega, by go_num, HS.out, grown_set (p := ⟨g, j, none⟩) hgr (.inr rfl) _⟩
    · obtain rfl : j = a + 1 := by omega
      have hrow : wr.ownsRow g 3 1 (.slice (some ⟨g, 0, none⟩) (a + 1) (a + 1)) (a + 1) (ints (fl (a + 1) (needF l 0))) := by
        rw [fl_congr (g := need0 (a + 1)) (fun b hb => by
          unfold needF nb need0
          show (if (if b = 0 then (0 : Int) else 20001) = 20001 then (1099511627776 : Int) else if b = 0 then 0 else 20001) = _
          by_cases h0 : b = 0
          · simp [h0]
          · simp [h0]; omega)]
        exact hown
      have hgwr : w.grownBy wr none := grown_below hg1 hgr (fun i e => .inl (by injection e with e; omega))
      have hrows1 := hrows0.kept hgr (.inr (by simp [Value.ownBlock]))
      have hok1 : RowsG wr w.heap.size (needF l) (a + 1) (0 + 1) [.slice (some ⟨g, 0, none⟩) (a + 1) (a + 1)] :=
        RowsG.snoc (vals := []) ⟨rfl, fun i hi => absurd hi (by simp)⟩ (own_mono hrow (by omega))
      clear hown hk hown1 hrows0 hrow hgr hg1 hcR cR2
      go_wp2_with fail
      go_loopg [6, 33] n (fun k v i wr => ∃ (j : Nat) (vals : List Value), k + j = n ∧ i = .int .i64 j ∧ wr.ownsRow w.heap.size 22 1 v (j + 1) vals ∧ RowsG wr w.heap.size (needF l) (a + 1) (j + 1) vals ∧ w.grownBy wr none)
      case atStart => exact ⟨0, _, by omega, rfl, hrows1, hok1, hgwr⟩
      case round =>
        clear hrows1 hok1 hgwr
        obtain ⟨j, vals, hj, rfl, hrows, hok, hgo⟩ := hrel
        generalize gk = ko at *
        by_cases hlt : j < n
        · obtain ⟨b, off, rfl, hb, t, ht, c0, c1, c2⟩ := tub_cells (hr.grown hgo) hlt
          obtain ⟨r1, r2, r3, r4, r5⟩ := HH.out.2 t (List.mem_of_getElem? ht)
          have hsucc := rowF_succ ht
          obtain ⟨gr, capr, rfl, hgr1, hgr2⟩ := hrows.form (by omega)
          obtain ⟨gi, ci, cR, hgi1, hgi2, hgi3, z⟩ := hok.cells hrows (i := j) (by omega)
          obtain ⟨tv, htv⟩ := Int.eq_ofNat_of_zero_le (show 0 ≤ t.v by omega)
          obtain ⟨tc, htc⟩ := Int.eq_ofNat_of_zero_le r3
          rw [htv] at c0
          rw [htc] at c1
          rw [htv, htc, Int.toNat_natCast, Int.toNat_natCast] at hsucc
          have htv1 : 1 ≤ tv := by omega
          have htv2 : tv ≤ 10000 := by omega
          have htc2 : tc ≤ 1000 := by omega
          have HT := Lib.hid (And.intro ht (And.intro hsucc hj))
          have HZ := Lib.hid z
          clear ht hsucc hj htv htc z
          have hlt' : (j : Int) < (n : Int) := by omega
          go_wp2_with fail
          have hF : ∀ w2, ((wr.alloc (.cells #[.int .i64 tv, .int .i64 tc, .int .i64 t.m] 70)).alloc (.cells (madeCells #[.int .i64 0] (a + 1)) 3)).grownBy w2 (some (wr.heap.size + 1)) →
              w2.ownsRow w.heap.size 22 1 (.slice (some ⟨gr, 0, none⟩) (j + 1) capr) (j + 1) vals ∧ RowsG w2 w.heap.size (needF l) (a + 1) (j + 1) vals ∧ w.grownBy w2 none := by
            intro w2 h
            have h1 : wr.grownBy w2 none := grown_below (grown_alloc (grown_alloc (grown_refl wr) _) _) h (fun i e => .inl (by injection e with e; omega))
            exact ⟨hrows.kept h1 (.inr (by simp [Value.ownBlock])), hok.kept h1, hgo.trans h1⟩
          have hownR : ((wr.alloc (.cells #[.int .i64 tv, .int .i64 tc, .int .i64 t.m] 70)).alloc (.cells (madeCells #[.int .i64 0] (a + 1)) 3)).ownsRow (wr.heap.size + 1) 3 1 (.slice (some ⟨wr.heap.size + 1, 0, none⟩) (a + 1) (a + 1)) (a + 1) (ints (fl (a + 1) (fillF (needF l (j + 1)) 0 0))) := by
            have h := World.ownsRow_lit (base := wr.heap.size + 1) (size := 1) (e := 3) (wr.alloc (.cells #[.int .i64 tv, .int .i64 tc, .int .i64 t.m] 70)) (madeCells #[.int .i64 0] (a + 1)) (a + 1) (by simp) (by unfold maxLen; omega) (by simp [size_madeCells])
            rw [toList_madeCells_one] at h
            rw [fill_zero]
            simpa using h
          have hg2 := grown_alloc (grown_alloc (grown_refl wr) (.cells #[.int .i64 tv, .int .i64 tc, .int .i64 t.m] 70)) (.cells (madeCells #[.int .i64 0] (a + 1)) 3)
          have x0 : ((wr.alloc (.cells #[.int .i64 tv, .int .i64 tc, .int .i64 t.m] 70)).alloc (.cells (madeCells #[.int .i64 0] (a + 1)) 3)).cell? ⟨wr.heap.size, 0, none⟩ = some (.int .i64 tv) := by
            rw [World.cell?_alloc_lt _ _ _ (by simp), World.cell?_alloc_new]; rfl
          have x1 : ((wr.alloc (.cells #[.int .i64 tv, .int .i64 tc, .int .i64 t.m] 70)).alloc (.cells (madeCells #[.int .i64 0] (a + 1)) 3)).cell? ⟨wr.heap.size, 1, none⟩ = some (.int .i64 tc) := by
            rw [World.cell?_alloc_lt _ _ _ (by simp), World.cell?_alloc_new]; rfl
          have cR2 := hg2.cell cR (by simp)
          have z2 : ∀ b, b < a + 1 → ((wr.alloc (.cells #[.int .i64 tv, .int .i64 tc, .int .i64 t.m] 70)).alloc (.cells (madeCells #[.int .i64 0] (a + 1)) 3)).cell? ⟨gi, b, none⟩ = some (.int .i64 (needF l j b)) :=
            fun b hb => hg2.cell (HZ.out b hb) (by simp)
          generalize (wr.alloc (.cells #[.int .i64 tv, .int .i64 tc, .int .i64 t.m] 70)).alloc (.cells (madeCells #[.int .i64 0] (a + 1)) 3) = wA at *
          have HFF := Lib.hid hF
          have HZ2 := Lib.hid z2
          have hwb := hgo.size
          clear hF z2 hrows hok hgo hg2 cR
          generalize wr.heap.size = gB at *
          have hBase : ∀ b, 0 ≤ rowF l j b ∧ rowF l j b ≤ 20001 := fun b => rowF_bound l j b
          have hBase2 : ∀ b, rowF l j b ≠ 20001 → rowF l j b ≤ b := fun b => rowF_le l HH.out.2 j b
          have HBB := Lib.hid (And.intro hBase hBase2)
          clear hBase hBase2
          go_loopg [43] (a + 1) (fun k i wr => ∃ p : Nat, k + p = a + 1 ∧ i = .int .i64 p ∧ wr.ownsRow (gB + 1) 3 1 (.slice (some ⟨gB + 1, 0, none⟩) (a + 1) (a + 1)) (a + 1) (ints (fl (a + 1) (fillF (needF l (j + 1)) p 0))) ∧ wA.grownBy wr (some (gB + 1)))
          case atStart => exact ⟨0, by omega, rfl, hownR, World.grownBy.refl _ _⟩
          case round =>
            clear hownR
            obtain ⟨p, hp, rfl, hownP, hgP⟩ := hrel
            generalize gk = kp at *
            by_cases hpl : p < a + 1
            · have cP := own_int hownP hpl
              have fP := hownP.frozenAt p
              have hstP := own_int_set hownP p (nb 20001)
              rw [fill_set] at hstP
              rw [show nb 20001 = 1099511627776 from rfl] at hstP
              have hgP2 := grown_set (p := ⟨gB + 1, p, none⟩) hgP (.inr rfl) (.int .i64 1099511627776)
              have hpl' : (p : Int) < (a : Int) + 1 := by omega
              have HP := Lib.hid hp
              clear hp hownP hgP
              go_wp2_with fail
              generalize wr.setCell ⟨gB + 1, p, none⟩ (.int .i64 1099511627776) = wS at *
              have hp20 : p ≤ 20000 := by omega
              clear cP fP
              go_loopg [12] (tc + 2) (fun k i wr => ∃ u : Nat, u ≤ tc + 1 ∧ tc + 1 - u < k ∧ i = .int .i64 u ∧ wr.ownsRow (gB + 1) 3 1 (.slice (some ⟨gB + 1, 0, none⟩) (a + 1) (a + 1)) (a + 1) (ints (fl (a + 1) (fillF (needF l (j + 1)) p (nb (upP (rowF l j) tv u p))))) ∧ wA.grownBy wr (some (gB + 1)))
              case atStart => exact ⟨0, by omega, by omega, rfl, hstP, hgP2⟩
              case round =>
                clear hstP hgP2
                obtain ⟨u, hu, huk, rfl, hownU, hgU⟩ := hrel
                have y0 : wr.cell? ⟨gB, 0, none⟩ = some (.int .i64 tv) := hgU.cell x0 (by simp)
                have y1 : wr.cell? ⟨gB, 1, none⟩ = some (.int .i64 tc) := hgU.cell x1 (by simp)
                have p2 : u * tv ≤ 1001 * 10000 := Nat.mul_le_mul (by omega) htv2
                obtain ⟨m, hm⟩ : ∃ m, m = u * tv := ⟨_, rfl⟩
                rw [← hm] at p2
                have wm : IntKind.i64.wrap ((u : Int) * (tv : Int)) = (m : Int) := by rw [← Int.natCast_mul, ← hm]; exact IntWalk.i64_in _ (by omega)
                by_cases hc1 : u ≤ tc
                · have hc1' : (u : Int) ≤ (tc : Int) := by omega
                  by_cases hc2 : m ≤ p
                  · have hc2' : (m : Int) ≤ (p : Int) := by omega
                    have cU := own_int hownU hpl
                    have fU := hownU.frozenAt p
                    rw [fl_getD _ hpl] at cU
                    have hfl : fillF (needF l (j + 1)) p (nb (upP (rowF l j) tv u p)) p = nb (upP (rowF l j) tv u p) := by unfold fillF; rw [if_neg (by omega), if_pos rfl]
                    rw [hfl] at cU
                    have hstep := nb_step (rowF l j) HBB.out.1 HBB.out.2 tv u p htv1 (by omega) (by omega)
                    have zU : wr.cell? ⟨gi, p - m, none⟩ = some (.int .i64 (needF l j (p - m))) := hgU.cell (HZ2.out (p - m) (by omega)) (by simp; omega)
                    have hzr : 0 ≤ needF l j (p - m) ∧ needF l j (p - m) ≤ 1099511627776 := nb_rng (HBB.out.1 _)
                    have hstU := own_int_set hownU p (nb (upP (rowF l j) tv (u + 1) p))
                    rw [fill_set, hstep, ← hm] at hstU
                    rw [← hm] at hstep
                    have cR3 : wr.cell? ⟨gr, j, none⟩ = some (.slice (some ⟨gi, 0, none⟩) (a + 1) ci) := hgU.cell cR2 (by simp; omega)
                    have hdef : needF l j (p - m) = nb (rowF l j (p - m)) := rfl
                    rw [← hdef] at hstU hstep
                    obtain ⟨q, hq⟩ : ∃ q, q = p - m := ⟨_, rfl⟩
                    rw [← hq] at zU hstU hstep hzr
                    obtain ⟨s0, hs0⟩ : ∃ s0, s0 = needF l j q := ⟨_, rfl⟩
                    rw [← hs0] at zU hstU hstep hzr
                    obtain ⟨s1, hs1⟩ : ∃ s1, s1 = nb (upP (rowF l j) tv u p) := ⟨_, rfl⟩
                    rw [← hs1] at cU hstU hstep
                    have wq : IntKind.i64.wrap ((p : Int) - (m : Int)) = (q : Int) := by rw [IntWalk.i64_in _ (by omega)]; omega
                    have wa : IntKind.i64.wrap ((u : Int) + s0) = (u : Int) + s0 := IntWalk.i64_in _ (by omega)
                    have wu : IntKind.i64.wrap ((u : Int) + 1) = (u : Int) + 1 := IntWalk.i64_in _ (by omega)
                    have hql : (q : Int) < (a : Int) + 1 := by omega
                    have hjj : (j : Int) < (j : Int) + 1 := by omega
                    have HU := Lib.hid (And.intro hstep (And.intro hm (And.intro hq (And.intro hs0 (And.intro hs1 huk)))))
                    clear hstep hm hq hs0 hs1 huk hfl hdef hownU
                    by_cases hmin : s1 ≤ (u : Int) + s0
                    case' pos => rw [show min s1 ((u : Int) + s0) = s1 from by omega] at hstU
                    case' neg => rw [show min s1 ((u : Int) + s0) = (u : Int) + s0 from by omega] at hstU
                    all_goals
                      have HX := Lib.hid hstU
                      clear hstU
                      go_wp2_with fail
                      go_still_tail 22, (by kernel_rfl)
                      go_wp2_with fail
                      obtain ⟨hstep, hm, hq, hs0, hs1, huk⟩ := HU.out
                      go_roundg (gk - 1)
                      case measure => omega
                      case rel =>
                        refine ⟨u + 1, by omega, by omega, by go_num, ?_, grown_drew (grown_set (p := ⟨gB + 1, p, none⟩) hgU (.inr rfl) _)⟩
                        have h := HX.out
                        first
                        | (rw [hstep, show min s1 ((u : Int) + s0) = s1 from by omega]; exact h)
                        | (rw [hstep, show min s1 ((u : Int) + s0) = (u : Int) + s0 from by omega]; exact h)
                  · have hd2 : decide ((m : Int) ≤ (p : Int)) = false := by simp; omega
                    have hex := up_exit (rowF l j) tv tc u p hu (.inr (by omega))
                    have HEX := Lib.hid (And.intro hex hm)
                    clear hm hex
                    go_wp2_with fail
                    obtain ⟨hex, hm⟩ := HEX.out
                    rw [hex, show nb (up (rowF l j) tv tc p) = needF l (j + 1) p from by unfold needF; rw [HT.out.2.1], fill_next] at hownU
                    have hp := HP.out
                    go_roundg (kp - 1)
                    case measure => omega
                    case rel => exact ⟨p + 1, by omega, by go_num, hownU, hgU⟩
                · have hd1 : decide ((u : Int) ≤ (tc : Int)) = false := by simp; omega
                  have hex := up_exit (rowF l j) tv tc u p hu (.inl (by omega))
                  have HEX := Lib.hid (And.intro hex hm)
                  clear hm hex
                  go_wp2_with fail
                  obtain ⟨hex, hm⟩ := HEX.out
                  rw [hex, show nb (up (rowF l j) tv tc p) = needF l (j + 1) p from by unfold needF; rw [HT.out.2.1], fill_next] at hownU
                  have hp := HP.out
                  go_roundg (kp - 1)
                  case measure => omega
                  case rel => exact ⟨p + 1, by omega, by go_num, hownU, hgU⟩
            · obtain rfl : p = a + 1 := by omega
              rw [fill_done] at hownP
              obtain ⟨hrows2, hok2, hgo3⟩ := HFF.out wr hgP
              have hown3 : wr.ownsRow w.heap.size 3 1 (.slice (some ⟨gB + 1, 0, none⟩) (a + 1) (a + 1)) (a + 1) (ints (fl (a + 1) (needF l (j + 1)))) := own_mono hownP (by omega)
              have hvl := hok2.1
              have hgs := hgo3.size
              have hjn : j + 1 ≤ 1000000000 := by omega
              have HS := Lib.hid hvl
              clear hvl hp hownP
              go_wp2_with (at_builtin; refine ap_row wr _ rfl rfl _ _ rfl w.heap.size _ (j + 1) vals HS.out rfl hrows2 rfl hjn hgs ?_; intro v4 w4 hown4 hg4)
              have hj := HT.out.2.2
              have hg5 : wr.grownBy w4 (some gr) := (grown_alloc (grown_refl wr) _).but _ |>.trans hg4
              go_roundg (ko - 1)
              case measure => omega
              case rel =>
                refine ⟨j + 1, _, by omega, by go_num, hown4, ?_, grown_below hgo3 hg5 fun i e => .inl (by injection e with e; omega)⟩
                exact (hok2.kept_row hrows2 hg5).snoc (hown3.kept hg5 (own_type hown3 hrows2 (by decide)))
        · obtain rfl : j = n := by omega
          obtain ⟨gr, capr, rfl, hgr1, hgr2⟩ := hrows.form (by omega)
          obtain ⟨gi, ci, cR, hgi1, hgi2, hgi3, z⟩ := hok.cells hrows (i := j) (by omega)
          have zA := z a (by omega)
          have hRows : ∀ i, i < j + 1 → ∃ g c, wr.cell? ⟨gr, i, none⟩ = some (.slice (some ⟨g, 0, none⟩) (a + 1) c) ∧ g < wr.heap.size ∧ ∀ b, b < a + 1 → wr.cell? ⟨g, b, none⟩ = some (.int .i64 (needF l i b)) := by
            intro i hi
            obtain ⟨g, c, h1, h2, h3, h4, h5⟩ := hok.cells hrows hi
            exact ⟨g, c, h1, h2, h5⟩
          have HRW := Lib.hid hRows
          have hnn : (j : Int) < (j : Int) + 1 := by omega
          have haa : (a : Int) < (a : Int) + 1 := by omega
          have hwz := hgo.size
          clear hRows z hj hok hrows
          have hbn := nb_rng (rowF_bound l j a)
          have hND : needF l j a = nb (rowF l j a) := rfl
          rw [← hND] at hbn
          by_cases hp : paysB l a = true
          · have hne : rowF l j a ≠ 20001 := by have := HH.out.1; simpa [paysB, this] using hp
            have hlt2 : needF l j a < 1099511627776 := by
              have := rowF_bound l j a
              rw [hND]; unfold nb; rw [if_neg hne]; omega
            have hrun : chg l a = (payRun j a (backAll l)).1 := by have := HH.out.1; simp [chg, hp, this]
            have hE : chgE l a = 0 := by simp [chgE, hp]
            have hld : decide (1099511627776 ≤ needF l j a) = false := by simp; omega
            have HP := Lib.hid (And.intro hne (And.intro hrun hE))
            clear hrun hE hp hne hND
            generalize needF l j a = nd at *
            go_wp2_with fail
            have hown0 : (wr.alloc (.cells (madeCells #[.int .i64 0] j) 3)).ownsRow wr.heap.size 3 1 (.slice (some ⟨wr.heap.size, 0, none⟩) j j) j (ints (List.replicate j 0)) := by
              have h := World.ownsRow_lit (base := wr.heap.size) (size := 1) (e := 3) wr (madeCells #[.int .i64 0] j) j (Nat.le_refl _) (by unfold maxLen; omega) (by simp [size_madeCells])
              rw [toList_madeCells_one] at h
              simpa [ints] using h
            have hgA : wr.grownBy (wr.alloc (.cells (madeCells #[.int .i64 0] j) 3)) none := grown_alloc (grown_refl wr) _
            generalize wr.alloc (.cells (madeCells #[.int .i64 0] j) 3) = wM at *
            obtain ⟨g3, hg3⟩ : ∃ g3, g3 = wr.heap.size := ⟨_, rfl⟩
            rw [← hg3] at hown0 ⊢
            have HG3 := Lib.hid hg3
            have hg3w : wr.heap.size ≤ g3 := by omega
            have hg3w' : g3 ≤ wr.heap.size := by omega
            clear hg3 cR zA hmk hmk2
            generalize hjn : j = n at *
            generalize wr = wo at *
            go_loopg [1, 14] (n + 1) (fun k xv kv wr => ∃ q : Nat, q ≤ n ∧ q < k ∧ kv = .int .i64 ((q : Int) - 1) ∧ xv = .int .i64 ((payRun n a ((backAll l).take (n - q))).2 : Nat) ∧ wr.ownsRow g3 3 1 (.slice (some ⟨g3, 0, none⟩) n n) n (ints (payRun n a ((backAll l).take (n - q))).1) ∧ wo.grownBy wr none)
            case atStart => exact ⟨n, Nat.le_refl _, by omega, rfl, by rw [Nat.sub_self, List.take_zero]; rfl, by rw [Nat.sub_self, List.take_zero]; exact hown0, hgA⟩
            case round =>
              obtain ⟨q, hqn, hqk, rfl, rfl, hownQ, hgQ⟩ := hrel
              rcases q with _ | p
              · have hall : (backAll l).take (n - 0) = backAll l := by rw [← HH.out.1]; exact back_all l
                rw [hall] at hownQ
                clear hall
                simp only [Int.natCast_zero]
                go_wp2_with fail
                go_ret2
                have hlen : (payRun n a (backAll l)).1.length = n := by have := hownQ.1; simpa [ints] using this
                exact ⟨.slice (some ⟨g3, 0, none⟩) n n, by rw [HP.out.2.2]; rfl, by rw [HP.out.2.1, hlen]; exact own_mono hownQ (by omega), hgo.trans hgQ⟩
              · rw [show ((p + 1 : Nat) : Int) - 1 = (p : Int) from by omega]
                obtain ⟨b, off, rfl, hb, t, ht, c0, c1, c2⟩ := tub_cells ((hr.grown hgo).grown hgQ) (k := p) (by omega)
                obtain ⟨t', y, ht', hye, htk⟩ := back_step (l := l) (j := p) (by rw [HH.out.1]; omega)
                rw [ht] at ht'
                obtain rfl : t = t' := by simpa using ht'
                obtain ⟨hdn, _⟩ := pay_down l a HH.out.2 (n - (p + 1)) (p + 1) (by rw [HH.out.1]; omega)
                have hcan := pay_can l a HH.out.2 (by rw [HH.out.1]; exact HP.out.1) (p + 1) (by rw [HH.out.1]; omega)
                have hle := payRun_rng n a ((backAll l).take (n - (p + 1)))
                rw [HH.out.1] at htk hdn hcan
                have hsn := payRun_snoc n a ((backAll l).take (n - (p + 1))) y
                rw [← htk, hye] at hsn
                simp only [payStep] at hsn
                obtain ⟨r1, r2, r3, r4, r5⟩ := HH.out.2 t (List.mem_of_getElem? ht)
                have hcl := hdn.len
                have hlow := hdn.low p (by omega)
                generalize payRun n a ((backAll l).take (n - (p + 1))) = s at *
                obtain ⟨coins, left⟩ := s
                simp only at hsn hcl hlow hcan hle hownQ ⊢
                have hK := payK_fit (l := l) ht r1 left
                obtain ⟨tv, htv⟩ := Int.eq_ofNat_of_zero_le (show 0 ≤ t.v by omega)
                obtain ⟨tc, htc⟩ := Int.eq_ofNat_of_zero_le r3
                have hKd : payK l (p, t) left = kDown (fitB l p left tv) (min tc (left / tv)) := by unfold payK; simp [htv, htc]
                rw [htv, htc, Int.toNat_natCast, Int.toNat_natCast] at hK
                rw [hKd, htv, Int.toNat_natCast] at hsn
                rw [htv] at c0
                rw [htc] at c1
                have htv1 : 1 ≤ tv := by omega
                have htv2 : tv ≤ 10000 := by omega
                have htc2 : tc ≤ 1000 := by omega
                clear hKd htv htc hdn htk ht ht' hye hlow
                obtain ⟨q, hq⟩ : ∃ q, q = left / tv := ⟨_, rfl⟩
                have hqm : q * tv ≤ left := by rw [hq]; exact Nat.div_mul_le_self left tv
                have hq1 : q ≤ left := by rw [hq]; exact Nat.div_le_self _ _
                have wq1 : (left : Int) / (tv : Int) = (q : Int) := by rw [hq, Int.natCast_ediv]
                have wq2 : (left : Int).tdiv (tv : Int) = (q : Int) := by rw [Int.tdiv_eq_ediv_of_nonneg (by omega), wq1]
                have wq : IntKind.i64.wrap (q : Int) = (q : Int) := IntWalk.i64_in _ (by omega)
                have hv0 : ¬ (tv : Int) = 0 := by omega
                have hv1 : ¬ tv = 0 := by omega
                have wq3 : IntKind.i64.wrap ((left : Int).tdiv (tv : Int)) = (q : Int) := by rw [wq2]; exact wq
                rw [← hq] at hK hsn
                obtain ⟨top, htop⟩ : ∃ top, top = min tc q := ⟨_, rfl⟩
                rw [← htop] at hK hsn
                have HS := Lib.hid (And.intro hsn (And.intro hqm (And.intro hK (And.intro hcl hqk))))
                have HCAN := Lib.hid hcan
                obtain ⟨ga, ca, da, na, za⟩ := HRW.out p (by omega)
                obtain ⟨gb, cb, db, nb2, zb⟩ := HRW.out (p + 1) (by omega)
                have hpn : (p : Int) < (n : Int) := by omega
                have htop2 : top ≤ tc ∧ top ≤ q := by omega
                by_cases hmc : tc ≤ q
                case' pos =>
                  have hmc' : (tc : Int) ≤ (q : Int) := by omega
                  have hte : top = tc := by omega
                case' neg =>
                  have hmc' : ¬ (tc : Int) ≤ (q : Int) := by omega
                  have hte : top = q := by omega
                all_goals
                  have HTE := Lib.hid hte
                  clear htop hte hq hqm hsn hK hcl hqk hcan
                  generalize gk = ko at *
                  go_wp2_with fail
                  go_quiet (fail)
                  go_wp2_with fail
                  rw [← HTE.out]
                  obtain ⟨wB, hwB⟩ : ∃ wB, wB = (wr.alloc (.cells #[.int .i64 tv, .int .i64 tc, .int .i64 t.m] 70)).drewN nq := ⟨_, rfl⟩
                  have hgB : wr.grownBy wB none := by rw [hwB]; exact grown_drewN (grown_alloc (grown_refl wr) _) _
                  have x0 : wB.cell? ⟨wr.heap.size, 0, none⟩ = some (.int .i64 tv) := by rw [hwB, World.cell?_drewN, World.cell?_alloc_new]; rfl
                  have hownB := hownQ.kept hgB (.inr (by simp [Value.ownBlock]))
                  have hgB2 := hgQ.trans hgB
                  have da2 := hgB2.cell da (by simp)
                  have db2 := hgB2.cell db (by simp)
                  have za2 : ∀ b, b < a + 1 → wB.cell? ⟨ga, b, none⟩ = some (.int .i64 (needF l p b)) := fun b hb => hgB2.cell (za b hb) (by simp)
                  have zb2 := hgB2.cell (zb left (by omega)) (by simp)
                  have hszB := hgQ.size
                  have hlt3 := (hownQ.lt g3 rfl).2
                  have hWE : (wr.alloc (.cells #[.int .i64 tv, .int .i64 top, .int .i64 t.m] 70)).drewN nq = wB ∨ (wr.alloc (.cells #[.int .i64 tv, .int .i64 tc, .int .i64 t.m] 70)).drewN nq = wB := .inr hwB.symm
                  have hWE2 : top = tc → (wr.alloc (.cells #[.int .i64 tv, .int .i64 top, .int .i64 t.m] 70)).drewN nq = wB := fun e => by rw [e]; exact hwB.symm
                  first
                  | rw [← hwB]
                  | rw [hWE2 HTE.out]
                  have HZA := Lib.hid za2
                  have HZ := Lib.hid zb2
                  clear hWE hWE2 hwB za zb za2 zb2 da db hownQ hgB hmc' wq wq1 wq2 wq3 hv0 hv1
                  generalize wr.heap.size = gT at *
                  go_loopg [1, 16] (top + 1) (fun k xv kv wr => ∃ kk : Nat, kk ≤ top ∧ kk < k ∧ kDown (fitB l p left tv) top = kDown (fitB l p left tv) kk ∧ xv = .int .i64 left ∧ kv = .int .i64 kk ∧ wr.ownsRow g3 3 1 (.slice (some ⟨g3, 0, none⟩) n n) n (ints coins) ∧ wB.grownBy wr none)
                  case atStart => exact ⟨top, Nat.le_refl _, by omega, rfl, rfl, rfl, hownB, grown_refl _⟩
                  case round =>
                    obtain ⟨kk, hkt, hkk, hkd, rfl, rfl, hownK, hgK⟩ := hrel
                    have x0' := hgK.cell x0 (by simp)
                    have da' := hgK.cell da2 (by simp)
                    have db' := hgK.cell db2 (by simp)
                    have cG := own_int hownK (j := p) (by omega)
                    have fG := hownK.frozenAt p
                    have hkv : kk * tv ≤ q * tv := Nat.mul_le_mul (by omega) (Nat.le_refl _)
                    have hkl : kk * tv ≤ left := by have := HS.out.2.1; omega
                    obtain ⟨m, hm⟩ : ∃ m, m = kk * tv := ⟨_, rfl⟩
                    obtain ⟨u, hu⟩ : ∃ u, u = left - m := ⟨_, rfl⟩
                    have hfit : fitB l p left tv kk = decide (rowF l p (left - kk * tv) + (kk : Int) = rowF l (p + 1) left) := rfl
                    have hnbq : ((kk : Int) + nb (rowF l p u) = nb (rowF l (p + 1) left)) ↔ (rowF l p u + (kk : Int) = rowF l (p + 1) left) := nb_eq ⟨(rowF_bound l (p + 1) left).1, HCAN.out⟩
                    rw [← hm, ← hu] at hfit
                    rw [← hm] at hkl
                    have ya := hgK.cell (HZA.out u (by omega)) (by simp)
                    have yb := hgK.cell HZ.out (by simp)
                    have hya : 0 ≤ needF l p u ∧ needF l p u ≤ 1099511627776 := nb_rng (rowF_bound l p u)
                    have hda : needF l p u = nb (rowF l p u) := rfl
                    have hdb : needF l (p + 1) left = nb (rowF l (p + 1) left) := rfl
                    rw [← hda, ← hdb] at hnbq
                    have wkt : IntKind.i64.wrap ((kk : Int) * (tv : Int)) = (m : Int) := by
                      rw [← Int.natCast_mul, ← hm]; exact IntWalk.i64_in _ (by omega)
                    have wsub : IntKind.i64.wrap ((left : Int) - (m : Int)) = (u : Int) := by
                      rw [IntWalk.i64_in _ (by omega)]; omega
                    obtain ⟨p1, hp1⟩ : ∃ p1, p1 = p + 1 := ⟨_, rfl⟩
                    have wi : IntKind.i64.wrap ((p : Int) + 1) = (p1 : Int) := by rw [IntWalk.i64_in _ (by omega)]; omega
                    rw [← hp1] at db'
                    generalize needF l p u = v1 at *
                    generalize needF l (p + 1) left = v2 at *
                    have wadd : IntKind.i64.wrap ((kk : Int) + v1) = (kk : Int) + v1 := IntWalk.i64_in _ (by omega)
                    have b1 : (u : Int) < (a : Int) + 1 := by omega
                    have b2 : (left : Int) < (a : Int) + 1 := by omega
                    have b3 : (p : Int) < (n : Int) + 1 := by omega
                    have b4 : (p1 : Int) < (n : Int) + 1 := by omega
                    have hst := own_int_set hownK p (kk : Int)
                    have HU := Lib.hid (And.intro hm (And.intro hu (And.intro hfit (And.intro hnbq (And.intro hkd hkk)))))
                    have HP1 := Lib.hid (And.intro hp1 hst)
                    clear hm hu hfit hnbq hkd hkk hp1 hda hdb hkv hst
                    have hne3 : g3 ≠ gT := by omega
                    by_cases heq : (kk : Int) + v1 = v2
                    · have hb : ((kk : Int) + v1 == v2) = true := by simp [heq]
                      go_wp2_with fail
                      go_quiet (fail)
                      go_wp2_with fail
                      obtain ⟨hm, hu, hfit, hnbq, hkd, hkk⟩ := HU.out
                      obtain ⟨hp1, hst⟩ := HP1.out
                      obtain ⟨hsn, hqm, hK, hcl, hqk⟩ := HS.out
                      have hkk2 : kDown (fitB l p left tv) kk = kk := kDown_pos (by rw [hfit]; exact decide_eq_true (hnbq.1 heq))
                      rw [hkd, hkk2, ← hm, ← hu] at hsn
                      have hgN := hgB2.trans hgK
                      go_roundg (ko - 1)
                      case measure => omega
                      case rel => exact ⟨p, by omega, by omega, by go_num, by rw [hsn], by rw [hsn]; exact hst, grown_set (p := ⟨g3, p, none⟩) (grown_drewN hgN _) (.inl (by simp; omega)) _⟩
                    · have hb : ((kk : Int) + v1 == v2) = false := by simp [heq]
                      obtain ⟨hm, hu, hfit, hnbq, hkd, hkk⟩ := HU.out
                      have hff : fitB l p left tv kk = false := by rw [hfit]; exact decide_eq_false fun e => heq (hnbq.2 e)
                      obtain ⟨k0, hk0⟩ : ∃ k0, kk = k0 + 1 := by
                        refine ⟨kk - 1, ?_⟩
                        rcases Nat.eq_zero_or_pos kk with h | h
                        · exfalso
                          have hsp := kDown_spec _ _ HS.out.2.2.1
                          rw [hkd, h] at hsp
                          rw [h] at hff
                          exact absurd hsp (by rw [show kDown (fitB l p left tv) 0 = 0 from rfl, hff]; simp)
                        · omega
                      have wk : IntKind.i64.wrap ((kk : Int) - 1) = (k0 : Int) := by rw [IntWalk.i64_in _ (by omega)]; omega
                      have HK0 := Lib.hid (And.intro hkd (And.intro hff (And.intro hkk hk0)))
                      clear hm hu hfit hnbq hkd hff hkk hk0
                      go_wp2_with fail
                      go_quiet (fail)
                      go_wp2_with fail
                      obtain ⟨hkd, hff, hkk, rfl⟩ := HK0.out
                      go_roundg (gk - 1)
                      case measure => omega
                      case rel => exact ⟨k0, by omega, by omega, by rw [hkd]; exact kDown_neg hff, rfl, by go_num, hownK, grown_drewN hgK _⟩
          · have hp' : paysB l a = false := by simpa using hp
            have hne : rowF l j a = 20001 := by have := HH.out.1; simpa [paysB, this] using hp'
            have hlt2 : needF l j a = 1099511627776 := by rw [hND]; unfold nb; rw [if_pos hne]
            have hrun : chg l a = [] := by simp [chg, hp']
            have hE : chgE l a = 8 := by simp [chgE, hp']
            have HP := Lib.hid (And.intro hrun hE)
            rw [hlt2] at zA
            clear hrun hE hp hp' hne hND hlt2 hbn
            go_wp2_with fail
            go_ret2
            exact ⟨.slice none 0 0, by rw [HP.out.2]; rfl, by rw [HP.out.1]; exact World.ownsRow_nil _ _ _ _, hgo⟩

end Go.Proofs.Ytoaeflegcfecaaa
