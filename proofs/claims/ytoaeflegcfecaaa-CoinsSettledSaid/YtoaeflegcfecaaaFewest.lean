/- The walk of fewest: the rows of the fewest coins. -/
import Derived.Test.YtoaeflegcfecaaaRoll
namespace Go.Proofs.Ytoaeflegcfecaaa
open Go.RowKit

theorem Try.infoInts : (Try.prog.info? 22).map (fun i => (i.zero, i.size, i.bytes)) = some (some (.slice none 0 0), 1, 24) := by kernel_rfl

/-- append(rows, row). -/
theorem ap_row {ops : Array Oper} {rest : List Oper} {o : Oper} {a : Act} {Q : Exit → Act → World → Prop} (w : World) (y : Value) (hy : y.oneCell' = true) (hgd : o.guard = none) (s x : Operand)
    (ho : o.op = .call { callee := .builtin .append, args := #[s, x], argTypes := #[89, 89] }) (base : Nat) (v : Value) (n : Nat) (l : List Value) (hn : l.length = n)
    (hs : a.eval s = v) (hown : w.ownsRow base 22 1 v n l) (hx : a.eval x = .slice (some ⟨w.heap.size, 0, none⟩) 1 1) (hlen : n ≤ 1000000000) (hbase : base ≤ w.heap.size)
    (h : ∀ v' w', w'.ownsRow base 22 1 v' (n + 1) (l ++ [y]) → (w.alloc (.cells #[y] 22)).grownBy w' v.ownBlock → wpList Try.prog ops Q rest (a.put o.dst v') w') :
    wpList Try.prog ops Q (o :: rest) a (w.alloc (.cells #[y] 22)) := by
  subst hn
  obtain ⟨i0, hi, hz0, hz1, hz2⟩ := info_parts Try.infoInts
  refine wpList_append_own _ hgd s x 89 ho base 22 i0 (.slice none 0 0) 1 24 Try.underlying89 hi hz0 hz1 hz2 rfl (by decide) v l.length l hs (hown.alloc _) ⟨w.heap.size, 0, none⟩ 1 1 [y] hx rfl
    (cells_new w #[y] _) (by simpa using hy) (by unfold maxLen; omega) (by omega) (by simp; omega) ?_
  intro v' w' h1 h2 _
  exact h v' w' (by simpa using h1) h2

/-- The rows so far. -/
def RowsOk (w : World) (base : Nat) (l : List Tub) (N m : Nat) (vals : List Value) : Prop :=
  vals.length = m ∧ ∀ i, i < m → ∃ g c, vals[i]? = some (.slice (some ⟨g, 0, none⟩) N c) ∧ w.ownsRow base 3 1 (.slice (some ⟨g, 0, none⟩) N c) N (ints (fl N (rowF l i)))
theorem RowsOk.kept {w w' : World} {base N m : Nat} {l : List Tub} {vals : List Value} (h : RowsOk w base l N m vals) (hg : w.grownBy w' none) : RowsOk w' base l N m vals :=
  ⟨h.1, fun i hi => by obtain ⟨g, c, h1, h2⟩ := h.2 i hi; exact ⟨g, c, h1, h2.kept hg (.inr (by simp [Value.ownBlock]))⟩⟩
theorem RowsOk.snoc {w : World} {base N m : Nat} {l : List Tub} {vals : List Value} (h : RowsOk w base l N m vals) {g c : Nat} (hr : w.ownsRow base 3 1 (.slice (some ⟨g, 0, none⟩) N c) N (ints (fl N (rowF l m)))) :
    RowsOk w base l N (m + 1) (vals ++ [.slice (some ⟨g, 0, none⟩) N c]) := by
  refine ⟨by simp [h.1], fun i hi => ?_⟩
  by_cases e : i = m
  · subst e; exact ⟨g, c, by simp [← h.1], hr⟩
  · obtain ⟨g', c', h1, h2⟩ := h.2 i (by omega)
    exact ⟨g', c', by rw [List.getElem?_append_left (by rw [h.1]; omega)]; exact h1, h2⟩

theorem own_type {w : World} {b1 b2 e1 e2 s1 s2 n1 n2 : Nat} {v1 v2 : Value} {x1 x2 : List Value} (h1 : w.ownsRow b1 e1 s1 v1 n1 x1) (h2 : w.ownsRow b2 e2 s2 v2 n2 x2) (hne : e1 ≠ e2) :
    v1.ownBlock = none ∨ v1.ownBlock ≠ v2.ownBlock := by
  rcases h1.2 with ⟨rfl, _⟩ | ⟨g1, c1, u1, rfl, _, hg1, _⟩
  · exact .inl rfl
  · rcases h2.2 with ⟨rfl, _⟩ | ⟨g2, c2, u2, rfl, _, hg2, _⟩
    · exact .inr (by simp [Value.ownBlock])
    · refine .inr fun e => hne ?_
      have e' : g1 = g2 := by simpa [Value.ownBlock] using e
      subst e'
      rw [hg1] at hg2
      injection hg2 with h
      injection h
theorem RowsOk.kept_row {w w' : World} {base N m b n : Nat} {l : List Tub} {vals xs : List Value} {v : Value} (h : RowsOk w base l N m vals) (hr : w.ownsRow b 22 1 v n xs) (hg : w.grownBy w' v.ownBlock) : RowsOk w' base l N m vals :=
  ⟨h.1, fun i hi => by obtain ⟨g, c, h1, h2⟩ := h.2 i hi; exact ⟨g, c, h1, h2.kept hg (own_type h2 hr (by decide))⟩⟩

/-- The first row, as far as it is filled. -/
def firstF (j a : Nat) : Int := if a = 0 then 0 else if a < j then 20001 else 0

theorem own_rd {w : World} {base size n c : Nat} {e : TypeId} {A : Option Addr} {xs : List Value} (h : w.ownsRow base e size (.slice A n c) n xs) : Rd w size A n xs := by
  obtain ⟨A', c', hv, _, _, hr, _⟩ := Rd.of_own h
  cases hv; exact hr

theorem up_zero (base : Nat → Int) (v : Nat) : up base v 0 = base := rfl

theorem first_ints (N : Nat) : ints (fl N (firstF 1)) = List.replicate N (.int .i64 0) := by
  apply List.ext_getElem?
  intro i
  by_cases hi : i < N
  · have e : firstF 1 i = 0 := by
      unfold firstF
      split
      · rfl
      · rw [if_neg (by omega)]
    simp [ints, fl_at _ hi, hi, e]
  · rw [List.getElem?_eq_none (by simp [ints, fl_len]; omega), List.getElem?_eq_none (by simp; omega)]

set_option maxRecDepth 100000 in
set_option maxHeartbeats 2000000 in
theorem fewest_any (A : Option Addr) (n c : Nat) (l : List Tub) (most : Nat) (w : World) (hr : Rd w 3 A n (tubFlat l)) (hf : tubFault l = 0) (hm : most ≤ 20000) :
    Calls Try.prog 69 #[.slice A n c, .int .i64 most] w
      fun e w' => ∃ v vals, e = .returned v ∧ w'.ownsRow w.heap.size 22 1 v (n + 1) vals ∧ RowsOk w' w.heap.size l (most + 1) (n + 1) vals ∧ w.grownBy w' none := by
  have hl : l.length = n := by have := hr.1; rw [tubFlat_len] at this; omega
  obtain ⟨hlen, hright, _⟩ := right_of hf
  have hn10 : n ≤ 10 := by omega
  have HH := Lib.hid (And.intro hl hright)
  have hmk := fun w => run_make_row' (P := Try.prog) 22 3 (.int .i64 0) 8 Try.underlying22 Try.infoInt rfl .i64 .i64 (most + 1) (by omega) (by omega) w
  rw [show ((most + 1 : Nat) : Int) = (most : Int) + 1 from by omega] at hmk
  clear hf hl hlen hright
  go_enter Try.func69, Try.ntmps69
  go_wp2_with fail
  have hown0 : (w.alloc (.cells (madeCells #[.int .i64 0] (most + 1)) 3)).ownsRow w.heap.size 3 1 (.slice (some ⟨w.heap.size, 0, none⟩) (most + 1) (most + 1)) (most + 1) (ints (fl (most + 1) (firstF 1))) := by
    have h := World.ownsRow_lit (base := w.heap.size) (size := 1) (e := 3) w (madeCells #[.int .i64 0] (most + 1)) (most + 1) (Nat.le_refl _) (by unfold maxLen; omega) (by simp [size_madeCells])
    rw [toList_madeCells_one] at h
    rw [first_ints]; exact h
  have hg0 : w.grownBy (w.alloc (.cells (madeCells #[.int .i64 0] (most + 1)) 3)) none := grown_alloc (grown_refl w) _
  generalize w.alloc (.cells (madeCells #[.int .i64 0] (most + 1)) 3) = w0 at *
  clear hmk
  obtain ⟨g, hg⟩ : ∃ g, g = w.heap.size := ⟨_, rfl⟩
  rw [← hg] at hown0 ⊢
  go_loopg [6] (most + 1) (fun k i wr => ∃ j : Nat, 1 ≤ j ∧ j ≤ most + 1 ∧ most + 1 - j < k ∧ i = .int .i64 j ∧ wr.ownsRow w.heap.size 3 1 (.slice (some ⟨g, 0, none⟩) (most + 1) (most + 1)) (most + 1) (ints (fl (most + 1) (firstF j))) ∧ w.grownBy wr none)
  case atStart => exact ⟨1, by omega, by omega, by omega, rfl, by rw [hg]; rw [hg] at hown0; exact hown0, hg0⟩
  case round =>
    obtain ⟨j, hj1, hj2, hk, rfl, hown, hgr⟩ := hrel
    by_cases hlt : j ≤ most
    · have c0 := own_int hown (j := j) (by omega)
      have hfr := hown.frozenAt j
      have hset := own_int_set hown j 20001
      rw [fl_set, fl_congr (g := firstF (j + 1)) (fun a _ => by
        by_cases e : a = j
        · subst e; rw [if_pos rfl]; unfold firstF; rw [if_neg (by omega), if_pos (by omega)]
        · rw [if_neg e]
          unfold firstF
          by_cases h0 : a = 0
          · rw [if_pos h0, if_pos h0]
          · rw [if_neg h0, if_neg h0]
            by_cases h1 : a < j
            · rw [if_pos h1, if_pos (by omega)]
            · rw [if_neg h1, if_neg (by omega)])] at hset
      have HS := Lib.hid hset
      have HG := Lib.hid hg
      have HK := Lib.hid hk
      have hgw : w.heap.size ≤ g := by omega
      clear hset hg hk
      go_wp2_with fail
      have hk := HK.out
      go_roundg (gk - 1)
      case measure => omega
      case rel => exact ⟨j + 1, by omega, by omega, by omega, by go_num, HS.out, grown_set (p := ⟨g, j, none⟩) hgr (.inl hgw) _⟩
    · obtain rfl : j = most + 1 := by omega
      have hrow : wr.ownsRow w.heap.size 3 1 (.slice (some ⟨g, 0, none⟩) (most + 1) (most + 1)) (most + 1) (ints (fl (most + 1) (rowF l 0))) := by
        rw [fl_congr (g := firstF (most + 1)) (fun a ha => by
          unfold firstF
          show (if a = 0 then (0 : Int) else 20001) = _
          by_cases h0 : a = 0
          · rw [if_pos h0, if_pos h0]
          · rw [if_neg h0, if_neg h0, if_pos ha])]
        exact hown
      have HG := Lib.hid hg
      clear hg hown hk hown0 hg0
      go_wp2_with fail
      have hrows0 : (wr.alloc (.cells #[.slice (some ⟨g, 0, none⟩) (most + 1) (most + 1)] 22)).ownsRow w.heap.size 22 1 (.slice (some ⟨wr.heap.size, 0, none⟩) 1 1) (0 + 1) [.slice (some ⟨g, 0, none⟩) (most + 1) (most + 1)] :=
        World.ownsRow_lit wr #[.slice (some ⟨g, 0, none⟩) (most + 1) (most + 1)] 1 hgr.size (by unfold maxLen; omega) rfl
      have hok0 : RowsOk (wr.alloc (.cells #[.slice (some ⟨g, 0, none⟩) (most + 1) (most + 1)] 22)) w.heap.size l (most + 1) (0 + 1) [.slice (some ⟨g, 0, none⟩) (most + 1) (most + 1)] :=
        RowsOk.snoc (vals := []) ⟨rfl, fun i hi => absurd hi (by simp)⟩ (hrow.alloc _)
      have hg0 := grown_alloc hgr (.cells #[.slice (some ⟨g, 0, none⟩) (most + 1) (most + 1)] 22)
      generalize wr.alloc (.cells #[.slice (some ⟨g, 0, none⟩) (most + 1) (most + 1)] 22) = wS at *
      generalize wr.heap.size = g7 at *
      clear hrow
      go_loopg [7, 29] n (fun k v i wr => ∃ (j : Nat) (vals : List Value), k + j = n ∧ i = .int .i64 j ∧ wr.ownsRow w.heap.size 22 1 v (j + 1) vals ∧ RowsOk wr w.heap.size l (most + 1) (j + 1) vals ∧ w.grownBy wr none)
      case atStart => exact ⟨0, _, by omega, rfl, hrows0, hok0, hg0⟩
      case round =>
        obtain ⟨j, vals, hj, rfl, hrows, hok, hgo⟩ := hrel
        generalize gk = ko at *
        by_cases hlt : j < n
        · obtain ⟨b, off, rfl, hb, t, ht, c0, c1, c2⟩ := tub_cells (hr.grown hgo) hlt
          obtain ⟨r1, r2, r3, r4, r5⟩ := HH.out.2 t (List.mem_of_getElem? ht)
          have hsucc := rowF_succ ht
          obtain ⟨gr, capr, rfl, hgr1, hgr2⟩ := hrows.form (by omega)
          obtain ⟨gi, ci, hvi, hoi⟩ := hok.2 j (by omega)
          have cR := hrows.cellAt j (by omega)
          rw [hvi] at cR
          obtain ⟨tv, htv⟩ := Int.eq_ofNat_of_zero_le (show 0 ≤ t.v by omega)
          obtain ⟨tc, htc⟩ := Int.eq_ofNat_of_zero_le r3
          rw [htv] at c0
          rw [htc] at c1
          rw [htv, htc, Int.toNat_natCast, Int.toNat_natCast] at hsucc
          have htv1 : 1 ≤ tv := by omega
          have htv2 : tv ≤ 10000 := by omega
          have htc2 : tc ≤ 1000 := by omega
          have HT := Lib.hid (And.intro ht hsucc)
          have HJ := Lib.hid hj
          have HV := Lib.hid hvi
          clear ht hsucc hj hvi htv htc
          have hlt' : (j : Int) < (n : Int) := by omega
          go_wp2_with fail
          refine (cloneInts_any (some ⟨gi, 0, none⟩) (most + 1) ci (fl (most + 1) (rowF l j)) _ (own_rd (hoi.alloc _)) (by omega)).mono ?_
          rintro e w1 ⟨vR, rfl, hownR, hgR⟩
          have hgo1 : wr.grownBy w1 none := (grown_alloc (grown_refl wr) _).trans hgR
          obtain ⟨gR, cR', rfl, hgR1, hgR2⟩ := hownR.form (by omega)
          have x0 : w1.cell? ⟨wr.heap.size, 0, none⟩ = some (.int .i64 tv) := hgR.cell (by rw [World.cell?_alloc_new]; rfl) (by simp)
          have x1 : w1.cell? ⟨wr.heap.size, 1, none⟩ = some (.int .i64 tc) := hgR.cell (by rw [World.cell?_alloc_new]; rfl) (by simp)
          simp only [World.size_alloc] at hgR1
          have hF : ∀ w2, w1.grownBy w2 (some gR) → w2.ownsRow w.heap.size 22 1 (.slice (some ⟨gr, 0, none⟩) (j + 1) capr) (j + 1) vals ∧ RowsOk w2 w.heap.size l (most + 1) (j + 1) vals ∧ w.grownBy w2 none := by
            intro w2 h
            have h1 : wr.grownBy w2 none := grown_below hgo1 h (fun i e => .inl (by injection e with e; omega))
            exact ⟨hrows.kept h1 (.inr (by simp [Value.ownBlock])), hok.kept h1, hgo.trans h1⟩
          have HFF := Lib.hid hF
          clear hF
          have hgo2 := hgo.trans hgo1
          have hw1s := hgo1.size
          have hwb : w.heap.size ≤ wr.heap.size := hgo.size
          simp only [World.size_alloc] at hownR
          generalize wr.heap.size = gB at *
          obtain ⟨q, hq⟩ : ∃ q, q = most / tv := ⟨_, rfl⟩
          have hqm : q * tv ≤ most := by rw [hq]; exact Nat.div_mul_le_self most tv
          have hqk : ∀ k a, a ≤ most → k * tv ≤ a → k ≤ q := by
            intro k a h1 h2
            rw [hq]
            exact (Nat.le_div_iff_mul_le (by omega)).2 (by omega)
          have hq1 : q ≤ most := by rw [hq]; exact Nat.div_le_self _ _
          have wq1 : (most : Int) / (tv : Int) = (q : Int) := by rw [hq, Int.natCast_ediv]
          have wq2 : (most : Int).tdiv (tv : Int) = (q : Int) := by rw [Int.tdiv_eq_ediv_of_nonneg (by omega), wq1]
          have wq : IntKind.i64.wrap (q : Int) = (q : Int) := IntWalk.i64_in _ (by omega)
          have hv0 : ¬ (tv : Int) = 0 := by omega
          have HQ := Lib.hid (And.intro hq (And.intro hqm hqk))
          clear hq hqm hqk hrows hok hgR hgo1 cR hoi
          by_cases hmin : tc ≤ q
          case' pos =>
            have hmin' : (tc : Int) ≤ (q : Int) := by omega
            obtain ⟨tot, htot⟩ : ∃ tot, tot = tc := ⟨_, rfl⟩
            have HM := Lib.hid (show ∀ a, a ≤ most → up (rowF l j) tv tot a = up (rowF l j) tv tc a from fun a ha => by rw [htot])
          case' neg =>
            have hmin' : ¬ (tc : Int) ≤ (q : Int) := by omega
            obtain ⟨tot, htot⟩ : ∃ tot, tot = q := ⟨_, rfl⟩
            have HM := Lib.hid (show ∀ a, a ≤ most → up (rowF l j) tv tot a = up (rowF l j) tv tc a from fun a ha => up_cap _ _ _ _ _ fun k h1 h2 => by
              have := HQ.out.2.2 k a ha h2
              omega)
          all_goals
            have htot2 : tot ≤ 1000 := by omega
            have HT0 := Lib.hid htot
            clear htot
            go_wp2_with fail
            go_quiet (fail)
            go_wp2_with fail
            rw [← HT0.out]
            clear hmin hmin' wq1 wq2 wq HT0 HQ
            go_loopg [11, 12] (tot + 1) (fun k lv rv wr2 => ∃ m lf rl : Nat, m + lf = tot ∧ lf < k ∧ (0 < lf → rl = m + 1) ∧ rl ≤ 3000 ∧ lv = .int .i64 lf ∧ rv = .int .i64 rl ∧ wr2.ownsRow (gB + 1) 3 1 (.slice (some ⟨gR, 0, none⟩) (most + 1) cR') (most + 1) (ints (fl (most + 1) (up (rowF l j) tv m))) ∧ w1.grownBy wr2 (some gR))
            case atStart => exact ⟨0, tot, 1, by omega, by omega, fun _ => rfl, by omega, rfl, rfl, hownR, grown_drewN (World.grownBy.refl _ _) _⟩
            case round =>
              obtain ⟨m, lf, rl, hmlf, hlk, hrl, hrl3, rfl, rfl, hown2, hg2⟩ := hrel
              have y0 : wr.cell? ⟨gB, 0, none⟩ = some (.int .i64 tv) := hg2.cell x0 (by simp; omega)
              by_cases hpos : 0 < lf
              · have hrl' := hrl hpos
                obtain ⟨u, hu⟩ : ∃ u, u = min rl lf := ⟨_, rfl⟩
                have hu1 : 1 ≤ u := by omega
                have hu2 : u ≤ 1000 := by omega
                have hroll := up_roll (rowF l j) tv m u (by omega)
                have HU := Lib.hid (And.intro hroll (And.intro hu (And.intro hmlf (And.intro hlk hrl'))))
                have hpos' : (0 : Int) < (lf : Int) := by omega
                have p1 : 1 ≤ u * tv := Nat.mul_le_mul hu1 htv1
                have p2 : u * tv ≤ 1000 * 10000 := Nat.mul_le_mul hu2 htv2
                have wv : IntKind.i64.wrap ((u : Int) * (tv : Int)) = ((u * tv : Nat) : Int) := by
                  rw [← Int.natCast_mul]; exact IntWalk.i64_in _ (by omega)
                have wl : IntKind.i64.wrap ((lf : Int) - (u : Int)) = (((lf - u : Nat)) : Int) := by
                  rw [IntWalk.i64_in _ (by omega)]; omega
                have wr2 : IntKind.i64.wrap ((rl : Int) * 2) = (((2 * rl : Nat)) : Int) := by
                  rw [IntWalk.i64_in _ (by omega)]; omega
                have hbd : ∀ a, 0 ≤ up (rowF l j) tv m a ∧ up (rowF l j) tv m a ≤ 20001 := fun a => up_bound _ _ _ _ fun b => bestR_bound _ _
                have HB := Lib.hid hbd
                have hlf3 : lf ≤ 1000 := by omega
                by_cases hmn : rl ≤ lf
                case' pos =>
                  obtain rfl : u = rl := by omega
                  have hmn' : (u : Int) ≤ (lf : Int) := by omega
                case' neg =>
                  obtain rfl : u = lf := by omega
                  have hmn' : ¬ (rl : Int) ≤ (u : Int) := by omega
                all_goals
                  clear hrl' hu hroll hmlf hrl hlk hbd
                  go_wp2_with fail
                  refine (useRoll_any gR (most + 1) cR' (gB + 1) (up (rowF l j) tv m) _ _ _ hown2 HB.out (by omega) (by omega) p1 (by omega)).mono ?_
                  rintro e w2 ⟨rfl, hown3, hg3⟩
                  go_wp2_with fail
                  obtain ⟨hroll, hu, hmlf, hlk, hrl'⟩ := HU.out
                  go_roundg (gk - 1)
                  case measure => omega
                  case rel =>
                    have hown4 := hown3
                    rw [← fl_congr fun a _ => hroll a] at hown4
                    first
                    | exact ⟨m + u, lf - u, 2 * u, by omega, by omega, fun _ => by omega, by omega, by go_num, by go_num, hown4, hg2.trans hg3⟩
                    | exact ⟨m + u, 0, 2 * rl, by omega, by omega, fun _ => by omega, by omega, by go_num, by go_num, hown4, hg2.trans hg3⟩
              · obtain rfl : lf = 0 := by omega
                obtain rfl : m = tot := by omega
                obtain ⟨hrows2, hok2, hgo3⟩ := HFF.out wr hg2
                have hsuc : rowF l (j + 1) = up (rowF l j) tv tc := HT.out.2
                have hown3 : wr.ownsRow w.heap.size 3 1 (.slice (some ⟨gR, 0, none⟩) (most + 1) cR') (most + 1) (ints (fl (most + 1) (rowF l (j + 1)))) := by
                  rw [hsuc, ← fl_congr (fun a ha => HM.out a (by omega))]
                  exact own_mono hown2 (by omega)
                have hvl := hok2.1
                have hok3 := hok2.snoc hown3
                have hgs := hgo3.size
                have HS := Lib.hid (And.intro hvl hsuc)
                clear hsuc hvl hrl hmlf hlk
                have hjn : j + 1 ≤ 1000000000 := by omega
                go_wp2_with (at_builtin; refine ap_row wr _ rfl rfl _ _ rfl w.heap.size _ (j + 1) vals HS.out.1 rfl hrows2 rfl hjn hgs ?_; intro v4 w4 hown4 hg4)
                have hj := HJ.out
                have hg5 : wr.grownBy w4 (some gr) := (grown_alloc (grown_refl wr) _).but _ |>.trans hg4
                go_roundg (ko - 1)
                case measure => omega
                case rel =>
                  refine ⟨j + 1, _, by omega, by go_num, hown4, ?_, grown_below hgo3 hg5 fun i e => .inl (by injection e with e; omega)⟩
                  exact (hok2.kept_row hrows2 hg5).snoc (hown3.kept hg5 (own_type hown3 hrows2 (by decide)))
        · obtain rfl : j = n := by omega
          go_wp2_with fail
          go_ret
          exact ⟨_, vals, rfl, hrows, hok, hgo⟩

end Go.Proofs.Ytoaeflegcfecaaa
