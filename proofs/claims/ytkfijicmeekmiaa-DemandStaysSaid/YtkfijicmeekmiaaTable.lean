/- The walk of Table: a table made of the stream's numbers. -/
import Derived.Test.YtkfijicmeekmiaaTabM
import Derived.Test.YtkfijicmeekmiaaBlk
import Derived.Deep.RegionHeld3
import Derived.Deep.RegionLaw
import Derived.Deep.DeepCutAuto
import Derived.Deep.CutBlock
namespace Go.Proofs.Ytkfijicmeekmiaa
open Go.RowKit
variable {Q : Nat → Prop}

theorem StrQ.drew {w : World} {bs : Nat} {L : List Int} {t : Nat} (h : StrQ Q w bs L t) : StrQ Q w.drew bs L t := h
theorem StrQ.alloc {w : World} {bs : Nat} {L : List Int} {t : Nat} (h : StrQ Q w bs L t) (o : Obj) : StrQ Q (w.alloc o) bs L t := h.grown (grown_alloc (grown_refl w) o) (by simp)

/-- Within Table: the table's block, the result's, the rows. -/
structure TSt (w0 w : World) (bs gT gR gA c : Nat) (R : List (List Int)) (vals : List Value) : Prop where
  bT : Blk w gT 70 #[.slice (some ⟨gA, 0, none⟩) R.length c]
  bR : Blk w gR 70 #[.slice none 0 0]
  own : w.ownsRow (gT + 1) 22 1 (.slice (some ⟨gA, 0, none⟩) R.length c) R.length vals
  rows : Rows2 w (gT + 1) R vals
  gro : w0.grownBy w (some bs)
  lt : bs < gR ∧ gR < gT
theorem TSt.drew {w0 w : World} {bs gT gR gA c : Nat} {R : List (List Int)} {vals : List Value} (h : TSt w0 w bs gT gR gA c R vals) : TSt w0 w.drew bs gT gR gA c R vals :=
  ⟨h.bT, h.bR, h.own, h.rows, grown_drew h.gro, h.lt⟩
theorem TSt.alloc {w0 w : World} {bs gT gR gA c : Nat} {R : List (List Int)} {vals : List Value} (h : TSt w0 w bs gT gR gA c R vals) (o : Obj) : TSt w0 (w.alloc o) bs gT gR gA c R vals :=
  ⟨h.bT.alloc o, h.bR.alloc o, h.own.alloc o, h.rows.alloc o, grown_alloc h.gro o, h.lt⟩
theorem TSt.stream {w0 w w' : World} {bs gT gR gA c : Nat} {R : List (List Int)} {vals : List Value} (h : TSt w0 w bs gT gR gA c R vals) (hg : w.grownBy w' (some bs)) : TSt w0 w' bs gT gR gA c R vals :=
  ⟨h.bT.grown hg (by have := h.lt; simp; omega), h.bR.grown hg (by have := h.lt; simp; omega), h.own.kept hg (own_ne h.own (by have := h.lt; omega)), h.rows.stream hg (by have := h.lt; omega), h.gro.trans hg, h.lt⟩
theorem TSt.cells {w0 w : World} {bs gT gR gA c : Nat} {R : List (List Int)} {vals : List Value} (h : TSt w0 w bs gT gR gA c R vals) {a b g c' : Nat} {l : List Int} (hl : R[a]? = some l) (hb : b < l.length) (hv : vals[a]? = some (.slice (some ⟨g, 0, none⟩) l.length c')) :
    w.cell? ⟨gT, 0, none⟩ = some (.slice (some ⟨gA, 0, none⟩) R.length c) ∧ w.cell? ⟨gA, a, none⟩ = some (.slice (some ⟨g, 0, none⟩) l.length c') ∧ w.cell? ⟨g, b, none⟩ = some (.int .i64 (l.getD b 0)) ∧ w.frozen? ⟨g, b, none⟩ = false := by
  have ha := (List.getElem?_eq_some_iff.1 hl).1
  refine ⟨h.bT.cell 0, (h.own.cellAt a (by omega)).trans hv, ?_⟩
  obtain ⟨_, gf, _, h3⟩ := h.rows
  obtain ⟨c1, e1, o1⟩ := h3 a l hl
  rw [e1] at hv
  injection hv with hv
  injection hv with hv _ hv2
  injection hv with hv
  injection hv with hv _ _
  subst hv hv2
  exact ⟨own_int o1 hb, o1.frozenAt b⟩

theorem TSt.put {w0 w : World} {bs gT gR gA c : Nat} {R : List (List Int)} {vals : List Value} (h : TSt w0 w bs gT gR gA c R vals) {a b g n c' : Nat} {l : List Int} (hl : R[a]? = some l) (hv : vals[a]? = some (.slice (some ⟨g, 0, none⟩) n c')) (x : Int) :
    RdT (w.setCell ⟨g, b, none⟩ (.int .i64 x)) (gT + 1) (some ⟨gA, 0, none⟩) (R.set a (l.set b x)) := by
  have hp := h.rows.put l hl hv b x
  obtain ⟨_, gf, _, h3⟩ := h.rows
  obtain ⟨c1, e1, o1⟩ := h3 a l hl
  rw [e1] at hv
  injection hv with hv
  injection hv with hv _ _
  injection hv with hv
  injection hv with hv _ _
  subst hv
  have ho := h.own.kept (grown_set (World.grownBy.refl w (some (gf a))) (p := ⟨gf a, b, none⟩) (.inr rfl) (.int .i64 x)) (own_type h.own o1 (by decide))
  obtain ⟨A, c2, e2, hR⟩ := RdT.of_own (by simp) ho hp
  injection e2 with e2 _ _
  subst e2
  exact hR

theorem tbIn_succ (L : List Int) (i t k : Nat) : tbIn L i t (k + 1) = tbStep L i k (tbIn L i t k) := rfl

set_option maxRecDepth 100000 in
set_option maxHeartbeats 8000000 in
theorem table_any (bs : Nat) (L : List Int) (t : Nat) (w : World) (hs : StrQ Q w bs L t) (ht : t ≤ 800000) :
    Calls Try.prog 56 #[.pointer (some ⟨bs, 0, none⟩)] w
      fun e w' => ∃ A c, e = .returned (.agg #[.slice A (tableM L t).2.length c]) ∧ RdT w' w.heap.size A (tableM L t).2 ∧ StrQ Q w' bs L (tableM L t).1 ∧ w.grownBy w' (some bs) := by
  have hbs := hs.lt
  obtain ⟨n, hn⟩ : ∃ n : Nat, 1 + nx L t 4 = n := ⟨(1 + nx L t 4).toNat, by have := nx_in L t 4 (by omega); omega⟩
  have hn4 : 1 ≤ n ∧ n ≤ 4 := by have := nx_in L t 4 (by omega); omega
  have hM : tableM L t = tbEnd L n (tbRows L n (t + 1) n) := by unfold tableM; rw [hn]; rfl
  generalize tableM L t = M at *
  have HM := Lib.hid hM
  have HN := Lib.hid hn
  clear hM hn
  have hR0 := Blk.new w 70 #[.slice none 0 0]
  have hs0 := hs.grown (grown_alloc (grown_refl w) (.cells #[.slice none 0 0] 70)) (by simp)
  have hg0 := grown_alloc (World.grownBy.refl w (some bs)) (.cells #[.slice none 0 0] 70)
  have hz0 : (w.alloc (.cells #[.slice none 0 0] 70)).heap.size = w.heap.size + 1 := by simp
  go_enter Try.func56, Try.ntmps56
  go_wp2_with fail
  generalize w.alloc (.cells #[.slice none 0 0] 70) = w1 at *
  generalize hgR : w.heap.size = gR at *
  refine (range_any bs L t 1 4 _ hs0 (by omega) (by omega) (by omega) (by omega)).mono ?_
  rintro e w2 ⟨rfl, hs2, hg2⟩
  rw [show (4 : Int) - 1 + 1 = 4 from rfl, HN.out]
  have hR2 := hR0.grown hg2 (by simp; omega)
  have hgg2 := hg0.trans hg2
  have hz2 := hg2.size
  go_wp2_with fail
  have hT3 := Blk.new w2 70 #[.slice none 0 0]
  have hR3 := hR2.alloc (.cells #[.slice none 0 0] 70)
  have hs3 := hs2.grown (grown_alloc (grown_refl w2) (.cells #[.slice none 0 0] 70)) (by simp)
  have hg3 := grown_alloc hgg2 (.cells #[.slice none 0 0] 70)
  generalize w2.alloc (.cells #[.slice none 0 0] 70) = w3 at *
  generalize hgT : w2.heap.size = gT at *
  have hRT : gR < gT := by omega
  clear hR0 hs0 hg0 hz0 hs2 hg2 hR2 hgg2 hz2 hgT
  go_loopg [13] n (fun k i wr => ∃ (j : Nat) (v : Value) (vals : List Value), k + j = n ∧ i = .int .i64 j ∧ Blk wr gT 70 #[v] ∧ Blk wr gR 70 #[.slice none 0 0] ∧
    wr.ownsRow (gT + 1) 22 1 v j vals ∧ Rows2 wr (gT + 1) (tbRows L n (t + 1) j).2 vals ∧ StrQ Q wr bs L (tbRows L n (t + 1) j).1 ∧ w.grownBy wr (some bs))
  case atStart => exact ⟨0, _, [], by omega, rfl, hT3, hR3, World.ownsRow_nil _ _ _ _, Rows2.nil_ _ _, hs3, hg3⟩
  case round =>
    obtain ⟨j, v, vals, hj, rfl, hT, hR, hown, hrows, hst, hg⟩ := hrel
    obtain ⟨⟨hB1, hB2⟩, hB3⟩ := tbRows_bound L n (t + 1) j
    by_cases hlt : j < n
    · have hsucc : tbRows L n (t + 1) (j + 1) = ((tbIn L j (tbRows L n (t + 1) j).1 n).1, (tbRows L n (t + 1) j).2 ++ [(tbIn L j (tbRows L n (t + 1) j).1 n).2.2]) := rfl
      have hjn : j * n ≤ 4 * 4 := Nat.mul_le_mul (by omega) hn4.2
      generalize tbRows L n (t + 1) j = s at *
      have ht' : s.1 ≤ 800020 := by omega
      have hTlt := hT.lt
      have HS := Lib.hid (And.intro hsucc (And.intro hj (And.intro hB2 hB3)))
      clear hsucc hj hB1 hB2 hB3 hjn
      generalize gk = ko at *
      obtain ⟨wo, hwo⟩ : ∃ wo, wo = wr := ⟨_, rfl⟩
      subst hwo
      go_wp2_with fail
      go_loopg [6, 7, 17] n (fun k lf lv i wr => ∃ m : Nat, k + m = n ∧ i = .int .i64 m ∧ lf = .int .i64 (tbIn L j s.1 m).2.1 ∧ wr.ownsRow wo.heap.size 3 1 lv (tbIn L j s.1 m).2.2.length (ints (tbIn L j s.1 m).2.2) ∧ StrQ Q wr bs L (tbIn L j s.1 m).1 ∧ wo.grownBy wr (some bs))
      case atStart => exact ⟨0, by omega, rfl, rfl, World.ownsRow_nil _ _ _ _, hst, World.grownBy.refl _ _⟩
      case round =>
        obtain ⟨m, hm, rfl, rfl, hownl, hstl, hgl⟩ := hrel
        by_cases hltm : m < n
        · have hsuc := tbIn_succ L j s.1 m
          obtain ⟨⟨hb1, hb2⟩, hb3, hb4⟩ := tbIn_bound L j s.1 m
          generalize tbIn L j s.1 m = q at *
          unfold tbStep at hsuc
          have hq2 : q.2.2.length ≤ 1000000000 := by omega
          have hqt : q.1 ≤ 900000 := by omega
          have hszl := hgl.size
          by_cases hij : m = j
          · rw [if_pos hij] at hsuc
            have HQ := Lib.hid (And.intro hsuc hm)
            clear hsuc hm hb1 hb2
            have hb : ((m : Int) != (j : Int)) = false := by simp [hij]
            go_wp2_with (at_builtin; refine ap_int wr 0 rfl _ _ rfl wo.heap.size _ q.2.2 rfl hownl rfl hq2 hszl ?_; intro v5 w5 hown5 hg5)
            have hgg5 := ap_grown hgl hownl hg5 (Nat.le_refl _)
            have hs5 := ap_str hstl hownl hg5 (by omega)
            obtain ⟨hsuc, hm⟩ := HQ.out
            go_roundg (gk - 1)
            case measure => omega
            case rel => exact ⟨m + 1, by omega, by go_num, by rw [hsuc], by rw [hsuc]; exact hown5, by rw [hsuc]; exact hs5, hgg5⟩
          · rw [if_neg hij] at hsuc
            have hb : ((m : Int) != (j : Int)) = true := by rw [bne_iff_ne]; omega
            have HQ := Lib.hid (And.intro hsuc (And.intro hm hij))
            clear hsuc hm hb1 hb2 hij
            go_wp2_with fail
            refine (pick_lit bs L _ [0, 10, 33, 50] _ hstl (by omega) (by decide) (by decide) 3).mono ?_
            rintro e w4 ⟨rfl, hs4, hg4⟩
            have hp := pk_mem L q.1 [0, 10, 33, 50] (by simp)
            simp only [List.mem_cons, List.not_mem_nil, or_false] at hp
            have hp0 : 0 ≤ pk L q.1 [0, 10, 33, 50] ∧ pk L q.1 [0, 10, 33, 50] ≤ 50 := by omega
            clear hp
            obtain ⟨hsuc, hm, hij⟩ := HQ.out
            generalize pk L q.1 [0, 10, 33, 50] = x at *
            have hown4 := hownl.kept hg4 (own_ne hownl (by omega))
            have hgg4 := hgl.trans hg4
            have hsz4 := hgg4.size
            by_cases hmn : x ≤ q.2.1
            · rw [if_pos hmn] at hsuc
              have HQ2 := Lib.hid (And.intro hsuc (And.intro hm hij))
              clear hsuc hm hij hstl hownl hgl hg4 HQ
              go_wp2_with (at_builtin; refine ap_int w4 x rfl _ _ rfl wo.heap.size _ q.2.2 rfl hown4 rfl hq2 hsz4 ?_; intro v5 w5 hown5 hg5)
              have hgg5 := ap_grown hgg4 hown4 hg5 (Nat.le_refl _)
              have hs5 := ap_str hs4 hown4 hg5 (by omega)
              obtain ⟨hsuc, hm, hij⟩ := HQ2.out
              go_roundg (gk - 1)
              case measure => omega
              case rel => exact ⟨m + 1, by omega, by go_num, by rw [hsuc], by rw [hsuc]; exact hown5, by rw [hsuc]; exact hs5, hgg5⟩
            · rw [if_neg hmn] at hsuc
              have HQ2 := Lib.hid (And.intro hsuc (And.intro hm hij))
              clear hsuc hm hij hstl hownl hgl hg4 HQ
              go_wp2_with (at_builtin; refine ap_int w4 q.2.1 rfl _ _ rfl wo.heap.size _ q.2.2 rfl hown4 rfl hq2 hsz4 ?_; intro v5 w5 hown5 hg5)
              have hgg5 := ap_grown hgg4 hown4 hg5 (Nat.le_refl _)
              have hs5 := ap_str hs4 hown4 hg5 (by omega)
              obtain ⟨hsuc, hm, hij⟩ := HQ2.out
              go_roundg (gk - 1)
              case measure => omega
              case rel => exact ⟨m + 1, by omega, by go_num, by rw [hsuc], by rw [hsuc]; exact hown5, by rw [hsuc]; exact hs5, hgg5⟩
        · obtain rfl : m = n := by omega
          obtain ⟨⟨hb1, hb2⟩, hb3, hb4⟩ := tbIn_bound L j s.1 m
          have hsucc := HS.out.1
          generalize tbIn L j s.1 m = q at *
          obtain ⟨g, c, rfl, hg1, hg2⟩ := hownl.form (by omega)
          have hbg : gT ≠ bs ∧ gR ≠ bs := by omega
          have hT5 := hT.grown hgl (by simp; exact hbg.1)
          have hR5 := hR.grown hgl (by simp; exact hbg.2)
          have hown5 := hown.kept hgl (own_ne hown (by omega))
          have hrows5 := hrows.stream hgl (by omega)
          have hrow5 := Rows2.snoc hrows hrows5 hTlt hownl
          have hg5 := hg.trans hgl
          have hsz5 := hgl.size
          have cT := hT5.cell 0
          have fT := hT5.frozen 0
          have hlen : vals.length = j := by have := hown5.1; omega
          have HQ := Lib.hid (And.intro hsucc (And.intro hb2 hlen))
          clear hsucc hb1 hb2 hb3 hb4 hm hT hR hown hrows hst hg hgl
          have hj1 : j ≤ 1000000000 := by omega
          have hbz : gT + 1 ≤ wr.heap.size := by omega
          go_wp2_with (at_builtin; refine ap_row wr _ rfl rfl _ _ rfl (gT + 1) v j vals HQ.out.2.2 rfl hown5 _ rfl rfl hj1 hbz ?_; intro v7 w7 hown7 hg7; obtain ⟨g7, c7, rfl, hg71, hg72⟩ := hown7.form (by omega); have hT7 := (hT5.alloc (.cells #[.slice (some ⟨g, 0, none⟩) q.2.2.length c] 22)).grown hg7 (fun e => by have := (hown5.lt gT e.symm).1; omega); have cT7 := hT7.cell 0; have fT7 := hT7.frozen 0)
          have hr7 := (hrow5.alloc _).row (hown5.alloc _) hg7
          have hs7 := ap_str hstl hown5 hg7 (by omega)
          have hR7 := (hR5.alloc (.cells #[.slice (some ⟨g, 0, none⟩) q.2.2.length c] 22)).grown hg7 (fun e => by have := (hown5.lt gR e.symm).1; omega)
          have hgg7 := ap_grown hg5 hown5 hg7 (by omega)
          have hgs := grown_set (World.grownBy.refl w7 (some gT)) (p := ⟨gT, 0, none⟩) (.inr rfl) (.slice (some ⟨g7, 0, none⟩) (j + 1) c7)
          obtain ⟨hsucc, hb2, hlen⟩ := HQ.out
          have hj := HS.out.2.1
          go_roundg (ko - 1)
          case measure => omega
          case rel =>
            refine ⟨j + 1, _, _, by omega, by go_num, hT7.set_ 0 _, hR7.far (by simp; omega) _, hown7.kept hgs (own_ne hown7 (by omega)), ?_, ?_, grown_set hgg7 (.inl (by simp; omega)) _⟩
            · rw [hsucc]; exact hr7.stream hgs (by omega)
            · rw [hsucc]; exact hs7.far gT (by omega) 0 _
    · obtain rfl : j = n := by omega
      obtain ⟨A, c, rfl, hRd⟩ := RdT.of_own hB2 hown hrows
      have hM2 : M = tbEnd L j (tbRows L j (t + 1) j) := HM.out
      have hnn : j * j ≤ 4 * 4 := Nat.mul_le_mul hn4.2 hn4.2
      generalize tbRows L j (t + 1) j = s at *
      unfold tbEnd at hM2
      have HM2 := Lib.hid hM2
      have HB := Lib.hid (And.intro hB2 hB3)
      clear hM2 HM hlt hj hT3 hR3 hs3 hg3 hB2 hB3
      go_wp2_with fail
      refine (flip_any bs L s.1 12 _ hst (by omega) (by omega)).mono ?_
      rintro e w4 ⟨rfl, hs4, hg4⟩
      have hT4 := hT.grown hg4 (by simp; omega)
      have hR4 := hR.grown hg4 (by simp; omega)
      have hown4 := hown.kept hg4 (own_ne hown (by omega))
      have hrows4 := hrows.stream hg4 (by omega)
      have hRd4 := hRd.stream hg4 (by omega)
      have hgg4 := hg.trans hg4
      clear hT hR hown hrows hst hg hg4 hRd
      go_upto_if 45 with fail
      go_cut [] (fun wx => ∃ A2 c2, Blk wx gT 70 #[.slice A2 M.2.length c2] ∧ Blk wx gR 70 #[.slice none 0 0] ∧ RdT wx (gT + 1) A2 M.2 ∧ StrQ Q wx bs L M.1 ∧ w.grownBy wx (some bs))
      case rest =>
        obtain ⟨A2, c2, hTc, hRc, hRdc, hsc, hgc⟩ := hcut
        have y0 := hTc.cell 0
        have y1 := hRc.cell 0
        have y2 := hRc.frozen 0
        clear hT4 hR4 hown4 hrows4 hRd4 hs4 hgg4
        go_wp2_with fail
        refine bodyPost_ret (results_cell_row rfl _ _ gR _ _ _ _ rfl (hRc.set_ 0 (.slice A2 M.2.length c2)) Try.underlying70 rfl (by kernel_rfl)) rfl ?_
        have hgs := grown_set (World.grownBy.refl wc (some gR)) (p := ⟨gR, 0, none⟩) (.inr rfl) (.slice A2 M.2.length c2)
        exact ⟨_, _, rfl, (hRdc.stream hgs (by omega)).mono (by omega), hsc.far gR (by omega) 0 _, grown_set hgc (.inl (by simp; omega)) _⟩
      case first =>
        by_cases hf : (nx L s.1 12 == 0) = true
        · have hM := HM2.out
          rw [if_pos hf] at hM
          rw [hf]
          have HM3 := Lib.hid hM
          clear hM hf HM2
          go_wp2_with fail
          refine (next_any bs L _ 3 _ hs4 (by omega) (by omega)).mono ?_
          rintro e w5 ⟨rfl, hs5, hg5⟩
          have hT5 := hT4.grown hg5 (by simp; omega)
          have hR5 := hR4.grown hg5 (by simp; omega)
          have hown5 := hown4.kept hg5 (own_ne hown4 (by omega))
          have hrows5 := hrows4.stream hg5 (by omega)
          have hRd5 := hRd4.stream hg5 (by omega)
          have hgg5 := hgg4.trans hg5
          clear hT4 hR4 hown4 hrows4 hs4 hgg4 hg5 hRd4
          obtain ⟨x0, x1⟩ := nx_in L (s.1 + 1) 3 (by omega)
          have hM := HM3.out
          generalize nx L (s.1 + 1) 3 = x at *
          have hx : x = 0 ∨ x = 1 ∨ x = 2 := by omega
          clear x0 x1
          rcases hx with rfl | rfl | rfl
          · rw [if_pos rfl] at hM
            obtain ⟨a0, a1⟩ := nx_in L (s.1 + 1 + 1) j (by omega)
            obtain ⟨b0, b1⟩ := nx_in L (s.1 + 1 + 1 + 1) j (by omega)
            have hN2 := fun w (hs : StrQ Q w bs L (s.1 + 1 + 1 + 1)) => next_any bs L (s.1 + 1 + 1 + 1) j w hs (by omega) (by omega)
            obtain ⟨a, ha⟩ := Int.eq_ofNat_of_zero_le a0
            obtain ⟨b, hb⟩ := Int.eq_ofNat_of_zero_le b0
            rw [show s.1 + 2 = s.1 + 1 + 1 from rfl, show s.1 + 3 = s.1 + 1 + 1 + 1 from rfl, ha, hb, Int.toNat_natCast, Int.toNat_natCast] at hM
            rw [ha] at a1
            have hb1 : b < j := by omega
            have ha1 : a < j := by omega
            simp only [hb] at hN2
            obtain ⟨l, hl⟩ : ∃ l, s.2[a]? = some l := ⟨s.2[a]'(by have := HB.out.1; omega), List.getElem?_eq_getElem _⟩
            have hll : l.length = j := HB.out.2 l (List.mem_of_getElem? hl)
            obtain ⟨hvl, gf, hgf, hrw⟩ := id hrows5
            obtain ⟨ca, hva, hoa⟩ := hrw a l hl
            obtain ⟨gA, cA, hAA, hgA1, hgA2⟩ := hown5.form (by omega)
            injection hAA with hA1 hA2 hA3
            subst hA1 hA3
            generalize gf a = g at *
            have hTS : TSt w w5 bs gT gR gA c s.2 vals := ⟨hT5, hR5, by rw [HB.out.1]; rw [HB.out.1] at hown5; exact hown5, hrows5, hgg5, hbs, hRT⟩
            have hcs := fun wz (h : TSt w wz bs gT gR gA c s.2 vals) => h.cells (b := b) hl (by omega) hva
            have hs5d := StrQ.drew hs5
            have hN1 := fun w1 (hs : StrQ Q w1 bs L (s.1 + 1 + 1)) => next_any bs L (s.1 + 1 + 1) j w1 hs (by omega) (by omega)
            rw [ha] at hN1
            have hgd : s.2.getD a [] = l := by rw [List.getD_eq_getElem?_getD, hl]; rfl
            rw [hgd] at hM
            have hP : ∀ B w1 (hs : StrQ Q w1 bs L (s.1 + 1 + 1 + 1 + 1)) (hr : Rd w1 1 (some ⟨B, 0, none⟩) 4 (ints [-1, 5, 101, 100])) (hne : B ≠ bs), Calls Try.prog 26 #[.pointer (some ⟨bs, 0, none⟩), .slice (some ⟨B, 0, none⟩) 4 4] w1 (fun e w' => e = .returned (.int .i64 (pk L (s.1 + 4) [-1, 5, 101, 100])) ∧ StrQ Q w' bs L (s.1 + 1 + 1 + 1 + 1 + 1) ∧ w1.grownBy w' (some bs)) := fun B w1 hs hr hne => pick_any bs L (s.1 + 1 + 1 + 1 + 1) (some ⟨B, 0, none⟩) 4 [-1, 5, 101, 100] w1 hs (by omega) (by simp) (by simp) hr (by intro a e; cases e; exact hne)
            generalize pk L (s.1 + 4) [-1, 5, 101, 100] = z at *
            have hgTlt : gT < g := (hoa.lt g rfl).1
            have hgTg : gT ≠ g ∧ gR ≠ g := by omega
            obtain ⟨hgT1, hgR1⟩ := hgTg
            have hTR : gT ≠ gR := by omega
            have hTR' : gR ≠ gT := by omega
            have cT5 := hT5.cell 0
            have hlt5 := hs5.lt
            have hsl : s.2.length = j := HB.out.1
            have hbl : (b : Int) < (l.length : Int) := by omega
            have hbl' : b < l.length := by omega
            have HM4 := Lib.hid (And.intro hM (And.intro hll (And.intro hvl (And.intro hva (And.intro hl hsl)))))
            have HN1 := Lib.hid hN1
            have HN2 := Lib.hid hN2
            have HP := Lib.hid hP
            have HC := Lib.hid hcs
            have HT := Lib.hid (TSt.drew hTS)
            have HS5 := Lib.hid hs5d
            have hRL := fun wz => (show Rd (wz.alloc (.cells #[.int .i64 (-1), .int .i64 5, .int .i64 101, .int .i64 100] 3)) 1 (some ⟨wz.heap.size, 0, none⟩) 4 (ints [-1, 5, 101, 100]) from rd_new wz [-1, 5, 101, 100] 3)
            have HRL := Lib.hid hRL
            have HR5 := Lib.hid (show Rd (w5.alloc (.cells #[.int .i64 (-1), .int .i64 5, .int .i64 101, .int .i64 100] 3)).drew 1 (some ⟨w5.heap.size, 0, none⟩) 4 (ints [-1, 5, 101, 100]) from hRL w5)
            have hbn := fun n (h : bs < n) => (show (n ≠ bs) ∧ ∀ a : Addr, some (⟨n, 0, none⟩ : Addr) = some a → some a.block ≠ some bs from ⟨by omega, fun a e => by cases e; simp; omega⟩)
            have HB5 := Lib.hid (hbn _ hlt5)
            have HBN := Lib.hid hbn
            clear hRL hbn
            obtain ⟨k0, k1, k2, k3⟩ := hcs _ (TSt.drew hTS)
            have k4 := fun o => (hcs _ (TSt.drew (TSt.alloc hTS o))).1
            have k5 := fun o => (hcs _ (TSt.drew (TSt.alloc hTS o))).2.1
            clear hM HM3 hN1 hN2 hP hcs hs5d hll hvl hva hl ha hb hrows5 hRd5 hown5 hR5 hrw hgf a0 b0 HN hs hTS hoa hs5 hT5 hgA1 hgA2
            have hsl' : (s.2.length : Int) = (j : Int) := by rw [hsl]
            go_wp2_with fail
            go_region_law (first
              | (go_simp; go_at_call 67; refine (HN1.out _ (by first | exact HS5.out | exact HS5.out.alloc _)).mono ?_; rintro e w6 ⟨rfl, hs6, hg6⟩; dsimp only; have HT6 := Lib.hid (show TSt w w6 bs gT gR gA c s.2 vals from by first | exact HT.out.stream hg6 | exact (HT.out.alloc _).stream hg6); obtain ⟨i60, i61, _, _⟩ := HC.out _ HT6.out; have j60 := fun o => (HC.out _ (HT6.out.alloc o)).1; have j61 := fun o => (HC.out _ (HT6.out.alloc o)).2.1; have HR6 := Lib.hid (HRL.out w6); have HB6 := Lib.hid (HBN.out _ hs6.lt))
                | (go_simp; go_at_call 67; refine (HN2.out _ (by first | exact hs6 | exact hs6.alloc _)).mono ?_; rintro e w7 ⟨rfl, hs7, hg7⟩; dsimp only; have HT7 := Lib.hid (show TSt w w7 bs gT gR gA c s.2 vals from by first | exact HT6.out.stream hg7 | exact (HT6.out.alloc _).stream hg7); obtain ⟨i70, i71, _, _⟩ := HC.out _ HT7.out; have j70 := fun o => (HC.out _ (HT7.out.alloc o)).1; have j71 := fun o => (HC.out _ (HT7.out.alloc o)).2.1; have HR7 := Lib.hid (HRL.out w7); have HB7 := Lib.hid (HBN.out _ hs7.lt))
                | (go_simp; go_at_call 26; refine (HP.out _ _ (by first | exact hs7.alloc _ | exact hs7) (by first | exact HR7.out | exact HR6.out.grown_ hg7 HB6.out.2 | exact (HR5.out.grown_ hg6 HB5.out.2).grown_ hg7 HB5.out.2) (by first | exact HB7.out.1 | exact HB6.out.1 | exact HB5.out.1)).mono ?_; rintro e w8 ⟨rfl, hs8, hg8⟩; dsimp only; have HT8 := Lib.hid (show TSt w w8 bs gT gR gA c s.2 vals from by first | exact HT7.out.stream hg8 | exact (HT7.out.alloc _).stream hg8); obtain ⟨i80, i81, i82, i83⟩ := HC.out _ HT8.out; have i84 := HT8.out.bR.cell 0; have i85 := HT8.out.bR.frozen 0))
            all_goals
              go_wp2_with fail
              go_meet
              have hlt8 := HT8.out.lt
              have hgw := hgTlt
              refine ⟨some ⟨gA, 0, none⟩, c, ?_, HT8.out.bR.far (by simp; omega) _, ?_, ?_, grown_set HT8.out.gro (.inl (by simp; omega)) _⟩
              · rw [HM4.out.1, show (s.1 + 5, s.2.set a (l.set b z)).2.length = s.2.length from by simp]; exact HT8.out.bT.far (by simp; omega) _
              · rw [HM4.out.1]; exact HT8.out.put HM4.out.2.2.2.2.1 HM4.out.2.2.2.1 z
              · rw [HM4.out.1]; exact hs8.far g (by omega) b _
          · rw [if_neg (by omega), if_pos rfl] at hM
            have HM4 := Lib.hid hM
            clear hM HM3
            have cT := hT5.cell 0
            have fT := hT5.frozen 0
            have hTR : gT ≠ gR := by omega
            have hTR' : gR ≠ gT := by omega
            have hr0 := World.ownsRow_lit (base := w5.heap.size) (size := 1) (e := 3) w5 #[.int .i64 0] 1 (Nat.le_refl _) (by unfold maxLen; omega) rfl
            have hown6 := hown5.alloc (.cells #[.int .i64 0] 3)
            have hN6 : (w5.alloc (.cells #[.int .i64 0] 3)).heap.size = w5.heap.size + 1 := by simp
            have hTlt := hT5.lt
            have hsn := Rows2.snoc hrows5 (hrows5.alloc (.cells #[.int .i64 0] 3)) hTlt (l := [0]) hr0
            have hs6 := hs5.grown (grown_alloc (grown_refl w5) (.cells #[.int .i64 0] 3)) (by simp)
            have hg6 := grown_alloc hgg5 (.cells #[.int .i64 0] 3)
            have hT6 := hT5.alloc (.cells #[.int .i64 0] 3)
            have hR6 := hR5.alloc (.cells #[.int .i64 0] 3)
            have hvl : vals.length = j := by have := hown5.1; omega
            have hj1 : j ≤ 1000000000 := by omega
            have hbz : gT + 1 ≤ (w5.alloc (.cells #[.int .i64 0] 3)).heap.size := by omega
            go_wp2_with (at_builtin; refine ap_row (w5.alloc (.cells #[.int .i64 0] 3)) _ rfl rfl _ _ rfl (gT + 1) (.slice A s.2.length c) j vals hvl rfl hown6 _ hN6 rfl hj1 hbz ?_; intro v7 w7 hown7 hg7; have hT7 := (hT6.alloc (.cells #[.slice (some ⟨w5.heap.size, 0, none⟩) 1 1] 22)).grown hg7 (fun e => by have := (hown6.lt gT e.symm).1; omega); have cT7 := hT7.cell 0; have fT7 := hT7.frozen 0; have hR7 := (hR6.alloc (.cells #[.slice (some ⟨w5.heap.size, 0, none⟩) 1 1] 22)).grown hg7 (fun e => by have := (hown6.lt gR e.symm).1; omega); have cR7 := hR7.cell 0; have fR7 := hR7.frozen 0; obtain ⟨g7, c7, rfl, hg71, hg72⟩ := hown7.form (by omega))
            go_meet
            have hr7 := (hsn.alloc (.cells #[.slice (some ⟨w5.heap.size, 0, none⟩) 1 1] 22)).row (hown6.alloc _) hg7
            have hlen2 : (s.2 ++ [[0]]).length = j + 1 := by have := HB.out.1; simp; omega
            obtain ⟨A8, c8, hv8, hRd8⟩ := RdT.of_own hlen2 hown7 hr7
            rw [hv8]
            rw [HM4.out]
            have hgs := grown_set (World.grownBy.refl w7 (some gT)) (p := ⟨gT, 0, none⟩) (.inr rfl) (.slice A8 (s.2 ++ [[0]]).length c8)
            have hs7 := ap_str hs6 hown6 hg7 (by omega)
            have hgg7 := ap_grown hg6 hown6 hg7 (by omega)
            exact ⟨A8, c8, hT7.set_ 0 _, hR7.far (by simp; omega) _, hRd8.stream hgs (by omega), hs7.far gT (by omega) 0 _, grown_set hgg7 (.inl (by simp; omega)) _⟩
          · rw [if_neg (by omega), if_neg (by omega)] at hM
            have HM4 := Lib.hid hM
            clear hM HM3
            have cT := hT5.cell 0
            have fT := hT5.frozen 0
            have cR := hR5.cell 0
            have fR := hR5.frozen 0
            have hTR : gT ≠ gR := by omega
            have hTR' : gR ≠ gT := by omega
            go_wp2_with fail
            go_meet
            rw [HM4.out]
            exact ⟨none, 0, hT5.set_ 0 _, hR5.far (by simp; omega) _, RdT.nil_ _ _, hs5.far gT (by omega) 0 _, grown_set hgg5 (.inl (by simp; omega)) _⟩
        · have hM := HM2.out
          rw [if_neg hf] at hM
          have hf' : (nx L s.1 12 == 0) = false := by simpa using hf
          rw [hf']
          have HM3 := Lib.hid hM
          clear hM hf hf' HM2
          go_wp2_with fail
          go_meet
          rw [HM3.out]
          exact ⟨A, c, hT4, hR4, hRd4, hs4, hgg4⟩

end Go.Proofs.Ytkfijicmeekmiaa
