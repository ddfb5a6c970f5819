/- The walk of the stream's Coil. -/
import Derived.Test.YtidfhgpjpieajaaDoorMkA
import Derived.Test.YtidfhgpjpieajaaDoorStkP
import Derived.Test.YtidfhgpjpieajaaDoorBlk
import Derived.Test.YtidfhgpjpieajaaDoorWin
import Derived.Deep.RegionWith
import Derived.Deep.RegionLaw
import Derived.Deep.AppendLies
import Derived.Maps.AppendAt
import Derived.Laws.AppendOwnNone
namespace Go.Proofs.YtidfhgpjpieajaaDoor
open Go.RowKit
variable {Q : Nat → Prop}

def sB : ByteArray := ⟨#[98, 97, 114]⟩
def sZz : ByteArray := ⟨#[122, 122]⟩
/-- A coil under way: the stream's number, the pieces, the room, the last lot. -/
structure CoS where
  t : Nat
  ps : List Pc
  room : Int
  last : ByteArray
def coK (L : List Int) (t : Nat) : ByteArray := pkS L t [bLa, bLb, bLc, bLd]
def coN (L : List Int) (t : Nat) : Int := pk L (t + 1) [1, 2, 4]
def coStep (L : List Int) (s : CoS) : CoS :=
  if sEq (coK L s.t) s.last = true ∨ s.room < coN L s.t then { s with t := s.t + 2 } else ⟨s.t + 2, s.ps ++ [⟨coK L s.t, coN L s.t⟩], s.room - coN L s.t, coK L s.t⟩
def coRun (L : List Int) : Nat → CoS → CoS
  | 0, s => s
  | k + 1, s => coStep L (coRun L k s)
def coMost (L : List Int) (t : Nat) : Int := pk L t [5, 10, 15, 30]
def coMid (L : List Int) (t : Nat) : CoS := coRun L (nx L (t + 1) 4).toNat ⟨t + 1 + 1, [], coMost L t, ByteArray.empty⟩
/-- A coil, mostly a right one. -/
def coilM (L : List Int) (t : Nat) : Nat × Coil :=
  let s := coMid L t
  if nx L s.t 15 == 0 then
    let k := nx L (s.t + 1) 4
    if k = 0 then (s.t + 1 + 1 + 1, ⟨pkS L (s.t + 1 + 1) [ByteArray.empty, sCc, sBar], coMost L t, s.ps⟩)
    else if k = 1 then (s.t + 1 + 1 + 1, ⟨sCan, pk L (s.t + 1 + 1) [-1, 0, 1001], s.ps⟩)
    else if k = 2 then (s.t + 1 + 1 + 1 + 1, ⟨sCan, coMost L t, s.ps ++ [⟨pkS L (s.t + 1 + 1) [ByteArray.empty, s.last, sZz], pk L (s.t + 1 + 1 + 1) [0, 1, 1001]⟩]⟩)
    else (s.t + 1 + 1, ⟨sCan, coMost L t, s.ps ++ s.ps⟩)
  else (s.t + 1, ⟨sCan, coMost L t, s.ps⟩)

theorem coRun_bound (L : List Int) (k : Nat) (s : CoS) : (coRun L k s).t = s.t + 2 * k ∧ (coRun L k s).ps.length ≤ s.ps.length + k := by
  induction k with
  | zero => simp [coRun]
  | succ k ih =>
    rw [coRun]
    unfold coStep
    split <;> simp <;> omega
theorem coMid_bound (L : List Int) (t : Nat) : (coMid L t).t ≤ t + 8 ∧ (coMid L t).ps.length ≤ 3 := by
  have h := nx_in L (t + 1) 4 (by omega)
  have h2 := coRun_bound L (nx L (t + 1) 4).toNat ⟨t + 1 + 1, [], coMost L t, ByteArray.empty⟩
  unfold coMid
  simp only [List.length_nil] at h2
  omega
theorem coilM_bound (L : List Int) (t : Nat) : (coilM L t).1 ≤ t + 12 ∧ (coilM L t).2.ps.length ≤ 6 := by
  have h := coMid_bound L t
  unfold coilM
  simp only
  split
  · split
    · simp; omega
    · split
      · simp; omega
      · split <;> simp <;> omega
  · simp; omega

theorem pick_at (bs : Nat) (L : List Int) (t : Nat) (vs : List Int) (w : World) (N : Nat) (hN : w.heap.size = N) (hs : StrQ Q w bs L t) (ht : t ≤ 1000000) (hl : vs ≠ []) (hl1 : vs.length ≤ 100000) (T : TypeId) :
    Calls Tryd.prog 11 #[.pointer (some ⟨bs, 0, none⟩), .slice (some ⟨N, 0, none⟩) vs.length vs.length] (w.alloc (.cells (ints vs).toArray T))
      fun e w' => e = .returned (.int .i64 (pk L t vs)) ∧ StrQ Q w' bs L (t + 1) ∧ w.grownBy w' (some bs) := by
  subst hN; exact pick_lit bs L t vs w hs ht hl hl1 T
theorem one_at (bs : Nat) (L : List Int) (t : Nat) (vs : List ByteArray) (w : World) (N : Nat) (hN : w.heap.size = N) (hs : StrQ Q w bs L t) (ht : t ≤ 1000000) (hl : vs ≠ []) (hl1 : vs.length ≤ 100000) (T : TypeId) :
    Calls Tryd.prog 65 #[.pointer (some ⟨bs, 0, none⟩), .slice (some ⟨N, 0, none⟩) vs.length vs.length] (w.alloc (.cells (strs vs).toArray T))
      fun e w' => e = .returned (.string (pkS L t vs)) ∧ StrQ Q w' bs L (t + 1) ∧ w.grownBy w' (some bs) := by
  subst hN; exact one_lit bs L t vs w hs ht hl hl1 T

theorem own_bx0 {w : World} {g : Nat} {t : TypeId} {cs : Array Value} {base : Nat} {e : TypeId} {size n : Nat} {v : Value} {xs : List Value} (h : w.ownsRow base e size v n xs) (hg : Blk w g t cs) (hne : e ≠ t) : some g ≠ v.ownBlock := by
  rcases h.2 with ⟨rfl, _⟩ | ⟨g', cap, cur, rfl, _, hh, _⟩
  · simp [Value.ownBlock]
  · intro he
    have : g' = g := by simpa [Value.ownBlock] using he.symm
    subst this
    unfold Blk at hg
    rw [hg] at hh
    cases hh
    exact hne rfl

/-- A coil in the making: its box at g, the result's box at r, its pieces its own. -/
structure CoSt (Q : Nat → Prop) (w0 wr : World) (bs g : Nat) (L : List Int) (pr : ByteArray) (most : Int) (ps : List Pc) (t : Nat) (v : Value) : Prop where
  box : Blk wr g 58 #[.string pr, .int .i64 most, v]
  own : wr.ownsRow w0.heap.size 54 2 v ps.length (pcFlat ps)
  res : Blk wr w0.heap.size 58 #[.string ByteArray.empty, .int .i64 0, .slice none 0 0]
  st : StrQ Q wr bs L t
  gro : w0.grownBy wr (some bs)
  bsl : bs < w0.heap.size
  gl : w0.heap.size < g
variable {w0 wr wz : World} {bs g t : Nat} {L : List Int} {pr : ByteArray} {most : Int} {ps : List Pc} {v : Value}
theorem CoSt.step {t' : Nat} (h : CoSt Q w0 wr bs g L pr most ps t v) (hs : StrQ Q wz bs L t') (hg : wr.grownBy wz (some bs)) : CoSt Q w0 wz bs g L pr most ps t' v :=
  ⟨h.box.grown hg (by have := h.bsl; have := h.gl; simp; omega), h.own.kept hg (own_ne h.own h.bsl), h.res.grown hg (by have := h.bsl; simp; omega), hs, h.gro.trans hg, h.bsl, h.gl⟩
theorem CoSt.alloc (h : CoSt Q w0 wr bs g L pr most ps t v) (o : Obj) : CoSt Q w0 (wr.alloc o) bs g L pr most ps t v :=
  ⟨h.box.alloc o, h.own.alloc o, h.res.alloc o, h.st.grown (grown_alloc (grown_refl wr) o) (by simp), grown_alloc h.gro o, h.bsl, h.gl⟩
/-- Behind an append of pieces, stored into the coil. -/
theorem CoSt.app {ps' : List Pc} {v' : Value} (h : CoSt Q w0 wr bs g L pr most ps t v) (hown : wz.ownsRow w0.heap.size 54 2 v' ps'.length (pcFlat ps')) (hg : wr.grownBy wz v.ownBlock) :
    Blk wz g 58 #[.string pr, .int .i64 most, v] ∧ CoSt Q w0 (wz.setCell ⟨g, 2, none⟩ v') bs g L pr most ps' t v' := by
  have hb := h.box.grown hg (own_bx0 h.own h.box (by decide))
  have hbs := h.bsl
  have hgl := h.gl
  have hst : StrQ Q wz bs L t := h.st.grown hg (fun j hj => by have := (h.own.lt j hj).1; omega)
  have hgw : w0.grownBy wz (some bs) := grown_below h.gro hg (fun j hj => .inl (h.own.lt j hj).1)
  have hgs := grown_set (World.grownBy.refl wz (some g)) (p := ⟨g, 2, none⟩) (.inr rfl) v'
  refine ⟨hb, (hb.set_ 2 v').eq rfl, hown.kept hgs (.inr (fun e => own_bx0 hown hb (by decide) e.symm)), (h.res.grown hg (own_bx0 h.own h.res (by decide))).far (by simp; omega) _, hst.far g (by omega) 2 v', grown_set hgw (.inl (by simp; omega)) _, hbs, hgl⟩

theorem CoSt.cell {i : Nat} {u : Value} (h : CoSt Q w0 wr bs g L pr most ps t v) (_hi : i = 0 ∨ i = 1) : (wr.setCell ⟨g, i, none⟩ u).ownsRow w0.heap.size 54 2 v ps.length (pcFlat ps) ∧ Blk (wr.setCell ⟨g, i, none⟩ u) w0.heap.size 58 #[.string ByteArray.empty, .int .i64 0, .slice none 0 0] ∧ StrQ Q (wr.setCell ⟨g, i, none⟩ u) bs L t ∧ w0.grownBy (wr.setCell ⟨g, i, none⟩ u) (some bs) := by
  have hbs := h.bsl
  have hgl := h.gl
  have hgs := grown_set (World.grownBy.refl wr (some g)) (p := ⟨g, i, none⟩) (.inr rfl) u
  exact ⟨h.own.kept hgs (.inr (fun e => own_bx0 h.own h.box (by decide) e.symm)), h.res.far (by simp; omega) _, h.st.far g (by omega) i u, grown_set h.gro (.inl (by simp; omega)) _⟩
theorem CoSt.setPr (h : CoSt Q w0 wr bs g L pr most ps t v) (p : ByteArray) : CoSt Q w0 (wr.setCell ⟨g, 0, none⟩ (.string p)) bs g L p most ps t v :=
  have hc := h.cell (u := .string p) (.inl rfl)
  ⟨(h.box.set_ 0 (.string p)).eq rfl, hc.1, hc.2.1, hc.2.2.1, hc.2.2.2, h.bsl, h.gl⟩
theorem CoSt.setMost (h : CoSt Q w0 wr bs g L pr most ps t v) (m : Int) : CoSt Q w0 (wr.setCell ⟨g, 1, none⟩ (.int .i64 m)) bs g L pr m ps t v :=
  have hc := h.cell (u := .int .i64 m) (.inr rfl)
  ⟨(h.box.set_ 1 (.int .i64 m)).eq rfl, hc.1, hc.2.1, hc.2.2.1, hc.2.2.2, h.bsl, h.gl⟩
/-- The coil, laid into the result's box. -/
theorem CoSt.fin (h : CoSt Q w0 wr bs g L pr most ps t v) :
    Blk (((wr.setCell ⟨w0.heap.size, 0, none⟩ (.string pr)).setCell ⟨w0.heap.size, 1, none⟩ (.int .i64 most)).setCell ⟨w0.heap.size, 2, none⟩ v) w0.heap.size 58 #[.string pr, .int .i64 most, v] ∧
    (((wr.setCell ⟨w0.heap.size, 0, none⟩ (.string pr)).setCell ⟨w0.heap.size, 1, none⟩ (.int .i64 most)).setCell ⟨w0.heap.size, 2, none⟩ v).ownsRow w0.heap.size 54 2 v ps.length (pcFlat ps) ∧
    StrQ Q (((wr.setCell ⟨w0.heap.size, 0, none⟩ (.string pr)).setCell ⟨w0.heap.size, 1, none⟩ (.int .i64 most)).setCell ⟨w0.heap.size, 2, none⟩ v) bs L t ∧
    w0.grownBy (((wr.setCell ⟨w0.heap.size, 0, none⟩ (.string pr)).setCell ⟨w0.heap.size, 1, none⟩ (.int .i64 most)).setCell ⟨w0.heap.size, 2, none⟩ v) (some bs) := by
  have hbs := h.bsl
  have hne : v.ownBlock ≠ some w0.heap.size := fun e => own_bx0 h.own h.res (by decide) e.symm
  have hgs := grown_set (grown_set (grown_set (World.grownBy.refl wr (some w0.heap.size)) (p := ⟨w0.heap.size, 0, none⟩) (.inr rfl) (.string pr)) (p := ⟨w0.heap.size, 1, none⟩) (.inr rfl) (.int .i64 most)) (p := ⟨w0.heap.size, 2, none⟩) (.inr rfl) v
  exact ⟨(((h.res.set_ 0 (.string pr)).set_ 1 (.int .i64 most)).set_ 2 v).eq rfl, h.own.kept hgs (.inr hne), ((h.st.far _ hbs 0 _).far _ hbs 1 _).far _ hbs 2 _,
    grown_set (grown_set (grown_set h.gro (.inl (by simp)) _) (.inl (by simp)) _) (.inl (by simp)) _⟩

/-- append(a, b...): pieces of another slice. -/
theorem ap_pcs {ops : Array Oper} {rest : List Oper} {o : Oper} {a : Act} {Q : Exit → Act → World → Prop} (w : World) (ys : List Pc) (A : Option Addr) (m cc : Nat) (hgd : o.guard = none) (s x : Operand)
    (ho : o.op = .call { callee := .builtin .append, args := #[s, x], argTypes := #[36, 36] }) (base : Nat) (v : Value) (l : List Pc)
    (hs : a.eval s = v) (hown : w.ownsRow base 54 2 v l.length (pcFlat l)) (hx : a.eval x = .slice A m cc) (hr : Rd w 2 A m (pcFlat ys)) (hA : A = none → cc = 0)
    (hlen : l.length ≤ 1000000000) (hlen2 : m ≤ 1000000000) (hbase : base ≤ w.heap.size)
    (h : ∀ v' w', w'.ownsRow base 54 2 v' (l ++ ys).length (pcFlat (l ++ ys)) → w.grownBy w' v.ownBlock → wpList Tryd.prog ops Q rest (a.put o.dst v') w') :
    wpList Tryd.prog ops Q (o :: rest) a w := by
  obtain ⟨i0, hi, hz0, hz1, hz2⟩ := info_parts Tryd.infoPc
  have hm : ys.length = m := by have := hr.1; rw [pcFlat_len] at this; omega
  rcases A with _ | A
  · have h0 : m = 0 := by
      rcases Nat.eq_zero_or_pos m with h | h
      · exact h
      · obtain ⟨b, off, e, _⟩ := hr.2 h; cases e
    have hc0 := hA rfl
    subst h0 hc0
    have hy : ys = [] := List.eq_nil_of_length_eq_zero hm
    subst hy
    refine wpList_append_own_none hgd s x 36 ho base 54 i0 2 Tryd.underlying36 hi v l.length (pcFlat l) hs hown hx ?_
    exact h v w (by simpa using hown) (World.grownBy.refl _ _)
  · refine wpList_append_own _ hgd s x 36 ho base 54 i0 (.agg #[.string ByteArray.empty, .int .i64 0]) 2 24 Tryd.underlying36 hi hz0 hz1 hz2 rfl (by decide) v l.length (pcFlat l) hs hown A m cc (pcFlat ys) hx hr.1 (by
        intro j u hu
        have hj : 0 < m := by
          rcases Nat.eq_zero_or_pos m with h | h
          · have := (List.getElem?_eq_some_iff.1 hu).1; have := hr.1; omega
          · exact h
        obtain ⟨b, off, e, hb, hc⟩ := hr.2 hj
        cases e
        rw [addp]
        exact hc j u hu) (by
        intro u hu
        obtain ⟨t, _, ht⟩ := List.mem_flatMap.1 hu
        exact pc_one t u ht) (by unfold maxLen; omega) (by omega) hbase ?_
    intro v' w' h1 h2 _
    exact h v' w' (by simpa [pcFlat, hm] using h1) h2

/-- append(out, Piece{..}) within a region that draws its order. -/
theorem st_pc {ops : Array Oper} {o : Oper} {a : Act} {K : Act → World → Prop} {Q : Exit → Act → World → Prop} {E : Prop} (w : World) (y : Pc) (hgd : o.guard = none) (s x : Operand)
    (ho : o.op = .call { callee := .builtin .append, args := #[s, x], argTypes := #[36, 36] }) (base : Nat) (v : Value) (l : List Pc)
    (hs : a.eval s = v) (hown : w.ownsRow base 54 2 v l.length (pcFlat l)) (hx : a.eval x = .slice (some ⟨w.heap.size, 0, none⟩) 1 1) (hlen : l.length ≤ 1000000000) (hbase : base ≤ w.heap.size)
    (h : ∀ g cap w', w'.ownsRow base 54 2 (.slice (some ⟨g, 0, none⟩) (l.length + 1) cap) (l ++ [y]).length (pcFlat (l ++ [y])) → (w.alloc (.cells #[.string y.lot, .int .i64 y.mn] 54)).grownBy w' v.ownBlock → K (a.put o.dst (.slice (some ⟨g, 0, none⟩) (l.length + 1) cap)) w') :
    if Region.wanted o (yielded ops a.tmps) = true then Oper.wp Tryd.prog o a (w.alloc (.cells #[.string y.lot, .int .i64 y.mn] 54)) K Q else E := by
  obtain ⟨i0, hi, hz0, hz1, hz2⟩ := info_parts Tryd.infoPc
  refine step_append_lies _ hgd s x 36 ho base 54 i0 (.agg #[.string ByteArray.empty, .int .i64 0]) 2 24 Tryd.underlying36 hi hz0 hz1 hz2 rfl (by decide) v l.length (pcFlat l) hs (hown.alloc _) ⟨w.heap.size, 0, none⟩ 1 1 (pcCells y) hx rfl
    (cells_new w #[.string y.lot, .int .i64 y.mn] _) (pc_one y) (by omega) (by unfold maxLen; omega) (by omega) (by simp; omega) _ rfl ?_
  intro g cap w' h1 h2 _ _
  exact h g cap w' (by simpa [pcFlat] using h1) h2
theorem CoSt.drew (h : CoSt Q w0 wr bs g L pr most ps t v) : CoSt Q w0 wr.drew bs g L pr most ps t v :=
  ⟨h.box, h.own, h.res, h.st, grown_drew h.gro, h.bsl, h.gl⟩
theorem Rd.dr {w : World} {k n : Nat} {A : Option Addr} {xs : List Value} (h : Rd w k A n xs) : Rd w.drew k A n xs := h
theorem Rd.al {w : World} {k n : Nat} {A : Option Addr} {xs : List Value} (h : Rd w k A n xs) (o : Obj) : Rd (w.alloc o) k A n xs := h.grown (grown_alloc (grown_refl w) o)

theorem coMost_in (L : List Int) (t : Nat) : 0 ≤ coMost L t ∧ coMost L t ≤ 30 := by
  have h := pk_mem L t [5, 10, 15, 30] (by simp)
  simp only [List.mem_cons, List.not_mem_nil, or_false] at h
  unfold coMost
  omega
theorem coN_in (L : List Int) (t : Nat) : 1 ≤ coN L t ∧ coN L t ≤ 4 := by
  have h := pk_mem L (t + 1) [1, 2, 4] (by simp)
  simp only [List.mem_cons, List.not_mem_nil, or_false] at h
  unfold coN
  omega
theorem coRun_room (L : List Int) (k : Nat) (s : CoS) (h : 0 ≤ s.room ∧ s.room ≤ 30) : 0 ≤ (coRun L k s).room ∧ (coRun L k s).room ≤ 30 := by
  induction k with
  | zero => exact h
  | succ k ih =>
    rw [coRun]
    have := coN_in L (coRun L k s).t
    unfold coStep
    split
    · exact ih
    · rename_i hc
      simp only [not_or] at hc
      simp only
      omega

set_option maxRecDepth 100000 in
set_option maxHeartbeats 4000000 in
theorem coil_any (bs : Nat) (L : List Int) (t : Nat) (w : World) (hs : StrQ Q w bs L t) (ht : t ≤ 800000) :
    Calls Tryd.prog 29 #[.pointer (some ⟨bs, 0, none⟩)] w
      fun e w' => ∃ v, e = .returned (.agg #[.string (coilM L t).2.pr, .int .i64 (coilM L t).2.most, v]) ∧ w'.ownsRow w.heap.size 54 2 v (coilM L t).2.ps.length (pcFlat (coilM L t).2.ps) ∧ StrQ Q w' bs L (coilM L t).1 ∧ w.grownBy w' (some bs) := by
  have hbs := hs.lt
  have hmid := coMid_bound L t
  obtain ⟨M, hM⟩ : ∃ M, coilM L t = M := ⟨_, rfl⟩
  rw [hM]
  unfold coilM at hM
  simp only at hM
  have hk4 := nx_in L (t + 1) 4 (by omega)
  obtain ⟨k, hk⟩ := Int.eq_ofNat_of_zero_le hk4.1
  have hkk : k < 4 := by omega
  have hmm : coMid L t = coRun L k ⟨t + 1 + 1, [], coMost L t, ByteArray.empty⟩ := by unfold coMid; rw [hk]; rfl
  rw [hmm] at hM hmid
  have hmst := coMost_in L t
  obtain ⟨mo, hmo⟩ : ∃ mo, coMost L t = mo := ⟨_, rfl⟩
  rw [hmo] at hM hmst hmid
  have hmo' : pk L t [5, 10, 15, 30] = mo := hmo
  have HM := Lib.hid (And.intro hM (And.intro hk hmid))
  clear hM hk4 hk hmid hmm
  have hR0 := Blk.new w 58 #[.string ByteArray.empty, .int .i64 0, .slice none 0 0]
  have hgR := grown_alloc (World.grownBy.refl w (some bs)) (.cells #[.string ByteArray.empty, .int .i64 0, .slice none 0 0] 58)
  have hsR : StrQ Q (w.alloc (.cells #[.string ByteArray.empty, .int .i64 0, .slice none 0 0] 58)) bs L t := hs.grown (grown_alloc (grown_refl w) _) (by simp)
  go_enter Tryd.func29, Tryd.ntmps29
  go_wp2_with fail
  refine (pick_at bs L t [5, 10, 15, 30] _ (w.heap.size + 1) (by simp) hsR (by omega) (by decide) (by decide) 3).mono ?_
  rintro e w1 ⟨rfl, hst1, hg1⟩
  rw [hmo'] at *
  have hB1 : CoSt Q w (w1.alloc (.cells #[.string ⟨#[99, 97, 110]⟩, .int .i64 mo, .slice none 0 0] 58)) bs w1.heap.size L ⟨#[99, 97, 110]⟩ mo [] (t + 1) (.slice none 0 0) := by
    have hz : (w.alloc (.cells #[.string ByteArray.empty, .int .i64 0, .slice none 0 0] 58)).heap.size = w.heap.size + 1 := by simp
    have h1 := hg1.size
    exact ⟨Blk.new w1 _ _, World.ownsRow_nil _ _ _ _, (hR0.grown hg1 (by simp; omega)).alloc _, hst1.grown (grown_alloc (grown_refl w1) _) (by simp), grown_alloc (hgR.trans hg1) _, hbs, by omega⟩
  have hk := HM.out.2.1
  have HB1 := Lib.hid (And.intro hB1 hk)
  clear hB1 hR0 hgR hsR hg1 hk hmo hmo'
  go_wp2_with fail
  refine (next_any bs L (t + 1) 4 _ HB1.out.1.st (by omega) (by omega)).mono ?_
  rw [HB1.out.2]
  rintro e w2 ⟨rfl, hst2, hg2⟩
  have hB2 := HB1.out.1.step hst2 hg2
  go_wp2_with fail
  generalize w1.heap.size = g at *
  clear HB1 hg2 hst2 hst1
  obtain ⟨S0, hS0⟩ : ∃ S0 : CoS, S0 = ⟨t + 1 + 1, [], mo, ByteArray.empty⟩ := ⟨_, rfl⟩
  have hS1 : S0.t = t + 1 + 1 ∧ S0.ps = [] ∧ S0.room = mo ∧ S0.last = ByteArray.empty := by rw [hS0]; exact ⟨rfl, rfl, rfl, rfl⟩
  rw [← hS0] at HM
  clear hS0
  have HS1 := Lib.hid hS1
  clear hS1
  go_loopg [4, 5, 16] k (fun kk vr vl vi wr => ∃ (j : Nat) (v : Value), kk + j = k ∧ vi = .int .i64 j ∧ vr = .int .i64 (coRun L j S0).room ∧ vl = .string (coRun L j S0).last ∧ CoSt Q w wr bs g L ⟨#[99, 97, 110]⟩ mo (coRun L j S0).ps (coRun L j S0).t v)
  case atStart =>
    obtain ⟨h1, h2, h3, h4⟩ := HS1.out
    exact ⟨0, _, by omega, rfl, by simp [coRun, h3], by simp only [coRun, h4]; rfl, by simp only [coRun, h1, h2]; exact hB2⟩
  case round =>
    clear hB2
    obtain ⟨j, v, hj, rfl, rfl, rfl, H⟩ := hrel
    by_cases hlt : j < k
    · obtain ⟨h1, h2, h3, h4⟩ := HS1.out
      have hrm := coRun_room L j S0 (by omega)
      have hbd := coRun_bound L j S0
      rw [h1, h2] at hbd
      simp only [List.length_nil] at hbd
      have hbt : (coRun L j S0).t ≤ t + 20 := by omega
      have hbp : (coRun L j S0).ps.length ≤ 10 := by omega
      clear hbd
      have hsucc : coRun L (j + 1) S0 = coStep L (coRun L j S0) := rfl
      have hn := coN_in L (coRun L j S0).t
      generalize coRun L j S0 = st at *
      unfold coStep coK coN at hsucc
      unfold coN at hn
      have HS := Lib.hid (And.intro hsucc hj)
      have hjk : (j : Int) < (k : Int) := by omega
      clear hsucc hj h1 h2 h3 h4
      go_wp2_with fail
      refine (one_lit bs L st.t [bLa, bLb, bLc, bLd] wr H.st (by omega) (by decide) (by decide) 9).mono ?_
      rintro e w3 ⟨rfl, hst3, hg3⟩
      have H3 := H.step hst3 hg3
      go_wp2_with fail
      refine (pick_lit bs L _ [1, 2, 4] w3 hst3 (by omega) (by decide) (by decide) 3).mono ?_
      rintro e w4 ⟨rfl, hst4, hg4⟩
      have H4 := H3.step hst4 hg4
      clear hst3 hg3 hst4 hg4 H H3
      generalize pkS L st.t [bLa, bLb, bLc, bLd] = K at *
      generalize pk L (st.t + 1) [1, 2, 4] = n at *
      have k4 := H4.box.three
      by_cases heq : (K.toList == st.last.toList) = true
      · go_wp2_with fail
        obtain ⟨hsucc, hj⟩ := HS.out
        rw [if_pos (.inl (show sEq K st.last = true from heq))] at hsucc
        go_roundg (gk - 1)
        case measure => omega
        case rel => exact ⟨j + 1, v, by omega, by go_num, by rw [hsucc], by rw [hsucc], by rw [hsucc]; exact H4⟩
      · have heq' : (K.toList == st.last.toList) = false := by simpa using heq
        clear heq
        by_cases hrn : st.room < n
        · go_wp2_with fail
          obtain ⟨hsucc, hj⟩ := HS.out
          rw [if_pos (.inr hrn)] at hsucc
          go_roundg (gk - 1)
          case measure => omega
          case rel => exact ⟨j + 1, v, by omega, by go_num, by rw [hsucc], by rw [hsucc], by rw [hsucc]; exact H4⟩
        · have hneg : ¬ (sEq K st.last = true ∨ st.room < n) := by
            rintro (h | h)
            · unfold sEq at h; rw [heq'] at h; cases h
            · exact hrn h
          have HN := Lib.hid hneg
          have HH4 := Lib.hid H4
          clear hneg
          go_wp2_with (at_builtin; refine ap_pc w4 ⟨K, n⟩ rfl _ _ rfl w.heap.size _ st.ps rfl H4.own rfl (by omega) H4.gro.size ?_; intro v5 w5 hown5 hg5; obtain ⟨A5, c5, rfl, _, _, _, _⟩ := Rd.of_own hown5; obtain ⟨hb5, H5⟩ := (H4.alloc (.cells #[.string K, .int .i64 n] 54)).app hown5 hg5; have k5 := hb5.three)
          obtain ⟨hsucc, hj⟩ := HS.out
          rw [if_neg HN.out] at hsucc
          go_roundg (gk - 1)
          case measure => omega
          case rel => exact ⟨j + 1, _, by omega, by go_num, by rw [hsucc], by rw [hsucc], by rw [hsucc]; have h5 := H5; rw [List.length_append] at h5; exact h5⟩
    · obtain rfl : j = k := by omega
      clear hlt hj
      obtain ⟨hM, _, hb1, hb2⟩ := HM.out
      have hHM := Lib.hid hM
      generalize coRun L j S0 = st at *
      clear hM HM HS1
      have kx := H.box.three
      go_wp2_with fail
      refine (flip_any bs L _ 15 _ H.st (by omega) (by omega)).mono ?_
      rintro e w3 ⟨rfl, hst3, hg3⟩
      have H3 := H.step hst3 hg3
      clear kx hg3
      by_cases hf : (nx L st.t 15 == 0) = true
      · have hM := hHM.out
        rw [if_pos hf] at hM
        have HM2 := Lib.hid hM
        clear hM hHM
        go_wp2_with fail
        refine (next_any bs L _ 4 _ hst3 (by omega) (by omega)).mono ?_
        have hn4 := nx_in L (st.t + 1) 4 (by omega)
        generalize hm4 : nx L (st.t + 1) 4 = m4 at *
        clear hm4
        rintro e w4 ⟨rfl, hst4, hg4⟩
        have H4 := H3.step hst4 hg4
        clear hg4 hst3 H H3
        have k4 := H4.box.three
        by_cases h0 : m4 = 0
        · subst h0
          have hM := HM2.out
          rw [if_pos rfl] at hM
          subst hM
          have z0 : ((0 : Int) == 0) = true := rfl
          clear HM2
          go_wp2_with fail
          refine (one_lit bs L _ [ByteArray.empty, sCc, sBar] w4 hst4 (by omega) (by decide) (by decide) 9).mono ?_
          rintro e w5 ⟨rfl, hst5, hg5⟩
          have H5 := H4.step hst5 hg5
          have k5 := H5.box.three
          have H6 := H5.setPr (pkS L (st.t + 1 + 1) [ByteArray.empty, sCc, sBar])
          have k6 := H6.box.three
          have r6 := H6.res.three
          obtain ⟨f1, f2, f3, f4⟩ := H6.fin
          obtain ⟨AV, cV, rfl, _, _, _, _⟩ := Rd.of_own H6.own
          go_wp2_with fail
          refine bodyPost_ret (results_cell_row rfl _ _ w.heap.size _ _ _ _ rfl f1 Tryd.underlying58 rfl (by kernel_rfl)) rfl ?_
          exact ⟨_, rfl, f2, f3, f4⟩
        · have hM0 := HM2.out
          rw [if_neg h0] at hM0
          have z0 : (m4 == 0) = false := by simpa using h0
          clear HM2
          by_cases h1 : m4 = 1
          · subst h1
            rw [if_pos rfl] at hM0
            subst hM0
            have z1 : ((1 : Int) == 1) = true := rfl
            clear h0
            go_wp2_with fail
            refine (pick_lit bs L _ [-1, 0, 1001] w4 hst4 (by omega) (by decide) (by decide) 3).mono ?_
            rintro e w5 ⟨rfl, hst5, hg5⟩
            have H5 := H4.step hst5 hg5
            have k5 := H5.box.three
            have H6 := H5.setMost (pk L (st.t + 1 + 1) [-1, 0, 1001])
            have k6 := H6.box.three
            have r6 := H6.res.three
            obtain ⟨f1, f2, f3, f4⟩ := H6.fin
            obtain ⟨AV, cV, rfl, _, _, _, _⟩ := Rd.of_own H6.own
            go_wp2_with fail
            refine bodyPost_ret (results_cell_row rfl _ _ w.heap.size _ _ _ _ rfl f1 Tryd.underlying58 rfl (by kernel_rfl)) rfl ?_
            exact ⟨_, rfl, f2, f3, f4⟩
          · rw [if_neg h1] at hM0
            have z1 : (m4 == 1) = false := by simpa using h1
            by_cases h2 : m4 = 2
            · rw [if_pos h2] at hM0
              have z2 : (m4 == 2) = true := by simp [h2]
              subst hM0
              clear h0 h1 h2
              obtain ⟨AV, cV, rfl, _, _, _, _⟩ := Rd.of_own H4.own
              have q0 : w4.cell? ⟨g, 2, none⟩ = some (.slice AV st.ps.length cV) := H4.box.cell 2
              have q1 : ∀ o, (w4.alloc o).cell? ⟨g, 2, none⟩ = some (.slice AV st.ps.length cV) := fun o => (H4.alloc o).box.cell 2
              have q2 : ∀ o o', ((w4.alloc o).alloc o').cell? ⟨g, 2, none⟩ = some (.slice AV st.ps.length cV) := fun o o' => ((H4.alloc o).alloc o').box.cell 2
              have hRS := fun (wz : World) => (show Rd (wz.alloc (.cells #[.string ByteArray.empty, .string st.last, .string ⟨#[122, 122]⟩] 9)) 1 (some ⟨wz.heap.size, 0, none⟩) 3 (strs [ByteArray.empty, st.last, sZz]) from
                ⟨by simp [strs], fun _ => ⟨wz.heap.size, 0, rfl, by simp, fun j u h => by rw [Nat.zero_add, World.cell?_alloc_new]; simpa [strs, sZz] using h⟩⟩)
              have hRI := fun (wz : World) => (show Rd (wz.alloc (.cells #[.int .i64 0, .int .i64 1, .int .i64 1001] 3)) 1 (some ⟨wz.heap.size, 0, none⟩) 3 (ints [0, 1, 1001]) from rd_new wz [0, 1, 1001] 3)
              have hS2 : Rd ((w4.alloc (.cells #[.int .i64 0, .int .i64 1, .int .i64 1001] 3)).alloc (.cells #[.string ByteArray.empty, .string st.last, .string ⟨#[122, 122]⟩] 9)) 1 (some ⟨w4.heap.size + 1, 0, none⟩) 3 (strs [ByteArray.empty, st.last, sZz]) := by
                have := hRS (w4.alloc (.cells #[.int .i64 0, .int .i64 1, .int .i64 1001] 3))
                rw [show (w4.alloc (.cells #[.int .i64 0, .int .i64 1, .int .i64 1001] 3)).heap.size = w4.heap.size + 1 from by simp] at this
                exact this
              have hI2 : Rd ((w4.alloc (.cells #[.string ByteArray.empty, .string st.last, .string ⟨#[122, 122]⟩] 9)).alloc (.cells #[.int .i64 0, .int .i64 1, .int .i64 1001] 3)) 1 (some ⟨w4.heap.size + 1, 0, none⟩) 3 (ints [0, 1, 1001]) := by
                have := hRI (w4.alloc (.cells #[.string ByteArray.empty, .string st.last, .string ⟨#[122, 122]⟩] 9))
                rw [show (w4.alloc (.cells #[.string ByteArray.empty, .string st.last, .string ⟨#[122, 122]⟩] 9)).heap.size = w4.heap.size + 1 from by simp] at this
                exact this
              have hP1 : ∀ B w1 (hs : StrQ Q w1 bs L (st.t + 1 + 1)) (hr : Rd w1 1 (some ⟨B, 0, none⟩) 3 (strs [ByteArray.empty, st.last, sZz])) (hne : B ≠ bs), Calls Tryd.prog 65 #[.pointer (some ⟨bs, 0, none⟩), .slice (some ⟨B, 0, none⟩) 3 3] w1 (fun e w' => e = .returned (.string (pkS L (st.t + 1 + 1) [ByteArray.empty, st.last, sZz])) ∧ StrQ Q w' bs L (st.t + 1 + 1 + 1) ∧ w1.grownBy w' (some bs)) :=
                fun B w1 hs hr hne => one_any bs L (st.t + 1 + 1) (some ⟨B, 0, none⟩) 3 [ByteArray.empty, st.last, sZz] w1 hs (by omega) (by simp) (by simp) hr (by intro a e; cases e; exact hne)
              have hP2 : ∀ B w1 (hs : StrQ Q w1 bs L (st.t + 1 + 1 + 1)) (hr : Rd w1 1 (some ⟨B, 0, none⟩) 3 (ints [0, 1, 1001])) (hne : B ≠ bs), Calls Tryd.prog 11 #[.pointer (some ⟨bs, 0, none⟩), .slice (some ⟨B, 0, none⟩) 3 3] w1 (fun e w' => e = .returned (.int .i64 (pk L (st.t + 1 + 1 + 1) [0, 1, 1001])) ∧ StrQ Q w' bs L (st.t + 1 + 1 + 1 + 1) ∧ w1.grownBy w' (some bs)) :=
                fun B w1 hs hr hne => pick_any bs L (st.t + 1 + 1 + 1) (some ⟨B, 0, none⟩) 3 [0, 1, 1001] w1 hs (by omega) (by simp) (by simp) hr (by intro a e; cases e; exact hne)
              have hlt4 : bs < w4.heap.size := H4.st.lt
              have hne4 : w4.heap.size ≠ bs ∧ w4.heap.size + 1 ≠ bs := by omega
              have hbn := fun n (h : n ≠ bs) => (show ∀ a : Addr, some (⟨n, 0, none⟩ : Addr) = some a → some a.block ≠ some bs from fun a e => by cases e; simpa using h)
              have HP := Lib.hid (And.intro hP1 (And.intro hP2 (And.intro hRS (And.intro hRI (And.intro hS2 (And.intro hI2 (And.intro hne4 hbn)))))))
              have HT4 := Lib.hid H4
              clear hP1 hP2 hRS hRI hS2 hI2 hne4 hbn hst4 H4 k4
              generalize hKe : pkS L (st.t + 1 + 1) [ByteArray.empty, st.last, sZz] = K at *
              generalize hne : pk L (st.t + 1 + 1 + 1) [0, 1, 1001] = n at *
              have HKN := Lib.hid (And.intro hKe hne)
              clear hKe hne
              go_wp2_with fail
              go_region_law (first
                | (refine st_pc w6 ⟨K, n⟩ rfl _ _ rfl w.heap.size _ st.ps rfl HT6.out.own rfl (by omega) HT6.out.gro.size ?_; intro g7 c7 w7 hown7 hg7; obtain ⟨hb7, H8⟩ := (HT6.out.alloc (.cells #[.string K, .int .i64 n] 54)).app hown7 hg7; have k7 := hb7.three; have r7 := H8.res.three)
                | (go_simp; go_at_call 11; refine (HP.out.2.1 _ _ (by first | exact HT5.out.st | exact (HT5.out.alloc _).st) (by first | exact HP.out.2.2.2.1 w5 | exact (Rd.dr HP.out.2.2.2.2.2.1).grown_ hg5 (HP.out.2.2.2.2.2.2.2 _ HP.out.2.2.2.2.2.2.1.2) | exact (Rd.dr (Rd.al (HP.out.2.2.2.1 w4) _)).grown_ hg5 (HP.out.2.2.2.2.2.2.2 _ HP.out.2.2.2.2.2.2.1.1)) (by first | exact HP.out.2.2.2.2.2.2.1.1 | exact HP.out.2.2.2.2.2.2.1.2 | (have := HT5.out.st.lt; omega))).mono ?_; rintro e w6 ⟨rfl, hs6, hg6⟩; dsimp only; have HT6 := Lib.hid (show CoSt Q w w6 bs g L ⟨#[99, 97, 110]⟩ mo st.ps (st.t + 1 + 1 + 1 + 1) (.slice AV st.ps.length cV) from by first | exact HT5.out.step hs6 hg6 | exact (HT5.out.alloc _).step hs6 hg6); have q6 : w6.cell? ⟨g, 2, none⟩ = some (.slice AV st.ps.length cV) := HT6.out.box.cell 2; have q7 : ∀ o, (w6.alloc o).cell? ⟨g, 2, none⟩ = some (.slice AV st.ps.length cV) := fun o => (HT6.out.alloc o).box.cell 2)
                | (go_simp; go_at_call 65; refine (HP.out.1 _ _ (by first | exact (HT4.out.alloc _).drew.st | exact ((HT4.out.alloc _).alloc _).drew.st) (by first | exact HP.out.2.2.1 w4 | exact HP.out.2.2.2.2.1 | exact Rd.al (HP.out.2.2.1 w4) _) (by first | exact HP.out.2.2.2.2.2.2.1.1 | exact HP.out.2.2.2.2.2.2.1.2)).mono ?_; rintro e w5 ⟨rfl, hs5, hg5⟩; dsimp only; have HT5 := Lib.hid (show CoSt Q w w5 bs g L ⟨#[99, 97, 110]⟩ mo st.ps (st.t + 1 + 1 + 1) (.slice AV st.ps.length cV) from by first | exact (HT4.out.alloc _).drew.step hs5 hg5 | exact ((HT4.out.alloc _).alloc _).drew.step hs5 hg5); have q4 : w5.cell? ⟨g, 2, none⟩ = some (.slice AV st.ps.length cV) := HT5.out.box.cell 2; have q5 : ∀ o, (w5.alloc o).cell? ⟨g, 2, none⟩ = some (.slice AV st.ps.length cV) := fun o => (HT5.out.alloc o).box.cell 2))
              all_goals (
                obtain ⟨f1, f2, f3, f4⟩ := H8.fin
                go_wp2_with fail
                refine bodyPost_ret (results_cell_row rfl _ _ w.heap.size _ _ _ _ rfl f1 Tryd.underlying58 rfl (by kernel_rfl)) rfl ?_
                obtain ⟨e1, e2⟩ := HKN.out
                subst e1 e2
                rw [List.length_append] at f2
                exact ⟨_, rfl, f2, f3, f4⟩)
            · rw [if_neg h2] at hM0
              have z2 : (m4 == 2) = false := by simpa using h2
              subst hM0
              clear h0 h1 h2
              obtain ⟨AV, cV, rfl, _, _, hrV, _⟩ := Rd.of_own H4.own
              have hcap : AV = none → cV = 0 := by
                intro ha
                rcases H4.own.2 with ⟨e, _⟩ | ⟨g', cap', cur', e, _⟩
                · injection e
                · injection e with e1 _ _; rw [ha] at e1; cases e1
              go_wp2_with (at_builtin; refine ap_pcs w4 st.ps AV st.ps.length cV rfl _ _ rfl w.heap.size _ st.ps rfl H4.own rfl hrV hcap (by omega) (by omega) H4.gro.size ?_; intro v5 w5 hown5 hg5; rw [List.length_append] at hown5; obtain ⟨A5, c5, rfl, _, _, _, _⟩ := Rd.of_own hown5; obtain ⟨hb5, H5⟩ := H4.app (ps' := st.ps ++ st.ps) (by rw [List.length_append]; exact hown5) hg5; have k5 := hb5.three; have r5 := H5.res.three; have q5 := H5.box.three)
              obtain ⟨f1, f2, f3, f4⟩ := H5.fin
              rw [List.length_append] at f2
              refine bodyPost_ret (results_cell_row rfl _ _ w.heap.size _ _ _ _ rfl f1 Tryd.underlying58 rfl (by kernel_rfl)) rfl ?_
              exact ⟨_, rfl, f2, f3, f4⟩
      · have hM := hHM.out
        rw [if_neg hf] at hM
        subst hM
        have hf' : (nx L st.t 15 == 0) = false := by simpa using hf
        clear hf hHM
        have k3 := H3.box.three
        have r3 := H3.res.three
        obtain ⟨f1, f2, f3, f4⟩ := H3.fin
        obtain ⟨AV, cV, rfl, _, _, _, _⟩ := Rd.of_own H3.own
        go_wp2_with fail
        refine bodyPost_ret (results_cell_row rfl _ _ w.heap.size _ _ _ _ rfl f1 Tryd.underlying58 rfl (by kernel_rfl)) rfl ?_
        exact ⟨_, rfl, f2, f3, f4⟩

end Go.Proofs.YtidfhgpjpieajaaDoor
