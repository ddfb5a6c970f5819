/- The walk of the stream's Versions. -/
import Derived.Test.YtcaeochiippdgaaDoorVer
import Derived.Test.YtcaeochiippdgaaDoorBlk
import Derived.Test.YtcaeochiippdgaaDoorWin
import Derived.Deep.RegionWith
import Derived.Deep.RegionLaw
import Derived.Deep.AppendLies
import Derived.Maps.AppendAt
namespace Go.Proofs.YtcaeochiippdgaaDoor
open Go.RowKit
variable {Q : Nat → Prop}

theorem own_ty {w : World} {b1 b2 e1 e2 s1 s2 n1 n2 : Nat} {v1 v2 : Value} {x1 x2 : List Value} (h1 : w.ownsRow b1 e1 s1 v1 n1 x1) (h2 : w.ownsRow b2 e2 s2 v2 n2 x2) (hne : e1 ≠ e2) :
    v1.ownBlock = none ∨ v1.ownBlock ≠ v2.ownBlock := by
  rcases h1.2 with ⟨rfl, _⟩ | ⟨g1, c1, u1, rfl, _, hg1, _⟩
  · exact .inl rfl
  · rcases h2.2 with ⟨rfl, _⟩ | ⟨g2, c2, u2, rfl, _, hg2, _⟩
    · exact .inr (by simp [Value.ownBlock])
    · refine .inr fun e => hne ?_
      have e' : g1 = g2 := by simpa [Value.ownBlock] using e
      subst e'
      rw [hg1] at hg2
      injection hg2 with h
      injection h
theorem own_box {w : World} {g : Nat} {t : TypeId} {cs : Array Value} {base : Nat} {e : TypeId} {size n : Nat} {v : Value} {xs : List Value} (h : w.ownsRow base e size v n xs) (hg : Blk w g t cs) (hne : e ≠ t) : some g ≠ v.ownBlock := by
  rcases h.2 with ⟨rfl, _⟩ | ⟨g', cap, cur, rfl, _, hh, _⟩
  · simp [Value.ownBlock]
  · intro he
    have : g' = g := by simpa [Value.ownBlock] using he.symm
    subst this
    unfold Blk at hg
    rw [hg] at hh
    cases hh
    exact hne rfl

def sA : ByteArray := ⟨#[97]⟩
def sBb : ByteArray := ⟨#[98]⟩
def sZb : ByteArray := ⟨#[90]⟩
/-- The strings of a layout. -/
def verKs (L : List Int) (t : Nat) : Nat → List ByteArray
  | 0 => []
  | i + 1 => verKs L t i ++ [pkS L (t + i) [ByteArray.empty, sA, sBb]]
theorem verKs_len (L : List Int) (t n : Nat) : (verKs L t n).length = n := by
  induction n with
  | zero => rfl
  | succ n ih => rw [verKs, List.length_append, ih]; rfl
/-- Versions under way. -/
structure VSs where
  t : Nat
  day : Int
  out : List Ver
def verStep (L : List Int) (n : Nat) (s : VSs) : VSs := ⟨s.t + n + 1, s.day + pk L (s.t + n) [1, 2, 5], s.out ++ [⟨s.day, verKs L s.t n⟩]⟩
def verRun (L : List Int) (n : Nat) : Nat → VSs → VSs
  | 0, s => s
  | k + 1, s => verStep L n (verRun L n k s)
def verMid (L : List Int) (t : Nat) : VSs := verRun L (nx L t 4).toNat (nx L (t + 1 + 1) 5).toNat ⟨t + 1 + 1 + 1, nx L (t + 1) 4, []⟩
/-- Versions, mostly right ones. -/
def versM (L : List Int) (t : Nat) : Nat × List Ver :=
  let s := verMid L t
  if nx L s.t 12 = 0 ∧ 0 < s.out.length then
    let i := (nx L (s.t + 1) s.out.length).toNat
    let v := s.out.getD i default
    let k := nx L (s.t + 1 + 1) 3
    if k = 0 then (s.t + 1 + 1 + 1 + 1, s.out.set i ⟨pk L (s.t + 1 + 1 + 1) [-1, 0, 4001], v.ks⟩)
    else if k = 1 then (s.t + 1 + 1 + 1, s.out.set i ⟨v.f, v.ks ++ [sA]⟩)
    else (s.t + 1 + 1 + 1 + 1, s.out.set i ⟨v.f, (v.ks ++ [pkS L (s.t + 1 + 1 + 1) [ByteArray.empty, sZb]]).drop (1 - min v.ks.length 1)⟩)
  else (s.t + 1, s.out)
theorem verRun_bound (L : List Int) (n k : Nat) (s : VSs) (h0 : 0 ≤ s.day) : ((verRun L n k s).t = s.t + k * (n + 1) ∧ (verRun L n k s).out.length = s.out.length + k) ∧ 0 ≤ (verRun L n k s).day ∧ (verRun L n k s).day ≤ s.day + 5 * k := by
  induction k with
  | zero => simp [verRun]; exact h0
  | succ k ih =>
    have hp := pk_mem L ((verRun L n k s).t + n) [1, 2, 5] (by simp)
    simp only [List.mem_cons, List.not_mem_nil, or_false] at hp
    rw [verRun]
    unfold verStep
    simp only [List.length_append, List.length_cons, List.length_nil]
    refine ⟨⟨?_, by omega⟩, by omega, by omega⟩
    rw [ih.1.1, Nat.succ_mul]; omega
theorem verRun_ks (L : List Int) (n k : Nat) (s : VSs) (h : ∀ v ∈ s.out, v.ks.length = n) : ∀ v ∈ (verRun L n k s).out, v.ks.length = n := by
  induction k with
  | zero => exact h
  | succ k ih =>
    rw [verRun]
    unfold verStep
    intro v hv
    rcases List.mem_append.1 hv with hv | hv
    · exact ih v hv
    · simp only [List.mem_cons, List.not_mem_nil, or_false] at hv
      subst hv
      exact verKs_len _ _ _

/-- The layouts lie one behind the other. -/
def Ords (l : List Vr) : Prop := ∀ (i j : Nat) (ri rj : Vr) (a b : Addr), i < j → l[i]? = some ri → l[j]? = some rj → ri.A = some a → rj.A = some b → a.block < b.block
theorem Ords.snoc {l : List Vr} {r : Vr} (h : Ords l) (hr : ∀ x ∈ l, ∀ a b, x.A = some a → r.A = some b → a.block < b.block) : Ords (l ++ [r]) := by
  intro i j ri rj a b hij hi hj ha hb
  have hjl := (List.getElem?_eq_some_iff.1 hj).1
  simp only [List.length_append, List.length_cons, List.length_nil] at hjl
  rw [List.getElem?_append_left (by omega)] at hi
  by_cases h2 : j < l.length
  · rw [List.getElem?_append_left h2] at hj
    exact h i j ri rj a b hij hi hj ha hb
  · obtain rfl : j = l.length := by omega
    rw [List.getElem?_append_right (Nat.le_refl _), Nat.sub_self] at hj
    simp only [List.getElem?_cons_zero] at hj
    injection hj with hj
    subst hj
    exact hr ri (List.mem_of_getElem? hi) a b ha hb

/-- The stream, the versions so far, the version under way: its box at g, its layout. -/
structure VSt (Q : Nat → Prop) (w0 w : World) (bs C g : Nat) (L : List Int) (t : Nat) (day : Int) (vl : Value) (ks : List ByteArray) (vo : Value) (l : List Vr) : Prop where
  box : Blk w g 43 #[.int .i64 day, vl]
  lay : w.ownsRow C 9 1 vl ks.length (strs ks)
  out : w.ownsRow w0.heap.size 43 2 vo l.length (vrFlat l)
  old : ∀ r ∈ l, w.ownsRow w0.heap.size 9 1 (.slice r.A r.n r.c) r.n (strs r.ks) ∧ ∀ a, r.A = some a → a.block < C
  st : StrQ Q w bs L t
  gro : w0.grownBy w (some bs)
  bsl : bs < w0.heap.size
  g0 : w0.heap.size ≤ g
  gC : g < C
  Cw : C ≤ w.heap.size
  gout : some g ≠ vo.ownBlock
  ord : Ords l
variable {w0 w wz : World} {bs C g t : Nat} {L : List Int} {day : Int} {vl vo : Value} {ks : List ByteArray} {l : List Vr}
theorem VSt.step {t' : Nat} (h : VSt Q w0 w bs C g L t day vl ks vo l) (hs : StrQ Q wz bs L t') (hg : w.grownBy wz (some bs)) : VSt Q w0 wz bs C g L t' day vl ks vo l := by
  have h1 := h.bsl; have h2 := h.g0; have h3 := h.gC
  exact ⟨h.box.grown hg (by simp; omega), h.lay.kept hg (own_ne h.lay (by omega)), h.out.kept hg (own_ne h.out h1), fun r hr => ⟨(h.old r hr).1.kept hg (own_ne (h.old r hr).1 h1), (h.old r hr).2⟩, hs, h.gro.trans hg, h1, h2, h3, Nat.le_trans h.Cw hg.size, h.gout, h.ord⟩
theorem VSt.alloc (h : VSt Q w0 w bs C g L t day vl ks vo l) (o : Obj) : VSt Q w0 (w.alloc o) bs C g L t day vl ks vo l :=
  ⟨h.box.alloc o, h.lay.alloc o, h.out.alloc o, fun r hr => ⟨(h.old r hr).1.alloc o, (h.old r hr).2⟩, h.st.grown (grown_alloc (grown_refl w) o) (by simp), grown_alloc h.gro o, h.bsl, h.g0, h.gC, by have := h.Cw; simp; omega, h.gout, h.ord⟩
theorem VSt.drew (h : VSt Q w0 w bs C g L t day vl ks vo l) : VSt Q w0 w.drew bs C g L t day vl ks vo l :=
  ⟨h.box, h.lay, h.out, h.old, h.st, grown_drew h.gro, h.bsl, h.g0, h.gC, h.Cw, h.gout, h.ord⟩
/-- Behind an append of strings to the layout, stored into the version. -/
theorem VSt.app {ks' : List ByteArray} {vl' : Value} (h : VSt Q w0 w bs C g L t day vl ks vo l) (hown : wz.ownsRow C 9 1 vl' ks'.length (strs ks')) (hg : w.grownBy wz vl.ownBlock) :
    Blk wz g 43 #[.int .i64 day, vl] ∧ VSt Q w0 (wz.setCell ⟨g, 1, none⟩ vl') bs C g L t day vl' ks' vo l := by
  have hb := h.box.grown hg (own_box h.lay h.box (by decide))
  have h1 := h.bsl; have h2 := h.g0; have h3 := h.gC
  have hst : StrQ Q wz bs L t := h.st.grown hg (fun j hj => by have := (h.lay.lt j hj).1; omega)
  have hgw : w0.grownBy wz (some bs) := grown_below h.gro hg (fun j hj => .inl (by have := (h.lay.lt j hj).1; omega))
  have hout := h.out.kept hg (own_ty h.out h.lay (by decide))
  have hold : ∀ r ∈ l, wz.ownsRow w0.heap.size 9 1 (.slice r.A r.n r.c) r.n (strs r.ks) := fun r hr => by
    obtain ⟨o1, o2⟩ := h.old r hr
    refine o1.kept hg ?_
    rcases o1.2 with ⟨e, _⟩ | ⟨g', cap, cur, e, _⟩
    · rw [e]; exact .inl rfl
    · refine .inr fun e2 => ?_
      rw [e] at e2
      have hlt := (h.lay.lt g' (by rw [← e2]; simp [Value.ownBlock])).1
      injection e with e _ _
      have := o2 _ e
      simp only at this
      omega
  have hgs := grown_set (World.grownBy.refl wz (some g)) (p := ⟨g, 1, none⟩) (.inr rfl) vl'
  refine ⟨hb, (hb.set_ 1 vl').eq rfl, hown.kept hgs (.inr (fun e => own_box hown hb (by decide) e.symm)), hout.kept hgs (.inr (fun e => h.gout e.symm)), fun r hr => ⟨(hold r hr).kept hgs (.inr (fun e => own_box (hold r hr) hb (by decide) e.symm)), (h.old r hr).2⟩, hst.far g (by omega) 1 vl', grown_set hgw (.inl (by simp; omega)) _, h1, h2, h3, by have := h.Cw; have := hg.size; simp; omega, h.gout, h.ord⟩

/-- Between two rounds. -/
structure OSt (Q : Nat → Prop) (w0 w : World) (bs : Nat) (L : List Int) (t : Nat) (vo : Value) (l : List Vr) : Prop where
  out : w.ownsRow w0.heap.size 43 2 vo l.length (vrFlat l)
  old : ∀ r ∈ l, w.ownsRow w0.heap.size 9 1 (.slice r.A r.n r.c) r.n (strs r.ks)
  st : StrQ Q w bs L t
  gro : w0.grownBy w (some bs)
  bsl : bs < w0.heap.size
  ord : Ords l
theorem OSt.step {t' : Nat} (h : OSt Q w0 w bs L t vo l) (hs : StrQ Q wz bs L t') (hg : w.grownBy wz (some bs)) : OSt Q w0 wz bs L t' vo l :=
  ⟨h.out.kept hg (own_ne h.out h.bsl), fun r hr => (h.old r hr).kept hg (own_ne (h.old r hr) h.bsl), hs, h.gro.trans hg, h.bsl, h.ord⟩
/-- A new version. -/
theorem OSt.begin_ (h : OSt Q w0 w bs L t vo l) (day : Int) : VSt Q w0 (w.alloc (.cells #[.int .i64 day, .slice none 0 0] 43)) bs (w.heap.size + 1) w.heap.size L t day (.slice none 0 0) [] vo l := by
  have hold : ∀ r ∈ l, ∀ a, r.A = some a → a.block < w.heap.size + 1 := by
    intro r hr a ha
    obtain ⟨b, o, i⟩ := a
    rcases (h.old r hr).2 with ⟨e, _⟩ | ⟨g', cap, cur, e, _, hh, _⟩
    · injection e with e _ _; rw [ha] at e; cases e
    · injection e with e _ _
      rw [ha] at e
      injection e with e
      injection e with e1 _ _
      have := (Array.getElem?_eq_some_iff.1 hh).1
      simp only
      omega
  have hgo : some w.heap.size ≠ vo.ownBlock := fun e => by
    have := (h.out.lt w.heap.size e.symm).2
    omega
  have hgr := grown_alloc (grown_refl w) (.cells #[.int .i64 day, .slice none 0 0] 43)
  exact { box := Blk.new w _ _, lay := World.ownsRow_nil _ _ _ _, out := h.out.alloc _, old := fun r hr => ⟨(h.old r hr).alloc _, hold r hr⟩, st := h.st.grown hgr (by simp), gro := grown_alloc h.gro _, bsl := h.bsl, g0 := h.gro.size, gC := by omega, Cw := by simp, gout := hgo, ord := h.ord }
theorem VSt.end_ {vo' : Value} {o : Obj} {A : Option Addr} {n c : Nat} (h : VSt Q w0 w bs C g L t day (.slice A n c) ks vo l) (hn : ks.length = n) (hown : wz.ownsRow w0.heap.size 43 2 vo' (l ++ [(⟨day, A, n, c, ks⟩ : Vr)]).length (vrFlat (l ++ [(⟨day, A, n, c, ks⟩ : Vr)]))) (hg : (w.alloc o).grownBy wz vo.ownBlock) :
    OSt Q w0 wz bs L t vo' (l ++ [(⟨day, A, n, c, ks⟩ : Vr)]) := by
  have hA := h.alloc o
  have hlay := own_mono h.lay (base' := w0.heap.size) (by have := h.g0; have := h.gC; omega)
  refine ⟨hown, fun r hr => ?_, hA.st.grown hg (fun j hj => by have := (hA.out.lt j hj).1; have := h.bsl; omega), grown_below (grown_alloc h.gro o) hg (fun j hj => .inl (hA.out.lt j hj).1), h.bsl, h.ord.snoc (fun x hx a b ha hb => ?_)⟩
  rotate_left
  · have h1 := (h.old x hx).2 a ha
    have hb' : A = some b := hb
    obtain ⟨A', c', e, _, _, _, hbb⟩ := Rd.of_own h.lay
    injection e with e _ _
    have := hbb b (by rw [← e]; exact hb')
    omega
  rcases List.mem_append.1 hr with hr | hr
  · exact (hA.old r hr).1.kept hg (own_ty (hA.old r hr).1 hA.out (by decide))
  · simp only [List.mem_cons, List.not_mem_nil, or_false] at hr
    subst hr
    have := hlay.alloc o
    rw [hn] at this
    exact this.kept hg (own_ty this hA.out (by decide))

/-- append(out, s) within a region that draws its order. -/
theorem st_s1 {ops : Array Oper} {o : Oper} {a : Act} {K : Act → World → Prop} {Q : Exit → Act → World → Prop} {E : Prop} (w : World) (N : Nat) (hN : w.heap.size = N) (y : ByteArray) (hgd : o.guard = none) (s x : Operand)
    (ho : o.op = .call { callee := .builtin .append, args := #[s, x], argTypes := #[34, 34] }) (base : Nat) (v : Value) (l : List ByteArray)
    (hs : a.eval s = v) (hown : w.ownsRow base 9 1 v l.length (strs l)) (hx : a.eval x = .slice (some ⟨N, 0, none⟩) 1 1) (hlen : l.length ≤ 1000000000) (hbase : base ≤ w.heap.size)
    (h : ∀ g cap w', w'.ownsRow base 9 1 (.slice (some ⟨g, 0, none⟩) (l.length + 1) cap) (l ++ [y]).length (strs (l ++ [y])) → (w.alloc (.cells #[.string y] 9)).grownBy w' v.ownBlock → K (a.put o.dst (.slice (some ⟨g, 0, none⟩) (l.length + 1) cap)) w') :
    if Region.wanted o (yielded ops a.tmps) = true then Oper.wp Tryd.prog o a (w.alloc (.cells #[.string y] 9)) K Q else E := by
  subst hN
  obtain ⟨i0, hi, hz0, hz1, hz2⟩ := info_parts Tryd.infoStr
  refine step_append_lies _ hgd s x 34 ho base 9 i0 (.string ByteArray.empty) 1 16 Tryd.underlying34 hi hz0 hz1 hz2 rfl (by decide) v l.length (strs l) hs (hown.alloc _) ⟨w.heap.size, 0, none⟩ 1 1 (strs [y]) hx rfl
    (cells_new w #[.string y] _) (str_one [y]) (by omega) (by unfold maxLen; omega) (by omega) (by simp; omega) _ rfl ?_
  intro g cap w' h1 h2 _ _
  exact h g cap w' (by simpa [strs] using h1) h2

/-! ### The end -/
theorem vrFlat_f : ∀ (l : List Vr) (j : Nat) (f : Int), j < l.length → (vrFlat l).set (j * 2) (.int .i64 f) = vrFlat (l.set j { (l.getD j default) with f := f })
  | [], j, f, h => by simp at h
  | a :: l, 0, f, _ => by simp [vrFlat, vrCells]
  | a :: l, j + 1, f, h => by
    have ih := vrFlat_f l j f (by simpa using h)
    rw [show (j + 1) * 2 = (j * 2) + 2 from by omega, show vrFlat (a :: l) = vrCells a ++ vrFlat l from rfl, List.set_append_right _ _ (by rw [vrCells_len]; omega), vrCells_len, Nat.add_sub_cancel, ih]
    rfl
theorem vrFlat_s : ∀ (l : List Vr) (j : Nat) (A : Option Addr) (n c : Nat) (ks : List ByteArray), j < l.length → (vrFlat l).set (j * 2 + 1) (.slice A n c) = vrFlat (l.set j ⟨(l.getD j default).f, A, n, c, ks⟩)
  | [], j, _, _, _, _, h => by simp at h
  | a :: l, 0, _, _, _, _, _ => by simp [vrFlat, vrCells]
  | a :: l, j + 1, A, n, c, ks, h => by
    have ih := vrFlat_s l j A n c ks (by simpa using h)
    rw [show (j + 1) * 2 + 1 = (j * 2 + 1) + 2 from by omega, show vrFlat (a :: l) = vrCells a ++ vrFlat l from rfl, List.set_append_right _ _ (by rw [vrCells_len]; omega), vrCells_len, Nat.add_sub_cancel, ih]
    rfl
/-- A version that can be read, whose layout lies not in block b. -/
def VrIn (w : World) (B b : Nat) (r : Vr) : Prop := VrOk w B r ∧ ∀ a, r.A = some a → a.block ≠ b
theorem VrIn.of {w : World} {B b e2 s2 n2 b2 : Nat} {v2 : Value} {x2 : List Value} {r : Vr} (h : w.ownsRow B 9 1 (.slice r.A r.n r.c) r.n (strs r.ks)) (h2 : w.ownsRow b2 e2 s2 v2 n2 x2) (hb : v2.ownBlock = some b) (hne : 9 ≠ e2) : VrIn w B b r := by
  obtain ⟨A, c, e, h3, h4, h5, h6⟩ := Rd.of_own h
  injection e with e1 _ e3
  refine ⟨⟨by rw [e1]; exact h5, by rw [e3]; exact h3, by rw [e3]; exact h4, fun a ha => h6 a (by rw [← e1]; exact ha)⟩, fun a ha => ?_⟩
  rcases own_ty h h2 hne with h7 | h7
  · rw [ha] at h7; simp [Value.ownBlock] at h7
  · rw [ha, hb] at h7; simpa [Value.ownBlock] using h7
theorem VrIn.set {w : World} {B b i : Nat} {u : Value} {r : Vr} (h : VrIn w B b r) : VrOk (w.setCell ⟨b, i, none⟩ u) B r :=
  ⟨h.1.1.grown_ (grown_set (World.grownBy.refl w (some b)) (p := ⟨b, i, none⟩) (.inr rfl) u) (fun a ha e => h.2 a ha (by injection e)), h.1.2⟩
theorem RdV.of {w : World} {B : Nat} {A : Option Addr} {n c : Nat} {l : List Vr} (h : w.ownsRow B 43 2 (.slice A n c) n (vrFlat l)) (hl : l.length = n) (hk : ∀ r ∈ l, VrOk w B r) : RdV w B A (l.map verK) := by
  obtain ⟨A', c', e, _, _, h1, h2⟩ := Rd.of_own h
  injection e with e _ _
  subst e
  refine ⟨h2, l, rfl, by rw [List.length_map, hl]; exact h1, hk⟩
theorem OSt.rd (h : OSt Q w0 w bs L t vo l) : ∃ A c, vo = .slice A l.length c ∧ RdV w w0.heap.size A (l.map verK) := by
  obtain ⟨A, c, rfl, _, _, h1, h2⟩ := Rd.of_own h.out
  refine ⟨A, c, rfl, h2, l, rfl, by rw [List.length_map]; exact h1, fun r hr => ?_⟩
  obtain ⟨A', c', e, h3, h4, h5, h6⟩ := Rd.of_own (h.old r hr)
  injection e with e1 _ e3
  exact ⟨by rw [e1]; exact h5, by rw [e3]; exact h3, by rw [e3]; exact h4, fun a ha => h6 a (by rw [← e1]; exact ha)⟩

theorem OSt.other (h : OSt Q w0 w bs L t vo l) {i j : Nat} {x r : Vr} (hij : j ≠ i) (hx : l[j]? = some x) (hr : l[i]? = some r) :
    (Value.slice x.A x.n x.c).ownBlock = none ∨ (Value.slice x.A x.n x.c).ownBlock ≠ (Value.slice r.A r.n r.c).ownBlock := by
  cases hxA : x.A with
  | none => exact .inl (by simp [Value.ownBlock])
  | some a =>
    refine .inr fun e => ?_
    cases hrA : r.A with
    | none => rw [hrA] at e; simp [Value.ownBlock] at e
    | some b =>
      rw [hrA] at e
      have e' : a.block = b.block := by simpa [Value.ownBlock] using e
      rcases Nat.lt_or_gt_of_ne hij with h1 | h1
      · have := h.ord j i x r a b h1 hx hr hxA hrA; omega
      · have := h.ord i j r x b a h1 hr hx hrA hxA; omega

theorem OSt.quiet (h : OSt Q w0 w bs L t vo l) (hg : w.grownBy wz none) : OSt Q w0 wz bs L t vo l := h.step (h.st.grown hg (fun j e => by cases e)) (hg.but _)
theorem OSt.alloc (h : OSt Q w0 w bs L t vo l) (o : Obj) : OSt Q w0 (w.alloc o) bs L t vo l := h.quiet (grown_alloc (grown_refl w) o)
theorem OSt.drew (h : OSt Q w0 w bs L t vo l) : OSt Q w0 w.drew bs L t vo l := h.quiet (grown_drew (grown_refl w))
/-- append(out, s) within a region that draws its order; the number of elements under another name. -/
theorem st_s1n {ops : Array Oper} {o : Oper} {a : Act} {K : Act → World → Prop} {Q : Exit → Act → World → Prop} {E : Prop} (w : World) (N : Nat) (hN : w.heap.size = N) (y : ByteArray) (hgd : o.guard = none) (s x : Operand)
    (ho : o.op = .call { callee := .builtin .append, args := #[s, x], argTypes := #[34, 34] }) (base : Nat) (v : Value) (l : List ByteArray) (n : Nat) (hn : l.length = n)
    (hs : a.eval s = v) (hown : w.ownsRow base 9 1 v n (strs l)) (hx : a.eval x = .slice (some ⟨N, 0, none⟩) 1 1) (hlen : n ≤ 1000000000) (hbase : base ≤ w.heap.size)
    (h : ∀ g cap w', w'.ownsRow base 9 1 (.slice (some ⟨g, 0, none⟩) (n + 1) cap) (n + 1) (strs (l ++ [y])) → (w.alloc (.cells #[.string y] 9)).grownBy w' v.ownBlock → K (a.put o.dst (.slice (some ⟨g, 0, none⟩) (n + 1) cap)) w') :
    if Region.wanted o (yielded ops a.tmps) = true then Oper.wp Tryd.prog o a (w.alloc (.cells #[.string y] 9)) K Q else E := by
  subst hn
  exact st_s1 w N hN y hgd s x ho base v l hs hown hx hlen hbase (fun g cap w' h1 h2 => h g cap w' (by simpa using h1) h2)

theorem st_slice {P : Program} {ops : Array Oper} {o : Oper} {a : Act} {K : Act → World → Prop} {Q : Exit → Act → World → Prop} {E : Prop} (w : World) (hgd : o.guard = none) (T : TypeId) (s x : Operand) (ho : o.op = .slice T s (some x) none none) (v u : Value) (q : Int)
    (hs : a.eval s = v) (hx : a.eval x = .int .i64 q) (hu : P.underlying T = some (.slice (P.elem T))) (hrun : (Instr.slice T v (some (.int .i64 q)) none none).run P w = .ok u w) (h : K (a.put o.dst u) w) :
    if Region.wanted o (yielded ops a.tmps) = true then Oper.wp P o a w K Q else E := by
  have hw : Region.wanted o (yielded ops a.tmps) = true := by simp [Region.wanted, hgd]
  rw [if_pos hw]
  have e : (execOp a.eval o).run P w = .ok (.value u) w := by
    have hsl : (Instr.sliceAt T v (some (.int .i64 q)) none none).run P w = .ok u w := by
      rw [run_sliceAt_slice (h := hu)]; exact hrun
    unfold execOp
    rw [ho]
    simp only [Option.map_some, Option.map_none, hs, hx]
    simp [go_sem, hsl]
  unfold Oper.wp
  rw [e]
  exact h

/-- A version's layout is another one, made of a copy: what lies behind the store. -/
theorem OSt.fin2 {w5 w7 : World} {B6 gO cO i g7 c7 n5 c5 n2 c2 : Nat} {AC A2 : Option Addr} {K : ByteArray} {rks ks2 : List ByteArray} {r : Vr} {V : List Ver}
    (h : OSt Q w0 w5 bs L t (.slice (some ⟨gO, 0, none⟩) l.length cO) l) (hV : l.map verK = V) (hi : l[i]? = some r) (hb : w0.heap.size ≤ B6) (hold : ∀ x ∈ l, ∀ a, x.A = some a → a.block < B6)
    (hown5 : w5.ownsRow B6 9 1 (.slice AC n5 c5) n5 (strs rks)) (hown7 : w7.ownsRow B6 9 1 (.slice (some ⟨g7, 0, none⟩) (n5 + 1) c7) (n5 + 1) (strs (rks ++ [K])))
    (hg7 : (w5.alloc (.cells #[.string K] 9)).grownBy w7 (Value.slice AC n5 c5).ownBlock)
    (h2 : Rd w7 1 A2 n2 (strs ks2)) (hc2 : n2 ≤ c2 ∧ c2 ≤ maxLen) (hA2 : ∀ a, A2 = some a → a.block = g7) :
    RdV (w7.setCell ⟨gO, i * 2 + 1, none⟩ (.slice A2 n2 c2)) w0.heap.size (some ⟨gO, 0, none⟩) (V.set i ⟨r.f, ks2⟩) ∧ StrQ Q (w7.setCell ⟨gO, i * 2 + 1, none⟩ (.slice A2 n2 c2)) bs L t ∧ w0.grownBy (w7.setCell ⟨gO, i * 2 + 1, none⟩ (.slice A2 n2 c2)) (some bs) := by
  have hne : 43 ≠ 9 := by decide
  have hil : i < l.length := (List.getElem?_eq_some_iff.1 hi).1
  have hoA := h.out.alloc (.cells #[.string K] 9)
  have h5A := hown5.alloc (.cells #[.string K] 9)
  have hout7 := hoA.kept hg7 (own_ty hoA h5A hne)
  have hgd : l.getD i default = r := by simp [List.getD, hi]
  obtain ⟨ho, hgs⟩ := hout7.stored (i * 2 + 1) (.slice A2 n2 c2)
  rw [vrFlat_s l i A2 n2 c2 ks2 hil, hgd] at ho
  have hg7B : B6 ≤ g7 := (hown7.lt g7 rfl).1
  have hgO := (h.out.lt gO rfl).1
  have hneg : g7 ≠ gO := by
    have := own_ty hown7 hout7 (Ne.symm hne)
    rcases this with e | e
    · simp [Value.ownBlock] at e
    · intro e2; rw [e2] at e; exact e rfl
  have hbs := h.bsl
  have hall : ∀ x ∈ l.set i ⟨r.f, A2, n2, c2, ks2⟩, VrOk (w7.setCell ⟨gO, i * 2 + 1, none⟩ (.slice A2 n2 c2)) w0.heap.size x := fun x hx => by
    rcases List.mem_or_eq_of_mem_set hx with hx | rfl
    · have hox := (h.old x hx).alloc (.cells #[.string K] 9)
      have hox7 := hox.kept hg7 (by
        cases hxA : x.A with
        | none => exact .inl (by simp [Value.ownBlock])
        | some a =>
          refine .inr fun e => ?_
          have h3 := hold x hx a hxA
          have e' : (Value.slice AC n5 c5).ownBlock = some a.block := by rw [← e]; simp [Value.ownBlock]
          have := (hown5.lt a.block e').1
          omega)
      exact (VrIn.of hox7 hout7 rfl (Ne.symm hne)).set
    · exact VrIn.set (r := ⟨r.f, A2, n2, c2, ks2⟩) ⟨⟨h2, hc2.1, hc2.2, fun a ha => by have := hA2 a ha; omega⟩, fun a ha => by have := hA2 a ha; omega⟩
  have hrd := RdV.of ho (by rw [List.length_set]) hall
  rw [List.map_set, hV] at hrd
  have hs7 : StrQ Q w7 bs L t := (h.st.grown (grown_alloc (grown_refl w5) _) (by simp)).grown hg7 (fun j hj => by have := (hown5.lt j hj).1; omega)
  have hg77 : w0.grownBy w7 (some bs) := grown_below (grown_alloc h.gro _) hg7 (fun j hj => .inl (by have := (hown5.lt j hj).1; omega))
  exact ⟨hrd, hs7.far gO (by omega) _ _, grown_below hg77 hgs (fun j hj => by injection hj with hj; exact .inl (by omega))⟩

theorem OSt.oldlt (h : OSt Q w0 w bs L t vo l) : ∀ r ∈ l, ∀ a, r.A = some a → a.block < w.heap.size := by
  intro r hr a ha
  obtain ⟨b, o, i⟩ := a
  rcases (h.old r hr).2 with ⟨e, _⟩ | ⟨g', cap, cur, e, _, hh, _⟩
  · injection e with e _ _; rw [ha] at e; cases e
  · injection e with e _ _
    rw [ha] at e
    injection e with e
    injection e with e1 _ _
    have := (Array.getElem?_eq_some_iff.1 hh).1
    simp only
    omega

theorem Rd.dr {w : World} {k n : Nat} {A : Option Addr} {xs : List Value} (h : Rd w k A n xs) : Rd w.drew k A n xs := h
theorem Rd.al {w : World} {k n : Nat} {A : Option Addr} {xs : List Value} (h : Rd w k A n xs) (o : Obj) : Rd (w.alloc o) k A n xs := h.grown (grown_alloc (grown_refl w) o)

/-- The versions so far, in memory. -/
def OVs (Q : Nat → Prop) (w0 w : World) (bs : Nat) (L : List Int) (t : Nat) (vo : Value) (V : List Ver) : Prop := ∃ l : List Vr, l.map verK = V ∧ OSt Q w0 w bs L t vo l

theorem sizeStrV (w : World) : (sizeOf (Tryd.prog.elem 34)).run Tryd.prog w = .ok 1 w := by kernel_rfl
theorem undStrV : Tryd.prog.underlying 34 = some (.slice (Tryd.prog.elem 34)) := by kernel_rfl
theorem strs_drop1 (l : List ByteArray) (q : Nat) : (strs l).drop (q * 1) = strs (l.drop q) := by simp [strs, List.map_drop]

theorem Rd.of_own' {w : World} {base size n c : Nat} {A : Option Addr} {e : TypeId} {xs : List Value} (h : w.ownsRow base e size (.slice A n c) n xs) : Rd w size A n xs ∧ n ≤ c := by
  obtain ⟨A', c', he, h1, _, h2, _⟩ := Rd.of_own h
  injection he with e1 _ e3
  subst e1 e3
  exact ⟨h2, h1⟩

/-- What Versions leaves. -/
def VerPost (Q : Nat → Prop) (w : World) (bs : Nat) (L : List Int) (M : Nat × List Ver) (e : Ending) (w' : World) : Prop :=
  ∃ A c, e = .returned (.slice A M.2.length c) ∧ RdV w' w.heap.size A M.2 ∧ StrQ Q w' bs L M.1 ∧ w.grownBy w' (some bs)


end Go.Proofs.YtcaeochiippdgaaDoor
