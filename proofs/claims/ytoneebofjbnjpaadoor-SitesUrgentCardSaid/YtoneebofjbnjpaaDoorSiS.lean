/- The stream's sites: as lists; the memory while they are made. -/
import Derived.Test.YtoneebofjbnjpaaDoorSit
import Derived.Test.YtoneebofjbnjpaaDoorRange
import Derived.Test.YtoneebofjbnjpaaDoorOne
import Derived.Test.YtoneebofjbnjpaaDoorBlk
import Derived.Test.YtoneebofjbnjpaaDoorInv
namespace Go.Proofs.YtoneebofjbnjpaaDoor
open Go.RowKit
variable {Q : Nat → Prop}

def kys : List ByteArray := [⟨#[109, 97]⟩, ⟨#[109, 98]⟩, ⟨#[109, 99]⟩, ⟨#[109, 100]⟩]
def slotRun (L : List Int) (t : Nat) : Nat → Nat × List Int × List Int
  | 0 => (t, [], [])
  | j + 1 => ((slotRun L t j).1 + 2, (slotRun L t j).2.1 ++ [pk L (slotRun L t j).1 [0, 1, 3, 10]], (slotRun L t j).2.2 ++ [pk L ((slotRun L t j).1 + 1) [0, 10, 40, 100, 1000]])
theorem slotRun_t (L : List Int) (t : Nat) : ∀ j, (slotRun L t j).1 = t + 2 * j ∧ (slotRun L t j).2.1.length = j ∧ (slotRun L t j).2.2.length = j
  | 0 => by simp [slotRun]
  | j + 1 => by
    have := slotRun_t L t j
    rw [slotRun]
    simp
    omega
def sitStep (L : List Int) (k : ByteArray) (s : Nat × List Sit) : Nat × List Sit :=
  if nx L s.1 4 = 0 then (s.1 + 1, s.2) else ((slotRun L (s.1 + 2) (1 + nx L (s.1 + 1) 3).toNat).1, s.2 ++ [⟨k, (slotRun L (s.1 + 2) (1 + nx L (s.1 + 1) 3).toNat).2.1, (slotRun L (s.1 + 2) (1 + nx L (s.1 + 1) 3).toNat).2.2⟩])
def sitRun (L : List Int) (t : Nat) : Nat → Nat × List Sit
  | 0 => (t, [])
  | j + 1 => sitStep L (kys.getD j ByteArray.empty) (sitRun L t j)
theorem sitRun_b (L : List Int) (t : Nat) : ∀ j, (sitRun L t j).1 ≤ t + 8 * j ∧ (sitRun L t j).2.length ≤ j
  | 0 => by simp [sitRun]
  | j + 1 => by
    have ih := sitRun_b L t j
    rw [sitRun]
    unfold sitStep
    have hb := nx_in L ((sitRun L t j).1 + 1) 3 (by omega)
    have hs := slotRun_t L ((sitRun L t j).1 + 2) (1 + nx L ((sitRun L t j).1 + 1) 3).toNat
    split
    · simp; omega
    · simp; omega
def wKs : List ByteArray := [ByteArray.empty, ⟨#[109, 97]⟩, ⟨#[122, 122]⟩]
def wHs : List (List Int) := [[], [5], [-1], [10001]]
def wRs : List (List Int) := [[], [5], [1000001]]
def sitesM (L : List Int) (t : Nat) : Nat × List Sit :=
  if (nx L (sitRun L t 4).1 15 == 0) = true then ((sitRun L t 4).1 + 4, (sitRun L t 4).2 ++ [⟨pkS L ((sitRun L t 4).1 + 1) wKs, wHs.getD (nx L ((sitRun L t 4).1 + 2) 4).toNat [], wRs.getD (nx L ((sitRun L t 4).1 + 3) 3).toNat []⟩])
  else ((sitRun L t 4).1 + 1, (sitRun L t 4).2)
theorem sitesM_b (L : List Int) (t : Nat) : (sitesM L t).1 ≤ t + 40 ∧ (sitesM L t).2.length ≤ 5 := by
  have := sitRun_b L t 4
  unfold sitesM
  split
  · simp; omega
  · simp; omega

def inSr (r : Sr) (a : Addr) : Prop := r.A = some a ∨ r.A2 = some a
/-- While the sites are made: the stream, the row of those that are made. -/
structure OutS (Q : Nat → Prop) (w0 w : World) (bs : Nat) (L : List Int) (t : Nat) (vo : Value) (l : List Sr) : Prop where
  st : StrQ Q w bs L t
  own : w.ownsRow w0.heap.size 75 3 vo l.length (srFlat l)
  rows : ∀ r ∈ l, SrOk w w0.heap.size r ∧ ∀ a, inSr r a → a.block < w.heap.size ∧ vo.ownBlock ≠ some a.block
  gro : w0.grownBy w (some bs)
  lt : bs < w0.heap.size
theorem SrOk.grownB {w w' : World} {B : Nat} {row : Option Nat} {x : Sr} (h : SrOk w B x) (hg : w.grownBy w' row) (hr : ∀ a, inSr x a → some a.block ≠ row) : SrOk w' B x :=
  ⟨⟨h.1.1.grown_ hg (fun a ha => hr a (.inl ha)), h.1.2⟩, h.2.1.grown_ hg (fun a ha => hr a (.inr ha)), h.2.2⟩
/-- Something else changes. -/
theorem OutS.other {w0 w w' : World} {bs t : Nat} {L : List Int} {vo : Value} {l : List Sr} {row : Option Nat} (h : OutS Q w0 w bs L t vo l) (hg : w.grownBy w' row) (h1 : ∀ j, row = some j → bs < j ∧ w0.heap.size ≤ j) (h2 : ∀ j, row = some j → vo.ownBlock ≠ some j)
    (h3 : ∀ j, row = some j → ∀ r ∈ l, ∀ a, inSr r a → a.block ≠ j) : OutS Q w0 w' bs L t vo l where
  st := h.st.grown hg (fun j hj => (h1 j hj).1)
  own := h.own.kept hg (by
    cases hv : vo.ownBlock with
    | none => exact .inl rfl
    | some g => exact .inr (fun e => h2 g e.symm hv))
  rows := fun r hr => ⟨(h.rows r hr).1.grownB hg (fun a ha e => h3 a.block e.symm r hr a ha rfl), fun a ha => ⟨Nat.lt_of_lt_of_le ((h.rows r hr).2 a ha).1 hg.size, ((h.rows r hr).2 a ha).2⟩⟩
  gro := grown_below h.gro hg (fun j hj => .inl (h1 j hj).2)
  lt := h.lt
theorem OutS.quiet {w0 w w' : World} {bs t : Nat} {L : List Int} {vo : Value} {l : List Sr} (h : OutS Q w0 w bs L t vo l) (hg : w.grownBy w' none) : OutS Q w0 w' bs L t vo l :=
  h.other hg (by simp) (by simp) (by simp)
theorem OutS.call {w0 w w' : World} {bs t t' : Nat} {L : List Int} {vo : Value} {l : List Sr} (h : OutS Q w0 w bs L t vo l) (hs : StrQ Q w' bs L t') (hg : w.grownBy w' (some bs)) : OutS Q w0 w' bs L t' vo l where
  st := hs
  own := h.own.kept hg (own_ne h.own h.lt)
  rows := fun r hr => ⟨(h.rows r hr).1.grownB hg (fun a ha e => by
      injection e with e
      have := h.lt
      rcases ha with ha | ha
      · have := (h.rows r hr).1.1.2 a ha; omega
      · have := (h.rows r hr).1.2.2 a ha; omega), fun a ha => ⟨Nat.lt_of_lt_of_le ((h.rows r hr).2 a ha).1 hg.size, ((h.rows r hr).2 a ha).2⟩⟩
  gro := h.gro.trans hg
  lt := h.lt
/-- A site is appended. -/
theorem OutS.app {w0 w w' : World} {bs t g c : Nat} {L : List Int} {vo : Value} {l : List Sr} {r : Sr} (h : OutS Q w0 w bs L t vo l) (hr : SrOk w w0.heap.size r) (hr2 : ∀ a, inSr r a → a.block < w.heap.size ∧ vo.ownBlock ≠ some a.block)
    (hown : w'.ownsRow w0.heap.size 75 3 (.slice (some ⟨g, 0, none⟩) (l.length + 1) c) (l.length + 1) (srFlat (l ++ [r]))) (hg : w.grownBy w' vo.ownBlock) (hb : vo.ownBlock = some g ∨ w.heap.size ≤ g) :
    OutS Q w0 w' bs L t (.slice (some ⟨g, 0, none⟩) (l.length + 1) c) (l ++ [r]) := by
  have hne : ∀ a : Addr, a.block < w.heap.size → vo.ownBlock ≠ some a.block → (Value.slice (some ⟨g, 0, none⟩) (l.length + 1) c).ownBlock ≠ some a.block := fun a h1 h2 e => by
    have e' : g = a.block := by simpa [Value.ownBlock] using e
    rcases hb with hb | hb
    · exact h2 (by rw [hb, e'])
    · omega
  have hv : ∀ j, vo.ownBlock = some j → w0.heap.size ≤ j := fun j hj => (h.own.lt j hj).1
  refine ⟨h.st.grown hg (fun j hj => by have := hv j hj; have := h.lt; omega), by simpa using hown, fun x hx => ?_, grown_below h.gro hg (fun j hj => .inl (hv j hj)), h.lt⟩
  have hx' : SrOk w w0.heap.size x ∧ ∀ a, inSr x a → a.block < w.heap.size ∧ vo.ownBlock ≠ some a.block := by
    rw [List.mem_append] at hx
    rcases hx with hx | hx
    · exact h.rows x hx
    · simp at hx; subst hx; exact ⟨hr, hr2⟩
  exact ⟨hx'.1.grownB hg (fun a ha e => (hx'.2 a ha).2 e.symm), fun a ha => ⟨Nat.lt_of_lt_of_le (hx'.2 a ha).1 hg.size, hne a (hx'.2 a ha).1 (hx'.2 a ha).2⟩⟩
theorem OutS.done {w0 w : World} {bs t : Nat} {L : List Int} {vo : Value} {l : List Sr} (h : OutS Q w0 w bs L t vo l) : ∃ A c, vo = .slice A l.length c ∧ RdSi w w0.heap.size A (l.map sitK) := by
  obtain ⟨A, c, e, _, _, hr, hb⟩ := Rd.of_own h.own
  exact ⟨A, c, e, hb, l, rfl, by rw [List.length_map]; exact hr, fun r hr => (h.rows r hr).1⟩

/-- append(out, x), where the site lies somewhere in a block of its own. -/
theorem ap_sit_lies {ops : Array Oper} {rest : List Oper} {o : Oper} {a : Act} {K : Exit → Act → World → Prop} {w : World} (hgd : o.guard = none) (s x : Operand)
    (ho : o.op = .call { callee := .builtin .append, args := #[s, x], argTypes := #[26, 26] }) (base : Nat) (v : Value) (l : List Sr) (y : Sr) (N : Nat)
    (hs : a.eval s = v) (hown : w.ownsRow base 75 3 v l.length (srFlat l)) (hx : a.eval x = .slice (some ⟨N, 0, none⟩) 1 1) (hb : Blk w N 75 (srCells y).toArray) (hlen : l.length ≤ 1000000000) (hbase : base ≤ w.heap.size)
    (h : ∀ g cap w', w'.ownsRow base 75 3 (.slice (some ⟨g, 0, none⟩) (l.length + 1) cap) (l.length + 1) (srFlat (l ++ [y])) → w.grownBy w' v.ownBlock → (v.ownBlock = some g ∨ w.heap.size ≤ g) → wpList Tryd.prog ops K rest (a.put o.dst (.slice (some ⟨g, 0, none⟩) (l.length + 1) cap)) w') :
    wpList Tryd.prog ops K (o :: rest) a w := by
  obtain ⟨i0, hi, hz0, hz1, hz2⟩ := info_parts Tryd.infoSit
  refine wpList_append_lies w hgd s x 26 ho base 75 i0 (.agg #[.string ByteArray.empty, .slice none 0 0, .slice none 0 0]) 3 64 Tryd.underlying26 hi hz0 hz1 hz2 rfl (by decide) v l.length (srFlat l) hs hown ⟨N, 0, none⟩ 1 1 (srCells y) hx rfl
    (fun j u hu => World.news_of_block hb j u (by simpa using hu)) (sr_one y) (by omega) (by unfold maxLen; omega) (by omega) hbase _ rfl ?_
  intro g cap w' h1 h2 h3 _
  exact h g cap w' (by simpa [srFlat] using h1) h2 (h3.imp id (fun e => by omega))

/-- append(row, x) within a region that draws its order, where x lies somewhere in a block of its own. -/
theorem st_int_lies {ops : Array Oper} {o : Oper} {a : Act} {K : Act → World → Prop} {R : Exit → Act → World → Prop} {E : Prop} {w : World} {tm : Array Value} (hgd : o.guard = none) (s x : Operand)
    (ho : o.op = .call { callee := .builtin .append, args := #[s, x], argTypes := #[22, 22] }) (base : Nat) (v : Value) (l : List Int) (y : Int) (N : Nat)
    (hs : a.eval s = v) (hown : w.ownsRow base 3 1 v l.length (ints l)) (hx : a.eval x = .slice (some ⟨N, 0, none⟩) 1 1) (hy : w.cell? ⟨N, 0, none⟩ = some (.int .i64 y)) (hlen : l.length ≤ 1000000000) (hbase : base ≤ w.heap.size)
    (h : ∀ g cap w', w'.ownsRow base 3 1 (.slice (some ⟨g, 0, none⟩) (l.length + 1) cap) (l.length + 1) (ints (l ++ [y])) → w.grownBy w' v.ownBlock → (v.ownBlock = some g ∨ w.heap.size ≤ g) → K (a.put o.dst (.slice (some ⟨g, 0, none⟩) (l.length + 1) cap)) w') :
    if Region.wanted o (yielded ops tm) = true then Oper.wp Tryd.prog o a w K R else E := by
  have hw : Region.wanted o (yielded ops tm) = true := by simp [Region.wanted, hgd]
  rw [if_pos hw]
  obtain ⟨i0, hi, hz0, hz1, hz2⟩ := info_parts Tryd.infoInt
  refine wp_append_lies w s x 22 ho base 3 i0 (.int .i64 0) 1 8 Tryd.underlying22 hi hz0 hz1 hz2 rfl (by decide) v l.length (ints l) hs hown ⟨N, 0, none⟩ 1 1 (ints [y]) hx rfl
    (fun j u hu => ?_) (by simp [ints, Value.oneCell']) (by omega) (by unfold maxLen; omega) (by omega) hbase _ rfl ?_
  · match j, hu with
    | 0, hu => simp [ints] at hu; subst hu; rw [addp]; exact hy
    | n + 1, hu => simp [ints] at hu
  · intro g cap w' h1 h2 h3 _
    exact h g cap w' (by simpa [ints] using h1) h2 (h3.imp id (fun e => by omega))

/-- While one site is made: its block, its two rows, as they lie there and as they are in the frame. -/
structure InS (Q : Nat → Prop) (w0 w : World) (bs : Nat) (L : List Int) (t : Nat) (vo : Value) (l : List Sr) (B : Nat) (k : ByteArray) (cH cR vH vR : Value) (hs rs : List Int) : Prop where
  out : OutS Q w0 w bs L t vo l
  oh : w.ownsRow w0.heap.size 3 1 vH hs.length (ints hs)
  orr : w.ownsRow w0.heap.size 3 1 vR rs.length (ints rs)
  ap : ∀ g, vH.ownBlock = some g → vR.ownBlock ≠ some g
  blk : Blk w B 75 #[.string k, cH, cR]
  bB : w0.heap.size ≤ B
  noB : vo.ownBlock ≠ some B ∧ ∀ r ∈ l, ∀ a, inSr r a → a.block ≠ B
  noH : ∀ r ∈ l, ∀ a, inSr r a → vH.ownBlock ≠ some a.block ∧ vR.ownBlock ≠ some a.block
theorem blk_own {w : World} {B T base e size n : Nat} {cs : Array Value} {v : Value} {xs : List Value} (hb : Blk w B T cs) (h : w.ownsRow base e size v n xs) (hne : e ≠ T) : v.ownBlock ≠ some B := by
  rcases h.2 with ⟨rfl, _⟩ | ⟨g, c, u, rfl, _, hg, _⟩
  · simp [Value.ownBlock]
  · intro e1
    have e2 : g = B := by simpa [Value.ownBlock] using e1
    subst e2
    unfold Blk at hb
    rw [hg] at hb
    injection hb with h
    injection h with _ h
    exact hne h
theorem keptB {w w' : World} {base e size n : Nat} {v : Value} {xs : List Value} {row : Option Nat} (h : w.ownsRow base e size v n xs) (hg : w.grownBy w' row) (hne : ∀ j, row = some j → v.ownBlock ≠ some j) : w'.ownsRow base e size v n xs :=
  h.kept hg (by
    cases hv : v.ownBlock with
    | none => exact .inl rfl
    | some g => exact .inr (fun e => hne g e.symm hv))
theorem own_tyne {w : World} {b1 b2 e1 e2 s1 s2 n1 n2 : Nat} {v1 v2 : Value} {x1 x2 : List Value} (h1 : w.ownsRow b1 e1 s1 v1 n1 x1) (h2 : w.ownsRow b2 e2 s2 v2 n2 x2) (hne : e1 ≠ e2) (g : Nat) (hg : v2.ownBlock = some g) : v1.ownBlock ≠ some g := by
  rcases h2.2 with ⟨rfl, _⟩ | ⟨g2, c2, u2, rfl, _, hg2, _⟩
  · cases hg
  · have e : g2 = g := by simpa [Value.ownBlock] using hg
    subst e
    exact blk_own (cs := u2) (T := e2) hg2 h1 hne
section
variable {w0 w w' : World} {bs t : Nat} {L : List Int} {vo : Value} {l : List Sr} {B : Nat} {k : ByteArray} {cH cR vH vR : Value} {hs rs : List Int}
theorem InS.quiet (h : InS Q w0 w bs L t vo l B k cH cR vH vR hs rs) (hg : w.grownBy w' none) : InS Q w0 w' bs L t vo l B k cH cR vH vR hs rs :=
  ⟨h.out.quiet hg, keptB h.oh hg (by simp), keptB h.orr hg (by simp), h.ap, h.blk.grown hg (by simp), h.bB, h.noB, h.noH⟩
theorem InS.call {t' : Nat} (h : InS Q w0 w bs L t vo l B k cH cR vH vR hs rs) (hs' : StrQ Q w' bs L t') (hg : w.grownBy w' (some bs)) : InS Q w0 w' bs L t' vo l B k cH cR vH vR hs rs :=
  ⟨h.out.call hs' hg, keptB h.oh hg (fun j hj e => by injection hj with hj; have := (h.oh.lt j e).1; have := h.out.lt; omega), keptB h.orr hg (fun j hj e => by injection hj with hj; have := (h.orr.lt j e).1; have := h.out.lt; omega), h.ap,
    h.blk.grown hg (by have := h.out.lt; have := h.bB; simp; omega), h.bB, h.noB, h.noH⟩
theorem InS.appH {g c : Nat} {x : Int} (h : InS Q w0 w bs L t vo l B k cH cR vH vR hs rs) (hown : w'.ownsRow w0.heap.size 3 1 (.slice (some ⟨g, 0, none⟩) (hs.length + 1) c) (hs.length + 1) (ints (hs ++ [x]))) (hg : w.grownBy w' vH.ownBlock) (hb : vH.ownBlock = some g ∨ w.heap.size ≤ g) :
    InS Q w0 w' bs L t vo l B k cH cR (.slice (some ⟨g, 0, none⟩) (hs.length + 1) c) vR (hs ++ [x]) rs := by
  have hlt : ∀ j, vH.ownBlock = some j → w0.heap.size ≤ j := fun j hj => (h.oh.lt j hj).1
  have hgne : ∀ j, j < w.heap.size → vH.ownBlock ≠ some j → (Value.slice (some ⟨g, 0, none⟩) (hs.length + 1) c).ownBlock ≠ some j := fun j h1 h2 e => by
    have e' : g = j := by simpa [Value.ownBlock] using e
    rcases hb with hb | hb
    · exact h2 (by rw [hb, e'])
    · omega
  refine ⟨h.out.other hg (fun j hj => ⟨by have := hlt j hj; have := h.out.lt; omega, hlt j hj⟩) (fun j hj => own_tyne h.out.own h.oh (by decide) j hj) (fun j hj r hr a ha e => (h.noH r hr a ha).1 (by rw [e]; exact hj)), by simpa using hown,
    keptB h.orr hg (fun j hj => h.ap j hj), fun j hj e => ?_, h.blk.grown hg (fun e => blk_own h.blk h.oh (by decide) e.symm), h.bB, h.noB, fun r hr a ha => ⟨hgne _ ((h.out.rows r hr).2 a ha).1 (h.noH r hr a ha).1, (h.noH r hr a ha).2⟩⟩
  exact hgne j (h.orr.lt j e).2 (fun e2 => h.ap j e2 e) hj
theorem InS.appR {g c : Nat} {x : Int} (h : InS Q w0 w bs L t vo l B k cH cR vH vR hs rs) (hown : w'.ownsRow w0.heap.size 3 1 (.slice (some ⟨g, 0, none⟩) (rs.length + 1) c) (rs.length + 1) (ints (rs ++ [x]))) (hg : w.grownBy w' vR.ownBlock) (hb : vR.ownBlock = some g ∨ w.heap.size ≤ g) :
    InS Q w0 w' bs L t vo l B k cH cR vH (.slice (some ⟨g, 0, none⟩) (rs.length + 1) c) hs (rs ++ [x]) := by
  have hlt : ∀ j, vR.ownBlock = some j → w0.heap.size ≤ j := fun j hj => (h.orr.lt j hj).1
  have hgne : ∀ j, j < w.heap.size → vR.ownBlock ≠ some j → (Value.slice (some ⟨g, 0, none⟩) (rs.length + 1) c).ownBlock ≠ some j := fun j h1 h2 e => by
    have e' : g = j := by simpa [Value.ownBlock] using e
    rcases hb with hb | hb
    · exact h2 (by rw [hb, e'])
    · omega
  refine ⟨h.out.other hg (fun j hj => ⟨by have := hlt j hj; have := h.out.lt; omega, hlt j hj⟩) (fun j hj => own_tyne h.out.own h.orr (by decide) j hj) (fun j hj r hr a ha e => (h.noH r hr a ha).2 (by rw [e]; exact hj)),
    keptB h.oh hg (fun j hj e => h.ap j e hj), by simpa using hown, fun j hj e => ?_, h.blk.grown hg (fun e => blk_own h.blk h.orr (by decide) e.symm), h.bB, h.noB, fun r hr a ha => ⟨(h.noH r hr a ha).1, hgne _ ((h.out.rows r hr).2 a ha).1 (h.noH r hr a ha).2⟩⟩
  exact hgne j (h.oh.lt j hj).2 (fun e2 => h.ap j hj e2) e
theorem InS.set_ (h : InS Q w0 w bs L t vo l B k cH cR vH vR hs rs) (i : Nat) (u : Value) (cH' cR' : Value) (he : (#[.string k, cH, cR] : Array Value).setIfInBounds i u = #[.string k, cH', cR']) : InS Q w0 (w.setCell ⟨B, i, none⟩ u) bs L t vo l B k cH' cR' vH vR hs rs := by
  have hg := grown_set (World.grownBy.refl w (some B)) (p := ⟨B, i, none⟩) (.inr rfl) u
  have hlB : bs < B := Nat.lt_of_lt_of_le h.out.lt h.bB
  refine ⟨h.out.other hg (fun j hj => by injection hj with hj; exact ⟨by omega, by have := h.bB; omega⟩) (fun j hj => by injection hj with hj; rw [← hj]; exact h.noB.1) (fun j hj r hr a ha => by injection hj with hj; rw [← hj]; exact h.noB.2 r hr a ha),
    keptB h.oh hg (fun j hj => by injection hj with hj; rw [← hj]; exact blk_own h.blk h.oh (by decide)), keptB h.orr hg (fun j hj => by injection hj with hj; rw [← hj]; exact blk_own h.blk h.orr (by decide)), h.ap, (h.blk.set_ i u).eq he, h.bB, h.noB, h.noH⟩
end
end Go.Proofs.YtoneebofjbnjpaaDoor
