/- Sites: as lists, what is wrong with them, after how many days a slot is empty; coilrack/api.Site in memory; append of one. -/
import Derived.Test.YtoneebofjbnjpaaDoorSq
import Derived.Test.YtoneebofjbnjpaaDoorKey
import Derived.Test.YtoneebofjbnjpaaDoorStr1
import Derived.Test.YtoneebofjbnjpaaDoorStru
namespace Go.Proofs.YtoneebofjbnjpaaDoor
open Go.RowKit

structure Sit where
  k : ByteArray
  h : List Int
  r : List Int
instance : Inhabited Sit := ⟨⟨ByteArray.empty, [], []⟩⟩

/-- What is wrong with one site behind another one. -/
def sitC (prev : Option ByteArray) (k : ByteArray) (h r : List Int) : Int :=
  if keyB k = false then 5 else if prev.any (fun p => sLe k p) = true then 7 else if h.length = 0 then 8 else if 60 < h.length then 2 else if r.length ≠ h.length then 3 else
    if allB h 0 10000 = false then 1 else if allB r 0 1000000 = false then 1 else 0
def sitOne (prev : Option ByteArray) (x : Sit) : Int := sitC prev x.k x.h x.r
def sitFrom (prev : Option ByteArray) : List Sit → Int
  | [] => 0
  | x :: t => if sitOne prev x ≠ 0 then sitOne prev x else sitFrom (some x.k) t
def sitF (l : List Sit) : Int := if 200 < l.length then 2 else sitFrom none l
def sPrev (l : List Sit) (j : Nat) : Option ByteArray := if j = 0 then none else (l[j-1]?).map (·.k)
def SitInv (l : List Sit) (j : Nat) : Prop := sitFrom (sPrev l j) (l.drop j) = sitF l
theorem SitInv.start {l : List Sit} (h : l.length ≤ 200) : SitInv l 0 := by
  unfold SitInv sitF; rw [if_neg (by omega)]; simp [sPrev]
theorem SitInv.done {l : List Sit} {j : Nat} (h : SitInv l j) (hj : j = l.length) : sitF l = 0 := by
  unfold SitInv at h; subst hj; rw [← h]; simp [sitFrom]
theorem SitInv.bad {l : List Sit} {j : Nat} {t : Sit} {e : Int} (h : SitInv l j) (ht : l[j]? = some t) (h1 : sitOne (sPrev l j) t = e) (h0 : e ≠ 0) : sitF l = e := by
  unfold SitInv at h; rw [← h, drop_at ht, sitFrom, h1, if_pos h0]
theorem SitInv.good {l : List Sit} {j : Nat} {t : Sit} (h : SitInv l j) (ht : l[j]? = some t) (h1 : sitOne (sPrev l j) t = 0) : SitInv l (j + 1) := by
  unfold SitInv at h ⊢
  rw [drop_at ht, sitFrom, h1, if_neg (by simp)] at h
  rw [← h]
  have : sPrev l (j + 1) = some t.k := by simp [sPrev, ht]
  rw [this]
theorem sPrev_zero (l : List Sit) : sPrev l 0 = none := rfl
theorem sPrev_succ {l : List Sit} {p : Nat} {t : Sit} (h : l[p]? = some t) : sPrev l (p + 1) = some t.k := by simp [sPrev, h]
theorem sitFrom_ok : ∀ (l : List Sit) (prev : Option ByteArray), sitFrom prev l = 0 → ∀ t ∈ l, t.h.length ≤ 60 ∧ t.r.length = t.h.length ∧ allB t.h 0 10000 = true ∧ allB t.r 0 1000000 = true
  | [], _, _, t, ht => by cases ht
  | x :: l, prev, h, t, ht => by
    unfold sitFrom at h
    by_cases h1 : sitOne prev x = 0
    · rw [if_neg (by simp [h1])] at h
      rcases List.mem_cons.1 ht with rfl | ht
      · unfold sitOne sitC at h1
        by_cases a1 : keyB t.k = false
        · rw [if_pos a1] at h1; cases h1
        rw [if_neg a1] at h1
        by_cases a2 : prev.any (fun p => sLe t.k p) = true
        · rw [if_pos a2] at h1; cases h1
        rw [if_neg a2] at h1
        by_cases a3 : t.h.length = 0
        · rw [if_pos a3] at h1; cases h1
        rw [if_neg a3] at h1
        by_cases a4 : 60 < t.h.length
        · rw [if_pos a4] at h1; cases h1
        rw [if_neg a4] at h1
        by_cases a5 : t.r.length = t.h.length
        · rw [if_neg (by simp [a5])] at h1
          by_cases a6 : allB t.h 0 10000 = false
          · rw [if_pos a6] at h1; cases h1
          rw [if_neg a6] at h1
          by_cases a7 : allB t.r 0 1000000 = false
          · rw [if_pos a7] at h1; cases h1
          exact ⟨by omega, a5, by simpa using a6, by simpa using a7⟩
        · rw [if_pos a5] at h1; cases h1
      · exact sitFrom_ok l _ h t ht
    · rw [if_pos h1] at h
      exact absurd h h1
theorem sitF_ok {l : List Sit} (h : sitF l = 0) : l.length ≤ 200 ∧ ∀ t ∈ l, t.h.length ≤ 60 ∧ t.r.length = t.h.length ∧ allB t.h 0 10000 = true ∧ allB t.r 0 1000000 = true := by
  unfold sitF at h
  by_cases h1 : 200 < l.length
  · rw [if_pos h1] at h; cases h
  · rw [if_neg h1] at h
    exact ⟨by omega, sitFrom_ok l none h⟩

theorem allB_of {l : List Int} {n : Nat} {a b : Int} (hn : l.length = n) (h : ∀ p, p < n → btw (l.getD p 0) a b = true) : allB l a b = true := by
  unfold allB
  rw [List.all_eq_true]
  intro x hx
  obtain ⟨p, hp, rfl⟩ := List.getElem_of_mem hx
  have := h p (by omega)
  rw [List.getD_eq_getElem?_getD, List.getElem?_eq_getElem hp] at this
  exact this
theorem allB_bad {l : List Int} {p : Nat} {x a b : Int} (hx : l[p]? = some x) (h : btw x a b = false) : allB l a b = false := by
  unfold allB
  rw [List.all_eq_false]
  exact ⟨x, List.mem_of_getElem? hx, by simp [h]⟩
theorem getD_some {l : List Int} {p : Nat} {x : Int} (hx : l[p]? = some x) : l.getD p 0 = x := by rw [List.getD_eq_getElem?_getD, hx]; rfl

/-- One slot, seen behind m: after how many days it is empty, if that is sooner. -/
def lessD (m hv rv : Int) : Int := if 0 < rv then min m ((100 * hv).tdiv rv) else m
def leftTo (hs rs : List Int) : Nat → Int
  | 0 => 4000
  | j + 1 => lessD (leftTo hs rs j) (hs.getD j 0) (rs.getD j 0)
def leftOf (x : Sit) : Int := leftTo x.h x.r x.r.length
theorem leftTo_in {hs rs : List Int} (h1 : allB hs 0 10000 = true) (h2 : rs.length = hs.length) (j : Nat) (hj : j ≤ rs.length) : 0 ≤ leftTo hs rs j ∧ leftTo hs rs j ≤ 4000 := by
  induction j with
  | zero => simp [leftTo]
  | succ j ih =>
    have ih := ih (by omega)
    have hb : 0 ≤ hs.getD j 0 := by
      have hl : j < hs.length := by omega
      rw [List.getD_eq_getElem?_getD, List.getElem?_eq_getElem hl]
      have := (List.all_eq_true.1 h1) hs[j] (List.getElem_mem hl)
      exact (btw_true.1 this).1
    rw [leftTo]
    unfold lessD
    split
    · have : 0 ≤ (100 * hs.getD j 0).tdiv (rs.getD j 0) := Int.tdiv_nonneg (by omega) (by omega)
      omega
    · exact ih
theorem leftOf_in {x : Sit} (h1 : allB x.h 0 10000 = true) (h2 : x.r.length = x.h.length) : 0 ≤ leftOf x ∧ leftOf x ≤ 4000 := leftTo_in h1 h2 _ (Nat.le_refl _)

/-- A site as it lies in memory, with the numbers that its slices hold. -/
structure Sr where
  k : ByteArray
  A : Option Addr
  n : Nat
  c : Nat
  A2 : Option Addr
  n2 : Nat
  c2 : Nat
  h : List Int
  r : List Int
instance : Inhabited Sr := ⟨⟨ByteArray.empty, none, 0, 0, none, 0, 0, [], []⟩⟩
def srCells (x : Sr) : List Value := [.string x.k, .slice x.A x.n x.c, .slice x.A2 x.n2 x.c2]
def srFlat (l : List Sr) : List Value := l.flatMap srCells
theorem srCells_len (x : Sr) : (srCells x).length = 3 := rfl
theorem srFlat_len (l : List Sr) : (srFlat l).length = l.length * 3 := rows_len srCells_len l
def sitK (x : Sr) : Sit := ⟨x.k, x.h, x.r⟩
theorem ints_len (l : List Int) : (ints l).length = l.length := by simp [ints]
def SrOk (w : World) (B : Nat) (x : Sr) : Prop := (Rd w 1 x.A x.n (ints x.h) ∧ ∀ a, x.A = some a → B ≤ a.block) ∧ Rd w 1 x.A2 x.n2 (ints x.r) ∧ ∀ a, x.A2 = some a → B ≤ a.block
theorem SrOk.len {w : World} {B : Nat} {x : Sr} (h : SrOk w B x) : x.h.length = x.n ∧ x.r.length = x.n2 := by
  have h1 := h.1.1.1; have h2 := h.2.1.1; rw [ints_len] at h1 h2; omega
theorem SrOk.grown_ {w w' : World} {B : Nat} {row : Option Nat} {x : Sr} (h : SrOk w B x) (hg : w.grownBy w' row) (hr : ∀ j, row = some j → j < B) : SrOk w' B x :=
  ⟨⟨h.1.1.grown_ hg (fun a ha e => by have := h.1.2 a ha; have := hr _ e.symm; omega), h.1.2⟩, h.2.1.grown_ hg (fun a ha e => by have := h.2.2 a ha; have := hr _ e.symm; omega), h.2.2⟩
theorem SrOk.grown {w w' : World} {B : Nat} {x : Sr} (h : SrOk w B x) (hg : w.grownBy w' none) : SrOk w' B x := h.grown_ hg (by simp)

/-- The slice with address A reads as the sites V. -/
def RdSi (w : World) (B : Nat) (A : Option Addr) (V : List Sit) : Prop :=
  (∀ a, A = some a → B ≤ a.block) ∧ ∃ l : List Sr, l.map sitK = V ∧ Rd w 3 A V.length (srFlat l) ∧ ∀ r ∈ l, SrOk w B r
theorem RdSi.grown_ {w w' : World} {B : Nat} {row : Option Nat} {A : Option Addr} {V : List Sit} (h : RdSi w B A V) (hg : w.grownBy w' row) (hr : ∀ j, row = some j → j < B) : RdSi w' B A V := by
  obtain ⟨h0, l, h1, h2, h3⟩ := h
  exact ⟨h0, l, h1, h2.grown_ hg (fun a ha e => by have := h0 a ha; have := hr _ e.symm; omega), fun r hr' => (h3 r hr').grown_ hg hr⟩
theorem RdSi.grown {w w' : World} {B : Nat} {A : Option Addr} {V : List Sit} (h : RdSi w B A V) (hg : w.grownBy w' none) : RdSi w' B A V := h.grown_ hg (by simp)
theorem RdSi.row {w : World} {B : Nat} {A : Option Addr} {V : List Sit} (h : RdSi w B A V) {k : Nat} (hk : k < V.length) :
    ∃ b off, A = some ⟨b, off, none⟩ ∧ b < w.heap.size ∧ ∃ r : Sr, V[k]? = some (sitK r) ∧ SrOk w B r ∧ w.cell? ⟨b, off + k * 3, none⟩ = some (.string r.k) ∧ w.cell? ⟨b, off + k * 3 + 1, none⟩ = some (.slice r.A r.n r.c) ∧
      w.cell? ⟨b, off + k * 3 + 2, none⟩ = some (.slice r.A2 r.n2 r.c2) := by
  obtain ⟨_, l, h1, h2, h3⟩ := h
  obtain ⟨b, off, e, hb, r, hr, hc⟩ := rows_cell srCells_len (by decide) h2 hk
  refine ⟨b, off, e, hb, r, ?_, h3 r (List.mem_of_getElem? hr), hc 0 _ rfl, hc 1 _ rfl, hc 2 _ rfl⟩
  rw [← h1, List.getElem?_map, hr]
  rfl

theorem Tryd.infoSit : (Tryd.prog.info? 75).map (fun i => (i.zero, i.size, i.bytes)) = some (some (.agg #[.string ByteArray.empty, .slice none 0 0, .slice none 0 0]), 3, 64) := by kernel_rfl
theorem sr_one (r : Sr) : ∀ u ∈ srCells r, u.oneCell' = true := by
  intro u hu
  simp only [srCells, List.mem_cons, List.not_mem_nil, or_false] at hu
  rcases hu with rfl | rfl | rfl <;> rfl

/-- append(out, x): one site. -/
theorem ap_sit {ops : Array Oper} {rest : List Oper} {o : Oper} {a : Act} {Q : Exit → Act → World → Prop} (w : World) (N : Nat) (hN : w.heap.size = N) (y : Sr) (hgd : o.guard = none) (s x : Operand)
    (ho : o.op = .call { callee := .builtin .append, args := #[s, x], argTypes := #[26, 26] }) (base : Nat) (v : Value) (l : List Sr)
    (hs : a.eval s = v) (hown : w.ownsRow base 75 3 v l.length (srFlat l)) (hx : a.eval x = .slice (some ⟨N, 0, none⟩) 1 1) (hlen : l.length ≤ 1000000000) (hbase : base ≤ w.heap.size)
    (h : ∀ v' w', w'.ownsRow base 75 3 v' (l ++ [y]).length (srFlat (l ++ [y])) → (w.alloc (.cells #[.string y.k, .slice y.A y.n y.c, .slice y.A2 y.n2 y.c2] 75)).grownBy w' v.ownBlock → wpList Tryd.prog ops Q rest (a.put o.dst v') w') :
    wpList Tryd.prog ops Q (o :: rest) a (w.alloc (.cells #[.string y.k, .slice y.A y.n y.c, .slice y.A2 y.n2 y.c2] 75)) := by
  subst hN
  obtain ⟨i0, hi, hz0, hz1, hz2⟩ := info_parts Tryd.infoSit
  refine wpList_append_own _ hgd s x 26 ho base 75 i0 (.agg #[.string ByteArray.empty, .slice none 0 0, .slice none 0 0]) 3 64 Tryd.underlying26 hi hz0 hz1 hz2 rfl (by decide) v l.length (srFlat l) hs (hown.alloc _) ⟨w.heap.size, 0, none⟩ 1 1 (srCells y) hx rfl
    (cells_new w #[.string y.k, .slice y.A y.n y.c, .slice y.A2 y.n2 y.c2] _) (sr_one y) (by unfold maxLen; omega) (by omega) (by simp; omega) ?_
  intro v' w' h1 h2 _
  exact h v' w' (by simpa [srFlat] using h1) h2

end Go.Proofs.YtoneebofjbnjpaaDoor
