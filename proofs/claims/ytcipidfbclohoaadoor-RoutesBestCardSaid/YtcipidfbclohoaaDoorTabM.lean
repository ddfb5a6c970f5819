/- Tables: rows of rows, what is made of the stream's numbers, what is wrong with one. -/
import Derived.Test.YtcipidfbclohoaaDoorRange
import Derived.Test.YtcipidfbclohoaaDoorMade
namespace Go.Proofs.YtcipidfbclohoaaDoor
open Go.RowKit

theorem Tryd.infoInts : (Tryd.prog.info? 22).map (fun i => (i.zero, i.size, i.bytes)) = some (some (.slice none 0 0), 1, 24) := by kernel_rfl

/-- append(rows, row). -/
theorem ap_row {ops : Array Oper} {rest : List Oper} {o : Oper} {a : Act} {Q : Exit → Act → World → Prop} (w : World) (y : Value) (hy : y.oneCell' = true) (hgd : o.guard = none) (s x : Operand)
    (ho : o.op = .call { callee := .builtin .append, args := #[s, x], argTypes := #[45, 45] }) (base : Nat) (v : Value) (n : Nat) (l : List Value) (hn : l.length = n)
    (hs : a.eval s = v) (hown : w.ownsRow base 22 1 v n l) (N : Nat) (hN : w.heap.size = N) (hx : a.eval x = .slice (some ⟨N, 0, none⟩) 1 1) (hlen : n ≤ 1000000000) (hbase : base ≤ w.heap.size)
    (h : ∀ v' w', w'.ownsRow base 22 1 v' (n + 1) (l ++ [y]) → (w.alloc (.cells #[y] 22)).grownBy w' v.ownBlock → wpList Tryd.prog ops Q rest (a.put o.dst v') w') :
    wpList Tryd.prog ops Q (o :: rest) a (w.alloc (.cells #[y] 22)) := by
  subst hn hN
  obtain ⟨i0, hi, hz0, hz1, hz2⟩ := info_parts Tryd.infoInts
  refine wpList_append_own _ hgd s x 45 ho base 22 i0 (.slice none 0 0) 1 24 Tryd.underlying45 hi hz0 hz1 hz2 rfl (by decide) v l.length l hs (hown.alloc _) ⟨w.heap.size, 0, none⟩ 1 1 [y] hx rfl
    (cells_new w #[y] _) (by simpa using hy) (by unfold maxLen; omega) (by omega) (by simp; omega) ?_
  intro v' w' h1 h2 _
  exact h v' w' (by simpa using h1) h2

theorem own_type {w : World} {b1 b2 e1 e2 s1 s2 n1 n2 : Nat} {v1 v2 : Value} {x1 x2 : List Value} (h1 : w.ownsRow b1 e1 s1 v1 n1 x1) (h2 : w.ownsRow b2 e2 s2 v2 n2 x2) (hne : e1 ≠ e2) :
    v1.ownBlock = none ∨ v1.ownBlock ≠ v2.ownBlock := by
  rcases h1.2 with ⟨rfl, _⟩ | ⟨g1, c1, u1, rfl, _, hg1, _⟩
  · exact .inl rfl
  · rcases h2.2 with ⟨rfl, _⟩ | ⟨g2, c2, u2, rfl, _, hg2, _⟩
    · exact .inr (by simp [Value.ownBlock])
    · refine .inr fun e => hne ?_
      have e' : g1 = g2 := by simpa [Value.ownBlock] using e
      subst e'
      rw [hg1] at hg2
      injection hg2 with h
      injection h

/-- Rows of numbers, each in a block of its own. -/
def Rows2 (w : World) (base : Nat) (R : List (List Int)) (vals : List Value) : Prop :=
  vals.length = R.length ∧ ∃ gf : Nat → Nat, (∀ i j, i < R.length → j < R.length → i ≠ j → gf i ≠ gf j) ∧
    ∀ i l, R[i]? = some l → ∃ c, vals[i]? = some (.slice (some ⟨gf i, 0, none⟩) l.length c) ∧ w.ownsRow base 3 1 (.slice (some ⟨gf i, 0, none⟩) l.length c) l.length (ints l)

theorem Rows2.nil_ (w : World) (base : Nat) : Rows2 w base [] [] := ⟨rfl, fun _ => 0, fun i j h => absurd h (by simp), fun i l h => by simp at h⟩
theorem Rows2.keep {w w' : World} {base : Nat} {R : List (List Int)} {vals : List Value} (h : Rows2 w base R vals)
    (hk : ∀ v n xs, w.ownsRow base 3 1 v n xs → w'.ownsRow base 3 1 v n xs) : Rows2 w' base R vals := by
  obtain ⟨h1, gf, h2, h3⟩ := h
  exact ⟨h1, gf, h2, fun i l hl => by obtain ⟨c, e, o⟩ := h3 i l hl; exact ⟨c, e, hk _ _ _ o⟩⟩
theorem Rows2.none_ {w w' : World} {base : Nat} {R : List (List Int)} {vals : List Value} (h : Rows2 w base R vals) (hg : w.grownBy w' none) : Rows2 w' base R vals :=
  h.keep fun v n xs o => o.kept hg (by cases v.ownBlock with
    | none => exact .inl rfl
    | some g => exact .inr (by simp))
theorem Rows2.stream {w w' : World} {base bs : Nat} {R : List (List Int)} {vals : List Value} (h : Rows2 w base R vals) (hg : w.grownBy w' (some bs)) (hb : bs < base) : Rows2 w' base R vals :=
  h.keep fun _ _ _ o => o.kept hg (own_ne o hb)
theorem Rows2.row {w w' : World} {base b n : Nat} {R : List (List Int)} {vals xs : List Value} {v : Value} (h : Rows2 w base R vals) (hr : w.ownsRow b 22 1 v n xs) (hg : w.grownBy w' v.ownBlock) : Rows2 w' base R vals :=
  h.keep fun _ _ _ o => o.kept hg (own_type o hr (by decide))
theorem Rows2.alloc {w : World} {base : Nat} {R : List (List Int)} {vals : List Value} (h : Rows2 w base R vals) (o : Obj) : Rows2 (w.alloc o) base R vals := h.none_ (grown_alloc (grown_refl w) o)
theorem Rows2.snoc {w0 w : World} {base g c : Nat} {R : List (List Int)} {vals : List Value} {l : List Int} (h0 : Rows2 w0 base R vals) (h : Rows2 w base R vals) (hb : base ≤ w0.heap.size)
    (hr : w.ownsRow w0.heap.size 3 1 (.slice (some ⟨g, 0, none⟩) l.length c) l.length (ints l)) :
    Rows2 w base (R ++ [l]) (vals ++ [.slice (some ⟨g, 0, none⟩) l.length c]) := by
  obtain ⟨h1, gf, h2, h3⟩ := h
  obtain ⟨_, gf0, _, h30⟩ := h0
  have hold : ∀ i, i < R.length → gf i < w0.heap.size := by
    intro i hi
    obtain ⟨c1, e1, _⟩ := h3 i R[i] (List.getElem?_eq_getElem hi)
    obtain ⟨c2, e2, o2⟩ := h30 i R[i] (List.getElem?_eq_getElem hi)
    rw [e1] at e2
    injection e2 with e2
    injection e2 with e2 _ _
    injection e2 with e2
    injection e2 with e2 _ _
    have := (o2.lt (gf0 i) rfl).2
    omega
  have hg : w0.heap.size ≤ g := (hr.lt g rfl).1
  refine ⟨by simp [h1], fun i => if i < R.length then gf i else g, ?_, ?_⟩
  · intro i j hi hj hij
    simp only [List.length_append, List.length_cons, List.length_nil] at hi hj
    show (if i < R.length then gf i else g) ≠ (if j < R.length then gf j else g)
    by_cases hi2 : i < R.length
    · by_cases hj2 : j < R.length
      · rw [if_pos hi2, if_pos hj2]; exact h2 i j hi2 hj2 hij
      · rw [if_pos hi2, if_neg hj2]; have := hold i hi2; omega
    · by_cases hj2 : j < R.length
      · rw [if_neg hi2, if_pos hj2]; have := hold j hj2; omega
      · omega
  · intro i x hx
    by_cases hi : i < R.length
    · rw [List.getElem?_append_left hi] at hx
      obtain ⟨c1, e1, o1⟩ := h3 i x hx
      refine ⟨c1, ?_, ?_⟩
      · rw [List.getElem?_append_left (by omega)]; simp only [if_pos hi]; exact e1
      · simp only [if_pos hi]; exact o1
    · have hl := (List.getElem?_eq_some_iff.1 hx).1
      simp only [List.length_append, List.length_cons, List.length_nil] at hl
      obtain rfl : i = R.length := by omega
      rw [List.getElem?_append_right (Nat.le_refl _), Nat.sub_self] at hx
      simp only [List.getElem?_cons_zero] at hx
      injection hx with hx
      subst hx
      refine ⟨c, ?_, ?_⟩
      · simp only [Nat.lt_irrefl, if_false]; rw [← h1]; simp
      · simp only [Nat.lt_irrefl, if_false]; exact own_mono hr hb

/-- One number of one row is another one. -/
theorem Rows2.put {w : World} {base : Nat} {R : List (List Int)} {vals : List Value} (h : Rows2 w base R vals) {a g n c : Nat} (l : List Int) (ha : R[a]? = some l) (hv : vals[a]? = some (.slice (some ⟨g, 0, none⟩) n c)) (b : Nat) (x : Int) :
    Rows2 (w.setCell ⟨g, b, none⟩ (.int .i64 x)) base (R.set a (l.set b x)) vals := by
  obtain ⟨h1, gf, h2, h3⟩ := h
  obtain ⟨c1, e1, o1⟩ := h3 a l ha
  have ha' := (List.getElem?_eq_some_iff.1 ha).1
  rw [e1] at hv
  injection hv with hv
  injection hv with hv hv1 hv2
  injection hv with hv
  injection hv with hv _ _
  subst hv
  refine ⟨by simp [h1], gf, ?_, ?_⟩
  · intro i j hi hj hij
    simp only [List.length_set] at hi hj
    exact h2 i j hi hj hij
  · intro i y hy
    by_cases hia : i = a
    · subst hia
      rw [List.getElem?_set_self ha'] at hy
      injection hy with hy
      subst hy
      refine ⟨c1, by rw [List.length_set]; exact e1, ?_⟩
      rw [List.length_set]
      exact own_int_set o1 b x
    · rw [List.getElem?_set_ne (fun e => hia e.symm)] at hy
      obtain ⟨c2, e2, o2⟩ := h3 i y hy
      have hi := (List.getElem?_eq_some_iff.1 hy).1
      refine ⟨c2, e2, o2.kept (grown_set (World.grownBy.refl w (some (gf a))) (.inr rfl) _) (.inr ?_)⟩
      have := h2 i a hi ha' hia
      simpa [Value.ownBlock] using this

/-- The slice with address A reads as the rows R; all of its blocks are from base on. -/
def RdT (w : World) (base : Nat) (A : Option Addr) (R : List (List Int)) : Prop :=
  (∀ a, A = some a → base ≤ a.block) ∧ ∃ vals : List Value, Rd w 1 A R.length vals ∧ ∀ (i : Nat) (l : List Int), R[i]? = some l → ∃ Ai ci, vals[i]? = some (Value.slice Ai l.length ci) ∧ (∀ a, Ai = some a → base ≤ a.block) ∧ Rd w 1 Ai l.length (ints l)

theorem RdT.nil_ (w : World) (base : Nat) : RdT w base none [] := ⟨(fun _ h => by cases h), [], Rd.nil_ w 1 none, fun i l h => by simp at h⟩
theorem RdT.grown {w w' : World} {base : Nat} {A : Option Addr} {R : List (List Int)} (h : RdT w base A R) (hg : w.grownBy w' none) : RdT w' base A R := by
  obtain ⟨h0, vals, h1, h2⟩ := h
  exact ⟨h0, vals, h1.grown hg, fun i l hl => by obtain ⟨Ai, ci, e, hb, hr⟩ := h2 i l hl; exact ⟨Ai, ci, e, hb, hr.grown hg⟩⟩
theorem RdT.stream {w w' : World} {base bs : Nat} {A : Option Addr} {R : List (List Int)} (h : RdT w base A R) (hg : w.grownBy w' (some bs)) (hb : bs < base) : RdT w' base A R := by
  obtain ⟨h0, vals, h1, h2⟩ := h
  exact ⟨h0, vals, h1.grown_ hg (fun a ha => by have := h0 a ha; simp; omega), fun i l hl => by
    obtain ⟨Ai, ci, e, hbi, hr⟩ := h2 i l hl
    exact ⟨Ai, ci, e, hbi, hr.grown_ hg (fun a ha => by have := hbi a ha; simp; omega)⟩⟩
theorem RdT.mono {w : World} {base base' : Nat} {A : Option Addr} {R : List (List Int)} (h : RdT w base A R) (hb : base' ≤ base) : RdT w base' A R := by
  obtain ⟨h0, vals, h1, h2⟩ := h
  exact ⟨fun a ha => Nat.le_trans hb (h0 a ha), vals, h1, fun i l hl => by obtain ⟨Ai, ci, e, hbi, hr⟩ := h2 i l hl; exact ⟨Ai, ci, e, fun a ha => Nat.le_trans hb (hbi a ha), hr⟩⟩
theorem RdT.of_own {w : World} {base : Nat} {v : Value} {n : Nat} {R : List (List Int)} {vals : List Value} (hn : R.length = n) (h : w.ownsRow base 22 1 v n vals) (hr : Rows2 w base R vals) :
    ∃ A c, v = .slice A R.length c ∧ RdT w base A R := by
  subst hn
  obtain ⟨A, c, rfl, _, _, h1, h2⟩ := Rd.of_own h
  refine ⟨A, c, rfl, h2, vals, h1, fun i l hl => ?_⟩
  obtain ⟨_, gf, _, h3⟩ := hr
  obtain ⟨ci, e, o⟩ := h3 i l hl
  obtain ⟨Ai, c', e', _, _, hri, hbi⟩ := Rd.of_own o
  injection e' with e1 _ e3
  exact ⟨Ai, ci, by rw [e, e1], hbi, hri⟩
theorem RdT.row {w : World} {base : Nat} {A : Option Addr} {R : List (List Int)} (h : RdT w base A R) {k : Nat} (hk : k < R.length) :
    ∃ b off, A = some ⟨b, off, none⟩ ∧ b < w.heap.size ∧ ∃ l, R[k]? = some l ∧ ∃ Ai ci, w.cell? ⟨b, off + k, none⟩ = some (.slice Ai l.length ci) ∧ Rd w 1 Ai l.length (ints l) := by
  obtain ⟨_, vals, h1, h2⟩ := h
  obtain ⟨b, off, e, hb, hc⟩ := h1.2 (by omega)
  obtain ⟨Ai, ci, e1, _, hr⟩ := h2 k R[k] (List.getElem?_eq_getElem hk)
  exact ⟨b, off, e, hb, R[k], List.getElem?_eq_getElem hk, Ai, ci, hc k _ e1, hr⟩

/-! ### The stream's table -/

def tbStep (L : List Int) (i k : Nat) (s : Nat × Int × List Int) : Nat × Int × List Int :=
  if k = i then (s.1, s.2.1, s.2.2 ++ [0])
  else if pk L s.1 [0, 10, 33, 50] ≤ s.2.1 then (s.1 + 1, s.2.1 - pk L s.1 [0, 10, 33, 50], s.2.2 ++ [pk L s.1 [0, 10, 33, 50]])
  else (s.1 + 1, 0, s.2.2 ++ [s.2.1])
def tbIn (L : List Int) (i t : Nat) : Nat → Nat × Int × List Int
  | 0 => (t, 100, [])
  | k + 1 => tbStep L i k (tbIn L i t k)
theorem tbIn_bound (L : List Int) (i t k : Nat) : ((tbIn L i t k).1 ≤ t + k ∧ (tbIn L i t k).2.2.length = k) ∧ 0 ≤ (tbIn L i t k).2.1 ∧ (tbIn L i t k).2.1 ≤ 100 := by
  induction k with
  | zero => simp [tbIn]
  | succ k ih =>
    have hp := pk_mem L (tbIn L i t k).1 [0, 10, 33, 50] (by simp)
    simp only [List.mem_cons, List.not_mem_nil, or_false] at hp
    rw [tbIn]
    generalize tbIn L i t k = s at *
    unfold tbStep
    split
    · simp; omega
    · split
      · simp; omega
      · simp; omega
def tbRows (L : List Int) (n t : Nat) : Nat → Nat × List (List Int)
  | 0 => (t, [])
  | i + 1 => ((tbIn L i (tbRows L n t i).1 n).1, (tbRows L n t i).2 ++ [(tbIn L i (tbRows L n t i).1 n).2.2])
theorem tbRows_bound (L : List Int) (n t i : Nat) : ((tbRows L n t i).1 ≤ t + i * n ∧ (tbRows L n t i).2.length = i) ∧ ∀ l ∈ (tbRows L n t i).2, l.length = n := by
  induction i with
  | zero => simp [tbRows]
  | succ i ih =>
    obtain ⟨⟨h1, h2⟩, h3⟩ := ih
    have hb := tbIn_bound L i (tbRows L n t i).1 n
    have e : (i + 1) * n = i * n + n := by rw [Nat.add_mul, Nat.one_mul]
    refine ⟨⟨?_, ?_⟩, ?_⟩
    · rw [tbRows, e]; dsimp only; omega
    · rw [tbRows]; simp [h2]
    · rw [tbRows]
      intro l hl
      simp only [List.mem_append, List.mem_cons, List.not_mem_nil, or_false] at hl
      rcases hl with hl | rfl
      · exact h3 l hl
      · exact hb.1.2
def tbEnd (L : List Int) (n : Nat) (s : Nat × List (List Int)) : Nat × List (List Int) :=
  if nx L s.1 12 == 0 then
    if nx L (s.1 + 1) 3 = 0 then (s.1 + 5, s.2.set (nx L (s.1 + 2) n).toNat ((s.2.getD (nx L (s.1 + 2) n).toNat []).set (nx L (s.1 + 3) n).toNat (pk L (s.1 + 4) [-1, 5, 101, 100])))
    else if nx L (s.1 + 1) 3 = 1 then (s.1 + 2, s.2 ++ [[0]])
    else (s.1 + 2, [])
  else (s.1 + 1, s.2)
def tableM (L : List Int) (t : Nat) : Nat × List (List Int) := tbEnd L (1 + nx L t 4).toNat (tbRows L (1 + nx L t 4).toNat (t + 1) (1 + nx L t 4).toNat)
theorem tableM_bound (L : List Int) (t : Nat) : ((tableM L t).1 ≤ t + 30 ∧ (tableM L t).2.length ≤ 5) ∧ ∀ l ∈ (tableM L t).2, l.length ≤ 4 := by
  obtain ⟨x0, x1⟩ := nx_in L t 4 (by omega)
  obtain ⟨n, hn⟩ : ∃ n : Nat, (1 + nx L t 4).toNat = n := ⟨_, rfl⟩
  have hn4 : n ≤ 4 := by omega
  have hb := tbRows_bound L n (t + 1) n
  have hnn : n * n ≤ 4 * 4 := Nat.mul_le_mul hn4 hn4
  unfold tableM
  rw [hn]
  generalize tbRows L n (t + 1) n = s at *
  obtain ⟨⟨h1, h2⟩, h3⟩ := hb
  have h3' : ∀ l ∈ s.2, l.length ≤ 4 := fun l hl => by rw [h3 l hl]; omega
  unfold tbEnd
  split
  · split
    · refine ⟨⟨by dsimp only; omega, by simp; omega⟩, fun l hl => ?_⟩
      rcases List.mem_or_eq_of_mem_set hl with h | rfl
      · exact h3' l h
      · rw [List.length_set]
        rw [List.getD_eq_getElem?_getD]
        cases hg : s.2[(nx L (s.1 + 2) n).toNat]? with
        | none => simp
        | some y => exact h3' y (List.mem_of_getElem? hg)
    · split
      · refine ⟨⟨by dsimp only; omega, by simp; omega⟩, fun l hl => ?_⟩
        simp only [List.mem_append, List.mem_cons, List.not_mem_nil, or_false] at hl
        rcases hl with hl | rfl
        · exact h3' l hl
        · simp
      · exact ⟨⟨by dsimp only; omega, by simp⟩, fun l hl => by simp at hl⟩
  · exact ⟨⟨by dsimp only; omega, by dsimp only; omega⟩, h3'⟩

end Go.Proofs.YtcipidfbclohoaaDoor
