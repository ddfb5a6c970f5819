/- Walks of package terms (ranges); a slice of numbers; appends of one number; Pick of some numbers. -/
import Derived.Test.YtcipidfbclohoaaDoorStream
import Derived.OwnWalk
namespace Go.Proofs.YtcipidfbclohoaaDoor
open Go.RowKit
variable {Q : Nat → Prop}

theorem take_at {α : Type} {l : List α} {j : Nat} {t : α} (h : l[j]? = some t) : l.take (j + 1) = l.take j ++ [t] := by
  obtain ⟨hj, e⟩ := List.getElem?_eq_some_iff.1 h
  rw [List.take_succ_eq_append_getElem hj, e]

theorem drop_at {α : Type} {l : List α} {j : Nat} {t : α} (h : l[j]? = some t) : l.drop j = t :: l.drop (j + 1) := by
  obtain ⟨hj, e⟩ := List.getElem?_eq_some_iff.1 h
  rw [List.drop_eq_getElem_cons hj, e]

def btw (n a b : Int) : Bool := decide (a ≤ n) && decide (n ≤ b)

theorem between_any (n a b : Int) (w : World) :
    Calls Tryd.prog 44 #[.int .i64 n, .int .i64 a, .int .i64 b] w fun e w' => e = .returned (.bool (btw n a b)) ∧ w = w' := by
  by_cases h : a ≤ n
  · go_enter Tryd.func44, Tryd.ntmps44
    go_wp2
    go_ret
    exact ⟨by simp [btw, h], rfl⟩
  · have h' : n < a := by omega
    go_enter Tryd.func44, Tryd.ntmps44
    go_wp2
    go_ret
    exact ⟨by simp [btw]; omega, rfl⟩

theorem btw_true {n a b : Int} : btw n a b = true ↔ a ≤ n ∧ n ≤ b := by simp [btw]

/-- allBetween. -/
def allB (l : List Int) (a b : Int) : Bool := l.all fun n => btw n a b

theorem int_cells {w : World} {A : Option Addr} {n : Nat} {l : List Int} (h : Rd w 1 A n (ints l)) {k : Nat} (hk : k < n) :
    ∃ b off, A = some ⟨b, off, none⟩ ∧ b < w.heap.size ∧ ∃ x, l[k]? = some x ∧ w.cell? ⟨b, off + k, none⟩ = some (.int .i64 x) := by
  have hl : l.length = n := by have := h.1; simp [ints] at this; omega
  obtain ⟨b, off, e, hb, hc⟩ := h.2 (by omega)
  have hk' : k < l.length := by omega
  exact ⟨b, off, e, hb, l[k], List.getElem?_eq_getElem hk', hc k _ (by simp [ints, hk'])⟩

theorem allB_step {l : List Int} {a b : Int} {j : Nat} {x : Int} (hx : l[j]? = some x) : allB (l.drop j) a b = (btw x a b && allB (l.drop (j + 1)) a b) := by
  rw [drop_at hx]; simp [allB]


































theorem Tryd.infoInt : (Tryd.prog.info? 3).map (fun i => (i.zero, i.size, i.bytes)) = some (some (.int .i64 0), 1, 8) := by kernel_rfl

theorem rd_new (w : World) (l : List Int) (T : TypeId) : Rd (w.alloc (.cells (ints l).toArray T)) 1 (some ⟨w.heap.size, 0, none⟩) l.length (ints l) :=
  ⟨by simp [ints], fun _ => ⟨w.heap.size, 0, rfl, by simp, fun j u h => by rw [Nat.zero_add, World.cell?_alloc_new]; simpa using h⟩⟩

/-- append(out, y): one number. -/
theorem ap_int {ops : Array Oper} {rest : List Oper} {o : Oper} {a : Act} {Q : Exit → Act → World → Prop} (w : World) (y : Int) (hgd : o.guard = none) (s x : Operand)
    (ho : o.op = .call { callee := .builtin .append, args := #[s, x], argTypes := #[22, 22] }) (base : Nat) (v : Value) (l : List Int)
    (hs : a.eval s = v) (hown : w.ownsRow base 3 1 v l.length (ints l)) (hx : a.eval x = .slice (some ⟨w.heap.size, 0, none⟩) 1 1) (hlen : l.length ≤ 1000000000) (hbase : base ≤ w.heap.size)
    (h : ∀ v' w', w'.ownsRow base 3 1 v' (l ++ [y]).length (ints (l ++ [y])) → (w.alloc (.cells #[.int .i64 y] 3)).grownBy w' v.ownBlock → wpList Tryd.prog ops Q rest (a.put o.dst v') w') :
    wpList Tryd.prog ops Q (o :: rest) a (w.alloc (.cells #[.int .i64 y] 3)) := by
  obtain ⟨i0, hi, hz0, hz1, hz2⟩ := info_parts Tryd.infoInt
  refine wpList_append_own _ hgd s x 22 ho base 3 i0 (.int .i64 0) 1 8 Tryd.underlying22 hi hz0 hz1 hz2 rfl (by decide) v l.length (ints l) hs (hown.alloc _) ⟨w.heap.size, 0, none⟩ 1 1 (ints [y]) hx rfl
    (cells_new w #[.int .i64 y] _) (by simp [ints, Value.oneCell']) (by unfold maxLen; omega) (by omega) (by simp; omega) ?_
  intro v' w' h1 h2 _
  exact h v' w' (by simpa [ints] using h1) h2

/-- What an append onto one's own row leaves alone. -/
theorem ap_grown {wA w w' : World} {r : Option Nat} {base e size n : Nat} {v : Value} {xs : List Value} {o : Obj} (hA : wA.grownBy w r) (hown : w.ownsRow base e size v n xs)
    (hg : (w.alloc o).grownBy w' v.ownBlock) (hbase : wA.heap.size ≤ base) : wA.grownBy w' r :=
  grown_below (grown_alloc hA _) hg (fun j hj => .inl (Nat.le_trans hbase (hown.lt j hj).1))
theorem ap_str {w w' : World} {bs t : Nat} {L : List Int} {base e size n : Nat} {v : Value} {xs : List Value} {o : Obj} (hs : StrQ Q w bs L t) (hown : w.ownsRow base e size v n xs)
    (hg : (w.alloc o).grownBy w' v.ownBlock) (hb : bs < base) : StrQ Q w' bs L t :=
  (hs.grown (grown_alloc (grown_refl w) _) (by simp)).grown hg (fun j hj => by have := (hown.lt j hj).1; omega)

theorem StrQ.far {w : World} {bs : Nat} {L : List Int} {t : Nat} (h : StrQ Q w bs L t) (g : Nat) (hg : bs < g) (i : Nat) (u : Value) : StrQ Q (w.setCell ⟨g, i, none⟩ u) bs L t :=
  h.grown (row := some g) (grown_set (World.grownBy.refl w _) (.inr rfl) u) (fun j hj => by cases hj; exact hg)

/-- One of some numbers. -/
def pk (L : List Int) (t : Nat) (vs : List Int) : Int := vs.getD (nx L t vs.length).toNat 0

theorem pick_lit (bs : Nat) (L : List Int) (t : Nat) (vs : List Int) (w : World) (hs : StrQ Q w bs L t) (ht : t ≤ 1000000) (hl : vs ≠ []) (hl1 : vs.length ≤ 100000) (T : TypeId) :
    Calls Tryd.prog 7 #[.pointer (some ⟨bs, 0, none⟩), .slice (some ⟨w.heap.size, 0, none⟩) vs.length vs.length] (w.alloc (.cells (ints vs).toArray T))
      fun e w' => e = .returned (.int .i64 (pk L t vs)) ∧ StrQ Q w' bs L (t + 1) ∧ w.grownBy w' (some bs) := by
  have hlt := hs.lt
  have h := pick_any bs L t (some ⟨w.heap.size, 0, none⟩) vs.length vs _ (hs.grown (grown_alloc (grown_refl w) (.cells (ints vs).toArray T)) (by simp)) ht hl hl1 (rd_new w vs T)
    (by intro a e; cases e; simp; omega)
  exact h.mono fun e w' ⟨he, h1, h2⟩ => ⟨he, h1, (grown_alloc (World.grownBy.refl w _) _).trans h2⟩

theorem nx_in (L : List Int) (t : Nat) (n : Int) (h : 1 ≤ n) : 0 ≤ nx L t n ∧ nx L t n < n := by
  unfold nx; split <;> exact ⟨belowI_nonneg _ _, belowI_lt _ _ h⟩

theorem pk_mem (L : List Int) (t : Nat) (vs : List Int) (h : vs ≠ []) : pk L t vs ∈ vs := by
  have hp : 0 < vs.length := by cases vs with | nil => exact absurd rfl h | cons => simp
  obtain ⟨h0, h1⟩ := nx_in L t vs.length (by omega)
  unfold pk
  have hk : (nx L t vs.length).toNat < vs.length := by omega
  simp only [List.getD, List.getElem?_eq_getElem hk, Option.getD_some]
  exact List.getElem_mem hk

/-- The cells of the numbers that the call holds. -/
theorem own_int {w : World} {base g n cap : Nat} {l : List Int} (h : w.ownsRow base 3 1 (.slice (some ⟨g, 0, none⟩) n cap) n (ints l)) {j : Nat} (hj : j < n) :
    w.cell? ⟨g, j, none⟩ = some (.int .i64 (l.getD j 0)) := by
  have hl : l.length = n := by have := h.1; simp [ints] at this; omega
  rw [h.cellAt j (by omega)]
  simp [ints, List.getD, show j < l.length from by omega]
theorem own_int_set {w : World} {base g n cap : Nat} {l : List Int} (h : w.ownsRow base 3 1 (.slice (some ⟨g, 0, none⟩) n cap) n (ints l)) (j : Nat) (x : Int) :
    (w.setCell ⟨g, j, none⟩ (.int .i64 x)).ownsRow base 3 1 (.slice (some ⟨g, 0, none⟩) n cap) n (ints (l.set j x)) := by
  have := (h.stored j (.int .i64 x)).1
  simpa [ints, List.map_set] using this

end Go.Proofs.YtcipidfbclohoaaDoor
