/- A map of the call's own, told by a function of its keys: made, looked up, stored into, deleted from, ranged over. -/
import Derived.Maps.RangeWalk
import Derived.Maps.Ext
import Derived.Test.YtidfhgpjpieajaaDoorMem
namespace Go.Proofs.YtidfhgpjpieajaaDoor
open Go.RowKit Go.Maps

/-- An element reads as itself. -/
def anyE (v : Value) : Option (DataW Value × List MemPlace) := some (.held v, [])

/-- Keys of some kind: as values, and as literals. -/
structure KeyT (P : Program) (k : TypeId) (κ : Type) where
  val : κ → Value
  lit : κ → Lit
  ok : κ → Prop
  keyed : Keyed P k
  rd : ∀ x, ok x → keyOf P k (val x) = some (lit x)
  inv : ∀ v l, keyOf P k v = some l → ∃ x, ok x ∧ v = val x ∧ l = lit x
  inj : ∀ x y, lit x = lit y → x = y

/-- Keys that are strings. -/
def strK {P : Program} {k : TypeId} (hk : P.underlying k = some .string) : KeyT P k ByteArray where
  val := Value.string
  lit := fun s => .string s.data.toList
  ok := fun s => s.size ≤ maxLen
  keyed := string_keyed hk
  rd := fun s hs => by simp [keyOf, hk, mapKey, hs]
  inv := fun v l h => by
    cases v <;> simp [keyOf, hk, mapKey] at h
    exact ⟨_, h.1, rfl, h.2.symm⟩
  inj := fun x y h => by
    injection h with h
    cases x; cases y
    simpa using h

variable {P : Program} {k : TypeId} {κ : Type} {K : KeyT P k κ} {w w' : World} {b r n cnt : Nat} {f : κ → Option Value} {left : κ → Bool}

/-- Block b is a map of at most n entries, that has f x at each key x. -/
def MapF (K : KeyT P k κ) (w : World) (b n : Nat) (f : κ → Option Value) : Prop :=
  ∃ D : DataW Value, w.ownsMap P k anyE b n D ∧ (∀ x v, f x = some v → K.ok x ∧ ∀ zd, D.atKey (K.lit x) zd = .held v) ∧ ∀ x, f x = none → has D (K.lit x) = false

theorem MapF.made (K : KeyT P k κ) (w : World) : MapF K (w.alloc (.map #[] 0)) w.heap.size 0 (fun _ => none) :=
  ⟨_, World.ownsMap_made w P k anyE, fun x v h => (by cases h), fun x _ => rfl⟩
theorem MapF.lt (h : MapF K w b n f) : b < w.heap.size := by obtain ⟨D, h, _⟩ := h; exact h.lt
theorem MapF.kept {row : Option Nat} (h : MapF K w b n f) (hg : w.grownBy w' row) (hne : some b ≠ row) : MapF K w' b n f := by
  obtain ⟨D, h, h1⟩ := h; exact ⟨D, h.kept hg hne, h1⟩
theorem MapF.alloc (h : MapF K w b n f) (o : Obj) : MapF K (w.alloc o) b n f := by obtain ⟨D, h, h1⟩ := h; exact ⟨D, h.alloc o, h1⟩
theorem MapF.mono (h : MapF K w b n f) {m : Nat} (hm : n ≤ m) : MapF K w b m f := by obtain ⟨D, h, h1⟩ := h; exact ⟨D, h.mono hm, h1⟩
theorem MapF.drew (h : MapF K w b n f) : MapF K w.drew b n f := h
theorem MapF.drewN (h : MapF K w b n f) (m : Nat) : MapF K (w.drewN m) b n f := h
theorem MapF.congr {g : κ → Option Value} (h : MapF K w b n f) (e : ∀ x, f x = g x) : MapF K w b n g := by rw [← funext e]; exact h

theorem MapF.look {t e : TypeId} {z : Value} (h : MapF K w b n f) (ht : P.underlying t = some (.map k e)) (hz : (zeroValue e).run P w = .ok z w) {x : κ} (hx : K.ok x) :
    (Instr.lookup t (.map (some b)) (K.val x) false).run P w = .ok ((f x).getD z) w := by
  obtain ⟨D, h, h1, h2⟩ := h
  obtain ⟨v, ps, hrun, hv⟩ := h.lookup K.keyed ht hz (show anyE z = some (.held z, []) from rfl) (K.rd x hx)
  rw [hrun]
  have hv' : DataW.held v = D.atKey (K.lit x) (.held z) := by injection hv with hv; injection hv
  cases hf : f x with
  | none =>
    rw [atKey_of_not_has (h2 x hf)] at hv'
    injection hv' with hv'
    rw [hv']; rfl
  | some u =>
    rw [(h1 x u hf).2] at hv'
    injection hv' with hv'
    rw [hv']; rfl

theorem MapF.look_ok {t e : TypeId} {z : Value} (h : MapF K w b n f) (ht : P.underlying t = some (.map k e)) (hz : (zeroValue e).run P w = .ok z w) {x : κ} (hx : K.ok x) :
    (Instr.lookup t (.map (some b)) (K.val x) true).run P w = .ok (.tuple #[(f x).getD z, .bool (f x).isSome]) w := by
  obtain ⟨D, h, h1, h2⟩ := h
  obtain ⟨v, ps, hrun, hv⟩ := h.look_ok K.keyed ht hz (show anyE z = some (.held z, []) from rfl) (K.rd x hx)
  rw [hrun]
  have hv' : DataW.held v = D.atKey (K.lit x) (.held z) := by injection hv with hv; injection hv
  cases hf : f x with
  | none =>
    rw [atKey_of_not_has (h2 x hf)] at hv'
    injection hv' with hv'
    rw [hv', h2 x hf]; rfl
  | some u =>
    rw [(h1 x u hf).2] at hv'
    injection hv' with hv'
    rw [hv', has_true_of_atKey (h1 x u hf).2]; rfl

open Classical in
/-- f, with v at x. -/
noncomputable def upd (f : κ → Option Value) (x : κ) (v : Option Value) : κ → Option Value := fun y => if y = x then v else f y
theorem upd_same (f : κ → Option Value) (x : κ) (v : Option Value) : upd f x v x = v := by simp [upd]
theorem upd_other (f : κ → Option Value) (x : κ) (v : Option Value) {y : κ} (h : y ≠ x) : upd f x v y = f y := by simp [upd, h]

theorem MapF.put {t e : TypeId} (h : MapF K w b n f) (ht : P.underlying t = some (.map k e)) (hn : n < maxLen) {x : κ} (hx : K.ok x) (v : Value) :
    ∃ w', (Instr.mapUpdate t (.map (some b)) (K.val x) v).run P w = .ok () w' ∧ MapF K w' b (n + 1) (upd f x (some v)) ∧ w.mapTurned w' b := by
  obtain ⟨D, h, h1, h2⟩ := h
  obtain ⟨w', hrun, h3, h4⟩ := h.store K.keyed ht hn (K.rd x hx) (show anyE v = some (.held v, []) from rfl)
  refine ⟨w', hrun, ⟨_, h3, fun y u hy => ?_, fun y hy => ?_⟩, h4⟩
  · by_cases e1 : y = x
    · subst e1
      rw [upd_same] at hy
      cases hy
      exact ⟨hx, fun zd => atKey_put_same h.isMap (K.keyed.key (K.rd y hx)) _ _⟩
    · rw [upd_other _ _ _ e1] at hy
      exact ⟨(h1 y u hy).1, fun zd => by rw [atKey_put_other (fun e2 => e1 (K.inj _ _ e2))]; exact (h1 y u hy).2 zd⟩
  · by_cases e1 : y = x
    · subst e1; rw [upd_same] at hy; cases hy
    · rw [upd_other _ _ _ e1] at hy
      rw [has_put_other (fun e2 => e1 (K.inj _ _ e2))]
      exact h2 y hy

theorem MapF.del {t e : TypeId} (h : MapF K w b n f) (ht : P.underlying t = some (.map k e)) {x : κ} (hx : K.ok x) (ty : TypeId) :
    ∃ w', (Builtin.delete_ #[t, k] ty #[.map (some b), K.val x]).run P w = .ok (.tuple #[]) w' ∧ MapF K w' b n (upd f x none) ∧ w.mapTurned w' b := by
  obtain ⟨D, h, h1, h2⟩ := h
  obtain ⟨w', hrun, h3, h4⟩ := h.drop K.keyed ht (K.rd x hx) ty
  refine ⟨w', hrun, ⟨_, h3, fun y u hy => ?_, fun y hy => ?_⟩, h4⟩
  · by_cases e1 : y = x
    · subst e1; rw [upd_same] at hy; cases hy
    · rw [upd_other _ _ _ e1] at hy
      exact ⟨(h1 y u hy).1, fun zd => by rw [atKey_del_other (fun e2 => e1 (K.inj _ _ e2))]; exact (h1 y u hy).2 zd⟩
  · by_cases e1 : y = x
    · subst e1; exact has_del_same
    · rw [upd_other _ _ _ e1] at hy
      rw [has_del_other (fun e2 => e1 (K.inj _ _ e2))]
      exact h2 y hy

theorem turned_size (h : w.mapTurned w' b) : w'.heap.size = w.heap.size := by
  obtain ⟨es, clock, es', clock', _, rfl⟩ := h
  simp [ChangeMaps.setBlock]

/-- Block r is a range over such a map under way; left says which keys are still to come. -/
def RngF (K : KeyT P k κ) (w : World) (b r n : Nat) (f : κ → Option Value) (left : κ → Bool) (cnt : Nat) : Prop :=
  ∃ (D : DataW Value) (lf : Lit → Bool), w.ranges P k anyE b r n D lf cnt ∧ (∀ x v, f x = some v → K.ok x ∧ ∀ zd, D.atKey (K.lit x) zd = .held v) ∧ (∀ x, f x = none → has D (K.lit x) = false) ∧
    (∀ x, left x = true → (f x).isSome = true) ∧ ∀ x, (f x).isSome = true → lf (K.lit x) = left x

theorem RngF.map (h : RngF K w b r n f left cnt) : MapF K w b n f := by
  obtain ⟨D, lf, h, h1, h2, _⟩ := h; exact ⟨D, h.owns, h1, h2⟩
theorem RngF.left_eq (h : RngF K w b r n f left cnt) : w.rangeLeft b r = cnt := by obtain ⟨D, lf, h, _⟩ := h; exact h.left_eq
theorem RngF.lt (h : RngF K w b r n f left cnt) : r < w.heap.size := by obtain ⟨D, lf, h, _⟩ := h; exact h.lt
theorem RngF.ne (h : RngF K w b r n f left cnt) : r ≠ b := by obtain ⟨D, lf, h, _⟩ := h; exact h.ne
theorem RngF.kept {row : Option Nat} (h : RngF K w b r n f left cnt) (hg : w.grownBy w' row) (hb : some b ≠ row) (hr : some r ≠ row) : RngF K w' b r n f left cnt := by
  obtain ⟨D, lf, h, h1⟩ := h; exact ⟨D, lf, h.kept hg hb hr, h1⟩

/-- 'range m'. -/
theorem wpList_rangeF {ops : Array Oper} {rest : List Oper} {o : Oper} {a : Act} {Q : Exit → Act → World → Prop} (w : World) (hg : o.guard = none) (m : Operand) (t : TypeId) (hop : o.op = Op.range t m) (e : TypeId) (ht : P.underlying t = some (.map k e))
    (K : KeyT P k κ) (b n : Nat) (f : κ → Option Value) (hm : a.eval m = .map (some b)) (h : MapF K w b n f)
    (hK : ∀ w' cnt, RngF K w' b w.heap.size n f (fun x => (f x).isSome) cnt → w.grownBy w' none → w'.heap.size = w.heap.size + 1 → wpList P ops Q rest (a.put o.dst (.pointer (some ⟨w.heap.size, 0, none⟩))) w') :
    wpList P ops Q (o :: rest) a w := by
  obtain ⟨D, h, h1, h2⟩ := h
  refine wpList_range_own w hg m t hop k e K.keyed ht anyE b n D hm h ?_
  intro w' hr hg' hs
  refine hK w' _ ⟨D, _, hr, h1, h2, fun x hx => hx, fun x hx => ?_⟩ hg' hs
  show has D (K.lit x) = (f x).isSome
  rw [hx]
  obtain ⟨v, hv⟩ := Option.isSome_iff_exists.1 hx
  exact has_true_of_atKey (h1 x v hv).2

open Classical in
/-- The step of such a range. -/
theorem wpList_nextF {ops : Array Oper} {rest : List Oper} {o : Oper} {a : Act} {Q : Exit → Act → World → Prop} (w : World) (hg : o.guard = none) (it : Operand) (hop : o.op = Op.next it false)
    (K : KeyT P k κ) (b r n : Nat) (f : κ → Option Value) (left : κ → Bool) (cnt : Nat) (hit : a.eval it = .pointer (some ⟨r, 0, none⟩)) (h : RngF K w b r n f left cnt)
    (hDone : (∀ x, left x = false) → wpList P ops Q rest (a.put o.dst (.tuple #[.bool false])) w)
    (hMore : ∀ x v w' cnt', left x = true → f x = some v → RngF K w' b r n f (fun y => left y && !decide (y = x)) cnt' → cnt' < cnt → w.grownBy w' (some r) → w'.heap.size = w.heap.size →
      (Instr.entry (.pointer (some ⟨r, 0, none⟩))).run P w' = .ok (.tuple #[K.val x, v]) w' → wpList P ops Q rest (a.put o.dst (.tuple #[.bool true, K.val x, v])) w') :
    wpList P ops Q (o :: rest) a w := by
  obtain ⟨D, lf, h, h1, h2, h3, h4⟩ := h
  refine wpList_plain hg fun K' hK' => ?_
  unfold Oper.wp
  rcases h.next K.keyed o.type with ⟨h0, hl, hrun⟩ | ⟨key, v, kl, y, w', cnt', hkey, hlk, hv, hat, hrun, hrg, hlt, hgr, hsz, hen⟩
  · simp [execOp, hop, hit, hrun, Result.andThen]
    refine hK' _ _ (hDone fun x => ?_)
    cases hx : left x with
    | false => rfl
    | true =>
      have := h4 x (h3 x hx)
      rw [hl, hx] at this
      cases this
  · obtain ⟨x, hok, rfl, rfl⟩ := K.inv key kl hkey
    have hy : y.1 = .held v := by
      have : some y = some (DataW.held v, ([] : List MemPlace)) := by rw [← hv]; rfl
      injection this with this
      rw [this]
    have hf : f x = some v := by
      cases hfx : f x with
      | none =>
        have := has_true_of_atKey hat
        rw [h2 x hfx] at this
        cases this
      | some u =>
        have e1 := (h1 x u hfx).2 .nil
        rw [hat, hy] at e1
        injection e1 with e1
        rw [e1]
    have hl : left x = true := by rw [← h4 x (by rw [hf]; rfl)]; exact hlk
    simp [execOp, hop, hit, hrun, Result.andThen]
    refine hK' _ _ (hMore x v w' cnt' hl hf ⟨D, _, hrg, h1, h2, fun z hz => ?_, fun z hz => ?_⟩ hlt hgr hsz hen)
    · rw [Bool.and_eq_true] at hz
      exact h3 z hz.1
    · by_cases e1 : z = x
      · subst e1
        show (lf (K.lit z) && !(K.lit z).sameKey (K.lit z)) = (left z && !decide (z = z))
        rw [WideAt.sameKey_self (K.keyed.key hkey)]
        simp
      · show (lf (K.lit z) && !(K.lit z).sameKey (K.lit x)) = (left z && !decide (z = x))
        rw [sameKey_ne (fun e2 => e1 (K.inj _ _ e2)), h4 z hz]
        simp [e1]

end Go.Proofs.YtidfhgpjpieajaaDoor
