/- Iterators: what a round of a range over a function keeps. -/
import Derived.Test.YtcaeochiippdgaaDoorMem
import Derived.Test.YtcaeochiippdgaaDoorBlk
import Derived.RangeFuncNested
import Derived.RangeFuncBox
import Derived.RangeFuncLeaves
import Derived.Shelf.Abstract
import Derived.OwnWalkIn
import Derived.TacticsInMore
import Derived.LoopNIn
import Derived.LoopIn
namespace Go.Proofs.YtcaeochiippdgaaDoor
open Go.RowKit Go.Shelf

/-- What a round keeps: all below n₀, and the variable in box Bs. -/
def BackKp (n₀ Bs : Nat) (W W' : World) : Prop := Below n₀ W W' ∧ ∀ v, W.cell? ⟨Bs, 0, none⟩ = some v → W'.cell? ⟨Bs, 0, none⟩ = some v
theorem BackKp.refl (n₀ Bs : Nat) (W : World) : BackKp n₀ Bs W W := ⟨Below.refl _ _, fun _ h => h⟩
theorem BackKp.trans {n₀ Bs : Nat} {a b c : World} (h : BackKp n₀ Bs a b) (k : BackKp n₀ Bs b c) : BackKp n₀ Bs a c := ⟨h.1.trans k.1, fun v hv => k.2 v (h.2 v hv)⟩
theorem BackKp.put {n₀ Bs : Nat} {w : World} (hn : n₀ ≤ w.heap.size) (W : World) (l : Nat) (o o' : Obj) (hl : w.heap.size ≤ l) (h : W.heap[l]? = some o) (hc : o.isCells = false) (hw : o.isWalk = false) : BackKp n₀ Bs W (W.putObj l o') :=
  ⟨belowK_b hn W l o o' hl h hc hw, fun v hv => cell_kept hv (grownBy_putObj' W l o') (fun r e => by cases e; exact ⟨o, h, hc⟩)⟩

theorem own_row_own {β : Type} (n₀ : Nat) (e : TypeId) (size : Nat) (v : Value) (k : β → Nat) (f : β → List Value) : Own (fun s W => W.ownsRow n₀ e size v (k s) (f s)) := by
  rintro s X Y row hr hg hrow
  refine hr.kept hg ?_
  rcases hr.2 with ⟨rfl, _⟩ | ⟨g, cap, cur, rfl, _, hgb, _⟩
  · exact .inl rfl
  · refine .inr fun e' => ?_
    obtain ⟨o, ho, hc⟩ := hrow g (by simpa [Value.ownBlock] using e'.symm)
    rw [hgb] at ho; cases ho; cases hc

theorem ownFrom_ex {β γ : Type} {B : Nat} {f : γ → β → World → Prop} (h : ∀ v, OwnFrom B (f v)) : OwnFrom B (fun s W => ∃ v, f v s W) := by
  rintro s X Y row ⟨v, hv⟩ hg hr; exact ⟨v, h v s X Y row hv hg hr⟩

/-- A block of cells, known whole, in the caller's invariant. -/
theorem blk_from {β : Type} (B g : Nat) (T : TypeId) (f : β → Array Value) : OwnFrom B (fun s W => Blk W g T (f s)) := by
  rintro s X Y row h hg hr
  exact h.grown hg (fun e => by obtain ⟨_, o, ho, hc⟩ := hr g e.symm; rw [show X.heap[g]? = _ from h] at ho; cases ho; cases hc)
theorem abides_alloc {β : Type} {B : Nat} {J : β → World → Prop} (h : AbidesFrom B J) {s : β} {W : World} (o : Obj) (hs : J s W) : J s (W.alloc o) :=
  h s W _ none hs (World.grownBy_alloc W o none) (fun r e => by cases e)
theorem BackKp.alloc (n₀ Bs : Nat) (W : World) (o : Obj) (h : n₀ ≤ W.heap.size) : BackKp n₀ Bs W (W.alloc o) :=
  ⟨(Below.refl _ W).alloc h _, fun _ hv => (World.cell?_alloc_lt _ _ _ (World.block_lt_of_cell? W _ hv)).trans hv⟩

end Go.Proofs.YtcaeochiippdgaaDoor
