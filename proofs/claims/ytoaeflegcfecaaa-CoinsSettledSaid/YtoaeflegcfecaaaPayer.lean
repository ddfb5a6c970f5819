/- The walks of payer and of what it returns. -/
import Derived.Test.YtoaeflegcfecaaaFewest
import Derived.Shelf.Abstract
namespace Go.Proofs.Ytoaeflegcfecaaa
open Go.RowKit

theorem rowF_bound (l : List Tub) (i a : Nat) : 0 ≤ rowF l i a ∧ rowF l i a ≤ 20001 := bestR_bound _ _

/-- Whether an amount can be paid. -/
def paysB (l : List Tub) (a : Nat) : Bool := rowF l l.length a != 20001

/-- What a payer keeps: its box, and its row there. -/
def PayerAt (w : World) (base : Nat) (l : List Tub) (N B : Nat) : Prop :=
  ∃ g c, w.cell? ⟨B, 0, none⟩ = some (.slice (some ⟨g, 0, none⟩) N c) ∧ Rd w 1 (some ⟨g, 0, none⟩) N (ints (fl N (rowF l l.length))) ∧ base ≤ B
theorem PayerAt.grown {w w' : World} {base N B : Nat} {l : List Tub} (h : PayerAt w base l N B) (hg : w.grownBy w' none) : PayerAt w' base l N B := by
  obtain ⟨g, c, h1, h2, h3⟩ := h
  exact ⟨g, c, hg.cell h1 (by simp), h2.grown hg, h3⟩

set_option maxHeartbeats 400000 in
theorem payer1_any (l : List Tub) (N B base a : Nat) (w : World) (h : PayerAt w base l N B) (ha : a < N) :
    Calls Try.prog 71 #[.int .i64 a, .pointer (some ⟨B, 0, none⟩)] w fun e w' => e = .returned (.bool (paysB l a)) ∧ w = w' := by
  obtain ⟨g, c, h1, h2, h3⟩ := h
  obtain ⟨b, off, hb, hbl, x, hx, c0⟩ := int_cells h2 ha
  cases hb
  rw [Nat.zero_add] at c0
  rw [fl_at _ ha] at hx
  have hx' : rowF l l.length a = x := by simpa using hx
  have hp : paysB l a = (x != 20001) := by unfold paysB; rw [hx']
  rw [hp]
  have ha' : (a : Int) < (N : Int) := by omega
  clear hx hx' hp h2
  go_enter Try.func71, Try.ntmps71
  go_wp2_with fail
  go_ret
  exact ⟨rfl, rfl⟩

set_option maxHeartbeats 400000 in
theorem payer_any (A : Option Addr) (n c : Nat) (l : List Tub) (most : Nat) (w : World) (hr : Rd w 3 A n (tubFlat l)) (hf : tubFault l = 0) (hm : most ≤ 20000) :
    Calls Try.prog 52 #[.slice A n c, .int .i64 most] w
      fun e w' => ∃ B, e = .returned (.func (.func 71) #[] #[.pointer (some ⟨B, 0, none⟩)]) ∧ PayerAt w' w.heap.size l (most + 1) B ∧ w.grownBy w' none := by
  have hl : l.length = n := by have := hr.1; rw [tubFlat_len] at this; omega
  have HL := Lib.hid hl
  have hfw := fewest_any A n c l most w hr hf hm
  have HF := Lib.hid hfw
  have hmf : ∀ (fn : Fn) (first cap : Array Value) (w : World), (Instr.makeFunc fn first cap).run Try.prog w = .ok (.func fn first cap) w := fun _ _ _ _ => rfl
  clear hfw hf hl
  go_enter Try.func52, Try.ntmps52
  go_wp2_with fail
  refine HF.out.mono ?_
  rintro e w1 ⟨v, vals, rfl, hown, hok, hg1⟩
  obtain ⟨gr, capr, rfl, hgr1, hgr2⟩ := hown.form (by omega)
  obtain ⟨gi, ci, hvi, hoi⟩ := hok.2 n (by omega)
  have cR := hown.cellAt n (by omega)
  rw [hvi] at cR
  have hrd := own_rd hoi
  have hHV := Lib.hid hvi
  have hs1 := hg1.size
  clear hvi hown hok hoi
  have hnn : (n : Int) < (n : Int) + 1 := by omega
  go_wp2_with fail
  go_ret
  refine ⟨_, rfl, ⟨gi, ci, by rw [World.cell?_alloc_new]; rfl, ?_, hs1⟩, grown_alloc hg1 _⟩
  rw [HL.out]
  exact hrd.grown (grown_alloc (grown_refl _) _)

end Go.Proofs.Ytoaeflegcfecaaa
