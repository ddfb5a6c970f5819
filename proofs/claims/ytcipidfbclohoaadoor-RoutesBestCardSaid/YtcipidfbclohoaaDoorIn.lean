/- The law's argument: a slice of numbers that came in; the stream made of it. -/
import Derived.Test.YtcipidfbclohoaaDoorStream
namespace Go.Proofs.YtcipidfbclohoaaDoor
open Go.RowKit

/-- A slice of numbers that came in: nil, or a row of cells (its spare ones too). -/
def InRow (w : World) (a : Option Addr) (len cap : Nat) (zs : List Int) : Prop :=
  (a = none ∧ len = 0 ∧ cap = 0 ∧ zs = []) ∨
  ∃ x, a = some x ∧ len ≤ cap ∧ cap ≤ maxLen ∧ zs.length = cap ∧ ∀ i, i < zs.length → w.cell? (x.add i) = some (.int .i64 (zs.getD i 0))

theorem str_start {w : World} {a : Option Addr} {len cap : Nat} {zs : List Int} (h : InRow w a len cap zs) :
    (zs.take len).length = len ∧ Str (w.alloc (.cells #[.slice a len cap, .int .i64 0] 25)) w.heap.size (zs.take len) 0 := by
  rcases h with ⟨rfl, rfl, rfl, rfl⟩ | ⟨x, rfl, hl, hm, hz, hc⟩
  · refine ⟨rfl, none, 0, ?_, by simp, fun h => absurd rfl h⟩
    simpa using heap_alloc_new w _
  · have hlen : (zs.take len).length = len := by rw [List.length_take]; omega
    refine ⟨hlen, some x, cap, ?_, by omega, fun hne => ?_⟩
    · rw [hlen]; simpa using heap_alloc_new w _
    · obtain ⟨b, off, spot⟩ := x
      have hp : 0 < len := by
        rcases Nat.eq_zero_or_pos len with h | h
        · subst h; exact absurd (by simp) hne
        · exact h
      have h0 := hc 0 (by omega)
      have hs : spot = none := by simpa [Addr.add] using World.cell?_spot h0
      subst hs
      have hb : b < w.heap.size := World.block_lt_of_cell? w _ (by simpa [Addr.add] using h0)
      refine ⟨b, off, rfl, hb, trivial, fun j y hy => ?_⟩
      have hj : j < len := by have := (List.getElem?_eq_some_iff.1 hy).1; omega
      rw [World.cell?_alloc_lt _ _ _ hb]
      have hcj := hc j (by omega)
      rw [addp] at hcj
      rw [hcj]
      rw [List.getElem?_take, if_pos hj] at hy
      simp [List.getD, hy]

/-- A stream made later, beside others. -/
theorem str_new {Q : Nat → Prop} {w w2 : World} {a : Option Addr} {len cap : Nat} {zs : List Int} (h : InRow w a len cap zs) (hg : w.grownBy w2 none) (hQ : ∀ b, b < w.heap.size → Q b) :
    StrQ Q (w2.alloc (.cells #[.slice a len cap, .int .i64 0] 25)) w2.heap.size (zs.take len) 0 := by
  rcases h with ⟨rfl, rfl, rfl, rfl⟩ | ⟨x, rfl, hl, hm, hz, hc⟩
  · refine ⟨none, 0, ?_, by simp, fun h => absurd rfl h⟩
    simpa using heap_alloc_new w2 _
  · have hlen : (zs.take len).length = len := by rw [List.length_take]; omega
    refine ⟨some x, cap, ?_, by omega, fun hne => ?_⟩
    · rw [hlen]; simpa using heap_alloc_new w2 _
    · obtain ⟨b, off, spot⟩ := x
      have hp : 0 < len := by
        rcases Nat.eq_zero_or_pos len with h | h
        · subst h; exact absurd (by simp) hne
        · exact h
      have h0 := hc 0 (by omega)
      have hs : spot = none := by simpa [Addr.add] using World.cell?_spot h0
      subst hs
      have hb : b < w.heap.size := World.block_lt_of_cell? w _ (by simpa [Addr.add] using h0)
      have hsz := hg.size
      refine ⟨b, off, rfl, by omega, hQ b hb, fun j y hy => ?_⟩
      have hj : j < len := by have := (List.getElem?_eq_some_iff.1 hy).1; omega
      have hcj := hc j (by omega)
      rw [addp] at hcj
      have hcj2 := hg.cell hcj (by simp)
      rw [World.cell?_alloc_lt _ _ _ (by show b < w2.heap.size; omega)]
      rw [hcj2]
      rw [List.getElem?_take, if_pos hj] at hy
      simp [List.getD, hy]

end Go.Proofs.YtcipidfbclohoaaDoor
