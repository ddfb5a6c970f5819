/- Slices of slices: the first elements, the last ones. -/
import Derived.Test.YtcipidfbclohoaaDoorMem
namespace Go.Proofs.YtcipidfbclohoaaDoor
open Go.RowKit

/-- s[:q]. -/
theorem win_h {P : Program} {t : TypeId} {w : World} {k n c q : Nat} {A : Option Addr} {xs : List Value} (ht : P.underlying t = some (.slice (P.elem t))) (hz : ∀ w, (sizeOf (P.elem t)).run P w = .ok k w)
    (h : Rd w k A n xs) (hq : q ≤ n) (hn : n ≤ c) : ∃ A', (∀ w, (Instr.slice t (.slice A n c) none (some (.int .i64 q)) none).run P w = .ok (.slice A' q c) w) ∧ Rd w k A' q (xs.take (q * k)) := by
  refine ⟨if c = 0 then A else A.map (·.add (0 * k)), fun w => ?_, ⟨?_, fun h0 => ?_⟩⟩
  · rw [run_slice_h w t A n c ht .i64 (q : Int) (by omega) (by omega), hz]
    simp [Result.andThen, sliced]
  · have := h.1
    have h1 : q * k ≤ n * k := Nat.mul_le_mul_right k hq
    rw [List.length_take]; omega
  · obtain ⟨b, off, rfl, hb, hc⟩ := h.2 (by omega)
    refine ⟨b, off, ?_, hb, fun j u hu => hc j u ?_⟩
    · rw [if_neg (by omega)]; simp [Addr.add]
    · rw [List.getElem?_take] at hu
      split at hu
      · exact hu
      · cases hu

/-- s[q:]. -/
theorem win_l {P : Program} {t : TypeId} {w : World} {k n c q : Nat} {A : Option Addr} {xs : List Value} (ht : P.underlying t = some (.slice (P.elem t))) (hz : ∀ w, (sizeOf (P.elem t)).run P w = .ok k w)
    (h : Rd w k A n xs) (hq : q ≤ n) (hn : n ≤ c) : ∃ A', (∀ w, (Instr.slice t (.slice A n c) (some (.int .i64 q)) none none).run P w = .ok (.slice A' (n - q) (c - q)) w) ∧ Rd w k A' (n - q) (xs.drop (q * k)) := by
  refine ⟨if c = q then A else A.map (·.add (q * k)), fun w => ?_, ⟨?_, fun h0 => ?_⟩⟩
  · rw [run_slice_l w t A n c ht .i64 (q : Int) (by omega) (by omega), hz]
    simp [Result.andThen, sliced]
  · have := h.1
    rw [List.length_drop, this, Nat.sub_mul]
  · obtain ⟨b, off, rfl, hb, hc⟩ := h.2 (by omega)
    refine ⟨b, off + q * k, ?_, hb, fun j u hu => ?_⟩
    · rw [if_neg (by omega)]; simp [Addr.add]
    · rw [List.getElem?_drop] at hu
      rw [Nat.add_assoc]
      exact hc _ u hu

end Go.Proofs.YtcipidfbclohoaaDoor
