/- The walks of the laws' shelves: what one slot is worth. -/
import Derived.Test.YtcaeochiippdgaaDoorOffX
namespace Go.Proofs.YtcaeochiippdgaaDoor
open Go.RowKit

def kOff : Off := ⟨⟨#[97]⟩, ⟨#[103]⟩, [5], [], []⟩
theorem kOff_ok : offsF [kOff] = 0 ∧ countsF [kOff] [1] = 0 ∧ worthN [kOff] [1] 1 = 5 := by
  have h1 : keyB ⟨#[97]⟩ = true := by decide +kernel
  have h2 : keyB ⟨#[103]⟩ = true := by decide +kernel
  refine ⟨?_, ?_, ?_⟩
  · simp [offsF, offFrom, kOff, h1, offBF, h2, allB, btw, algF, riFrom]
  · simp [countsF, cntFrom, kOff, btw]
  · simp [worthN, kOff]
theorem worth_one (w : World) : Calls Tryd.prog 16 #[.slice (some ⟨w.heap.size + 1, 0, none⟩) 1 1, .slice (some ⟨w.heap.size + 1 + 1, 0, none⟩) 1 1]
    (((w.alloc (.cells #[.int .i64 5] 3)).alloc (.cells #[.string ⟨#[97]⟩, .string ⟨#[103]⟩, .slice (some ⟨w.heap.size, 0, none⟩) 1 1, .slice none 0 0, .slice none 0 0] 53)).alloc (.cells #[.int .i64 1] 3))
    fun e w' => e = .returned (.tuple #[.int .i64 5, .int .i64 0]) ∧ w.grownBy w' none := by
  have hg1 := grown_alloc (grown_refl w) (.cells #[.int .i64 5] 3)
  have hp := rd_new w [5] 3
  obtain ⟨W1, hW1⟩ : ∃ W1, w.alloc (.cells #[.int .i64 5] 3) = W1 := ⟨_, rfl⟩
  have hp' : Rd W1 1 (some ⟨w.heap.size, 0, none⟩) 1 (ints [5]) := by rw [← hW1]; exact hp
  have hs1 : W1.heap.size = w.heap.size + 1 := by rw [← hW1]; simp
  rw [hW1] at hg1 ⊢
  have hg2 := grown_alloc hg1 (.cells #[.string ⟨#[97]⟩, .string ⟨#[103]⟩, .slice (some ⟨w.heap.size, 0, none⟩) 1 1, .slice none 0 0, .slice none 0 0] 53)
  have hs2 : (W1.alloc (.cells #[.string ⟨#[97]⟩, .string ⟨#[103]⟩, .slice (some ⟨w.heap.size, 0, none⟩) 1 1, .slice none 0 0, .slice none 0 0] 53)).heap.size = w.heap.size + 1 + 1 := by simp [hs1]
  have hcs : ∀ j u, (ofCells ⟨⟨#[97]⟩, ⟨#[103]⟩, ⟨some ⟨w.heap.size, 0, none⟩, 1, 1⟩, ⟨none, 0, 0⟩, ⟨none, 0, 0⟩, [5], [], []⟩)[j]? = some u → (W1.alloc (.cells #[.string ⟨#[97]⟩, .string ⟨#[103]⟩, .slice (some ⟨w.heap.size, 0, none⟩) 1 1, .slice none 0 0, .slice none 0 0] 53)).cell? ((⟨W1.heap.size, 0, none⟩ : Addr).add j) = some u := cells_new W1 _ _
  rw [hs1] at hcs
  obtain ⟨W2, hW2⟩ : ∃ W2, W1.alloc (.cells #[.string ⟨#[97]⟩, .string ⟨#[103]⟩, .slice (some ⟨w.heap.size, 0, none⟩) 1 1, .slice none 0 0, .slice none 0 0] 53) = W2 := ⟨_, rfl⟩
  have hp2 : Rd W2 1 (some ⟨w.heap.size, 0, none⟩) 1 (ints [5]) := by rw [← hW2]; exact hp'.grown (grown_alloc (grown_refl W1) _)
  rw [hW2] at hs2 hg2 hcs ⊢
  have hc := rd_new W2 [1] 3
  have hO : RdO W2 0 (some ⟨w.heap.size + 1, 0, none⟩) [kOff] := by
    refine ⟨fun a _ => Nat.zero_le _, [⟨⟨#[97]⟩, ⟨#[103]⟩, ⟨some ⟨w.heap.size, 0, none⟩, 1, 1⟩, ⟨none, 0, 0⟩, ⟨none, 0, 0⟩, [5], [], []⟩], rfl, ⟨rfl, fun _ => ⟨w.heap.size + 1, 0, rfl, by omega, fun j u hu => ?_⟩⟩, ?_⟩
    · have := hcs j u (by simpa [ofFlat] using hu)
      rw [addp] at this
      exact this
    · intro r hr
      simp only [List.mem_cons, List.not_mem_nil, or_false] at hr
      subst hr
      refine ⟨⟨hp2, Nat.le_refl _, by simp [maxLen], fun a _ => Nat.zero_le _⟩, ⟨Rd.nil_ _ _ _, Nat.le_refl _, by simp, fun a h => by cases h⟩, ⟨Rd.nil_ _ _ _, Nat.le_refl _, by simp, fun a h => by cases h⟩⟩
  have hgc := grown_alloc (grown_refl W2) (.cells (ints [1]).toArray 3)
  have h := worth_ok 0 (some ⟨w.heap.size + 1, 0, none⟩) (some ⟨W2.heap.size, 0, none⟩) 1 1 [kOff] [1] _ (hO.grown hgc) hc kOff_ok.1 kOff_ok.2.1
  rw [hs2] at h
  have e : worthN [kOff] [1] [kOff].length = 5 := kOff_ok.2.2
  rw [e] at h
  exact h.mono fun e w' ⟨h1, h2⟩ => ⟨h1, (hg2.trans hgc).trans h2⟩











set_option maxRecDepth 100000 in
theorem keepShelves_any (w : World) : Calls Tryd.prog 6 #[] w fun e w' => e = .returned (.bool true) ∧ w.grownBy w' none := by
  have HC := Lib.hid (worth_one w)
  go_enter Tryd.func6, Tryd.ntmps6
  go_wp2_with fail
  refine HC.out.mono ?_
  rintro e w1 ⟨rfl, hg1⟩
  go_wp2_with fail
  go_ret
  exact ⟨rfl, hg1⟩

end Go.Proofs.YtcaeochiippdgaaDoor
