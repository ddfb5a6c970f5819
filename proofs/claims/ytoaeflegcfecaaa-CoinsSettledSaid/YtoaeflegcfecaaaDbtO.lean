/- Rows of pairs: what sorting, storing and cutting leave of a slice of structs of two numbers. -/
import Derived.Sort.OwnSortedInts
import Derived.Shelf.GgSortFunc.RowK
import Derived.Test.YtoaeflegcfecaaaDbtM
import Derived.Test.YtoaeflegcfecaaaSorted
namespace Go.Proofs.Ytoaeflegcfecaaa
open Go.Sort

/-- Pairs as numbers, one after another. -/
def flatP (zs : List (Int × Int)) : List Int := zs.flatMap fun x => [x.1, x.2]
theorem flatP_cons (x : Int × Int) (zs : List (Int × Int)) : flatP (x :: zs) = x.1 :: x.2 :: flatP zs := rfl
theorem flatP_len (zs : List (Int × Int)) : (flatP zs).length = 2 * zs.length := by
  induction zs with
  | nil => rfl
  | cons x zs ih => rw [flatP_cons]; simp [ih]; omega
theorem flatP_at : ∀ (zs : List (Int × Int)) (j : Nat) (x : Int × Int), zs[j]? = some x → (flatP zs)[2 * j]? = some x.1 ∧ (flatP zs)[2 * j + 1]? = some x.2
  | [], j, x, h => by simp at h
  | z :: zs, 0, x, h => by simp at h; subst h; exact ⟨rfl, rfl⟩
  | z :: zs, j + 1, x, h => by
    have h' := flatP_at zs j x (by simpa using h)
    rw [flatP_cons, show 2 * (j + 1) = 2 * j + 1 + 1 from by omega]
    exact h'
theorem flatP_set : ∀ (zs : List (Int × Int)) (k : Nat) (u : Int × Int), flatP (zs.set k u) = ((flatP zs).set (2 * k) u.1).set (2 * k + 1) u.2
  | [], k, u => by simp [flatP]
  | z :: zs, 0, u => rfl
  | z :: zs, k + 1, u => by
    rw [List.set_cons_succ, flatP_cons, flatP_cons, show 2 * (k + 1) = 2 * k + 1 + 1 from by omega, flatP_set zs k u]
    rfl
theorem flatP_take (zs : List (Int × Int)) (k : Nat) : (flatP zs).take (2 * k) = flatP (zs.take k) := by
  induction k generalizing zs with
  | zero => simp [flatP]
  | succ k ih =>
    cases zs with
    | nil => simp [flatP]
    | cons z zs =>
      rw [List.take_succ_cons, flatP_cons, flatP_cons, show 2 * (k + 1) = 2 * k + 1 + 1 from by omega, List.take_succ_cons, List.take_succ_cons, ih]

/-- A pair's two cells. -/
def encP (x : Int × Int) : List Value := [.int .i64 x.1, .int .i64 x.2]

theorem flatK_pairs (zs : List (Int × Int)) : (flatK encP 2 zs.toArray).toList = ints (flatP zs) := by
  apply List.ext_getElem?
  intro t
  by_cases ht : t < 2 * zs.length
  · have h1 : t < (flatK encP 2 zs.toArray).size := by rw [size_flatK]; simp; omega
    have h2 := get_flatK encP 2 zs.toArray t (by rw [size_flatK] at h1; exact h1)
    rw [getElem!_pos _ t h1] at h2
    rw [Array.getElem?_toList, Array.getElem?_eq_getElem h1, h2]
    have hq : t / 2 < zs.length := by omega
    have hg : zs.toArray[t / 2]! = zs[t / 2] := by rw [getElem!_pos _ _ (by simpa using hq)]; simp
    rw [hg]
    obtain ⟨a1, a2⟩ := flatP_at zs (t / 2) zs[t / 2] (List.getElem?_eq_getElem hq)
    rcases Nat.mod_two_eq_zero_or_one t with hm | hm
    · rw [show 2 * (t / 2) = t from by omega] at a1
      simp [ints, a1, hm, encP]
    · rw [show 2 * (t / 2) + 1 = t from by omega] at a2
      simp [ints, a2, hm, encP]
  · rw [List.getElem?_eq_none (by simp; omega), List.getElem?_eq_none (by simp [ints, flatP_len]; omega)]

theorem own_holdsP {w : World} {base g cap n : Nat} {e : TypeId} {zs : List (Int × Int)} (hown : w.ownsRow base e 2 (.slice (some ⟨g, 0, none⟩) n cap) n (ints (flatP zs))) : HoldsK encP 2 w g 0 zs.toArray := by
  rcases hown.2 with ⟨h0, _⟩ | ⟨g', cap', cur, hv, hg, hb, hn, hcap, hcs, ht⟩
  · cases h0
  cases hv
  have hl : 2 * zs.length = n * 2 := by have := hown.1; rw [ints, List.length_map, flatP_len] at this; exact this
  intro t ht'
  rw [size_flatK] at ht'
  simp only [List.size_toArray] at ht'
  refine ⟨?_, by simp [World.frozen?, hb]⟩
  have h1 : (cur.toList.take (n * 2))[t]? = (flatK encP 2 zs.toArray).toList[t]? := by rw [ht, flatK_pairs]
  rw [List.getElem?_take_of_lt (by omega), Array.getElem?_toList, Array.getElem?_toList] at h1
  have h2 : t < (flatK encP 2 zs.toArray).size := by rw [size_flatK]; simp; omega
  simp only [World.cell?, hb, Nat.zero_add, Option.isSome_none, Bool.false_eq_true, if_false]
  rw [h1, Array.getElem?_eq_getElem h2, getElem!_pos _ t h2]
  rfl

theorem own_putP {w : World} {base g cap n k : Nat} {e : TypeId} {zs ts : List (Int × Int)} (hown : w.ownsRow base e 2 (.slice (some ⟨g, 0, none⟩) n cap) n (ints (flatP zs))) (hl : ts.length = zs.length) (os : Array Obj) :
    (grow (putRowK encP 2 (Sort.ahead w k) g 0 ts.toArray) os).ownsRow base e 2 (.slice (some ⟨g, 0, none⟩) n cap) n (ints (flatP ts)) ∧ w.grownBy (grow (putRowK encP 2 (Sort.ahead w k) g 0 ts.toArray) os) (some g) := by
  rcases hown.2 with ⟨h0, _⟩ | ⟨g', cap', cur, hv, hg, hb, hn, hcap, hcs, ht⟩
  · cases h0
  cases hv
  have hl2 : 2 * zs.length = n * 2 := by have := hown.1; rw [ints, List.length_map, flatP_len] at this; exact this
  have hgs : g < w.heap.size := (Array.getElem?_eq_some_iff.1 hb).1
  constructor
  · refine ⟨by rw [ints, List.length_map, flatP_len]; omega, .inr ⟨g, cap, putCells id 0 (flatK encP 2 ts.toArray) cur, rfl, hg, ?_, hn, hcap, by simp [putCells, hcs], ?_⟩⟩
    · rw [heap_grow_old _ _ (by simpa [putRowK] using hgs)]
      simp [putRowK, putRow, mapBlock, Sort.ahead, Array.getElem?_modify, hb, onCells]
    · rw [← flatK_pairs]
      have hlen : (flatK encP 2 ts.toArray).toList.length = n * 2 := by rw [Array.length_toList, size_flatK]; simp; omega
      apply List.ext_getElem?
      intro j
      by_cases hj : j < n * 2
      · have h2 : j < (flatK encP 2 ts.toArray).size := by rw [← Array.length_toList]; omega
        have h3 : j < cur.size := by rw [hcs]; have := Nat.mul_le_mul_right 2 hn; omega
        rw [List.getElem?_take_of_lt hj, Array.getElem?_toList, Array.getElem?_toList]
        rw [size_flatK] at h2
        simp only [List.size_toArray] at h2
        simp [putCells, h3, h2]
      · rw [List.getElem?_eq_none (by simp; omega), List.getElem?_eq_none (by omega)]
  · refine ⟨rfl, rfl, rfl, by simp [putRowK], fun k hk hne => ?_⟩
    rw [heap_grow_old _ _ (by simpa [putRowK] using hk)]
    have : g ≠ k := fun e => hne (by rw [e])
    simp [putRowK, putRow, mapBlock, Sort.ahead, Array.getElem?_modify, this]

theorem own_storeP {w : World} {base g cap n : Nat} {e : TypeId} {zs : List (Int × Int)} (hown : w.ownsRow base e 2 (.slice (some ⟨g, 0, none⟩) n cap) n (ints (flatP zs))) (k : Nat) (x y : Int) :
    ((w.setCell ⟨g, k * 2, none⟩ (.int .i64 x)).setCell ⟨g, k * 2 + 1, none⟩ (.int .i64 y)).ownsRow base e 2 (.slice (some ⟨g, 0, none⟩) n cap) n (ints (flatP (zs.set k (x, y)))) ∧ w.grownBy ((w.setCell ⟨g, k * 2, none⟩ (.int .i64 x)).setCell ⟨g, k * 2 + 1, none⟩ (.int .i64 y)) (some g) := by
  obtain ⟨h1, h2⟩ := hown.stored (k * 2) (.int .i64 x)
  obtain ⟨h3, h4⟩ := h1.stored (k * 2 + 1) (.int .i64 y)
  refine ⟨?_, h2.trans h4⟩
  rw [flatP_set, Nat.mul_comm 2 k]
  simpa [ints, List.map_set] using h3
theorem own_beyond {base g cap n : Nat} {e : TypeId} {xs : List Value} : ∀ (vs : List Value) (o : Nat) (w : World), w.ownsRow base e 2 (.slice (some ⟨g, 0, none⟩) n cap) n xs → n * 2 ≤ o →
    (w.setCells g o vs).ownsRow base e 2 (.slice (some ⟨g, 0, none⟩) n cap) n xs ∧ w.grownBy (w.setCells g o vs) (some g)
  | [], _, w, h, _ => ⟨h, World.grownBy.refl _ _⟩
  | v :: vs, o, w, h, ho => by
    obtain ⟨h1, h2⟩ := h.stored o v
    rw [List.set_eq_of_length_le (by rw [h.1]; exact ho)] at h1
    obtain ⟨h3, h4⟩ := own_beyond vs (o + 1) _ h1 (by omega)
    exact ⟨h3, h2.trans h4⟩

end Go.Proofs.Ytoaeflegcfecaaa
