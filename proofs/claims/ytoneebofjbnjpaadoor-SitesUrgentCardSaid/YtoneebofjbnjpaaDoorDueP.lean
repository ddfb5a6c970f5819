/- Which sites are due: as lists; rows of strings that the call makes. -/
import Derived.Test.YtoneebofjbnjpaaDoorStD
import Derived.Test.YtoneebofjbnjpaaDoorLeftR
namespace Go.Proofs.YtoneebofjbnjpaaDoor
open Go.RowKit

def LexN (ls : List Int) (x y : Nat) : Prop := ls.getD x 0 < ls.getD y 0 ∨ (ls.getD x 0 = ls.getD y 0 ∧ x < y)
theorem lexN_asym (ls : List Int) (x y : Nat) (h : LexN ls x y) : ¬ LexN ls y x := by unfold LexN at *; omega
/-- Those of the first j whose number is at most d. -/
def idxTo (ls : List Int) (d : Int) (j : Nat) : List Nat := (List.range j).filter fun i => decide (ls.getD i 0 ≤ d)
theorem idxTo_succ (ls : List Int) (d : Int) (j : Nat) : idxTo ls d (j + 1) = if ls.getD j 0 ≤ d then idxTo ls d j ++ [j] else idxTo ls d j := by
  unfold idxTo
  rw [List.range_succ, List.filter_append]
  split <;> simp_all
theorem idxTo_len (ls : List Int) (d : Int) (j : Nat) : (idxTo ls d j).length ≤ j := by
  unfold idxTo
  exact Nat.le_trans (List.length_filter_le _ _) (by simp)
theorem idxTo_lt {ls : List Int} {d : Int} {j i : Nat} (h : i ∈ idxTo ls d j) : i < j := by
  unfold idxTo at h
  rw [List.mem_filter] at h
  simpa using h.1
theorem range_pw : ∀ n : Nat, (List.range n).Pairwise (· < ·)
  | 0 => List.Pairwise.nil
  | n + 1 => by
    rw [List.range_succ, List.pairwise_append]
    exact ⟨range_pw n, List.pairwise_singleton _ _, fun a ha b hb => by simp at ha hb; omega⟩
theorem idxTo_pw (ls : List Int) (d : Int) (j : Nat) : (idxTo ls d j).Pairwise (· < ·) := (range_pw j).filter _
def dueIn (ls : List Int) (e i : Nat) : List Nat := (List.range i).filter fun x => decide (ls.getD x 0 = (e : Int))
theorem dueIn_succ (ls : List Int) (e j : Nat) : dueIn ls e (j + 1) = if ls.getD j 0 = (e : Int) then dueIn ls e j ++ [j] else dueIn ls e j := by
  unfold dueIn
  rw [List.range_succ, List.filter_append]
  split <;> simp_all
def dueT (ls : List Int) (n t : Nat) : List Nat := (List.range t).flatMap fun e => dueIn ls e n
theorem dueT_succ (ls : List Int) (n t : Nat) : dueT ls n (t + 1) = dueT ls n t ++ dueIn ls t n := by
  unfold dueT
  rw [List.range_succ, List.flatMap_append]
  simp
theorem dueIn_len (ls : List Int) (e i : Nat) : (dueIn ls e i).length ≤ i := by
  unfold dueIn
  exact Nat.le_trans (List.length_filter_le _ _) (by simp)
theorem dueT_len (ls : List Int) (n : Nat) : ∀ t, (dueT ls n t).length ≤ t * n
  | 0 => by simp [dueT]
  | t + 1 => by
    rw [dueT_succ, List.length_append, Nat.succ_mul]
    have := dueT_len ls n t
    have := dueIn_len ls t n
    omega
theorem dueT_mem (ls : List Int) (n : Nat) (x : Nat) : ∀ t, x ∈ dueT ls n t ↔ x < n ∧ ∃ e : Nat, e < t ∧ ls.getD x 0 = (e : Int)
  | 0 => by simp [dueT]
  | t + 1 => by
    rw [dueT_succ, List.mem_append, dueT_mem ls n x t]
    unfold dueIn
    simp only [List.mem_filter, List.mem_range, decide_eq_true_eq]
    constructor
    · rintro (⟨h1, e, h2, h3⟩ | ⟨h1, h2⟩)
      · exact ⟨h1, e, by omega, h3⟩
      · exact ⟨h1, t, by omega, h2⟩
    · rintro ⟨h1, e, h2, h3⟩
      by_cases h : e = t
      · subst h; exact .inr ⟨h1, h3⟩
      · exact .inl ⟨h1, e, by omega, h3⟩
theorem dueT_pw (ls : List Int) (n : Nat) : ∀ t, (dueT ls n t).Pairwise (LexN ls)
  | 0 => by simp [dueT]
  | t + 1 => by
    rw [dueT_succ, List.pairwise_append]
    refine ⟨dueT_pw ls n t, ?_, ?_⟩
    · have h := (range_pw n).filter fun x => decide (ls.getD x 0 = (t : Int))
      refine List.Pairwise.imp_of_mem (fun {a b} ha hb hab => ?_) h
      unfold dueIn at ha hb
      rw [List.mem_filter] at ha hb
      have h1 := of_decide_eq_true ha.2
      have h2 := of_decide_eq_true hb.2
      exact .inr ⟨by rw [h1, h2], hab⟩
    · intro a ha b hb
      obtain ⟨_, e, he, h1⟩ := (dueT_mem ls n a t).1 ha
      unfold dueIn at hb
      rw [List.mem_filter] at hb
      have h2 := of_decide_eq_true hb.2
      exact .inl (by omega)
theorem due_same {ls : List Int} {n d : Nat} {S : List Nat} (hb : ∀ i, i < n → 0 ≤ ls.getD i 0) (hp : S.Perm (idxTo ls d n)) (hs : S.Pairwise (LexN ls)) : S = dueT ls n (d + 1) := by
  refine sorted_ext (lexN_asym ls) _ _ hs (dueT_pw ls n (d + 1)) (fun x => ?_)
  rw [hp.mem_iff, dueT_mem]
  unfold idxTo
  rw [List.mem_filter, List.mem_range]
  simp only [decide_eq_true_eq]
  constructor
  · rintro ⟨h1, h2⟩
    have := hb x h1
    exact ⟨h1, (ls.getD x 0).toNat, by omega, by omega⟩
  · rintro ⟨h1, e, h2, h3⟩
    exact ⟨h1, by omega⟩
theorem fin_of (m : Nat) : ∀ l : List Nat, (∀ x ∈ l, x < m + 1) → ∃ zs : List (Fin (m + 1)), zs.map Fin.val = l
  | [], _ => ⟨[], rfl⟩
  | a :: l, h => by
    obtain ⟨zs, hz⟩ := fin_of m l (fun x hx => h x (List.mem_cons_of_mem _ hx))
    exact ⟨⟨a, h a (by simp)⟩ :: zs, by simp [hz]⟩
def natI (l : List Nat) : List Int := l.map Int.ofNat
theorem natI_len (l : List Nat) : (natI l).length = l.length := by simp [natI]
theorem encN_map (m : Nat) (zs : List (Fin (m + 1))) : zs.map (encN m) = ints (natI (zs.map Fin.val)) := by
  simp [ints, natI]
  intro a _
  rfl
def keysAt (V : List Sit) (l : List Nat) : List ByteArray := l.map fun i => (V.getD i default).k
theorem keysAt_len (V : List Sit) (l : List Nat) : (keysAt V l).length = l.length := by simp [keysAt]

theorem made_strs (w : World) (n : Nat) (hn : n ≤ 1000000) : (w.alloc (.cells (madeCells #[.string ByteArray.empty] n) 9)).ownsRow w.heap.size 9 1 (.slice (some ⟨w.heap.size, 0, none⟩) n n) n (strs (List.replicate n ByteArray.empty)) := by
  have h := World.ownsRow_lit (base := w.heap.size) (size := 1) (e := 9) w (madeCells #[.string ByteArray.empty] n) n (Nat.le_refl _) (by unfold maxLen; omega) (by simp [size_madeCells])
  rw [toList_madeCells_one] at h
  simpa [strs] using h
theorem make_strs (n : Nat) (hn : n ≤ 1000000) (w : World) : (Instr.makeSlice 33 (.int .i64 n) (.int .i64 n)).run Tryd.prog w = .ok (.slice (some ⟨w.heap.size, 0, none⟩) n n) (w.alloc (.cells (madeCells #[.string ByteArray.empty] n) 9)) :=
  run_make_row' (P := Tryd.prog) 33 9 (.string ByteArray.empty) 16 Tryd.underlying33 Tryd.infoStr rfl .i64 .i64 n (by omega) (by omega) w
theorem own_strs {w : World} {base g n cap : Nat} {l : List ByteArray} (h : w.ownsRow base 9 1 (.slice (some ⟨g, 0, none⟩) n cap) n (strs l)) {j : Nat} (hj : j < n) :
    w.cell? ⟨g, j, none⟩ = some (.string (l.getD j ByteArray.empty)) := by
  have hl : l.length = n := by have := h.1; simp [strs] at this; omega
  rw [h.cellAt j (by omega)]
  simp [strs, List.getD, show j < l.length from by omega]
theorem own_strs_set {w : World} {base g n cap : Nat} {l : List ByteArray} (h : w.ownsRow base 9 1 (.slice (some ⟨g, 0, none⟩) n cap) n (strs l)) (j : Nat) (x : ByteArray) :
    (w.setCell ⟨g, j, none⟩ (.string x)).ownsRow base 9 1 (.slice (some ⟨g, 0, none⟩) n cap) n (strs (l.set j x)) := by
  have := (h.stored j (.string x)).1
  simpa [strs, List.map_set] using this
def fillS (X : List ByteArray) (n j : Nat) : List ByteArray := X.take j ++ List.replicate (n - j) ByteArray.empty
theorem fillS_zero (X : List ByteArray) (n : Nat) : fillS X n 0 = List.replicate n ByteArray.empty := by simp [fillS]
theorem fillS_full {X : List ByteArray} {n : Nat} (h : X.length = n) : fillS X n n = X := by
  unfold fillS; rw [Nat.sub_self, List.take_of_length_le (by omega)]; simp
theorem fillS_set {X : List ByteArray} {n j : Nat} {x : ByteArray} (h : X.length = n) (hj : j < n) (hx : X[j]? = some x) : (fillS X n j).set j x = fillS X n (j + 1) := by
  have hl : (X.take j).length = j := by rw [List.length_take]; omega
  unfold fillS
  rw [take_at hx, List.append_assoc, show n - j = (n - (j + 1)) + 1 from by omega, List.replicate_succ]
  generalize X.take j = Y at *
  generalize List.replicate (n - (j + 1)) ByteArray.empty = Z
  subst hl
  simp

end Go.Proofs.YtoneebofjbnjpaaDoor
