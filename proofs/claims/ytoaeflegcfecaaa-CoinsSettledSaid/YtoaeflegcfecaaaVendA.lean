/- The walks of package vend's checks: between, CheckTubes. -/
import Derived.Test.YtoaeflegcfecaaaProg
import Derived.Test.YtoaeflegcfecaaaTerms
namespace Go.Proofs.Ytoaeflegcfecaaa
open Go.RowKit

structure Tub where
  v : Int
  c : Int
  m : Int

def tubCells (t : Tub) : List Value := [.int .i64 t.v, .int .i64 t.c, .int .i64 t.m]
def tubFlat (l : List Tub) : List Value := l.flatMap tubCells

theorem tubFlat_len (l : List Tub) : (tubFlat l).length = l.length * 3 := by
  induction l with
  | nil => rfl
  | cons a l ih => simp [tubFlat, tubCells] at *; omega

theorem tubFlat_at (l : List Tub) (k j : Nat) (h : k < l.length) (hj : j < 3) :
    (tubFlat l)[k * 3 + j]? = (tubCells l[k])[j]? := by
  induction l generalizing k with
  | nil => simp at h
  | cons a l ih =>
    cases k with
    | zero =>
      simp only [tubFlat, List.flatMap_cons, List.getElem_cons_zero, Nat.zero_mul, Nat.zero_add]
      exact List.getElem?_append_left (by simp [tubCells]; omega)
    | succ k =>
      have := ih k (by simpa using h)
      have e : (k + 1) * 3 + j = 3 + (k * 3 + j) := by omega
      simp only [tubFlat, List.flatMap_cons] at *
      rw [e, List.getElem?_append_right (by simp [tubCells])]
      have e3 : 3 + (k * 3 + j) - (tubCells a).length = k * 3 + j := by simp [tubCells]
      rw [e3]
      simpa using this

/-- The cells of element k, in a world in which the slice reads as tubes. -/
theorem tub_cells {w : World} {A : Option Addr} {n : Nat} {l : List Tub} (h : Rd w 3 A n (tubFlat l)) {k : Nat} (hk : k < n) :
    ∃ b off, A = some ⟨b, off, none⟩ ∧ b < w.heap.size ∧ ∃ t, l[k]? = some t ∧ w.cell? ⟨b, off + k * 3, none⟩ = some (.int .i64 t.v) ∧ w.cell? ⟨b, off + k * 3 + 1, none⟩ = some (.int .i64 t.c) ∧ w.cell? ⟨b, off + k * 3 + 2, none⟩ = some (.int .i64 t.m) := by
  have hl : l.length = n := by have := h.1; rw [tubFlat_len] at this; omega
  obtain ⟨b, off, e, hb, hc⟩ := h.2 (by omega)
  have hk' : k < l.length := by omega
  refine ⟨b, off, e, hb, l[k], List.getElem?_eq_getElem hk', ?_, ?_, ?_⟩
  · exact hc (k * 3 + 0) _ (tubFlat_at l k 0 hk' (by omega))
  · rw [Nat.add_assoc]; exact hc (k * 3 + 1) _ (tubFlat_at l k 1 hk' (by omega))
  · rw [Nat.add_assoc]; exact hc (k * 3 + 2) _ (tubFlat_at l k 2 hk' (by omega))

/-- What CheckTubes says from here on; prev: the value before. -/
def tubFrom (prev : Option Int) : List Tub → Int
  | [] => 0
  | t :: r => if btw t.v 1 10000 = false then 1 else if prev.any (fun p => decide (t.v ≤ p)) = true then 7 else
      if btw t.m 0 1000 = false then 1 else if btw t.c 0 t.m = false then 1 else tubFrom (some t.v) r
def tubFault (l : List Tub) : Int := if 10 < l.length then 2 else tubFrom none l

def prevAt (l : List Tub) (j : Nat) : Option Int := if j = 0 then none else (l[j-1]?).map (·.v)
def TubInv (l : List Tub) (j : Nat) : Prop := tubFrom (prevAt l j) (l.drop j) = tubFault l

theorem TubInv.start {l : List Tub} (h : l.length ≤ 10) : TubInv l 0 := by
  unfold TubInv tubFault; rw [if_neg (by omega)]; simp [prevAt]
theorem TubInv.done {l : List Tub} {j : Nat} (h : TubInv l j) (hj : j = l.length) : tubFault l = 0 := by
  unfold TubInv at h; subst hj; rw [← h]; simp [tubFrom]
theorem TubInv.r1 {l : List Tub} {j : Nat} {t : Tub} (h : TubInv l j) (ht : l[j]? = some t) (h1 : btw t.v 1 10000 = false) : tubFault l = 1 := by
  unfold TubInv at h; rw [← h, drop_at ht]; simp [tubFrom, h1]
theorem TubInv.r7 {l : List Tub} {p : Nat} {t t' : Tub} (h : TubInv l (p + 1)) (ht : l[p + 1]? = some t) (ht' : l[p]? = some t') (h1 : btw t.v 1 10000 = true) (h2 : t.v ≤ t'.v) : tubFault l = 7 := by
  unfold TubInv at h; rw [← h, drop_at ht]; simp [tubFrom, h1, prevAt, ht', h2]
def PrevOk (l : List Tub) (j : Nat) (t : Tub) : Prop := (prevAt l j).any (fun p => decide (t.v ≤ p)) = false
theorem PrevOk.zero (l : List Tub) (t : Tub) : PrevOk l 0 t := by simp [PrevOk, prevAt]
theorem PrevOk.succ {l : List Tub} {p : Nat} {t t' : Tub} (ht' : l[p]? = some t') (h : t'.v < t.v) : PrevOk l (p + 1) t := by
  simp [PrevOk, prevAt, ht']; omega
theorem TubInv.rm {l : List Tub} {j : Nat} {t : Tub} (h : TubInv l j) (ht : l[j]? = some t) (h1 : btw t.v 1 10000 = true) (hp : PrevOk l j t) (h2 : btw t.m 0 1000 = false) : tubFault l = 1 := by
  unfold TubInv at h; rw [← h, drop_at ht]; simp [tubFrom, h1, h2, show (prevAt l j).any (fun p => decide (t.v ≤ p)) = false from hp]
theorem TubInv.rc {l : List Tub} {j : Nat} {t : Tub} (h : TubInv l j) (ht : l[j]? = some t) (h1 : btw t.v 1 10000 = true) (hp : PrevOk l j t) (h2 : btw t.m 0 1000 = true) (h3 : btw t.c 0 t.m = false) : tubFault l = 1 := by
  unfold TubInv at h; rw [← h, drop_at ht]; simp [tubFrom, h1, h2, h3, show (prevAt l j).any (fun p => decide (t.v ≤ p)) = false from hp]
theorem TubInv.next {l : List Tub} {j : Nat} {t : Tub} (h : TubInv l j) (ht : l[j]? = some t) (h1 : btw t.v 1 10000 = true) (hp : PrevOk l j t) (h2 : btw t.m 0 1000 = true) (h3 : btw t.c 0 t.m = true) : TubInv l (j + 1) := by
  have hn : prevAt l (j + 1) = some t.v := by simp [prevAt, ht]
  unfold TubInv at h ⊢; rw [← h, drop_at ht, hn]; simp [tubFrom, h1, h2, h3, show (prevAt l j).any (fun p => decide (t.v ≤ p)) = false from hp]

set_option maxHeartbeats 400000 in
theorem checkTubes_any (A : Option Addr) (n c : Nat) (l : List Tub) (w : World) (hr : Rd w 3 A n (tubFlat l)) :
    Calls Try.prog 11 #[.slice A n c] w fun e w' => e = .returned (.int .i64 (tubFault l)) ∧ w.grownBy w' none := by
  have hl : l.length = n := by have := hr.1; rw [tubFlat_len] at this; omega
  by_cases h10 : 10 < n
  · go_enter Try.func11, Try.ntmps11
    go_wp2
    go_ret
    exact ⟨by simp [tubFault, hl, h10], grown_refl w⟩
  · have h10' : n ≤ 10 := by omega
    clear h10
    have hS : TubInv l 0 := TubInv.start (by omega)
    have HL := Lib.hid hl
    clear hl
    go_enter Try.func11, Try.ntmps11
    go_wp2
    go_loopg [10] n (fun k i wr => ∃ j : Nat, k + j = n ∧ i = .int .i64 j ∧ w.grownBy wr none ∧ TubInv l j)
    case atStart => exact ⟨0, by omega, rfl, grown_refl w, hS⟩
    case round =>
      obtain ⟨j, hj, rfl, hg, H⟩ := hrel
      by_cases hlt : j < n
      · obtain ⟨b, off, rfl, hb, t, ht, c0, c1, c2⟩ := tub_cells (hr.grown hg) hlt
        have HT := Lib.hid ht
        clear ht
        have HJ := Lib.hid hj
        clear hj
        by_cases h1 : btw t.v 1 10000 = true
        · by_cases hj0 : j = 0
          · subst hj0
            simp only [Nat.zero_mul, Nat.add_zero] at c0 c1 c2
            go_wp2_with (go_at_call 48; refine (between_any _ _ _ _).mono ?_; rintro e w' ⟨rfl, rfl⟩)
            go_quiet (fail)
            go_wp2_with (go_at_call 48; refine (between_any _ _ _ _).mono ?_; rintro e w' ⟨rfl, rfl⟩)
            · have h3 : (!btw t.c 0 t.m) = true := by assumption
              have h2 : btw t.m 0 1000 = true := by assumption
              go_ret
              exact ⟨retI (H.rc HT.out h1 (PrevOk.zero l t) h2 (by simpa using h3)).symm, grown_drewN (grown_alloc hg _) _⟩
            · have h3 : (!btw t.c 0 t.m) = false := by assumption
              have h2 : btw t.m 0 1000 = true := by assumption
              have hj := HJ.out
              go_roundg (gk - 1)
              case measure => omega
              case rel => exact ⟨1, by omega, by go_num, grown_drewN (grown_alloc hg _) _, H.next HT.out h1 (PrevOk.zero l t) h2 (by simpa using h3)⟩
            · have h2 : ¬ btw t.m 0 1000 = true := by assumption
              go_ret
              exact ⟨retI (H.rm HT.out h1 (PrevOk.zero l t) (by simpa using h2)).symm, grown_drewN (grown_alloc hg _) _⟩
          · obtain ⟨p, rfl⟩ : ∃ p, j = p + 1 := ⟨j - 1, by omega⟩
            obtain ⟨b', off', e', _, t', ht', d0, _, _⟩ := tub_cells (hr.grown hg) (k := p) (by omega)
            obtain ⟨rfl, rfl⟩ : b = b' ∧ off = off' := by simpa using e'
            have HT' := Lib.hid ht'
            clear ht' e' hj0
            by_cases h2 : t.v ≤ t'.v
            · go_wp2_with (go_at_call 48; refine (between_any _ _ _ _).mono ?_; rintro e w' ⟨rfl, rfl⟩)
              go_quiet (fail)
              go_wp2_with (go_at_call 48; refine (between_any _ _ _ _).mono ?_; rintro e w' ⟨rfl, rfl⟩)
              go_ret
              exact ⟨retI (H.r7 HT.out HT'.out h1 h2).symm, grown_drewN (grown_alloc hg _) _⟩
            · go_wp2_with (go_at_call 48; refine (between_any _ _ _ _).mono ?_; rintro e w' ⟨rfl, rfl⟩)
              go_quiet (fail)
              go_wp2_with (go_at_call 48; refine (between_any _ _ _ _).mono ?_; rintro e w' ⟨rfl, rfl⟩)
              · have h3 : (!btw t.c 0 t.m) = true := by assumption
                have h2 : btw t.m 0 1000 = true := by assumption
                go_ret
                exact ⟨retI (H.rc HT.out h1 (PrevOk.succ HT'.out (by omega)) h2 (by simpa using h3)).symm, grown_drewN (grown_alloc hg _) _⟩
              · have h3 : (!btw t.c 0 t.m) = false := by assumption
                have h2 : btw t.m 0 1000 = true := by assumption
                have hj := HJ.out
                go_roundg (gk - 1)
                case measure => omega
                case rel => exact ⟨p + 1 + 1, by omega, by go_num, grown_drewN (grown_alloc hg _) _, H.next HT.out h1 (PrevOk.succ HT'.out (by omega)) h2 (by simpa using h3)⟩
              · have h2 : ¬ btw t.m 0 1000 = true := by assumption
                go_ret
                exact ⟨retI (H.rm HT.out h1 (PrevOk.succ HT'.out (by omega)) (by simpa using h2)).symm, grown_drewN (grown_alloc hg _) _⟩
        · have h1' : btw t.v 1 10000 = false := by simpa using h1
          go_wp2_with (go_at_call 48; refine (between_any _ _ _ _).mono ?_; rintro e w' ⟨rfl, rfl⟩)
          go_ret
          exact ⟨retI (H.r1 HT.out h1').symm, grown_alloc hg _⟩
      · obtain rfl : j = n := by omega
        go_wp2
        go_ret
        exact ⟨retI (H.done HL.out.symm).symm, hg⟩

end Go.Proofs.Ytoaeflegcfecaaa
