/- More walks of package vend: Total, Clone of tubes, settle, Settle, Float; and their callees. -/
import Derived.Test.YtoaeflegcfecaaaApp
namespace Go.Proofs.Ytoaeflegcfecaaa
open Go.RowKit

def RightT (t : Tub) : Prop := 1 ≤ t.v ∧ t.v ≤ 10000 ∧ 0 ≤ t.c ∧ t.c ≤ t.m ∧ t.m ≤ 1000

theorem right_of_from (prev : Option Int) (l : List Tub) (h : tubFrom prev l = 0) : (∀ t ∈ l, RightT t) ∧ (∀ t ∈ l, ∀ p, prev = some p → p < t.v) ∧ l.Pairwise (fun a b => a.v < b.v) := by
  induction l generalizing prev with
  | nil => simp
  | cons t r ih =>
    simp only [tubFrom] at h
    split at h
    · omega
    rename_i h1
    split at h
    · omega
    rename_i h2
    split at h
    · omega
    rename_i h3
    split at h
    · omega
    rename_i h4
    obtain ⟨g1, g2, g3⟩ := ih _ h
    simp only [Bool.not_eq_false] at h1 h3 h4
    rw [btw_true] at h1 h3 h4
    have hp : ∀ p, prev = some p → p < t.v := by
      intro p e; subst e; simp at h2; omega
    refine ⟨?_, ?_, ?_⟩
    · intro x hx
      rcases List.mem_cons.1 hx with rfl | hx
      · exact ⟨h1.1, h1.2, h4.1, h4.2, h3.2⟩
      · exact g1 x hx
    · intro x hx p e
      rcases List.mem_cons.1 hx with rfl | hx
      · exact hp p e
      · have := g2 x hx _ rfl
        have := hp p e
        omega
    · exact List.pairwise_cons.2 ⟨fun x hx => g2 x hx _ rfl, g3⟩

theorem right_of {l : List Tub} (h : tubFault l = 0) : l.length ≤ 10 ∧ (∀ t ∈ l, RightT t) ∧ l.Pairwise (fun a b => a.v < b.v) := by
  unfold tubFault at h
  split at h
  · omega
  · obtain ⟨h1, _, h3⟩ := right_of_from _ _ h
    exact ⟨by omega, h1, h3⟩

def totalOf (l : List Tub) : Int := (l.map fun t => t.v * t.c).sum

theorem totalOf_bound (l : List Tub) (h : ∀ t ∈ l, RightT t) : 0 ≤ totalOf l ∧ totalOf l ≤ l.length * 10000000 := by
  induction l with
  | nil => simp [totalOf]
  | cons t r ih =>
    obtain ⟨h1, h2, h3, h4, h5⟩ := h t (by simp)
    have := ih (fun x hx => h x (by simp [hx]))
    have hp : 0 ≤ t.v * t.c := Int.mul_nonneg (by omega) h3
    have hq : t.v * t.c ≤ 10000 * 1000 := Int.mul_le_mul h2 (by omega) h3 (by omega)
    simp only [totalOf, List.map_cons, List.sum_cons, List.length_cons] at *
    omega

theorem total_take {l : List Tub} {j : Nat} {t : Tub} (h : l[j]? = some t) : totalOf (l.take (j + 1)) = totalOf (l.take j) + t.v * t.c := by
  rw [take_at h]; simp [totalOf]

set_option maxHeartbeats 400000 in
theorem total_ok (A : Option Addr) (n c : Nat) (l : List Tub) (w : World) (hr : Rd w 3 A n (tubFlat l)) (hf : tubFault l = 0) :
    Calls Try.prog 12 #[.slice A n c] w fun e w' => e = .returned (.tuple #[.int .i64 (totalOf l), .int .i64 0]) ∧ w.grownBy w' none := by
  have hl : l.length = n := by have := hr.1; rw [tubFlat_len] at this; omega
  obtain ⟨hlen, hright, _⟩ := right_of hf
  have hn : n ≤ 10 := by omega
  have HF := Lib.hid hf
  have HL := Lib.hid hl
  have HR := Lib.hid hright
  clear hf hl hright
  go_enter Try.func12, Try.ntmps12
  go_wp2_with fail
  refine (checkTubes_any A n c l w hr).mono ?_
  rw [HF.out]
  rintro e w1 ⟨rfl, hg1⟩
  go_wp2_with fail
  go_loopg [5, 15] n (fun k s i wr => ∃ j : Nat, k + j = n ∧ i = .int .i64 j ∧ s = .int .i64 (totalOf (l.take j)) ∧ w.grownBy wr none)
  case atStart => exact ⟨0, by omega, rfl, rfl, hg1⟩
  case round =>
    obtain ⟨j, hj, rfl, rfl, hg⟩ := hrel
    by_cases hlt : j < n
    · obtain ⟨b, off, rfl, hb, t, ht, c0, c1, c2⟩ := tub_cells (hr.grown hg) hlt
      have hsum := total_take ht
      obtain ⟨h1, h2, h3, h4, h5⟩ := HR.out t (List.mem_of_getElem? ht)
      have hp : 0 ≤ t.v * t.c := Int.mul_nonneg (by omega) h3
      have hq : t.v * t.c ≤ 10000 * 1000 := Int.mul_le_mul h2 (by omega) h3 (by omega)
      have hb2 := totalOf_bound (l.take j) (fun x hx => HR.out x (List.mem_of_mem_take hx))
      have hb3 : ((l.take j).length : Int) ≤ 10 := by simp; omega
      generalize totalOf (l.take j) = s at *
      have HS := Lib.hid hsum
      have HJ := Lib.hid hj
      clear hsum hj ht
      go_wp2_with fail
      have hj := HJ.out
      go_roundg (gk - 1)
      case measure => omega
      case rel => exact ⟨j + 1, by omega, by go_num, by rw [HS.out], grown_alloc hg _⟩
    · obtain rfl : j = n := by omega
      go_wp2_with fail
      go_ret2
      exact ⟨by rw [List.take_of_length_le (by have := HL.out; omega)]; rfl, hg⟩

set_option maxHeartbeats 400000 in
theorem total_bad (A : Option Addr) (n c : Nat) (l : List Tub) (w : World) (hr : Rd w 3 A n (tubFlat l)) (hf : tubFault l ≠ 0) :
    Calls Try.prog 12 #[.slice A n c] w fun e w' => e = .returned (.tuple #[.int .i64 0, .int .i64 (tubFault l)]) ∧ w.grownBy w' none := by
  have hb : (tubFault l != 0) = true := by simpa using hf
  have hc := checkTubes_any A n c l w hr
  generalize tubFault l = f at *
  go_enter Try.func12, Try.ntmps12
  clear hf
  have HC := Lib.hid hc
  clear hc
  go_wp2_with fail
  refine HC.out.mono ?_
  rintro e w1 ⟨rfl, hg1⟩
  go_wp2_with fail
  go_ret2
  exact ⟨rfl, hg1⟩

theorem rd_newT (w : World) (t : Tub) (T : TypeId) : Rd (w.alloc (.cells #[.int .i64 t.v, .int .i64 t.c, .int .i64 t.m] T)) 3 (some ⟨w.heap.size, 0, none⟩) 1 (tubFlat [t]) :=
  ⟨by simp [tubFlat, tubCells], fun _ => ⟨w.heap.size, 0, rfl, by simp, fun j u h => by rw [Nat.zero_add, World.cell?_alloc_new]; simpa [tubFlat, tubCells] using h⟩⟩

set_option maxHeartbeats 400000 in
theorem keepVends_any (w : World) :
    Calls Try.prog 45 #[] w fun e w' => e = .returned (.bool true) ∧ w.grownBy w' none := by
  go_enter Try.func45, Try.ntmps45
  go_wp2_with fail
  refine (total_ok _ 1 1 [⟨10, 3, 5⟩] _ (rd_newT w ⟨10, 3, 5⟩ _) (by decide)).mono ?_
  rintro e w1 ⟨rfl, hg1⟩
  rw [show totalOf [⟨10, 3, 5⟩] = 30 from rfl]
  go_wp2_with fail
  go_ret
  exact ⟨rfl, (grown_alloc (grown_refl w) _).trans hg1⟩

/-- slices.Clone of tubes. -/
theorem cloneTubes_any (A : Option Addr) (n c : Nat) (l : List Tub) (w : World) (hr : Rd w 3 A n (tubFlat l)) (hn : n ≤ 100000) :
    Calls Try.prog 61 #[.slice A n c] w fun e w' => ∃ v, e = .returned v ∧ w'.ownsRow w.heap.size 70 3 v n (tubFlat l) ∧ w.grownBy w' none := by
  have e1 := fun (w : World) (a : Option Addr) (n c n' c' : Nat) => Lib.run_eql_slice_nil (P := Try.prog) w 26 70 a n c n' c' Try.underlying26
  rcases A with _ | a
  · have h0 : n = 0 := by
      rcases Nat.eq_zero_or_pos n with h | h
      · exact h
      · obtain ⟨b, off, e, _⟩ := hr.2 h; cases e
    subst h0
    have hl : tubFlat l = [] := List.eq_nil_of_length_eq_zero (by have := hr.1; omega)
    rw [hl]
    clear hl hr
    go_enter Try.func61, Try.ntmps61
    go_wp2_with fail
    go_ret
    exact ⟨_, rfl, World.ownsRow_nil _ _ _ _, grown_refl w⟩
  · obtain ⟨i0, hi, hz0, hz1, hz2⟩ := info_parts Try.infoTube
    have hown : (w.alloc (.cells #[] 70)).ownsRow w.heap.size 70 3 (.slice (some ⟨w.heap.size, 0, none⟩) 0 0) 0 [] :=
      World.ownsRow_lit w #[] 0 (Nat.le_refl _) (by unfold maxLen; omega) rfl
    have hone : ∀ u ∈ tubFlat l, u.oneCell' = true := by
      intro u hu
      obtain ⟨t, _, ht⟩ := List.mem_flatMap.1 hu
      exact tub_one t u ht
    have hnews : ∀ j u, (tubFlat l)[j]? = some u → (w.alloc (.cells #[] 70)).cell? (a.add j) = some u := by
      intro j u hu
      have hj : 0 < n := by
        rcases Nat.eq_zero_or_pos n with h | h
        · have := (List.getElem?_eq_some_iff.1 hu).1; have := hr.1; omega
        · exact h
      obtain ⟨b, off, e, hb, hc⟩ := hr.2 hj
      cases e
      rw [addp, World.cell?_alloc_lt _ _ _ hb]
      exact hc j u hu
    have hlen := hr.1
    have HH := Lib.hid (And.intro hi (And.intro hz0 (And.intro hz1 hz2)))
    have HN := Lib.hid hnews
    have HO := Lib.hid hone
    have HL := Lib.hid hlen
    clear hi hz0 hz1 hz2 hnews hone hlen
    go_enter Try.func61, Try.ntmps61
    go_wp2_with (at_builtin; refine wpList_append_own _ rfl _ _ 26 rfl w.heap.size 70 i0 (.agg #[.int .i64 0, .int .i64 0, .int .i64 0]) 3 24 Try.underlying26 HH.out.1 HH.out.2.1 HH.out.2.2.1 HH.out.2.2.2 rfl (by decide) _ 0 [] rfl hown a n c (tubFlat l) rfl HL.out HN.out HO.out (by unfold maxLen; omega) (by omega) (by simp) ?_; intro v' w' hown' hg' _)
    go_ret
    refine ⟨_, rfl, by simpa using hown', grown_below (grown_alloc (grown_refl w) _) hg' (fun j hj => .inl ?_)⟩
    have h : w.heap.size = j := by injection hj
    omega

end Go.Proofs.Ytoaeflegcfecaaa
