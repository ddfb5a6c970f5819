/- The walk of slices.Clone over numbers. -/
import Derived.Test.YtcipidfbclohoaaDoorTerms
import Derived.Lib.Slices
namespace Go.Proofs.YtcipidfbclohoaaDoor
open Go.RowKit

theorem ints_one (l : List Int) : ∀ u ∈ ints l, u.oneCell' = true := by
  intro u hu
  obtain ⟨x, _, rfl⟩ := List.mem_map.1 hu
  rfl

/-- slices.Clone of numbers. -/
theorem cloneInts_any (A : Option Addr) (n c : Nat) (l : List Int) (w : World) (hr : Rd w 1 A n (ints l)) (hn : n ≤ 1000000) :
    Calls Tryd.prog 28 #[.slice A n c] w fun e w' => ∃ v, e = .returned v ∧ w'.ownsRow w.heap.size 3 1 v n (ints l) ∧ w.grownBy w' none := by
  have e1 := fun (w : World) (a : Option Addr) (n c n' c' : Nat) => Lib.run_eql_slice_nil (P := Tryd.prog) w 22 3 a n c n' c' Tryd.underlying22
  rcases A with _ | a
  · have h0 : n = 0 := by
      rcases Nat.eq_zero_or_pos n with h | h
      · exact h
      · obtain ⟨b, off, e, _⟩ := hr.2 h; cases e
    subst h0
    have hl : ints l = [] := List.eq_nil_of_length_eq_zero (by have := hr.1; omega)
    rw [hl]
    clear hl hr
    go_enter Tryd.func28, Tryd.ntmps28
    go_wp2_with fail
    go_ret
    exact ⟨_, rfl, World.ownsRow_nil _ _ _ _, grown_refl w⟩
  · obtain ⟨i0, hi, hz0, hz1, hz2⟩ := info_parts Tryd.infoInt
    have hown : (w.alloc (.cells #[] 3)).ownsRow w.heap.size 3 1 (.slice (some ⟨w.heap.size, 0, none⟩) 0 0) 0 [] :=
      World.ownsRow_lit w #[] 0 (Nat.le_refl _) (by unfold maxLen; omega) rfl
    have hnews : ∀ j u, (ints l)[j]? = some u → (w.alloc (.cells #[] 3)).cell? (a.add j) = some u := by
      intro j u hu
      have hj : 0 < n := by
        rcases Nat.eq_zero_or_pos n with h | h
        · have := (List.getElem?_eq_some_iff.1 hu).1; have := hr.1; omega
        · exact h
      obtain ⟨b, off, e, hb, hc⟩ := hr.2 hj
      cases e
      rw [addp, World.cell?_alloc_lt _ _ _ hb]
      exact hc j u hu
    have hlen := hr.1
    have HH := Lib.hid (And.intro hi (And.intro hz0 (And.intro hz1 hz2)))
    have HN := Lib.hid hnews
    have HL := Lib.hid hlen
    clear hi hz0 hz1 hz2 hnews hlen
    go_enter Tryd.func28, Tryd.ntmps28
    go_wp2_with (at_builtin; refine wpList_append_own _ rfl _ _ 22 rfl w.heap.size 3 i0 (.int .i64 0) 1 8 Tryd.underlying22 HH.out.1 HH.out.2.1 HH.out.2.2.1 HH.out.2.2.2 rfl (by decide) _ 0 [] rfl hown a n c (ints l) rfl HL.out HN.out (ints_one l) (by unfold maxLen; omega) (by omega) (by simp) ?_; intro v' w' hown' hg' _)
    go_ret
    refine ⟨_, rfl, by simpa using hown', grown_below (grown_alloc (grown_refl w) _) hg' (fun j hj => .inl ?_)⟩
    have h : w.heap.size = j := by injection hj
    omega

end Go.Proofs.YtcipidfbclohoaaDoor
