/- The walk of slices.Clone over days. -/
import Derived.Test.YtkfijicmeekmiaaSal
import Derived.Lib.Slices
namespace Go.Proofs.Ytkfijicmeekmiaa
open Go.RowKit

set_option maxHeartbeats 400000 in
theorem cloneSales_any (A : Option Addr) (n c : Nat) (l : List Sal) (w : World) (hr : Rd w 3 A n (salFlat l)) (hn : n ≤ 100000) :
    Calls Try.prog 85 #[.slice A n c] w fun e w' => ∃ v, e = .returned v ∧ w'.ownsRow w.heap.size 79 3 v n (salFlat l) ∧ w.grownBy w' none := by
  have e1 := fun (w : World) (a : Option Addr) (n c n' c' : Nat) => Lib.run_eql_slice_nil (P := Try.prog) w 26 79 a n c n' c' Try.underlying26
  rcases A with _ | a
  · have h0 : n = 0 := by
      rcases Nat.eq_zero_or_pos n with h | h
      · exact h
      · obtain ⟨b, off, e, _⟩ := hr.2 h; cases e
    subst h0
    have hl : salFlat l = [] := List.eq_nil_of_length_eq_zero (by have := hr.1; omega)
    rw [hl]
    clear hl hr
    go_enter Try.func85, Try.ntmps85
    go_wp2_with fail
    go_ret
    exact ⟨_, rfl, World.ownsRow_nil _ _ _ _, grown_refl w⟩
  · obtain ⟨i0, hi, hz0, hz1, hz2⟩ := info_parts Try.infoSal
    have hown : (w.alloc (.cells #[] 79)).ownsRow w.heap.size 79 3 (.slice (some ⟨w.heap.size, 0, none⟩) 0 0) 0 [] :=
      World.ownsRow_lit w #[] 0 (Nat.le_refl _) (by unfold maxLen; omega) rfl
    have hone : ∀ u ∈ salFlat l, u.oneCell' = true := by
      intro u hu
      obtain ⟨t, _, ht⟩ := List.mem_flatMap.1 hu
      exact sal_one t u ht
    have hnews : ∀ j u, (salFlat l)[j]? = some u → (w.alloc (.cells #[] 79)).cell? (a.add j) = some u := by
      intro j u hu
      have hj : 0 < n := by
        rcases Nat.eq_zero_or_pos n with h | h
        · have := (List.getElem?_eq_some_iff.1 hu).1; have := hr.1; omega
        · exact h
      obtain ⟨b, off, e, hb, hc⟩ := hr.2 hj
      cases e
      rw [addp, World.cell?_alloc_lt _ _ _ hb]
      exact hc j u hu
    have hlen := hr.1
    have HH := Lib.hid (And.intro hi (And.intro hz0 (And.intro hz1 hz2)))
    have HN := Lib.hid hnews
    have HO := Lib.hid hone
    have HL := Lib.hid hlen
    clear hi hz0 hz1 hz2 hnews hone hlen
    go_enter Try.func85, Try.ntmps85
    go_wp2_with (at_builtin; refine wpList_append_own _ rfl _ _ 26 rfl w.heap.size 79 i0 (.agg #[.int .i64 0, .int .i64 0, .bool false]) 3 24 Try.underlying26 HH.out.1 HH.out.2.1 HH.out.2.2.1 HH.out.2.2.2 rfl (by decide) _ 0 [] rfl hown a n c (salFlat l) rfl HL.out HN.out HO.out (by unfold maxLen; omega) (by omega) (by simp) ?_; intro v' w' hown' hg' _)
    go_ret
    refine ⟨_, rfl, by simpa using hown', grown_below (grown_alloc (grown_refl w) _) hg' (fun j hj => .inl ?_)⟩
    have h : w.heap.size = j := by injection hj
    omega

end Go.Proofs.Ytkfijicmeekmiaa
