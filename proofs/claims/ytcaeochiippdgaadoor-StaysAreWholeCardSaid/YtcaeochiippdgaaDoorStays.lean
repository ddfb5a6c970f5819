/- The walk of appendStay of package shelf. -/
import Derived.Test.YtcaeochiippdgaaDoorSy
import Derived.Test.YtcaeochiippdgaaDoorVer
import Derived.Test.YtcaeochiippdgaaDoorBlk
namespace Go.Proofs.YtcaeochiippdgaaDoor
open Go.RowKit

theorem syFlat_to : ∀ (o : List Sy) (j : Nat) (to : Int), j < o.length → (syFlat o).set (j * 4 + 3) (.int .i64 to) = syFlat (o.set j { (o.getD j default) with to := to })
  | [], j, to, h => by simp at h
  | a :: o, 0, to, _ => by
    simp [syFlat, syCells]
  | a :: o, j + 1, to, h => by
    have ih := syFlat_to o j to (by simpa using h)
    have e : (j + 1) * 4 + 3 = (j * 4 + 3) + 4 := by omega
    rw [e]
    have e2 : syFlat (a :: o) = syCells a ++ syFlat o := rfl
    rw [e2, List.set_append_right _ _ (by rw [syCells_len]; omega), syCells_len, Nat.add_sub_cancel, ih]
    rfl
theorem own_sy {w : World} {base g n cap : Nat} {o : List Sy} (h : w.ownsRow base 39 4 (.slice (some ⟨g, 0, none⟩) n cap) n (syFlat o)) {j : Nat} (hj : j < n) :
    w.cell? ⟨g, j * 4, none⟩ = some (.int .i64 (o.getD j default).sl) ∧ w.cell? ⟨g, j * 4 + 1, none⟩ = some (.string (o.getD j default).pr) ∧ w.cell? ⟨g, j * 4 + 2, none⟩ = some (.int .i64 (o.getD j default).fr) ∧ w.cell? ⟨g, j * 4 + 3, none⟩ = some (.int .i64 (o.getD j default).to) := by
  have hl : o.length = n := by have := h.1; rw [syFlat_len] at this; omega
  have hx : o[j]? = some (o.getD j default) := by simp [List.getD, show j < o.length from by omega]
  have hh : ∀ i, i < 4 → w.cell? ⟨g, j * 4 + i, none⟩ = (syCells (o.getD j default))[i]? := fun i hi => by
    rw [h.cellAt _ (by omega)]
    exact rows_at syCells_len o j i _ hx hi
  exact ⟨hh 0 (by omega), hh 1 (by omega), hh 2 (by omega), hh 3 (by omega)⟩

set_option maxRecDepth 100000 in
set_option maxHeartbeats 2000000 in
theorem appendStay_any (base : Nat) (v : Value) (o : List Sy) (s : Sy) (w : World) (hown : w.ownsRow base 39 4 v o.length (syFlat o)) (hlen : o.length ≤ 1000000000) (hb : base ≤ w.heap.size) :
    Calls Tryd.prog 19 #[v, .agg #[.int .i64 s.sl, .string s.pr, .int .i64 s.fr, .int .i64 s.to]] w fun e w' => ∃ v', e = .returned v' ∧
      w'.ownsRow base 39 4 v' (addSy o s).length (syFlat (addSy o s)) ∧ w.grownBy w' v.ownBlock := by
  have hown1 := fun ob => hown.alloc ob
  have hgr := fun (ob : Obj) => grown_alloc (World.grownBy.refl w v.ownBlock) ob
  by_cases hp : s.pr.toList.isEmpty = true
  · have e : addSy o s = o := by unfold addSy; rw [if_pos (.inl hp)]
    rw [e]
    have hp1 : s.pr.toList = [] := by simpa using hp
    have HW := Lib.hid (And.intro hown1 hgr)
    clear e hown1 hgr hown
    go_enter Tryd.func19, Tryd.ntmps19
    go_wp2_with fail
    go_ret
    exact ⟨_, rfl, HW.out.1 _, HW.out.2 _⟩
  · have hp' : s.pr.toList.isEmpty = false := by simpa using hp
    by_cases hle : s.to ≤ s.fr
    · have e : addSy o s = o := by unfold addSy; rw [if_pos (.inr hle)]
      rw [e]
      have hp2 : (!s.pr.toList.isEmpty) = true := by rw [hp']; rfl
      have hge : decide (s.to ≤ s.fr) = true := by simpa using hle
      have HW := Lib.hid (And.intro hown1 hgr)
      clear e hown1 hgr hown hp hle
      go_enter Tryd.func19, Tryd.ntmps19
      go_wp2_with fail
      go_ret
      exact ⟨_, rfl, HW.out.1 _, HW.out.2 _⟩
    · have hge : decide (s.to ≤ s.fr) = false := by simpa using hle
      have hn1 : ¬ (s.pr.toList.isEmpty = true ∨ s.to ≤ s.fr) := fun h => h.elim hp hle
      have HW := Lib.hid (And.intro hown1 hgr)
      have hsn : ¬ (0 < o.length ∧ joinB (o.getD (o.length - 1) default) s = true) → addSy o s = o ++ [s] := fun h => by unfold addSy; rw [if_neg hn1, if_neg h]
      have hlg : (0 < o.length ∧ joinB (o.getD (o.length - 1) default) s = true) → addSy o s = longer o s.to := fun h => by unfold addSy; rw [if_neg hn1, if_pos h]
      have hp2 : (!s.pr.toList.isEmpty) = true := by rw [hp']; rfl
      have hfr : s.fr < s.to := by omega
      clear hp hle hn1 hown1 hgr
      rcases Nat.eq_zero_or_pos o.length with h0 | hpos
      · have e := hsn (by omega)
        rw [e]
        have ho : o = [] := List.eq_nil_of_length_eq_zero h0
        subst ho
        obtain ⟨rfl, _⟩ | ⟨g, cap, cur, rfl, _⟩ := hown.2
        all_goals
          have HO : Hid (∀ ob n, ((w.alloc ob).drewN n).ownsRow base 39 4 _ ([] : List Sy).length (syFlat [])) := Lib.hid (fun ob n => hown.alloc ob)
          clear e h0 hsn hlg hown
          go_enter Tryd.func19, Tryd.ntmps19
          go_wp2_with fail
          go_quiet (fail)
          go_wp2_with (at_builtin; refine ap_sy_at _ (w.heap.size + 1) (by simp) s rfl _ _ rfl base _ [] rfl (HO.out _ _) rfl (by simp) (by simp; omega) ?_; intro v2 w2 hown2 hg2)
          go_ret
          exact ⟨_, rfl, hown2, (grown_alloc (grown_drewN (HW.out.2 _) _) _).trans hg2⟩
      · obtain ⟨g, cap, rfl⟩ : ∃ g cap, v = .slice (some ⟨g, 0, none⟩) o.length cap := by
          rcases hown.2 with ⟨_, h⟩ | ⟨g, cap, cur, rfl, _⟩
          · omega
          · exact ⟨g, cap, rfl⟩
        obtain ⟨m, hm⟩ : ∃ m, o.length = m + 1 := ⟨o.length - 1, by omega⟩
        obtain ⟨t, ht⟩ : ∃ t, o.getD (o.length - 1) default = t := ⟨_, rfl⟩
        rw [ht] at hsn hlg
        obtain ⟨d0, d1, d2, d3⟩ := own_sy hown (j := m) (by omega)
        have hfz := hown.frozenAt (m * 4 + 3)
        rw [show m = o.length - 1 from by omega, ht, show o.length - 1 = m from by omega] at d0 d1 d2 d3
        have hbk : g < w.heap.size := (hown.lt g rfl).2
        obtain ⟨N, hN⟩ : ∃ N, o.length = N := ⟨_, rfl⟩
        rw [hN] at hown hm hlen HW ⊢
        subst hm
        have HO : Hid (∀ ob n, ((w.alloc ob).drewN n).ownsRow base 39 4 (.slice (some ⟨g, 0, none⟩) (m + 1) cap) o.length (syFlat o)) := Lib.hid (fun ob n => by rw [hN]; exact hown.alloc ob)
        have hmM : m + 1 ≤ 1000000000 := hlen
        have hgw := grown_drewN (grown_alloc (World.grownBy.refl w (some g)) (.cells #[.int .i64 s.sl, .string s.pr, .int .i64 s.fr, .int .i64 s.to] 39))
        have HM := Lib.hid (And.intro hN (And.intro ht (And.intro hown hgw)))
        by_cases hj : joinB t s = true
        · have e := hlg ⟨by omega, hj⟩
          rw [e]
          obtain ⟨j1, j2, j3⟩ := joinB_iff.1 hj
          have b1 : (t.sl == s.sl) = true := by simp [j1]
          have b2 : (t.pr.toList == s.pr.toList) = true := by simp [j2]
          have b3 : (t.to == s.fr) = true := by simp [j3]
          clear hj e hsn hlg ht hN j1 j2 j3 hown hgw hlen
          go_enter Tryd.func19, Tryd.ntmps19
          go_wp2_with fail
          go_quiet (fail)
          go_wp2_with fail
          go_ret
          have ha : ∀ nq, (((w.alloc (.cells #[.int .i64 s.sl, .string s.pr, .int .i64 s.fr, .int .i64 s.to] 39)).drewN nq).ownsRow base 39 4 (.slice (some ⟨g, 0, none⟩) (m + 1) cap) (m + 1) (syFlat o)) := fun _ => HM.out.2.2.1.alloc _
          obtain ⟨h1, h2⟩ := (ha _).stored (m * 4 + 3) (.int .i64 s.to)
          refine ⟨_, rfl, ?_, World.grownBy.trans (HM.out.2.2.2 _) h2⟩
          rw [longer_len, HM.out.1]
          rw [syFlat_to o m s.to (by rw [HM.out.1]; omega)] at h1
          have e : longer o s.to = o.set m { (o.getD m default) with to := s.to } := by unfold longer; rw [HM.out.1]; rfl
          rw [e]
          exact h1
        · have e := hsn (fun h => hj h.2)
          rw [e]
          by_cases e1 : t.sl = s.sl
          · have b1 : (t.sl == s.sl) = true := by simp [e1]
            by_cases e2 : t.pr = s.pr
            · have b2 : (t.pr.toList == s.pr.toList) = true := by simp [e2]
              have b3 : (t.to == s.fr) = false := by
                rw [beq_eq_false_iff_ne]
                exact fun e3 => hj (joinB_iff.2 ⟨e1, e2, e3⟩)
              clear hj e hsn hlg ht e1 e2 hN hown hgw hlen
              go_enter Tryd.func19, Tryd.ntmps19
              go_wp2_with fail
              go_quiet (fail)
              go_wp2_with (at_builtin; refine ap_sy_at _ (w.heap.size + 1) (by simp) s rfl _ _ rfl base _ o rfl (HO.out _ _) rfl (by have := HM.out.1; omega) (by simp; omega) ?_; intro v2 w2 hown2 hg2)
              go_ret
              exact ⟨_, rfl, hown2, (grown_alloc (grown_drewN (HW.out.2 _) _) _).trans hg2⟩
            · have b2 : (t.pr.toList == s.pr.toList) = false := sEq_ne.2 e2
              clear hj e hsn hlg ht e1 e2 hN hown hgw hlen
              go_enter Tryd.func19, Tryd.ntmps19
              go_wp2_with fail
              go_quiet (fail)
              go_wp2_with (at_builtin; refine ap_sy_at _ (w.heap.size + 1) (by simp) s rfl _ _ rfl base _ o rfl (HO.out _ _) rfl (by have := HM.out.1; omega) (by simp; omega) ?_; intro v2 w2 hown2 hg2)
              go_ret
              exact ⟨_, rfl, hown2, (grown_alloc (grown_drewN (HW.out.2 _) _) _).trans hg2⟩
          · have b1 : (t.sl == s.sl) = false := by rw [beq_eq_false_iff_ne]; exact e1
            clear hj e hsn hlg ht e1 hN hown hgw hlen
            go_enter Tryd.func19, Tryd.ntmps19
            go_wp2_with fail
            go_quiet (fail)
            go_wp2_with (at_builtin; refine ap_sy_at _ (w.heap.size + 1) (by simp) s rfl _ _ rfl base _ o rfl (HO.out _ _) rfl (by have := HM.out.1; omega) (by simp; omega) ?_; intro v2 w2 hown2 hg2)
            go_ret
            exact ⟨_, rfl, hown2, (grown_alloc (grown_drewN (HW.out.2 _) _) _).trans hg2⟩

end Go.Proofs.YtcaeochiippdgaaDoor
