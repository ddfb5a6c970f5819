/- The walk of the reference's StaysOf: day by day. -/
import Derived.Test.YtahmeemhclfadaaDoorStaysW
import Derived.Test.YtahmeemhclfadaaDoorLayAt
import Derived.Test.YtahmeemhclfadaaDoorWhole
namespace Go.Proofs.YtahmeemhclfadaaDoor
open Go.RowKit

/-- Days of one slot under way. -/
structure DyI (g : Int → ByteArray) (j a : Int) (n : Nat) (o : List Sy) : Prop where
  le_ : ∀ s ∈ o, s.sl = j → s.to ≤ a + n
  last : 0 < o.length → (o.getD (o.length - 1) default).sl = j → (o.getD (o.length - 1) default).to = a + n → 0 < n ∧ (o.getD (o.length - 1) default).pr = g (a + n - 1)
  end_ : 0 < n → (g (a + n - 1)).toList.isEmpty = false → 0 < o.length ∧ (o.getD (o.length - 1) default).sl = j ∧ (o.getD (o.length - 1) default).pr = g (a + n - 1) ∧ (o.getD (o.length - 1) default).to = a + n
theorem addSy_sl {o : List Sy} {s0 s : Sy} (h : s ∈ addSy o s0) : s ∈ o ∨ s.sl = s0.sl := by
  by_cases e : s.sl = s0.sl
  · exact .inr e
  · exact .inl (addSy_old h e)
theorem DyI.next {g : Int → ByteArray} {j a : Int} {n : Nat} {o : List Sy} (h : DyI g j a n o) : DyI g j a (n + 1) (addSy o ⟨j, g (a + n), a + n, a + n + 1⟩) := by
  have hc : a + ((n + 1 : Nat) : Int) - 1 = a + n := by omega
  have hc2 : a + ((n + 1 : Nat) : Int) = a + n + 1 := by omega
  rw [← hc2]
  by_cases hp : (g (a + n)).toList.isEmpty = true
  · have e : addSy o ⟨j, g (a + n), a + n, a + ((n + 1 : Nat) : Int)⟩ = o := by unfold addSy; rw [if_pos (.inl hp)]
    rw [e]
    refine ⟨fun s hs hj => by have := h.le_ s hs hj; omega, fun h0 h1 h2 => ?_, fun _ h1 => ?_⟩
    · have := h.le_ _ (List.mem_of_getElem? (last_of h0)) h1
      omega
    · rw [hc, hp] at h1; cases h1
  · have n1 : ¬ ((g (a + n)).toList.isEmpty = true ∨ a + ((n + 1 : Nat) : Int) ≤ a + n) := fun h1 => h1.elim hp (fun h1 => by omega)
    by_cases hj : 0 < o.length ∧ joinB (o.getD (o.length - 1) default) ⟨j, g (a + n), a + n, a + ((n + 1 : Nat) : Int)⟩ = true
    · have e : addSy o ⟨j, g (a + n), a + n, a + ((n + 1 : Nat) : Int)⟩ = longer o (a + ((n + 1 : Nat) : Int)) := by unfold addSy; rw [if_neg n1, if_pos hj]
      rw [e]
      obtain ⟨hpos, hjn⟩ := hj
      obtain ⟨j1, j2, j3⟩ := joinB_iff.1 hjn
      simp only at j1 j2 j3
      have hlast := longer_last hpos (a + ((n + 1 : Nat) : Int))
      refine ⟨fun s hs hsj => ?_, fun _ _ _ => ?_, fun _ _ => ?_⟩
      · unfold longer at hs
        rcases List.mem_or_eq_of_mem_set hs with hs | rfl
        · have := h.le_ s hs hsj; omega
        · exact Int.le_refl _
      · rw [hlast, hc]; exact ⟨by omega, j2⟩
      · rw [hlast, hc]; exact ⟨by rw [longer_len]; exact hpos, j1, j2, rfl⟩
    · have e : addSy o ⟨j, g (a + n), a + n, a + ((n + 1 : Nat) : Int)⟩ = o ++ [⟨j, g (a + n), a + n, a + ((n + 1 : Nat) : Int)⟩] := by unfold addSy; rw [if_neg n1, if_neg hj]
      rw [e]
      refine ⟨fun s hs hsj => ?_, fun _ _ _ => ?_, fun _ _ => ?_⟩
      · rcases List.mem_append.1 hs with hs | hs
        · have := h.le_ s hs hsj; omega
        · simp only [List.mem_cons, List.not_mem_nil, or_false] at hs
          subst hs; exact Int.le_refl _
      · rw [snoc_last, hc]; exact ⟨by omega, rfl⟩
      · rw [snoc_last, hc]; exact ⟨by simp, rfl, rfl, rfl⟩
/-- What was in the slot on the day before. -/
def wasS (g : Int → ByteArray) (a : Int) (n : Nat) : ByteArray := if n = 0 then ByteArray.empty else g (a + n - 1)
theorem DyI.goes {g : Int → ByteArray} {j a : Int} {n : Nat} {o : List Sy} (h : DyI g j a n o) (hp : (g (a + n)).toList.isEmpty = false) (hw : g (a + n) = wasS g a n) :
    0 < o.length ∧ addSy o ⟨j, g (a + n), a + n, a + n + 1⟩ = longer o (a + n + 1) := by
  have n1 : ¬ ((g (a + n)).toList.isEmpty = true ∨ a + (n : Int) + 1 ≤ a + n) := fun h1 => h1.elim (fun h1 => by rw [hp] at h1; cases h1) (fun h1 => by omega)
  unfold wasS at hw
  split at hw
  · rw [hw, toList_data] at hp; cases hp
  · obtain ⟨h1, h2, h3, h4⟩ := h.end_ (by omega) (by rw [← hw]; exact hp)
    refine ⟨h1, ?_⟩
    unfold addSy
    rw [if_neg n1, if_pos]
    exact ⟨h1, joinB_iff.2 ⟨h2, by rw [h3]; exact hw.symm, h4⟩⟩
theorem DyI.starts {g : Int → ByteArray} {j a : Int} {n : Nat} {o : List Sy} (h : DyI g j a n o) (hp : (g (a + n)).toList.isEmpty = false) (hw : g (a + n) ≠ wasS g a n) :
    addSy o ⟨j, g (a + n), a + n, a + n + 1⟩ = o ++ [⟨j, g (a + n), a + n, a + n + 1⟩] := by
  have n1 : ¬ ((g (a + n)).toList.isEmpty = true ∨ a + (n : Int) + 1 ≤ a + n) := fun h1 => h1.elim (fun h1 => by rw [hp] at h1; cases h1) (fun h1 => by omega)
  unfold addSy
  rw [if_neg n1, if_neg]
  rintro ⟨h0, hj⟩
  obtain ⟨j1, j2, j3⟩ := joinB_iff.1 hj
  simp only at j1 j2 j3
  obtain ⟨h5, h6⟩ := h.last h0 j1 j3
  refine hw ?_
  unfold wasS
  rw [if_neg (by omega), ← j2, h6]
theorem DyI.none_ {g : Int → ByteArray} {j a : Int} {n : Nat} {o : List Sy} (hp : (g (a + n)).toList.isEmpty = true) : addSy o ⟨j, g (a + n), a + n, a + n + 1⟩ = o := by
  unfold addSy; rw [if_pos (.inl hp)]
theorem days_dyi {g : Int → ByteArray} {j a : Int} {o : List Sy} (ho : ∀ s ∈ o, s.sl < j) : ∀ n : Nat, DyI g j a n (daysS j g a n o)
  | 0 => ⟨fun s hs e => absurd (ho s hs) (by omega), fun (h : 0 < o.length) (e : (o.getD (o.length - 1) default).sl = j) => absurd (ho _ (List.mem_of_getElem? (last_of h))) (by omega), fun h => absurd h (by omega)⟩
  | n + 1 => (days_dyi (g := g) (a := a) ho n).next
theorem daysS_sl {g : Int → ByteArray} {j a : Int} {o : List Sy} {s : Sy} : ∀ n : Nat, s ∈ daysS j g a n o → s ∈ o ∨ s.sl = j
  | 0, h => .inl h
  | n + 1, h => by
    rcases addSy_sl h with h | h
    · exact daysS_sl n h
    · exact .inr h
theorem slotsD_sl (l : List Ver) (fr to : Int) : ∀ n : Nat, ∀ s ∈ slotsD l fr to n, s.sl < (n : Int)
  | 0, s, h => by simp [slotsD] at h
  | n + 1, s, h => by
    rcases daysS_sl _ h with h | h
    · have := slotsD_sl l fr to n s h; omega
    · rw [h]; omega
theorem daysS_len (j : Int) (g : Int → ByteArray) (a : Int) (o : List Sy) : ∀ n, (daysS j g a n o).length ≤ o.length + n
  | 0 => by simp [daysS]
  | n + 1 => by rw [daysS]; have := daysS_len j g a o n; have := addSy_len (daysS j g a n o) ⟨j, g (a + n), a + n, a + n + 1⟩; omega
theorem slotsD_len (l : List Ver) (fr to : Int) : ∀ n, (slotsD l fr to n).length ≤ n * (to - fr).toNat
  | 0 => by simp [slotsD]
  | n + 1 => by rw [slotsD, Nat.succ_mul]; have := slotsD_len l fr to n; have := daysS_len n (atS l n) fr (slotsD l fr to n) (to - fr).toNat; omega
theorem atL_len {V : List Ver} {n0 : Nat} (hk : ∀ t ∈ V, t.ks.length = n0) {d : Int} (h : atE V d = 0) : (atL V d).length = n0 := by
  unfold atE at h
  by_cases hl : lastV V d V.length = 0
  · rw [if_pos hl] at h; cases h
  · unfold atL atK
    rw [if_neg hl]
    have h1 := lastV_le V d V.length
    have h2 : lastV V d V.length - 1 < V.length := by omega
    refine hk _ (List.mem_of_getElem? (i := lastV V d V.length - 1) ?_)
    simp [List.getD, h2]
theorem atE_or (V : List Ver) (d : Int) : atE V d = 0 ∨ (atE V d = 8 ∧ atL V d = []) := by
  unfold atE atL
  by_cases hl : lastV V d V.length = 0
  · rw [if_pos hl, if_pos hl]; exact .inr ⟨rfl, rfl⟩
  · rw [if_neg hl]; exact .inl rfl

set_option maxRecDepth 100000 in
set_option maxHeartbeats 4000000 in
theorem staysOf_any (B : Nat) (A : Option Addr) (c : Nat) (V : List Ver) (fr to : Int) (w : World) (hr : RdV w B A V) (hl : V.length ≤ 200) (n0 : Nat) (hn0 : n0 ≤ 60) (hall : ∀ t ∈ V, t.ks.length = n0) (hv0 : ver0 V = n0 ∨ V = []) (h0 : 0 ≤ fr) (h1 : fr ≤ to) (h2 : to ≤ 4001) :
    Calls Tryd.prog 43 #[.slice A V.length c, .int .i64 fr, .int .i64 to] w fun e w' => ∃ v, e = .returned v ∧
      w'.ownsRow w.heap.size 74 4 v (slotsD V fr to (ver0 V)).length (syFlat (slotsD V fr to (ver0 V))) ∧ w.grownBy w' none := by
  rcases Nat.eq_zero_or_pos V.length with hz | hpos
  · have hV : V = [] := List.eq_nil_of_length_eq_zero hz
    subst hV
    clear hr hall hv0 hl hz
    go_enter Tryd.func43, Tryd.ntmps43
    go_wp2_with fail
    go_ret
    exact ⟨_, rfl, World.ownsRow_nil _ _ _ _, grown_refl w⟩
  · have hv : ver0 V = n0 := hv0.resolve_right (fun e => by rw [e] at hpos; simp at hpos)
    obtain ⟨b0, off0, rfl, hb0, r0, hr0, hok0, _, d1⟩ := hr.row (k := 0) hpos
    have hrn : r0.n = n0 := by rw [← hok0.len]; exact hall _ (List.mem_of_getElem? hr0)
    rw [hrn] at d1
    rw [hv]
    obtain ⟨n, hn⟩ : ∃ n, V.length = n := ⟨_, rfl⟩
    have hLA := fun (d : Int) (wx : World) (hg : w.grownBy wx none) => layoutAt_any B (some ⟨b0, off0, none⟩) c V d wx (hr.grown hg) (by omega) (fun t ht => by rw [hall t ht]; omega)
    rw [hn] at hLA hpos ⊢
    simp only [Nat.zero_mul, Nat.add_zero] at d1
    have hn00 : ((n : Int) == 0) = false := by rw [beq_eq_false_iff_ne]; omega
    have hpos' : 0 < n := hpos
    have hD : ∃ D : Nat, to = fr + D := ⟨(to - fr).toNat, by omega⟩
    obtain ⟨D, rfl⟩ := hD
    have hDn : (fr + (D : Int) - fr).toNat = D := by omega
    have HC := Lib.hid (And.intro hLA (And.intro hall (And.intro hn hDn)))
    clear hr hall hv0 hv hrn hok0 hr0 hn hLA hl hDn
    go_enter Tryd.func43, Tryd.ntmps43
    go_wp2_with fail
    go_loopg [7, 22] n0 (fun k v i wr => ∃ j : Nat, k + j = n0 ∧ i = .int .i64 j ∧ wr.ownsRow w.heap.size 74 4 v (slotsD V fr (fr + D) j).length (syFlat (slotsD V fr (fr + D) j)) ∧ w.grownBy wr none)
    case atStart => exact ⟨0, by omega, rfl, World.ownsRow_nil _ _ _ _, grown_refl _⟩
    case round =>
      obtain ⟨j, hj, rfl, hown, hg⟩ := hrel
      clear d1
      by_cases hlt : j < n0
      · have hlen0 := slotsD_len V fr (fr + D) j
        have hsl := slotsD_sl V fr (fr + D) j
        rw [HC.out.2.2.2] at hlen0
        obtain ⟨o, ho⟩ : ∃ o, slotsD V fr (fr + D) j = o := ⟨_, rfl⟩
        have hsu : slotsD V fr (fr + D) (j + 1) = daysS j (atS V j) fr D o := by rw [slotsD, ho, HC.out.2.2.2]
        rw [ho] at hown hlen0 hsl
        have hlen1 : o.length ≤ 60 * 4001 := Nat.le_trans hlen0 (Nat.mul_le_mul (by omega) (by omega))
        have HS := Lib.hid (And.intro hsu (And.intro hj hsl))
        obtain ⟨wo, rfl⟩ : ∃ wo : World, wo = wr := ⟨_, rfl⟩
        obtain ⟨ko, rfl⟩ : ∃ ko : Nat, ko = gk := ⟨_, rfl⟩
        clear ho hsu hj hlen0 hsl
        go_wp2_with fail
        go_loopg [7, 9, 10] D (fun k v s i wr => ∃ m : Nat, k + m = D ∧ i = .int .i64 (fr + m) ∧ s = .string (wasS (atS V j) fr m) ∧ wr.ownsRow w.heap.size 74 4 v (daysS j (atS V j) fr m o).length (syFlat (daysS j (atS V j) fr m o)) ∧ w.grownBy wr none)
        case atStart => exact ⟨0, by omega, by simp, rfl, hown, hg⟩
        case round =>
          obtain ⟨m, hm, rfl, rfl, hown2, hg2⟩ := hrel
          clear hown hg
          by_cases hlm : m < D
          · have hI := days_dyi (g := atS V j) (a := fr) HS.out.2.2 m
            have hlb := daysS_len j (atS V j) fr o m
            have hds : daysS j (atS V j) fr (m + 1) o = addSy (daysS j (atS V j) fr m o) ⟨j, atS V j (fr + m), fr + m, fr + m + 1⟩ := rfl
            obtain ⟨X, hX⟩ : ∃ X, daysS j (atS V j) fr m o = X := ⟨_, rfl⟩
            obtain ⟨W, hW⟩ : ∃ W, wasS (atS V j) fr m = W := ⟨_, rfl⟩
            rw [hX] at hI hlb hds hown2
            rw [hW]
            have HI := Lib.hid (And.intro hI (And.intro hds (And.intro hW hm)))
            have hXl : X.length ≤ 1000000 := by omega
            clear hI hds hX hW hm
            rcases atE_or V (fr + m) with hE0 | ⟨hE8, hL8⟩
            · have HA := Lib.hid (atL_len HC.out.2.1 hE0)
              go_wp2_with fail
              refine (HC.out.1 (fr + m) _ hg2).mono ?_
              rw [hE0]
              rintro e w3 ⟨v3, rfl, hown3, hg3⟩
              have hown2' := hown2.kept hg3 (by cases u7.ownBlock with | none => exact .inl rfl | some _ => exact .inr (by simp))
              have hgg3 := hg2.trans hg3
              obtain ⟨A3, c3, rfl, _, _, hr3, _⟩ := Rd.of_own hown3
              obtain ⟨b3, o3, rfl, hb3, x, hx, cx⟩ := str_cells hr3 (k := j) (by rw [HA.out]; exact hlt)
              have hjl : j < (atL V (fr + m)).length := by rw [HA.out]; exact hlt
              have HX := Lib.hid (show atS V j (fr + m) = x by unfold atS; simp [List.getD, hx])
              have hjl' : (j : Int) < ((atL V (fr + m)).length : Int) := by omega
              clear hown3 hg3 hown2 hg2 hr3 hx
              by_cases hp : x.toList.isEmpty = true
              · have HE := Lib.hid (DyI.none_ (j := (j : Int)) (o := X) (a := fr) (n := m) (g := atS V j) (by rw [HX.out]; exact hp))
                have HWN := Lib.hid (show wasS (atS V j) fr (m + 1) = x by unfold wasS; rw [if_neg (by omega), show fr + ((m + 1 : Nat) : Int) - 1 = fr + m from by omega, HX.out])
                have hp1 : x.toList = [] := by simpa using hp
                go_wp2_with fail
                have hm := HI.out.2.2.2
                go_roundg (gk - 1)
                case measure => omega
                case rel => exact ⟨m + 1, by omega, by go_num, by rw [HWN.out], by rw [HI.out.2.1, HE.out]; exact hown2', hgg3⟩
              · have hp' : x.toList.isEmpty = false := by simpa using hp
                have hp2 : (!x.toList.isEmpty) = true := by rw [hp']; rfl
                have HWN := Lib.hid (show wasS (atS V j) fr (m + 1) = x by unfold wasS; rw [if_neg (by omega), show fr + ((m + 1 : Nat) : Int) - 1 = fr + m from by omega, HX.out])
                clear hp
                by_cases hxW : x = W
                · have hbw : (x.toList == W.toList) = true := by rw [hxW]; simp
                  obtain ⟨hXp, hXe⟩ := HI.out.1.goes (by rw [HX.out]; exact hp') (by rw [HX.out, HI.out.2.2.1, hxW])
                  obtain ⟨q, hq⟩ : ∃ q, X.length = q + 1 := ⟨X.length - 1, by omega⟩
                  rw [hq] at hown2'
                  obtain ⟨g, cap, rfl⟩ : ∃ g cap, u7 = .slice (some ⟨g, 0, none⟩) (q + 1) cap := by
                    rcases hown2'.2 with ⟨_, h⟩ | ⟨g, cap, cur, rfl, _⟩
                    · cases h
                    · exact ⟨g, cap, rfl⟩
                  obtain ⟨d0, d1, d2, d3⟩ := own_sy hown2' (j := q) (by omega)
                  have hfz := hown2'.frozenAt (q * 4 + 3)
                  obtain ⟨hst, hgs0⟩ := hown2'.stored (q * 4 + 3) (.int .i64 (fr + m + 1))
                  rw [syFlat_to X q _ (by omega)] at hst
                  have hlg : longer X (fr + m + 1) = X.set q { (X.getD q default) with to := fr + m + 1 } := by unfold longer; rw [hq]; rfl
                  rw [← hlg] at hst
                  have hgs := grown_below hgg3 hgs0 (fun i hi => by cases hi; exact .inl (hown2'.lt g rfl).1)
                  have hbg := (hown2'.lt g rfl).2
                  have HG := Lib.hid (And.intro hst (And.intro hgs hq))
                  have HE := Lib.hid hXe
                  have hq6 : q + 1 ≤ 1000000 := by omega
                  clear hst hgs hlg hq hXe hXp hown2' hgs0 hxW
                  go_wp2_with fail
                  have hm := HI.out.2.2.2
                  go_roundg (gk - 1)
                  case measure => omega
                  case rel => exact ⟨m + 1, by omega, by go_num, by rw [HWN.out], by rw [HI.out.2.1, HE.out]; exact (by rw [longer_len, HG.out.2.2]; exact HG.out.1), HG.out.2.1⟩
                · have hbw : (x.toList == W.toList) = false := sEq_ne.2 hxW
                  have HE := Lib.hid (HI.out.1.starts (by rw [HX.out]; exact hp') (by rw [HX.out, HI.out.2.2.1]; exact hxW))
                  clear hxW
                  go_wp2_with (at_builtin; refine ap_sy_at _ w3.heap.size rfl ⟨j, x, fr + m, fr + m + 1⟩ rfl _ _ rfl w.heap.size _ X rfl hown2' rfl (by omega) hgg3.size ?_; intro v4 w4 hown4 hg4)
                  have hgg4 : w.grownBy w4 none := grown_below (grown_alloc hgg3 _) hg4 (fun i hi => .inl (hown2'.lt i hi).1)
                  have hm := HI.out.2.2.2
                  go_roundg (gk - 1)
                  case measure => omega
                  case rel => exact ⟨m + 1, by omega, by go_num, by rw [HWN.out], by rw [HI.out.2.1, HE.out]; exact (by rw [HX.out]; exact hown4), hgg4⟩
            · have hempty : (atS V j (fr + m)).toList.isEmpty = true := by unfold atS; rw [hL8]; show (ByteArray.empty).toList.isEmpty = true; rw [toList_data]; rfl
              have HE := Lib.hid (DyI.none_ (j := (j : Int)) (o := X) (a := fr) (n := m) (g := atS V j) hempty)
              have HWN := Lib.hid (show wasS (atS V j) fr (m + 1) = ByteArray.empty by unfold wasS; rw [if_neg (by omega), show fr + ((m + 1 : Nat) : Int) - 1 = fr + m from by omega]; unfold atS; rw [hL8]; rfl)
              clear hempty hL8
              go_wp2_with fail
              refine (HC.out.1 (fr + m) _ hg2).mono ?_
              rw [hE8]
              rintro e w3 ⟨v3, rfl, hown3, hg3⟩
              have hown2' := hown2.kept hg3 (by cases u7.ownBlock with | none => exact .inl rfl | some _ => exact .inr (by simp))
              have hgg3 := hg2.trans hg3
              clear hown3 hg3 hown2 hg2
              go_wp2_with fail
              have hm := HI.out.2.2.2
              go_roundg (gk - 1)
              case measure => omega
              case rel => exact ⟨m + 1, by omega, by go_num, by rw [HWN.out]; rfl, by rw [HI.out.2.1, HE.out]; exact hown2', hgg3⟩
          · obtain rfl : m = D := by omega
            go_wp2_with fail
            have hj := HS.out.2.1
            go_roundg (ko - 1)
            case measure => omega
            case rel => exact ⟨j + 1, by omega, by go_num, by rw [HS.out.1]; exact hown2, hg2⟩
      · obtain rfl : j = n0 := by omega
        go_wp2_with fail
        go_ret
        exact ⟨_, rfl, hown, hg⟩

end Go.Proofs.YtahmeemhclfadaaDoor
