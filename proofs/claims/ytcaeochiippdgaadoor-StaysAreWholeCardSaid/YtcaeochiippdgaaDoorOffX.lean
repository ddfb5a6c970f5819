/- The walks of checkCounts, total, Worth of package shelf; shelves. -/
import Derived.Test.YtcaeochiippdgaaDoorOffW
import Derived.BigQuiet
namespace Go.Proofs.YtcaeochiippdgaaDoor
open Go.RowKit

theorem sizeIntW (w : World) : (sizeOf (Tryd.prog.elem 22)).run Tryd.prog w = .ok 1 w := by kernel_rfl
theorem undIntW : Tryd.prog.underlying 22 = some (.slice (Tryd.prog.elem 22)) := by kernel_rfl
theorem sum_take {l : List Int} {j : Nat} {x : Int} (h : l[j]? = some x) : (l.take (j + 1)).sum = (l.take j).sum + x := by
  rw [take_at h, List.sum_append]; simp
theorem sum_abs {M : Int} (hM : 0 ≤ M) : ∀ {l : List Int}, (∀ x ∈ l, -M ≤ x ∧ x ≤ M) → -(M * l.length) ≤ l.sum ∧ l.sum ≤ M * l.length
  | [], _ => by simp
  | a :: l, h => by
    obtain ⟨h1, h2⟩ := sum_abs hM (l := l) fun x hx => h x (by simp [hx])
    obtain ⟨h3, h4⟩ := h a (by simp)
    have e : M * ((a :: l).length : Int) = M * (l.length : Int) + M := by
      rw [List.length_cons, show ((l.length + 1 : Nat) : Int) = (l.length : Int) + 1 from by omega, Int.mul_add, Int.mul_one]
    rw [List.sum_cons, e]; omega

set_option maxHeartbeats 400000 in
theorem total_same (A : Option Addr) (n c : Nat) (l : List Int) (w : World) (hr : Rd w 1 A n (ints l)) (hn : n ≤ 1000000) (hb : ∀ x ∈ l, -1000000000 ≤ x ∧ x ≤ 1000000000) :
    Calls Tryd.prog 27 #[.slice A n c] w fun e w' => e = .returned (.int .i64 l.sum) ∧ w' = w := by
  have hl : l.length = n := by have := hr.1; simpa [ints] using this
  have HL := Lib.hid (And.intro hl hb)
  clear hl hb
  go_enter Tryd.func27, Tryd.ntmps27
  go_wp2_with fail
  go_loopg [3, 8] n (fun k z i wr => ∃ j : Nat, k + j = n ∧ i = .int .i64 j ∧ z = .int .i64 (l.take j).sum ∧ w = wr)
  case atStart => exact ⟨0, by omega, rfl, rfl, rfl⟩
  case round =>
    obtain ⟨j, hj, rfl, rfl, rfl⟩ := hrel
    by_cases hlt : j < n
    · obtain ⟨b, off, rfl, hb, x, hx, c0⟩ := int_cells hr hlt
      have hst := sum_take hx
      obtain ⟨x0, x1⟩ := HL.out.2 x (List.mem_of_getElem? hx)
      obtain ⟨z0, z1⟩ := sum_abs (M := 1000000000) (by omega) (l := l.take j) fun x hx => HL.out.2 x (List.mem_of_mem_take hx)
      have z2 : (l.take j).length ≤ 1000000 := by rw [List.length_take]; omega
      generalize (l.take j).sum = z at *
      have z3 : -1000000000000000 ≤ z := by omega
      have z4 : z ≤ 1000000000000000 := by omega
      have HS := Lib.hid (And.intro hst hj)
      clear hst hj hx z0 z1 z2
      go_wp2_with fail
      obtain ⟨hst, hj⟩ := HS.out
      go_roundg (gk - 1)
      case measure => omega
      case rel => exact ⟨j + 1, by omega, by go_num, by rw [hst], rfl⟩
    · obtain rfl : j = n := by omega
      go_wp2_with fail
      go_ret
      exact ⟨by rw [List.take_of_length_le (by have := HL.out.1; omega)]; rfl, rfl⟩

set_option maxRecDepth 100000 in
set_option maxHeartbeats 1000000 in
theorem checkCounts_any (B : Nat) (A D : Option Addr) (c cd : Nat) (V : List Off) (C : List Int) (w : World) (hr : RdO w B A V) (hC : Rd w 1 D C.length (ints C)) (hV : V.length ≤ 1000000) :
    Calls Tryd.prog 26 #[.slice A V.length c, .slice D C.length cd] w fun e w' => e = .returned (.int .i64 (countsF V C)) ∧ w.grownBy w' none := by
  obtain ⟨n, hn⟩ : ∃ n, V.length = n := ⟨_, rfl⟩
  obtain ⟨m, hm⟩ : ∃ m, C.length = m := ⟨_, rfl⟩
  obtain ⟨R, hR⟩ : ∃ R, countsF V C = R := ⟨_, rfl⟩
  rw [hm] at hC
  rw [hn, hm, hR]
  by_cases hnm : m = n
  · subst hnm
    have hne : ((m : Int) != (m : Int)) = false := by simp
    have hR2 : cntFrom V C = R := by rw [← hR]; unfold countsF; rw [if_neg (by omega)]
    have HL := Lib.hid (And.intro hn (And.intro hm (And.intro hR2 hr)))
    have hm6 : m ≤ 1000000 := by omega
    clear hn hm hR hR2 hr hV
    go_enter Tryd.func26, Tryd.ntmps26
    go_wp2_with fail
    go_loopg [14] m (fun k i wr => ∃ j : Nat, k + j = m ∧ i = .int .i64 j ∧ w.grownBy wr none ∧ Hid (∀ (i : Nat) (o : Off) (x : Int), i < j → V[i]? = some o → C[i]? = some x → btw x 0 o.ps.length = true))
    case atStart => exact ⟨0, by omega, rfl, grown_refl w, Lib.hid fun i o x h => absurd h (by omega)⟩
    case round =>
      obtain ⟨j, hj, rfl, hg, H⟩ := hrel
      by_cases hlt : j < m
      · obtain ⟨b, off, rfl, hb, r, ht, hok, c0, c1, c2, c3, c4⟩ := (HL.out.2.2.2.grown hg).row (k := j) (by rw [HL.out.1]; exact hlt)
        obtain ⟨b', off', rfl, hb', x, hx, d0⟩ := int_cells (hC.grown hg) hlt
        have hjm : (j : Int) < (m : Int) := by omega
        have hlp : r.ps.length = r.p.n := hok.len.1
        have HT := Lib.hid (And.intro ht (And.intro hx (And.intro hj hlp)))
        have HG := Lib.hid (grown_alloc hg (.cells #[.string r.key, .string r.grp, .slice r.p.A r.p.n r.p.c, .slice r.h.A r.h.n r.h.c, .slice r.t.A r.t.n r.t.c] 53))
        clear ht hx hj hok hlp hg
        obtain ⟨q, hq⟩ : ∃ q, btw x 0 r.p.n = q := ⟨_, rfl⟩
        have HQ := Lib.hid hq
        have hbt : Hid (∀ w0 : World, Calls Tryd.prog 18 #[.int .i64 x, .int .i64 0, .int .i64 r.p.n] w0 fun e w' => e = .returned (.bool q) ∧ w' = w0) := Lib.hid fun w0 => (between_any x 0 r.p.n w0).mono fun e w' ⟨h1, h2⟩ => ⟨by rw [h1, hq], h2.symm⟩
        clear hq
        cases q
        · go_wp2_with fail
          go_quiet ((go_at_call 18; exact Calls.quiet_of_same (hbt.out _)))
          go_wp2_with fail
          go_ret
          refine ⟨retI ?_, grown_drewN HG.out _⟩
          rw [← HL.out.2.2.1]
          exact (cntFrom_bad H.out HT.out.1 HT.out.2.1 (by show btw x 0 r.ps.length = false; rw [HT.out.2.2.2]; exact HQ.out)).symm
        · go_wp2_with fail
          go_quiet ((go_at_call 18; exact Calls.quiet_of_same (hbt.out _)))
          go_wp2_with fail
          have hj := HT.out.2.2.1
          go_roundg (gk - 1)
          case measure => omega
          case rel => exact ⟨j + 1, by omega, by go_num, grown_drewN HG.out _, Lib.hid fun i o y hi ho hy => by
            by_cases e : i = j
            · subst e
              have h1 := HT.out.1
              have h2 := HT.out.2.1
              rw [ho] at h1; rw [hy] at h2
              injection h1 with h1; injection h2 with h2
              subst h1 h2
              show btw _ 0 r.ps.length = true
              rw [HT.out.2.2.2]; exact HQ.out
            · exact H.out i o y (by omega) ho hy⟩
      · obtain rfl : j = m := by omega
        go_wp2_with fail
        go_ret
        refine ⟨retI ?_, hg⟩
        rw [← HL.out.2.2.1]
        refine (cntFrom_ok fun i o x ho hx => H.out i o x ?_ ho hx).symm
        have := (List.getElem?_eq_some_iff.1 ho).1
        rw [HL.out.1] at this
        exact this
  · have hv : R = 3 := by rw [← hR]; unfold countsF; rw [if_pos (by omega)]
    subst hv
    have hne : ((m : Int) != (n : Int)) = true := by simp; omega
    clear hnm hn hm hr hC hR
    go_enter Tryd.func26, Tryd.ntmps26
    go_wp2_with fail
    go_ret
    exact ⟨rfl, grown_refl w⟩

def wE (V : List Off) (C : List Int) : Int := if offsF V ≠ 0 then offsF V else countsF V C
theorem ints_take1 (l : List Int) (q : Nat) : (ints l).take (q * 1) = ints (l.take q) := by simp [ints, List.map_take]
theorem allB_rng {l : List Int} {a b : Int} (h : allB l a b = true) : ∀ x ∈ l, a ≤ x ∧ x ≤ b := by
  unfold allB at h
  rw [List.all_eq_true] at h
  exact fun x hx => btw_true.1 (h x hx)
theorem worthN_rng {V : List Off} {C : List Int} (h : ∀ t ∈ V, OffOk t) : ∀ j, j ≤ V.length → -(10000000 * (j : Int)) ≤ worthN V C j ∧ worthN V C j ≤ 10000000 * (j : Int)
  | 0, _ => by simp [worthN]
  | j + 1, hj => by
    obtain ⟨h1, h2⟩ := worthN_rng (C := C) h j (by omega)
    have ht : V[j]? = some V[j] := List.getElem?_eq_getElem (by omega)
    have hd : V.getD j default = V[j] := by simp [List.getD, ht]
    obtain ⟨_, _, hl, hb, _⟩ := offBF_ok (h _ (List.mem_of_getElem? ht)).2
    have hr := sum_abs (M := 1000000) (by omega) (l := V[j].ps.take (C.getD j 0).toNat) (fun x hx => allB_rng hb x (List.mem_of_mem_take hx))
    have hl2 : ((V[j].ps.take (C.getD j 0).toNat).length : Int) ≤ 10 := by
      have : (V[j].ps.take (C.getD j 0).toNat).length ≤ V[j].ps.length := by rw [List.length_take]; omega
      omega
    rw [worthN, hd]
    omega

set_option maxRecDepth 100000 in
set_option maxHeartbeats 2000000 in
theorem worth_ok (B : Nat) (A D : Option Addr) (c cd : Nat) (V : List Off) (C : List Int) (w : World) (hr : RdO w B A V) (hC : Rd w 1 D C.length (ints C)) (h1 : offsF V = 0) (h2 : countsF V C = 0) :
    Calls Tryd.prog 16 #[.slice A V.length c, .slice D C.length cd] w fun e w' => e = .returned (.tuple #[.int .i64 (worthN V C V.length), .int .i64 0]) ∧ w.grownBy w' none := by
  obtain ⟨hl30, hall, _⟩ := offs_ok h1
  have hck := checkOffers_any B A c V w hr
  have hcc := fun (wx : World) (hg : w.grownBy wx none) => checkCounts_any B A D c cd V C wx (hr.grown hg) (hC.grown hg) (by omega)
  have hlen : C.length = V.length := by
    unfold countsF at h2
    by_cases h : C.length = V.length
    · exact h
    · rw [if_pos h] at h2; cases h2
  have hcnt : cntFrom V C = 0 := by unfold countsF at h2; rw [if_neg (by omega)] at h2; exact h2
  rw [h1] at hck
  obtain ⟨n, hn⟩ : ∃ n, V.length = n := ⟨_, rfl⟩
  rw [hlen] at hcc hC ⊢
  rw [hn] at hck hcc hC hl30 ⊢
  have hcc' : ∀ (wx : World), w.grownBy wx none → Calls Tryd.prog 26 #[.slice A n c, .slice D n cd] wx fun e w' => e = .returned (.int .i64 0) ∧ wx.grownBy w' none := by
    intro wx hg; have := hcc wx hg; rw [h2] at this; exact this
  have HC := Lib.hid (And.intro hck (And.intro hcc' (And.intro hr (And.intro hC (And.intro hall (And.intro hcnt hn))))))
  clear hck hcc hcc' hr hC hall h1 h2 hcnt hlen hn
  go_enter Tryd.func16, Tryd.ntmps16
  go_wp2_with fail
  refine HC.out.1.mono ?_
  rintro e w1 ⟨rfl, hg1⟩
  go_wp2_with fail
  refine (HC.out.2.1 _ hg1).mono ?_
  rintro e w2 ⟨rfl, hg2⟩
  have hg12 := hg1.trans hg2
  clear hg1 hg2
  go_wp2_with fail
  go_loopg [8, 24] n (fun k z i wr => ∃ j : Nat, k + j = n ∧ i = .int .i64 j ∧ z = .int .i64 (worthN V C j) ∧ w.grownBy wr none)
  case atStart => exact ⟨0, by omega, rfl, rfl, hg12⟩
  case round =>
    obtain ⟨j, hj, rfl, rfl, hg⟩ := hrel
    clear hg12
    by_cases hlt : j < n
    · obtain ⟨b, off, rfl, hb, r, ht, hok, c0, c1, c2, c3, c4⟩ := (HC.out.2.2.1.grown hg).row (k := j) (by rw [HC.out.2.2.2.2.2.2]; exact hlt)
      obtain ⟨b', off', rfl, hb', x, hx, d0⟩ := int_cells (HC.out.2.2.2.1.grown hg) hlt
      have hx2 := cntFrom_all HC.out.2.2.2.2.2.1 j _ x ht hx
      obtain ⟨x0, x1⟩ := btw_true.1 hx2
      have hlp : r.ps.length = r.p.n := hok.len.1
      obtain ⟨q, rfl⟩ := Int.eq_ofNat_of_zero_le x0
      have hqn : q ≤ r.p.n := by rw [← hlp]; have : (q : Int) ≤ (r.ps.length : Int) := x1; omega
      have hokp := hok.1.grown (grown_alloc (grown_refl wr) (.cells #[.string r.key, .string r.grp, .slice r.p.A r.p.n r.p.c, .slice r.h.A r.h.n r.h.c, .slice r.t.A r.t.n r.t.c] 53))
      obtain ⟨A1, hs1, hr1⟩ := win_h (P := Tryd.prog) undIntW sizeIntW hokp.1 hqn hokp.2.1
      rw [ints_take1] at hr1
      have hoff := offBF_ok (HC.out.2.2.2.2.1 _ (List.mem_of_getElem? ht)).2
      have hbd := allB_rng hoff.2.2.2.1
      have hql : q ≤ 10 := by have h10 : r.ps.length ≤ 10 := hoff.2.2.1; omega
      have htot : Hid (∀ nq, Calls Tryd.prog 27 #[.slice A1 q r.p.c] ((wr.alloc (.cells #[.string r.key, .string r.grp, .slice r.p.A r.p.n r.p.c, .slice r.h.A r.h.n r.h.c, .slice r.t.A r.t.n r.t.c] 53)).drewN nq) fun e w' => e = .returned (.int .i64 (r.ps.take q).sum) ∧ w' = (wr.alloc (.cells #[.string r.key, .string r.grp, .slice r.p.A r.p.n r.p.c, .slice r.h.A r.h.n r.h.c, .slice r.t.A r.t.n r.t.c] 53)).drewN nq) :=
        Lib.hid fun nq => total_same A1 q r.p.c (r.ps.take q) _ hr1 (by omega) (fun x hx => by have := hbd x (List.mem_of_mem_take hx); omega)
      have htot0 : Hid (Calls Tryd.prog 27 #[.slice A1 q r.p.c] (wr.alloc (.cells #[.string r.key, .string r.grp, .slice r.p.A r.p.n r.p.c, .slice r.h.A r.h.n r.h.c, .slice r.t.A r.t.n r.t.c] 53)) fun e w' => e = .returned (.int .i64 (r.ps.take q).sum) ∧ w' = wr.alloc (.cells #[.string r.key, .string r.grp, .slice r.p.A r.p.n r.p.c, .slice r.h.A r.h.n r.h.c, .slice r.t.A r.t.n r.t.c] 53)) :=
        Lib.hid (total_same A1 q r.p.c (r.ps.take q) _ hr1 (by omega) (fun x hx => by have := hbd x (List.mem_of_mem_take hx); omega))
      have hsum := sum_abs (M := 1000000) (by omega) (l := r.ps.take q) (fun x hx => hbd x (List.mem_of_mem_take hx))
      have hsl : ((r.ps.take q).length : Int) ≤ 10 := by rw [List.length_take]; omega
      have hwr := worthN_rng (C := C) HC.out.2.2.2.2.1 j (by rw [HC.out.2.2.2.2.2.2]; omega)
      have hws : worthN V C (j + 1) = worthN V C j + (r.ps.take q).sum := by
        rw [worthN]
        have e1 : V.getD j default = offK r := by simp [List.getD, ht]
        have e2 : C.getD j 0 = (q : Int) := by simp [List.getD, hx]
        rw [e1, e2]; rfl
      obtain ⟨S, hS⟩ : ∃ S, (r.ps.take q).sum = S := ⟨_, rfl⟩
      obtain ⟨Z, hZ⟩ : ∃ Z, worthN V C j = Z := ⟨_, rfl⟩
      rw [hS] at htot htot0 hws hsum
      rw [hZ] at hws hwr ⊢
      have z1 : -10000000 ≤ S := by omega
      have z2 : S ≤ 10000000 := by omega
      have z3 : -400000000 ≤ Z := by omega
      have z4 : Z ≤ 400000000 := by omega
      have zw : IntKind.i64.wrap (Z + S) = Z + S := IntWalk.i64_in _ (by omega)
      have hjn : (j : Int) < (n : Int) := by omega
      have HT := Lib.hid (And.intro hws hj)
      have HG := Lib.hid (grown_alloc hg (.cells #[.string r.key, .string r.grp, .slice r.p.A r.p.n r.p.c, .slice r.h.A r.h.n r.h.c, .slice r.t.A r.t.n r.t.c] 53))
      clear ht hx hok hokp hr1 hoff hbd hsum hsl hwr hws hS hZ hj hg hlp hx2 x1
      go_wp2_with fail
      go_quiet ((go_at_call 27; first | exact Calls.quiet_of_same htot0.out | exact Calls.quiet_of_same (htot.out _)))
      clear zw
      go_wp2_with fail
      have hj := HT.out.2
      go_roundg (gk - 1)
      case measure => omega
      case rel => exact ⟨j + 1, by omega, by go_num, by rw [HT.out.1], grown_drewN HG.out _⟩
    · obtain rfl : j = n := by omega
      go_wp2_with fail
      go_ret2
      exact ⟨rfl, hg⟩

end Go.Proofs.YtcaeochiippdgaaDoor
