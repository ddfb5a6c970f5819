/- The walk of the stream's Versions, of layouts with 3 slots. -/
import Derived.Test.YtcaeochiippdgaaDoorMkV
import Derived.Test.YtcaeochiippdgaaDoorSplit
import Derived.Deep.RegionHeld
namespace Go.Proofs.YtcaeochiippdgaaDoor
open Go.RowKit
variable {Q : Nat → Prop}

set_option maxRecDepth 100000 in
set_option maxHeartbeats 4000000 in
theorem versions_n3 (bs : Nat) (L : List Int) (t : Nat) (w : World) (hs : StrQ Q w bs L t) (ht : t ≤ 800000) (hRN : nx L t 4 = 3) :
    Calls Tryd.prog 4 #[.pointer (some ⟨bs, 0, none⟩)] w
      (VerPost Q w bs L (versM L t)) := by
  have hbs := hs.lt
  obtain ⟨M, hM⟩ : ∃ M, versM L t = M := ⟨_, rfl⟩
  rw [hM]
  obtain ⟨a0, a1⟩ := nx_in L t 4 (by omega)
  obtain ⟨b0, b1⟩ := nx_in L (t + 1) 4 (by omega)
  obtain ⟨c0, c1⟩ := nx_in L (t + 1 + 1) 5 (by omega)
  obtain ⟨n, hn⟩ := Int.eq_ofNat_of_zero_le a0
  have hnN : n = 3 := by omega
  have HNN := Lib.hid hnN
  clear hnN hRN
  obtain ⟨cn, hcn⟩ := Int.eq_ofNat_of_zero_le c0
  obtain ⟨dy, hdy⟩ : ∃ dy, nx L (t + 1) 4 = dy := ⟨_, rfl⟩
  have hmid : verMid L t = verRun L n cn ⟨t + 1 + 1 + 1, dy, []⟩ := by unfold verMid; rw [hn, hcn, hdy]; rfl
  unfold versM at hM
  simp only [hmid] at hM
  have HM := Lib.hid (And.intro hM (And.intro hn (And.intro hcn hdy)))
  rw [hdy] at b0 b1
  rw [hn] at a1
  rw [hcn] at c1
  clear hM hn hcn hdy hmid a0 c0
  go_enter Tryd.func4, Tryd.ntmps4
  go_wp2_with fail
  refine (next_any bs L t 4 _ hs (by omega) (by omega)).mono ?_
  rw [HM.out.2.1]
  rintro e w1 ⟨rfl, hs1, hg1⟩
  go_wp2_with fail
  refine (next_any bs L (t + 1) 4 _ hs1 (by omega) (by omega)).mono ?_
  rw [HM.out.2.2.2]
  rintro e w2 ⟨rfl, hs2, hg2⟩
  go_wp2_with fail
  refine (next_any bs L (t + 1 + 1) 5 _ hs2 (by omega) (by omega)).mono ?_
  rw [HM.out.2.2.1]
  rintro e w3 ⟨rfl, hs3, hg3⟩
  have hO3 : OVs Q w w3 bs L (t + 1 + 1 + 1) (.slice none 0 0) [] := ⟨[], rfl, World.ownsRow_nil _ _ _ _, fun r hr => by simp at hr, hs3, (hg1.trans hg2).trans hg3, hbs, fun i j ri rj a b _ h => by simp at h⟩
  clear hs1 hs2 hs3 hg1 hg2 hg3 hs
  obtain ⟨S0, hS0⟩ : ∃ S0 : VSs, S0 = ⟨t + 1 + 1 + 1, dy, []⟩ := ⟨_, rfl⟩
  rw [← hS0] at HM
  have hS1 : S0.t = t + 1 + 1 + 1 ∧ S0.day = dy ∧ S0.out = [] := by rw [hS0]; exact ⟨rfl, rfl, rfl⟩
  have HS1 := Lib.hid hS1
  clear hS0 hS1
  go_wp2_with fail
  go_loopg [3, 5, 14] cn (fun k vo vd vi wr => ∃ j : Nat, k + j = cn ∧ vi = .int .i64 j ∧ vd = .int .i64 (verRun L n j S0).day ∧ OVs Q w wr bs L (verRun L n j S0).t vo (verRun L n j S0).out)
  case atStart =>
    obtain ⟨h1, h2, h3⟩ := HS1.out
    exact ⟨0, by omega, rfl, by simp [verRun, h2], by simp only [verRun, h1, h3]; exact hO3⟩
  case round =>
    clear hO3
    obtain ⟨j, hj, rfl, rfl, HO⟩ := hrel
    by_cases hlt : j < cn
    · obtain ⟨h1, h2, h3⟩ := HS1.out
      have hbd := verRun_bound L n j S0 (by omega)
      rw [h1, h2, h3] at hbd
      simp only [List.length_nil, Nat.zero_add] at hbd
      have hjn : j * (n + 1) ≤ 4 * 4 := Nat.mul_le_mul (by omega) (by omega)
      have hbt : (verRun L n j S0).t ≤ t + 30 := by omega
      have hbo : (verRun L n j S0).out.length ≤ 5 := by omega
      have hd0 := hbd.2.1
      have hd1 : (verRun L n j S0).day ≤ 100 := by omega
      have hsucc : verRun L n (j + 1) S0 = verStep L n (verRun L n j S0) := rfl
      generalize verRun L n j S0 = st at *
      unfold verStep at hsucc
      have HS := Lib.hid (And.intro hsucc hj)
      have hjk : (j : Int) < (cn : Int) := by omega
      obtain ⟨ko, rfl⟩ : ∃ ko : Nat, ko = gk := ⟨_, rfl⟩
      obtain ⟨l, hl, H⟩ := HO
      have hll : l.length ≤ 5 := by have := congrArg List.length hl; rw [List.length_map] at this; omega
      have HL := Lib.hid hl
      have HB := Lib.hid (H.begin_ st.day)
      clear hsucc hj h1 h2 h3 hbd hjn hl
      have kb := HB.out.box.two
      clear kb
      obtain ⟨wo, rfl⟩ : ∃ wo : World, wo = wr := ⟨_, rfl⟩
      go_wp2_with fail
      go_loopg [19] n (fun k vi wr => ∃ (m : Nat) (vl : Value), k + m = n ∧ vi = .int .i64 m ∧ VSt Q w wr bs (wo.heap.size + 1) wo.heap.size L (st.t + m) st.day vl (verKs L st.t m) u3 l)
      case atStart => exact ⟨0, _, by omega, rfl, HB.out⟩
      case round =>
        clear HB
        obtain ⟨m, vl, hm, rfl, H2⟩ := hrel
        have hkl := verKs_len L st.t m
        by_cases hlm : m < n
        · obtain ⟨KS, hKS⟩ : ∃ KS, verKs L st.t m = KS := ⟨_, rfl⟩
          have hks : verKs L st.t (m + 1) = KS ++ [pkS L (st.t + m) [ByteArray.empty, sA, sBb]] := by rw [verKs, hKS]
          rw [hKS] at hkl H2
          obtain ⟨AV, cV, rfl, _, _, _, _⟩ := Rd.of_own H2.lay
          have q0 : wr.cell? ⟨wo.heap.size, 1, none⟩ = some (.slice AV KS.length cV) := H2.box.cell 1
          have q1 : ∀ o, (wr.alloc o).cell? ⟨wo.heap.size, 1, none⟩ = some (.slice AV KS.length cV) := fun o => (H2.alloc o).box.cell 1
          have hRS : Rd (wr.alloc (.cells #[.string ByteArray.empty, .string ⟨#[97]⟩, .string ⟨#[98]⟩] 9)) 1 (some ⟨wr.heap.size, 0, none⟩) 3 (strs [ByteArray.empty, sA, sBb]) :=
            ⟨by simp [strs], fun _ => ⟨wr.heap.size, 0, rfl, by simp, fun j u h => by rw [Nat.zero_add, World.cell?_alloc_new]; simpa [strs, sA, sBb] using h⟩⟩
          have hlt2 : bs < wr.heap.size := H2.st.lt
          have hP1 : ∀ w1 (_ : StrQ Q w1 bs L (st.t + m)) (_ : Rd w1 1 (some ⟨wr.heap.size, 0, none⟩) 3 (strs [ByteArray.empty, sA, sBb])), Calls Tryd.prog 11 #[.pointer (some ⟨bs, 0, none⟩), .slice (some ⟨wr.heap.size, 0, none⟩) 3 3] w1 (fun e w' => e = .returned (.string (pkS L (st.t + m) [ByteArray.empty, sA, sBb])) ∧ StrQ Q w' bs L (st.t + m + 1) ∧ w1.grownBy w' (some bs)) :=
            fun w1 hs hr => one_any bs L (st.t + m) (some ⟨wr.heap.size, 0, none⟩) 3 [ByteArray.empty, sA, sBb] w1 hs (by omega) (by simp) (by simp) hr (by intro a e; cases e; simp; omega)
          have HP := Lib.hid (And.intro hP1 hRS)
          have HT4 := Lib.hid H2
          have HK := Lib.hid (And.intro hks (And.intro hm hkl))
          have hkl5 : KS.length ≤ 5 := by omega
          have hmn : (m : Int) < (n : Int) := by omega
          clear hP1 hRS hks hm hkl H2 hKS
          generalize hKe : pkS L (st.t + m) [ByteArray.empty, sA, sBb] = K at *
          clear hKe
          go_wp2_with fail
          go_region_law (first
            | (refine st_s1 w5 _ rfl K rfl _ _ rfl (wo.heap.size + 1) _ KS rfl HT5.out.lay rfl (by omega) HT5.out.Cw ?_; intro g7 c7 w7 hown7 hg7; obtain ⟨hb7, H8⟩ := (HT5.out.alloc (.cells #[.string K] 9)).app hown7 hg7; have k7 := hb7.two)
            | (go_simp; go_at_call 11; refine (HP.out.1 _ (HT4.out.alloc _).drew.st (Rd.dr HP.out.2)).mono ?_; rintro e w5 ⟨rfl, hs5, hg5⟩; dsimp only; have HT5 := Lib.hid (show VSt Q w w5 bs (wo.heap.size + 1) wo.heap.size L (st.t + m + 1) st.day (.slice AV KS.length cV) KS u3 l from (HT4.out.alloc _).drew.step hs5 hg5); have q4 : w5.cell? ⟨wo.heap.size, 1, none⟩ = some (.slice AV KS.length cV) := HT5.out.box.cell 1; have q5 : ∀ o, (w5.alloc o).cell? ⟨wo.heap.size, 1, none⟩ = some (.slice AV KS.length cV) := fun o => (HT5.out.alloc o).box.cell 1))
          all_goals (
            go_wp2_with fail
            have hm := HK.out.2.1
            go_roundg (gk - 1)
            case measure => omega
            case rel => exact ⟨m + 1, _, by omega, by go_num, by rw [HK.out.1]; exact H8⟩)
        · obtain rfl : m = n := by omega
          obtain ⟨KS, hKS⟩ : ∃ KS, verKs L st.t m = KS := ⟨_, rfl⟩
          rw [hKS] at hkl H2
          obtain ⟨AV, cV, rfl, _, _, _, _⟩ := Rd.of_own H2.lay
          obtain ⟨q0, q1, _, _⟩ := H2.box.two
          have HK := Lib.hid (And.intro hKS (And.intro hkl HL.out))
          have hH := H2.st.lt
          clear hKS hm hlm hkl
          have HT := Lib.hid H2
          clear H2
          go_wp2_with (at_builtin; refine ap_vr wr _ rfl ⟨st.day, AV, KS.length, cV, KS⟩ rfl _ _ rfl w.heap.size _ l rfl HT.out.out rfl (by omega) HT.out.gro.size ?_; intro v4 w4 hown4 hg4; have H4 := HT.out.end_ rfl hown4 hg4)
          clear q0 q1 hown4 hg4 HT
          refine (pick_lit bs L _ [1, 2, 5] w4 H4.st (by omega) (by decide) (by decide) 3).mono ?_
          rintro e w5 ⟨rfl, hs5, hg5⟩
          have H5 := H4.step hs5 hg5
          have hp := pk_mem L (st.t + m) [1, 2, 5] (by simp)
          simp only [List.mem_cons, List.not_mem_nil, or_false] at hp
          obtain ⟨p, hpe⟩ : ∃ p, pk L (st.t + m) [1, 2, 5] = p := ⟨_, rfl⟩
          have hp0 : 0 ≤ p := by omega
          have hp5 : p ≤ 5 := by omega
          have HP := Lib.hid hpe
          rw [hpe]
          clear hp hpe hs5 hg5 H4
          go_wp2_with fail
          obtain ⟨hsucc, hj⟩ := HS.out
          obtain ⟨k1, k2, k3⟩ := HK.out
          have hout : (l ++ [(⟨st.day, AV, KS.length, cV, KS⟩ : Vr)]).map verK = st.out ++ [⟨st.day, verKs L st.t m⟩] := by rw [List.map_append, k3, k1]; rfl
          go_roundg (ko - 1)
          case measure => omega
          case rel => exact ⟨j + 1, by omega, by go_num, by rw [hsucc, HP.out], by rw [hsucc]; exact ⟨_, hout, H5⟩⟩
    · obtain rfl : j = cn := by omega
      have hbd := verRun_bound L n j S0 (by have := HS1.out; omega)
      have hvk := verRun_ks L n j S0 (by rw [HS1.out.2.2]; simp)
      rw [HS1.out.1, HS1.out.2.2] at hbd
      simp only [List.length_nil, Nat.zero_add] at hbd
      have hjn : j * (n + 1) ≤ 4 * 4 := Nat.mul_le_mul (by omega) (by omega)
      have hbt : (verRun L n j S0).t ≤ t + 30 := by omega
      have hbo : (verRun L n j S0).out.length ≤ 5 := by omega
      obtain ⟨hM, _⟩ := HM.out
      generalize verRun L n j S0 = st at *
      clear HM HS1 hbd hjn hj hlt
      obtain ⟨l, hl, H⟩ := HO
      obtain ⟨AO, cO, rfl, hRd⟩ := H.rd
      have hln : l.length = st.out.length := by rw [← hl, List.length_map]
      rw [hl] at hRd
      obtain ⟨N, hN⟩ : ∃ N, st.out.length = N := ⟨_, rfl⟩
      rw [hN] at hM hbo hln
      have HA := Lib.hid (And.intro hl (And.intro hRd (And.intro hvk (And.intro hN hln))))
      have HM := Lib.hid hM
      have hH := Lib.hid H
      have hst := H.st
      rw [hln]
      clear hl hRd hvk hN hM H
      by_cases hf : nx L st.t 12 = 0
      · have zf : (nx L st.t 12 == 0) = true := by rw [hf]; rfl
        by_cases h0 : 0 < N
        · obtain ⟨AO', cO', hve, _, hcO, hro, _⟩ := Rd.of_own hH.out.out
          obtain ⟨gO, rfl⟩ : ∃ gO, AO = some ⟨gO, 0, none⟩ := by
            rcases hH.out.out.2 with ⟨e, _⟩ | ⟨g', cap, cur, e, _⟩
            · injection e with e1 e2 _
              have := HA.out.2.2.2.2
              omega
            · injection e with e1 _ _
              exact ⟨g', e1⟩
          obtain ⟨i0, i1⟩ := nx_in L (st.t + 1) N (by omega)
          obtain ⟨i, hi⟩ := Int.eq_ofNat_of_zero_le i0
          obtain ⟨k0, k1⟩ := nx_in L (st.t + 1 + 1) 3 (by omega)
          have hiN : i < N := by omega
          have hil : i < l.length := by have := HA.out.2.2.2.2; omega
          have hr := List.getElem?_eq_getElem hil
          obtain ⟨r, hre⟩ : ∃ r, l[i] = r := ⟨_, rfl⟩
          rw [hre] at hr
          have hM := HM.out
          rw [if_pos ⟨hf, by omega⟩, hi] at hM
          have hgv : st.out.getD i default = verK r := by rw [← HA.out.1]; simp [List.getD, hr]
          have hgl : l.getD i default = r := by simp [List.getD, hr]
          have hmv : ∀ r' : Vr, (l.set i r').map verK = st.out.set i (verK r') := fun r' => by rw [List.map_set, HA.out.1]
          simp only [Int.toNat_natCast, hgv] at hM
          obtain ⟨k, hk⟩ : ∃ k, nx L (st.t + 1 + 1) 3 = k := ⟨_, rfl⟩
          rw [hk] at hM k0 k1
          have hin : (i : Int) < (N : Int) := by omega
          have hkn : r.ks.length = n := by
            have h1 : verK r ∈ st.out := by rw [← HA.out.1]; exact List.mem_map.2 ⟨r, List.mem_of_getElem? hr, rfl⟩
            exact HA.out.2.2.1 _ h1
          have HI := Lib.hid (And.intro hi (And.intro hk (And.intro hr (And.intro hgl (And.intro hmv hkn)))))
          have HM2 := Lib.hid hM
          have zf2 : (nx L st.t 12 == 0) = true := zf
          clear hM HM hi hk hr hre hgv hgl hmv hf zf hve hcO hro i0 i1 hkn
          go_wp2_with fail
          refine (flip_any bs L _ 12 _ hst (by omega) (by omega)).mono ?_
          rw [zf2]
          rintro e w4 ⟨rfl, hs4, hg4⟩
          have H4 := hH.out.step hs4 hg4
          clear zf2 hg4
          go_wp2_with fail
          refine (next_any bs L (st.t + 1) N _ hs4 (by omega) (by omega)).mono ?_
          rw [HI.out.1]
          rintro e w5 ⟨rfl, hs5, hg5⟩
          have H5 := H4.step hs5 hg5
          clear hs4 hg5 H4
          go_wp2_with fail
          refine (next_any bs L (st.t + 1 + 1) 3 _ hs5 (by omega) (by omega)).mono ?_
          rw [HI.out.2.1]
          rintro e w6 ⟨rfl, hs6, hg6⟩
          have H6 := H5.step hs6 hg6
          clear hs5 hg6 H5 hst hH
          have hlN := HA.out.2.2.2.2
          have hgo0 : w.heap.size ≤ gO := (H6.out.lt gO rfl).1
          by_cases e0 : k = 0
          · subst e0
            have hM := HM2.out
            rw [if_pos rfl] at hM
            subst hM
            have z0 : ((0 : Int) == 0) = true := rfl
            clear hlN
            go_wp2_with fail
            refine (pick_lit bs L _ [-1, 0, 4001] w6 hs6 (by omega) (by decide) (by decide) 3).mono ?_
            rintro e w7 ⟨rfl, hs7, hg7⟩
            have H7 := H6.step hs7 hg7
            clear hs6 hg7 H6
            obtain ⟨p, hpe⟩ : ∃ p, pk L (st.t + 1 + 1 + 1) [-1, 0, 4001] = p := ⟨_, rfl⟩
            rw [hpe]
            have HP := Lib.hid hpe
            clear hpe
            have hfz := H7.out.frozenAt (i * 2)
            have hcl := H7.out.cellAt (i * 2) (by have := HA.out.2.2.2.2; omega)
            obtain ⟨x0, hx0⟩ : ∃ x0, (vrFlat l)[i * 2]? = some x0 := ⟨_, List.getElem?_eq_getElem (by rw [vrFlat_len]; have := HA.out.2.2.2.2; omega)⟩
            rw [hx0] at hcl
            obtain ⟨ho, hgs⟩ := H7.out.stored (i * 2) (.int .i64 p)
            rw [vrFlat_f l i p (by have := HA.out.2.2.2.2; omega), HI.out.2.2.2.1] at ho
            have hall : ∀ x ∈ l.set i { r with f := p }, VrOk (w7.setCell ⟨gO, i * 2, none⟩ (.int .i64 p)) w.heap.size x := fun x hx => by
              rcases List.mem_or_eq_of_mem_set hx with hx | rfl
              · exact (VrIn.of (H7.old x hx) H7.out rfl (by decide)).set
              · have := (VrIn.of (H7.old r (List.mem_of_getElem? HI.out.2.2.1)) H7.out rfl (by decide)).set (i := i * 2) (u := .int .i64 p)
                exact this
            have hrd := RdV.of ho (by rw [List.length_set]) hall
            rw [HI.out.2.2.2.2.1] at hrd
            have hgf : w.grownBy (w7.setCell ⟨gO, i * 2, none⟩ (.int .i64 p)) (some bs) := grown_below H7.gro hgs (fun j hj => by injection hj with hj; exact .inl (by omega))
            have hsf : StrQ Q (w7.setCell ⟨gO, i * 2, none⟩ (.int .i64 p)) bs L (st.t + 1 + 1 + 1 + 1) := hs7.far gO (by omega) _ _
            have HF := Lib.hid (And.intro hrd (And.intro hsf hgf))
            clear hrd hsf hgf ho hgs hall hx0 H7 hs7
            go_wp2_with fail
            go_ret
            refine ⟨some ⟨gO, 0, none⟩, cO, ?_, ?_, ?_, HF.out.2.2⟩
            · show Ending.returned (.slice (some ⟨gO, 0, none⟩) N cO) = .returned (.slice (some ⟨gO, 0, none⟩) (st.out.set i _).length cO)
              rw [List.length_set, HA.out.2.2.2.1]
            · show RdV _ _ _ (st.out.set i ⟨pk L (st.t + 1 + 1 + 1) [-1, 0, 4001], (verK r).ks⟩)
              rw [HP.out]; exact HF.out.1
            · exact HF.out.2.1
          · have z0 : (k == 0) = false := by simpa using e0
            have hM := HM2.out
            rw [if_neg e0] at hM
            clear HM2
            by_cases e1 : k = 1
            · subst e1
              rw [if_pos rfl] at hM
              subst hM
              clear hlN
              have hro := H6.old r (List.mem_of_getElem? HI.out.2.2.1)
              have hrn : r.n = r.ks.length := by have := hro.1; rw [strs_len] at this; omega
              obtain ⟨rA, rc, hve2, _, _, _, _⟩ := Rd.of_own hro
              have c1 := H6.out.cellAt (i * 2 + 1) (by have := HA.out.2.2.2.2; omega)
              rw [show (vrFlat l)[i * 2 + 1]? = some (.slice r.A r.n r.c) from (rows_at vrCells_len l i 1 r HI.out.2.2.1 (by omega))] at c1
              have hro' : w6.ownsRow w.heap.size 9 1 (.slice r.A r.n r.c) r.ks.length (strs r.ks) := by rw [← hrn]; exact hro
              have hk5 : r.ks.length ≤ 5 := by have := HI.out.2.2.2.2.2; omega
              have HR := Lib.hid (And.intro hro' (And.intro H6 hrn))
              clear hro hrn hro' hve2 H6
              have hTT : 43 ≠ 9 := by decide
              have hi2 : i * 2 + 1 < l.length * 2 := by have := HA.out.2.2.2.2; omega
              have hvl : (vrFlat l)[i * 2 + 1]? = some (.slice r.A r.n r.c) := rows_at vrCells_len l i 1 r HI.out.2.2.1 (by omega)
              have HV := Lib.hid (And.intro hTT (And.intro hi2 hvl))
              clear hTT hi2 hvl
              go_wp2_with (at_builtin; refine ap_s1 w6 sA rfl _ _ rfl w.heap.size (.slice r.A r.n r.c) r.ks rfl HR.out.1 rfl (by omega) HR.out.2.1.gro.size ?_; intro v7 w7 hown7 hg7; obtain ⟨A7, c7, hv7, hn7, hc7, hrd7, hb7⟩ := Rd.of_own hown7; subst hv7; have hout7 := (HR.out.2.1.out.alloc (.cells #[.string sA] 9)).kept hg7 (own_ty (HR.out.2.1.out.alloc (.cells #[.string sA] 9)) (HR.out.1.alloc (.cells #[.string sA] 9)) HV.out.1); have hfz := hout7.frozenAt (i * 2 + 1); have hcl := (hout7.cellAt (i * 2 + 1) HV.out.2.1).trans HV.out.2.2)
              have hil : i < l.length := by have := HA.out.2.2.2.2; omega
              obtain ⟨ho, hgs⟩ := hout7.stored (i * 2 + 1) (.slice A7 (r.ks ++ [sA]).length c7)
              rw [vrFlat_s l i A7 (r.ks ++ [sA]).length c7 (r.ks ++ [sA]) hil, HI.out.2.2.2.1] at ho
              have hnew : VrIn w7 w.heap.size gO ⟨r.f, A7, (r.ks ++ [sA]).length, c7, r.ks ++ [sA]⟩ := VrIn.of hown7 hout7 rfl (by decide)
              have hall : ∀ x ∈ l.set i ⟨r.f, A7, (r.ks ++ [sA]).length, c7, r.ks ++ [sA]⟩, VrOk (w7.setCell ⟨gO, i * 2 + 1, none⟩ (.slice A7 (r.ks ++ [sA]).length c7)) w.heap.size x := fun x hx => by
                obtain ⟨j, hj⟩ := List.getElem?_of_mem hx
                by_cases hji : j = i
                · subst hji
                  rw [List.getElem?_set_self hil] at hj
                  injection hj with hj
                  subst hj
                  exact hnew.set
                · rw [List.getElem?_set_ne (fun e => hji e.symm)] at hj
                  have hox := ((HR.out.2.1.old x (List.mem_of_getElem? hj)).alloc (.cells #[.string sA] 9)).kept hg7 (HR.out.2.1.other hji hj HI.out.2.2.1)
                  exact (VrIn.of hox hout7 rfl (by decide)).set
              have hrd := RdV.of ho (by rw [List.length_set]) hall
              rw [HI.out.2.2.2.2.1] at hrd
              have hg77 : w.grownBy w7 (some bs) := grown_below (grown_alloc HR.out.2.1.gro _) hg7 (fun j hj => .inl ((HR.out.1.lt j hj).1))
              have hgf : w.grownBy (w7.setCell ⟨gO, i * 2 + 1, none⟩ (.slice A7 (r.ks ++ [sA]).length c7)) (some bs) := grown_below hg77 hgs (fun j hj => by injection hj with hj; exact .inl (by omega))
              have hs7 : StrQ Q w7 bs L (st.t + 1 + 1 + 1) := (hs6.grown (grown_alloc (grown_refl w6) _) (by simp)).grown hg7 (fun j hj => by have := (HR.out.1.lt j hj).1; omega)
              have hsf := hs7.far gO (by omega) (i * 2 + 1) (.slice A7 (r.ks ++ [sA]).length c7)
              have hlo : (l.set i ⟨r.f, A7, (r.ks ++ [sA]).length, c7, r.ks ++ [sA]⟩).length = N := by rw [List.length_set]; exact HA.out.2.2.2.2
              have e9 : (r.ks ++ [sA]).length = r.ks.length + 1 := by simp
              rw [e9] at hrd hsf hgf
              go_ret
              refine ⟨some ⟨gO, 0, none⟩, cO, ?_, hrd, hsf, hgf⟩
              show Ending.returned (.slice (some ⟨gO, 0, none⟩) N cO) = .returned (.slice (some ⟨gO, 0, none⟩) (st.out.set i _).length cO)
              rw [List.length_set, HA.out.2.2.2.1]
            · rw [if_neg e1] at hM
              subst hM
              have z1 : (k == 1) = false := by simpa using e1
              clear e0 e1
              have hro := H6.old r (List.mem_of_getElem? HI.out.2.2.1)
              have hTT : 43 ≠ 9 := by decide
              have hi2 : i * 2 + 1 < l.length * 2 := by have := HA.out.2.2.2.2; omega
              have hvl : (vrFlat l)[i * 2 + 1]? = some (.slice r.A r.n r.c) := rows_at vrCells_len l i 1 r HI.out.2.2.1 (by omega)
              have hcell : ∀ wx : World, wx.ownsRow w.heap.size 43 2 (.slice (some ⟨gO, 0, none⟩) l.length cO) l.length (vrFlat l) → wx.cell? ⟨gO, i * 2 + 1, none⟩ = some (.slice r.A r.n r.c) := fun wx ho => (ho.cellAt (i * 2 + 1) hi2).trans hvl
              obtain ⟨rA', rc', hve2, _, _, hrdr, _⟩ := Rd.of_own hro
              have hrA : rA' = r.A := by injection hve2 with e _ _; exact e.symm
              rw [hrA] at hrdr
              have hkn5 := HI.out.2.2.2.2.2
              clear hlN hve2 hrA
              obtain ⟨rf, rA, rn, rc, rks⟩ := r
              simp only [verK] at *
              have hrn : rks.length = rn := by have := hro.1; rw [strs_len] at this; omega
              have hrnN : rn = 3 := by have := HNN.out; omega
              have HW := Lib.hid (show 3 ≤ 1000000000 by omega)
              have q0 := hcell _ H6.out
              have q1 := fun o => hcell _ (H6.alloc o).out
              have hlt6 : bs < w6.heap.size := H6.st.lt
              have hRS : ∀ wz : World, Rd (wz.alloc (.cells #[.string ByteArray.empty, .string ⟨#[90]⟩] 9)) 1 (some ⟨wz.heap.size, 0, none⟩) 2 (strs [ByteArray.empty, sZb]) := fun wz =>
                ⟨by simp [strs], fun _ => ⟨wz.heap.size, 0, rfl, by simp, fun j u h => by rw [Nat.zero_add, World.cell?_alloc_new]; simpa [strs, sZb] using h⟩⟩
              have hP1 : ∀ (B : Nat) (w1 : World) (_ : StrQ Q w1 bs L (st.t + 1 + 1 + 1)) (_ : Rd w1 1 (some ⟨B, 0, none⟩) 2 (strs [ByteArray.empty, sZb])) (_ : B ≠ bs), Calls Tryd.prog 11 #[.pointer (some ⟨bs, 0, none⟩), .slice (some ⟨B, 0, none⟩) 2 2] w1 (fun e w' => e = .returned (.string (pkS L (st.t + 1 + 1 + 1) [ByteArray.empty, sZb])) ∧ StrQ Q w' bs L (st.t + 1 + 1 + 1 + 1) ∧ w1.grownBy w' (some bs)) :=
                fun B w1 hs hr hne => one_any bs L (st.t + 1 + 1 + 1) (some ⟨B, 0, none⟩) 2 [ByteArray.empty, sZb] w1 hs (by omega) (by simp) (by simp) hr (by intro a e; cases e; exact hne)
              have hne6 : w6.heap.size ≠ bs := by omega
              have HP := Lib.hid (And.intro hP1 (And.intro hRS hne6))
              have HT6 := Lib.hid H6
              have HR := Lib.hid (And.intro hrn (And.intro hcell hro))
              have HV := Lib.hid (And.intro hTT (And.intro hrdr hlt6))
              generalize hKe : pkS L (st.t + 1 + 1 + 1) [ByteArray.empty, sZb] = K at *
              have HK := Lib.hid hKe
              clear hKe hP1 hRS hne6 hrn hcell hro hTT hrdr hlt6 hvl hi2 hkn5 H6 hs6
              subst hrnN
              have hw1 : IntKind.i64.wrap 0 = 0 := by decide
              go_wp2_with fail
              clear k0 k1 hiN hil hin hbs hgo0 z0 z1 hbo hbt h0 ht
              refine region_split_at 21 _ _ rfl rfl (by kernel_rfl) (by kernel_rfl) (by kernel_rfl) (by kernel_rfl) (by kernel_rfl) ?_
              simp only [List.take_succ_cons, List.take_zero, List.size_toArray, List.length_cons, List.length_nil, Nat.reduceAdd]
              have hS0 : w6.drew.cell? ⟨gO, i * 2 + 1, none⟩ = some (.slice rA 3 rc) := q0
              refine wpAny_of_held (S := fun w' => w'.cell? ⟨gO, i * 2 + 1, none⟩ = some (.slice rA 3 rc)) _ _ _ _ ?_
              refine wpAnyH_take (i := 0) (oi := ?oo1) (v := ?vv1) ?hi1 (by kernel_rfl) (by kernel_rfl) (by kernel_rfl) (fun _ _ _ h => h) (Or.inl ⟨?hw1, ?hy1⟩) hS0 ?rest1
              case hi1 => (simp only [List.getElem?_toArray, List.getElem?_cons_zero]; try rfl)
              case hw1 => rfl
              case hy1 => (intro w hSw; (try dsimp only at hSw); go_simp; (try with_reducible rfl))
              try simp only [Act.put, List.setIfInBounds_toArray, List.set_cons_zero, List.set_cons_succ]
              refine wpAnyH_take (i := 1) (oi := ?oo2) (v := ?vv2) ?hi2 (by kernel_rfl) (by kernel_rfl) (by kernel_rfl) (fun _ _ _ h => h) (Or.inl ⟨?hw2, ?hy2⟩) hS0 ?rest2
              case hi2 => (simp only [List.getElem?_toArray, List.getElem?_cons_zero, List.getElem?_cons_succ]; try rfl)
              case hw2 => rfl
              case hy2 => (intro w hSw; (try dsimp only at hSw); go_simp; (try with_reducible rfl))
              try simp only [Act.put, List.setIfInBounds_toArray, List.set_cons_zero, List.set_cons_succ]
              refine wpAnyH_take (i := 2) (oi := ?oo3) (v := ?vv3) ?hi3 (by kernel_rfl) (by kernel_rfl) (by kernel_rfl) (fun _ _ _ h => h) (Or.inl ⟨?hw3, ?hy3⟩) hS0 ?rest3
              case hi3 => (simp only [List.getElem?_toArray, List.getElem?_cons_zero, List.getElem?_cons_succ]; try rfl)
              case hw3 => rfl
              case hy3 => (intro w hSw; (try dsimp only at hSw); go_simp; (try with_reducible rfl))
              try simp only [Act.put, List.setIfInBounds_toArray, List.set_cons_zero, List.set_cons_succ]
              refine wpAnyH_take (i := 3) (oi := ?oo4) (v := ?vv4) ?hi4 (by kernel_rfl) (by kernel_rfl) (by kernel_rfl) (fun _ _ _ h => h) (Or.inl ⟨?hw4, ?hy4⟩) hS0 ?rest4
              case hi4 => (simp only [List.getElem?_toArray, List.getElem?_cons_zero, List.getElem?_cons_succ]; try rfl)
              case hw4 => rfl
              case hy4 => (intro w hSw; (try dsimp only at hSw); go_simp; (try with_reducible rfl))
              try simp only [Act.put, List.setIfInBounds_toArray, List.set_cons_zero, List.set_cons_succ]
              refine wpAnyH_take (i := 4) (oi := ?oo5) (v := ?vv5) ?hi5 (by kernel_rfl) (by kernel_rfl) (by kernel_rfl) (fun _ _ _ h => h) (Or.inl ⟨?hw5, ?hy5⟩) hS0 ?rest5
              case hi5 => (simp only [List.getElem?_toArray, List.getElem?_cons_zero, List.getElem?_cons_succ]; try rfl)
              case hw5 => rfl
              case hy5 => (intro w hSw; (try dsimp only at hSw); go_simp; (try with_reducible rfl))
              try simp only [Act.put, List.setIfInBounds_toArray, List.set_cons_zero, List.set_cons_succ]
              refine wpAnyH_take (i := 6) (oi := ?oo6) (v := ?vv6) ?hi6 (by kernel_rfl) (by kernel_rfl) (by kernel_rfl) (fun _ _ _ h => h) (Or.inl ⟨?hw6, ?hy6⟩) hS0 ?rest6
              case hi6 => (simp only [List.getElem?_toArray, List.getElem?_cons_zero, List.getElem?_cons_succ]; try rfl)
              case hw6 => rfl
              case hy6 => (intro w hSw; (try dsimp only at hSw); go_simp; (try with_reducible rfl))
              try simp only [Act.put, List.setIfInBounds_toArray, List.set_cons_zero, List.set_cons_succ]
              refine wpAnyH_take (i := 11) (oi := ?oo7) (v := ?vv7) ?hi7 (by kernel_rfl) (by kernel_rfl) (by kernel_rfl) (fun _ _ _ h => h) (Or.inl ⟨?hw7, ?hy7⟩) hS0 ?rest7
              case hi7 => (simp only [List.getElem?_toArray, List.getElem?_cons_zero, List.getElem?_cons_succ]; try rfl)
              case hw7 => rfl
              case hy7 => (intro w hSw; (try dsimp only at hSw); go_simp; (try with_reducible rfl))
              try simp only [Act.put, List.setIfInBounds_toArray, List.set_cons_zero, List.set_cons_succ]
              refine wpAnyH_take (i := 12) (oi := ?oo8) (v := ?vv8) ?hi8 (by kernel_rfl) (by kernel_rfl) (by kernel_rfl) (fun _ _ _ h => h) (Or.inl ⟨?hw8, ?hy8⟩) hS0 ?rest8
              case hi8 => (simp only [List.getElem?_toArray, List.getElem?_cons_zero, List.getElem?_cons_succ]; try rfl)
              case hw8 => rfl
              case hy8 => (intro w hSw; (try dsimp only at hSw); go_simp; (try with_reducible rfl))
              try simp only [Act.put, List.setIfInBounds_toArray, List.set_cons_zero, List.set_cons_succ]
              refine wpAnyH_take (i := 13) (oi := ?oo9) (v := ?vv9) ?hi9 (by kernel_rfl) (by kernel_rfl) (by kernel_rfl) (fun _ _ _ h => h) (Or.inl ⟨?hw9, ?hy9⟩) hS0 ?rest9
              case hi9 => (simp only [List.getElem?_toArray, List.getElem?_cons_zero, List.getElem?_cons_succ]; try rfl)
              case hw9 => rfl
              case hy9 => (intro w hSw; (try dsimp only at hSw); go_simp; (try with_reducible rfl))
              try simp only [Act.put, List.setIfInBounds_toArray, List.set_cons_zero, List.set_cons_succ]
              refine wpAnyH_take (i := 14) (oi := ?oo10) (v := ?vv10) ?hi10 (by kernel_rfl) (by kernel_rfl) (by kernel_rfl) (fun _ _ _ h => h) (Or.inl ⟨?hw10, ?hy10⟩) hS0 ?rest10
              case hi10 => (simp only [List.getElem?_toArray, List.getElem?_cons_zero, List.getElem?_cons_succ]; try rfl)
              case hw10 => rfl
              case hy10 => (intro w hSw; (try dsimp only at hSw); go_simp; (try with_reducible rfl))
              try simp only [Act.put, List.setIfInBounds_toArray, List.set_cons_zero, List.set_cons_succ]
              refine wpAnyH_take (i := 15) (oi := ?oo11) (v := ?vv11) ?hi11 (by kernel_rfl) (by kernel_rfl) (by kernel_rfl) (fun _ _ _ h => h) (Or.inl ⟨?hw11, ?hy11⟩) hS0 ?rest11
              case hi11 => (simp only [List.getElem?_toArray, List.getElem?_cons_zero, List.getElem?_cons_succ]; try rfl)
              case hw11 => rfl
              case hy11 => (intro w hSw; (try dsimp only at hSw); go_simp; (try with_reducible rfl))
              try simp only [Act.put, List.setIfInBounds_toArray, List.set_cons_zero, List.set_cons_succ]
              refine wpAnyH_take (i := 16) (oi := ?oo12) (v := ?vv12) ?hi12 (by kernel_rfl) (by kernel_rfl) (by kernel_rfl) (fun _ _ _ h => h) (Or.inl ⟨?hw12, ?hy12⟩) hS0 ?rest12
              case hi12 => (simp only [List.getElem?_toArray, List.getElem?_cons_zero, List.getElem?_cons_succ]; try rfl)
              case hw12 => rfl
              case hy12 => (intro w hSw; (try dsimp only at hSw); go_simp; (try with_reducible rfl))
              try simp only [Act.put, List.setIfInBounds_toArray, List.set_cons_zero, List.set_cons_succ]
              refine wpAnyH_take (i := 17) (oi := ?oo13) (v := ?vv13) ?hi13 (by kernel_rfl) (by kernel_rfl) (by kernel_rfl) (fun _ _ _ h => h) (Or.inl ⟨?hw13, ?hy13⟩) hS0 ?rest13
              case hi13 => (simp only [List.getElem?_toArray, List.getElem?_cons_zero, List.getElem?_cons_succ]; try rfl)
              case hw13 => rfl
              case hy13 => (intro w hSw; (try dsimp only at hSw); go_simp; (try with_reducible rfl))
              try simp only [Act.put, List.setIfInBounds_toArray, List.set_cons_zero, List.set_cons_succ]
              refine wpAnyH_ready (rs := [5, 7]) (by kernel_rfl) (by simp) ?_
              refine AllReadyH.cons rfl (fun K2 hK => ?_) ?_
              · go_simp
                refine (cloneStr_any rA 3 rc rks _ (Rd.dr HV.out.2.1) (by omega)).mono ?_
                rintro e wC ⟨vC, rfl, hownC, hgC⟩
                obtain ⟨AC, cC, hvC, _, _, _, _⟩ := Rd.of_own hownC
                subst hvC
                have HTC := Lib.hid (show wC.ownsRow w6.heap.size 9 1 (.slice AC 3 cC) 3 (strs rks) ∧ OSt Q w wC bs L (st.t + 1 + 1 + 1) (.slice (some ⟨gO, 0, none⟩) l.length cO) l ∧ w6.heap.size ≤ wC.heap.size from ⟨own_mono hownC (by simp), (HT6.out.drew).quiet hgC, by have := hgC.size; simp at this; omega⟩)
                clear hownC
                dsimp only
                refine hK.out _ _ (HR.out.2.1 _ HTC.out.2.1.out) (fun _ => ?_)
                clear hK K2
                try simp only [Act.put, List.getElem_toArray, List.getElem_cons_zero, List.getElem_cons_succ, List.setIfInBounds_toArray, List.set_cons_zero, List.set_cons_succ]
                refine wpAnyH_ready (rs := [7]) (by kernel_rfl) (by simp) ?_
                refine AllReadyH.cons rfl (fun K2 hK => ?_) ?_
                · go_simp
                  refine hK.out _ _ (HR.out.2.1 _ (HTC.out.2.1.alloc _).out) (fun _ => ?_)
                  clear hK K2
                  try simp only [Act.put, List.getElem_toArray, List.getElem_cons_zero, List.getElem_cons_succ, List.setIfInBounds_toArray, List.set_cons_zero, List.set_cons_succ]
                  refine wpAnyH_ready (rs := [8]) (by kernel_rfl) (by simp) ?_
                  refine AllReadyH.cons rfl (fun K2 hK => ?_) ?_
                  · go_simp
                    refine (HP.out.1 _ _ (HTC.out.2.1.alloc _).st (HP.out.2.1 wC) (by have := HTC.out.2.1.st.lt; omega)).mono ?_
                    rintro e w5 ⟨rfl, hs5, hg5⟩
                    have HT5 := Lib.hid (show w5.ownsRow w6.heap.size 9 1 (.slice AC 3 cC) 3 (strs rks) ∧ OSt Q w w5 bs L (st.t + 1 + 1 + 1 + 1) (.slice (some ⟨gO, 0, none⟩) l.length cO) l ∧ w6.heap.size ≤ w5.heap.size from ⟨(HTC.out.1.alloc _).kept hg5 (own_ne HTC.out.1 HV.out.2.2), (HTC.out.2.1.alloc _).step hs5 hg5, Nat.le_trans (Nat.le_trans HTC.out.2.2 (grown_alloc (grown_refl wC) _).size) hg5.size⟩)
                    clear hs5 hg5
                    dsimp only
                    refine hK.out _ _ (HR.out.2.1 _ HT5.out.2.1.out) (fun _ => ?_)
                    clear hK K2
                    try simp only [Act.put, List.getElem_toArray, List.getElem_cons_zero, List.getElem_cons_succ, List.setIfInBounds_toArray, List.set_cons_zero, List.set_cons_succ]
                    refine wpAnyH_ready (rs := [9]) (by kernel_rfl) (by simp) ?_
                    refine AllReadyH.cons rfl (fun K2 hK => ?_) ?_
                    · go_simp
                      refine hK.out _ _ (HR.out.2.1 _ (HT5.out.2.1.alloc _).out) (fun _ => ?_)
                      clear hK K2
                      try simp only [Act.put, List.getElem_toArray, List.getElem_cons_zero, List.getElem_cons_succ, List.setIfInBounds_toArray, List.set_cons_zero, List.set_cons_succ]
                      refine wpAnyH_ready (rs := [10]) (by kernel_rfl) (by simp) ?_
                      refine AllReadyH.cons rfl (fun K2 hK => ?_) ?_
                      · refine st_s1n w5 _ (by rfl) K (by rfl) _ _ (by rfl) w6.heap.size _ rks 3 HR.out.1 (by rfl) HT5.out.1 (by rfl) HW.out HT5.out.2.2 ?_
                        intro g7 c7 w7 hown7 hg7
                        have H7 := Lib.hid (And.intro hown7 hg7)
                        skip
                        have hout7 := Lib.hid ((HT5.out.2.1.out.alloc (.cells #[.string K] 9)).kept hg7 (own_ty (HT5.out.2.1.out.alloc (.cells #[.string K] 9)) (HT5.out.1.alloc (.cells #[.string K] 9)) HV.out.1))
                        have hfz := hout7.out.frozenAt (i * 2 + 1)
                        have hcl := HR.out.2.1 _ hout7.out
                        clear hown7 hg7
                        refine hK.out _ _ hcl (fun _ => ?_)
                        clear hK K2
                        try simp only [Act.put, List.getElem_toArray, List.getElem_cons_zero, List.getElem_cons_succ, List.setIfInBounds_toArray, List.set_cons_zero, List.set_cons_succ]
                        refine wpAnyH_take (i := 18) (oi := ?oo14) (v := ?vv14) ?hi14 (by kernel_rfl) (by kernel_rfl) (by kernel_rfl) (fun _ _ _ h => h) (Or.inl ⟨?hw14, ?hy14⟩) hcl ?rest14
                        case hi14 => (simp only [List.getElem?_toArray, List.getElem?_cons_zero, List.getElem?_cons_succ]; try rfl)
                        case hw14 => rfl
                        case hy14 => (intro w hSw; (try dsimp only at hSw); go_simp; (try with_reducible rfl))
                        try simp only [Act.put, List.setIfInBounds_toArray, List.set_cons_zero, List.set_cons_succ]
                        refine wpAnyH_take (i := 19) (oi := ?oo15) (v := ?vv15) ?hi15 (by kernel_rfl) (by kernel_rfl) (by kernel_rfl) (fun _ _ _ h => h) (Or.inl ⟨?hw15, ?hy15⟩) hcl ?rest15
                        case hi15 => (simp only [List.getElem?_toArray, List.getElem?_cons_zero, List.getElem?_cons_succ]; try rfl)
                        case hw15 => rfl
                        case hy15 => (intro w hSw; (try dsimp only at hSw); go_simp; (try with_reducible rfl))
                        try simp only [Act.put, List.setIfInBounds_toArray, List.set_cons_zero, List.set_cons_succ]
                        refine wpAnyH_take (i := 20) (oi := ?oo16) (v := ?vv16) ?hi16 (by kernel_rfl) (by kernel_rfl) (by kernel_rfl) (fun _ _ _ h => h) (Or.inl ⟨?hw16, ?hy16⟩) hcl ?rest16
                        case hi16 => (simp only [List.getElem?_toArray, List.getElem?_cons_zero, List.getElem?_cons_succ]; try rfl)
                        case hw16 => rfl
                        case hy16 => (intro w hSw; (try dsimp only at hSw); go_simp; (try with_reducible rfl))
                        try simp only [Act.put, List.setIfInBounds_toArray, List.set_cons_zero, List.set_cons_succ]
                        refine wpAnyH_done (by kernel_rfl) ?_ _
                        show wpList _ _ _ _ _ _
                        obtain ⟨A9, c9, hv9, hn9, hm9, hr9, _⟩ := Rd.of_own H7.out.1
                        injection hv9 with hv91 _ hv92
                        subst hv91 hv92
                        obtain ⟨hrd, hsf, hgf⟩ := HT5.out.2.1.fin2 (A2 := some ⟨g7, 0, none⟩) (n2 := 4) (c2 := c7) (ks2 := (rks ++ [K])) HA.out.1 HI.out.2.2.1 HT6.out.gro.size HT6.out.oldlt HT5.out.1 H7.out.1 H7.out.2 hr9 ⟨hn9, hm9⟩ (fun a ha => by injection ha with ha; rw [← ha])
                        have hks : (rks ++ [K]).drop (1 - min rks.length 1) = (rks ++ [K]) := by rw [HR.out.1]; rfl
                        have HF := Lib.hid (And.intro hrd (And.intro hsf (And.intro hgf hks)))
                        clear hrd hsf hgf hks hn9 hm9 hr9
                        go_wp2_with fail
                        go_ret
                        refine ⟨some ⟨gO, 0, none⟩, cO, ?_, ?_, HF.out.2.1, HF.out.2.2.1⟩
                        · show Ending.returned (.slice (some ⟨gO, 0, none⟩) N cO) = .returned (.slice (some ⟨gO, 0, none⟩) (st.out.set i _).length cO)
                          rw [List.length_set, HA.out.2.2.2.1]
                        · show RdV _ _ _ (st.out.set i ⟨rf, (rks ++ [K]).drop (1 - min rks.length 1)⟩)
                          rw [HF.out.2.2.2]
                          exact HF.out.1
                      · exact AllReadyH.nil
                    · exact AllReadyH.nil
                  · exact AllReadyH.nil
                · exact AllReadyH.nil
              · refine AllReadyH.cons rfl (fun K2 hK => ?_) ?_
                · go_simp
                  refine hK.out _ _ (HR.out.2.1 _ (HT6.out.drew.alloc _).out) (fun _ => ?_)
                  clear hK K2
                  try simp only [Act.put, List.getElem_toArray, List.getElem_cons_zero, List.getElem_cons_succ, List.setIfInBounds_toArray, List.set_cons_zero, List.set_cons_succ]
                  refine wpAnyH_ready (rs := [5]) (by kernel_rfl) (by simp) ?_
                  refine AllReadyH.cons rfl (fun K2 hK => ?_) ?_
                  · go_simp
                    refine (cloneStr_any rA 3 rc rks _ (Rd.al (Rd.dr HV.out.2.1) _) (by omega)).mono ?_
                    rintro e wC ⟨vC, rfl, hownC, hgC⟩
                    obtain ⟨AC, cC, hvC, _, _, _, _⟩ := Rd.of_own hownC
                    subst hvC
                    have HTC := Lib.hid (show wC.ownsRow w6.heap.size 9 1 (.slice AC 3 cC) 3 (strs rks) ∧ OSt Q w wC bs L (st.t + 1 + 1 + 1) (.slice (some ⟨gO, 0, none⟩) l.length cO) l ∧ w6.heap.size ≤ wC.heap.size from ⟨own_mono hownC (by simp), (HT6.out.drew.alloc _).quiet hgC, by have := hgC.size; simp at this; omega⟩)
                    clear hownC
                    dsimp only
                    refine hK.out _ _ (HR.out.2.1 _ HTC.out.2.1.out) (fun _ => ?_)
                    clear hK K2
                    try simp only [Act.put, List.getElem_toArray, List.getElem_cons_zero, List.getElem_cons_succ, List.setIfInBounds_toArray, List.set_cons_zero, List.set_cons_succ]
                    refine wpAnyH_ready (rs := [8]) (by kernel_rfl) (by simp) ?_
                    refine AllReadyH.cons rfl (fun K2 hK => ?_) ?_
                    · go_simp
                      refine (HP.out.1 _ _ (HTC.out.2.1).st ((HP.out.2.1 w6.drew).grown hgC) (HP.out.2.2)).mono ?_
                      rintro e w5 ⟨rfl, hs5, hg5⟩
                      have HT5 := Lib.hid (show w5.ownsRow w6.heap.size 9 1 (.slice AC 3 cC) 3 (strs rks) ∧ OSt Q w w5 bs L (st.t + 1 + 1 + 1 + 1) (.slice (some ⟨gO, 0, none⟩) l.length cO) l ∧ w6.heap.size ≤ w5.heap.size from ⟨(HTC.out.1).kept hg5 (own_ne HTC.out.1 HV.out.2.2), (HTC.out.2.1).step hs5 hg5, Nat.le_trans (HTC.out.2.2) hg5.size⟩)
                      clear hs5 hg5
                      dsimp only
                      refine hK.out _ _ (HR.out.2.1 _ HT5.out.2.1.out) (fun _ => ?_)
                      clear hK K2
                      try simp only [Act.put, List.getElem_toArray, List.getElem_cons_zero, List.getElem_cons_succ, List.setIfInBounds_toArray, List.set_cons_zero, List.set_cons_succ]
                      refine wpAnyH_ready (rs := [9]) (by kernel_rfl) (by simp) ?_
                      refine AllReadyH.cons rfl (fun K2 hK => ?_) ?_
                      · go_simp
                        refine hK.out _ _ (HR.out.2.1 _ (HT5.out.2.1.alloc _).out) (fun _ => ?_)
                        clear hK K2
                        try simp only [Act.put, List.getElem_toArray, List.getElem_cons_zero, List.getElem_cons_succ, List.setIfInBounds_toArray, List.set_cons_zero, List.set_cons_succ]
                        refine wpAnyH_ready (rs := [10]) (by kernel_rfl) (by simp) ?_
                        refine AllReadyH.cons rfl (fun K2 hK => ?_) ?_
                        · refine st_s1n w5 _ (by rfl) K (by rfl) _ _ (by rfl) w6.heap.size _ rks 3 HR.out.1 (by rfl) HT5.out.1 (by rfl) HW.out HT5.out.2.2 ?_
                          intro g7 c7 w7 hown7 hg7
                          have H7 := Lib.hid (And.intro hown7 hg7)
                          skip
                          have hout7 := Lib.hid ((HT5.out.2.1.out.alloc (.cells #[.string K] 9)).kept hg7 (own_ty (HT5.out.2.1.out.alloc (.cells #[.string K] 9)) (HT5.out.1.alloc (.cells #[.string K] 9)) HV.out.1))
                          have hfz := hout7.out.frozenAt (i * 2 + 1)
                          have hcl := HR.out.2.1 _ hout7.out
                          clear hown7 hg7
                          refine hK.out _ _ hcl (fun _ => ?_)
                          clear hK K2
                          try simp only [Act.put, List.getElem_toArray, List.getElem_cons_zero, List.getElem_cons_succ, List.setIfInBounds_toArray, List.set_cons_zero, List.set_cons_succ]
                          refine wpAnyH_take (i := 18) (oi := ?oo17) (v := ?vv17) ?hi17 (by kernel_rfl) (by kernel_rfl) (by kernel_rfl) (fun _ _ _ h => h) (Or.inl ⟨?hw17, ?hy17⟩) hcl ?rest17
                          case hi17 => (simp only [List.getElem?_toArray, List.getElem?_cons_zero, List.getElem?_cons_succ]; try rfl)
                          case hw17 => rfl
                          case hy17 => (intro w hSw; (try dsimp only at hSw); go_simp; (try with_reducible rfl))
                          try simp only [Act.put, List.setIfInBounds_toArray, List.set_cons_zero, List.set_cons_succ]
                          refine wpAnyH_take (i := 19) (oi := ?oo18) (v := ?vv18) ?hi18 (by kernel_rfl) (by kernel_rfl) (by kernel_rfl) (fun _ _ _ h => h) (Or.inl ⟨?hw18, ?hy18⟩) hcl ?rest18
                          case hi18 => (simp only [List.getElem?_toArray, List.getElem?_cons_zero, List.getElem?_cons_succ]; try rfl)
                          case hw18 => rfl
                          case hy18 => (intro w hSw; (try dsimp only at hSw); go_simp; (try with_reducible rfl))
                          try simp only [Act.put, List.setIfInBounds_toArray, List.set_cons_zero, List.set_cons_succ]
                          refine wpAnyH_take (i := 20) (oi := ?oo19) (v := ?vv19) ?hi19 (by kernel_rfl) (by kernel_rfl) (by kernel_rfl) (fun _ _ _ h => h) (Or.inl ⟨?hw19, ?hy19⟩) hcl ?rest19
                          case hi19 => (simp only [List.getElem?_toArray, List.getElem?_cons_zero, List.getElem?_cons_succ]; try rfl)
                          case hw19 => rfl
                          case hy19 => (intro w hSw; (try dsimp only at hSw); go_simp; (try with_reducible rfl))
                          try simp only [Act.put, List.setIfInBounds_toArray, List.set_cons_zero, List.set_cons_succ]
                          refine wpAnyH_done (by kernel_rfl) ?_ _
                          show wpList _ _ _ _ _ _
                          obtain ⟨A9, c9, hv9, hn9, hm9, hr9, _⟩ := Rd.of_own H7.out.1
                          injection hv9 with hv91 _ hv92
                          subst hv91 hv92
                          obtain ⟨hrd, hsf, hgf⟩ := HT5.out.2.1.fin2 (A2 := some ⟨g7, 0, none⟩) (n2 := 4) (c2 := c7) (ks2 := (rks ++ [K])) HA.out.1 HI.out.2.2.1 HT6.out.gro.size HT6.out.oldlt HT5.out.1 H7.out.1 H7.out.2 hr9 ⟨hn9, hm9⟩ (fun a ha => by injection ha with ha; rw [← ha])
                          have hks : (rks ++ [K]).drop (1 - min rks.length 1) = (rks ++ [K]) := by rw [HR.out.1]; rfl
                          have HF := Lib.hid (And.intro hrd (And.intro hsf (And.intro hgf hks)))
                          clear hrd hsf hgf hks hn9 hm9 hr9
                          go_wp2_with fail
                          go_ret
                          refine ⟨some ⟨gO, 0, none⟩, cO, ?_, ?_, HF.out.2.1, HF.out.2.2.1⟩
                          · show Ending.returned (.slice (some ⟨gO, 0, none⟩) N cO) = .returned (.slice (some ⟨gO, 0, none⟩) (st.out.set i _).length cO)
                            rw [List.length_set, HA.out.2.2.2.1]
                          · show RdV _ _ _ (st.out.set i ⟨rf, (rks ++ [K]).drop (1 - min rks.length 1)⟩)
                            rw [HF.out.2.2.2]
                            exact HF.out.1
                        · exact AllReadyH.nil
                      · exact AllReadyH.nil
                    · exact AllReadyH.nil
                  · exact AllReadyH.nil
                · exact AllReadyH.nil
        · have h00 : N = 0 := by omega
          have hM := HM.out
          rw [if_neg (by omega)] at hM
          subst hM
          have hn0 : decide (0 < N) = false := by simp; omega
          have hn1 : ¬ 0 < N := by omega
          clear h00 h0
          go_wp2_with fail
          refine (flip_any bs L _ 12 _ hst (by omega) (by omega)).mono ?_
          rw [zf]
          rintro e w4 ⟨rfl, hs4, hg4⟩
          have H4 := hH.out.step hs4 hg4
          clear zf
          go_wp2_with fail
          go_ret
          have hr := HA.out.2.1.grown_ hg4 (fun j e => by injection e with e; omega)
          exact ⟨AO, cO, by show Ending.returned (.slice AO N cO) = .returned (.slice AO st.out.length cO); rw [HA.out.2.2.2.1], hr, hs4, H4.gro⟩
      · have zf : (nx L st.t 12 == 0) = false := by simpa using hf
        have hM := HM.out
        rw [if_neg (by omega)] at hM
        subst hM
        go_wp2_with fail
        refine (flip_any bs L _ 12 _ hst (by omega) (by omega)).mono ?_
        rw [zf]
        rintro e w4 ⟨rfl, hs4, hg4⟩
        have H4 := hH.out.step hs4 hg4
        clear zf hf
        go_wp2_with fail
        go_ret
        have hr := HA.out.2.1.grown_ hg4 (fun j e => by injection e with e; omega)
        exact ⟨AO, cO, by show Ending.returned (.slice AO N cO) = .returned (.slice AO st.out.length cO); rw [HA.out.2.2.2.1], hr, hs4, H4.gro⟩

end Go.Proofs.YtcaeochiippdgaaDoor
