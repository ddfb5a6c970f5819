/- The walks of package stock: number, before, CheckCoil. -/
import Derived.Test.YtidfhgpjpieajaaDoorStkA
import Derived.Test.YtidfhgpjpieajaaDoorBlk
import Derived.Deep.RegionWith
import Derived.Deep.RegionLaw
namespace Go.Proofs.YtidfhgpjpieajaaDoor
open Go.RowKit

theorem numP_bound {l : List Pc} (h : ∀ t ∈ l, PcOk t) : 0 ≤ numP l ∧ numP l ≤ 1000 * l.length := by
  induction l with
  | nil => simp [numP]
  | cons a l ih =>
    have h1 := ih (fun t ht => h t (by simp [ht]))
    have h2 := h a (by simp)
    simp only [numP, List.map_cons, List.sum_cons, List.length_cons] at *
    have := h2.2
    omega

set_option maxHeartbeats 400000 in
theorem number_any (A : Option Addr) (n c : Nat) (l : List Pc) (w : World) (hr : Rd w 2 A n (pcFlat l)) (hn : n ≤ 1000000) (hok : ∀ t ∈ l, PcOk t) :
    Calls Tryd.prog 98 #[.slice A n c] w fun e w' => e = .returned (.int .i64 (numP l)) ∧ w.grownBy w' none := by
  have hl : l.length = n := by have := hr.1; rw [pcFlat_len] at this; omega
  have HL := Lib.hid (And.intro hl hok)
  clear hl hok
  go_enter Tryd.func98, Tryd.ntmps98
  go_wp2_with fail
  go_loopg [3, 8] n (fun k v i wr => ∃ j : Nat, k + j = n ∧ i = .int .i64 j ∧ w.grownBy wr none ∧ v = .int .i64 (numP (l.take j)))
  case atStart => exact ⟨0, by omega, rfl, grown_refl w, rfl⟩
  case round =>
    obtain ⟨j, hj, rfl, hg, rfl⟩ := hrel
    by_cases hlt : j < n
    · obtain ⟨b, off, rfl, hb, t, ht, c0, c1⟩ := pc_cells (hr.grown hg) hlt
      obtain ⟨hl, hok⟩ := HL.out
      have hs := numP_take ht
      have h0 := numP_bound (l := l.take j) (fun t ht => hok t (List.mem_of_mem_take ht))
      rw [List.length_take] at h0
      have h1 := (hok t (List.mem_of_getElem? ht)).2
      have HS := Lib.hid (And.intro hs hj)
      generalize numP (l.take j) = v at *
      clear hs hl hok hj ht
      go_wp2_with fail
      obtain ⟨hs, hj⟩ := HS.out
      go_roundg (gk - 1)
      case measure => omega
      case rel => exact ⟨j + 1, by omega, by go_num, grown_alloc hg _, by rw [hs]⟩
    · obtain rfl : j = n := by omega
      have hv : numP (l.take j) = numP l := by rw [List.take_of_length_le (by have := HL.out.1; omega)]
      rw [hv]
      go_wp2_with fail
      go_ret
      exact ⟨rfl, hg⟩

set_option maxHeartbeats 400000 in
theorem before_any (A : Option Addr) (n c : Nat) (l : List Int) (d : Int) (w : World) (hr : Rd w 1 A n (ints l)) (hn : n ≤ 1000000) :
    Calls Tryd.prog 84 #[.slice A n c, .int .i64 d] w fun e w' => e = .returned (.int .i64 (befP l d)) ∧ w.grownBy w' none := by
  have hl : l.length = n := by have := hr.1; simpa [ints] using this
  have HL := Lib.hid hl
  clear hl
  go_enter Tryd.func84, Tryd.ntmps84
  go_wp2_with fail
  go_loopg [5, 10] n (fun k v i wr => ∃ j : Nat, k + j = n ∧ i = .int .i64 j ∧ w.grownBy wr none ∧ v = .int .i64 (befP (l.take j) d))
  case atStart => exact ⟨0, by omega, rfl, grown_refl w, rfl⟩
  case round =>
    obtain ⟨j, hj, rfl, hg, rfl⟩ := hrel
    by_cases hlt : j < n
    · obtain ⟨b, off, rfl, hb, x, hx, c0⟩ := int_cells (hr.grown hg) hlt
      have hs := befP_snoc (l.take j) x d
      rw [← take_at hx] at hs
      have h0 := befP_nonneg (l.take j) d
      rw [List.length_take] at h0
      generalize befP (l.take j) d = v at *
      have HS := Lib.hid (And.intro hs hj)
      clear hs hj hx
      by_cases hd : x < d
      · go_wp2_with fail
        obtain ⟨hs, hj⟩ := HS.out
        rw [if_pos hd] at hs
        go_roundg (gk - 1)
        case measure => omega
        case rel => exact ⟨j + 1, by omega, by go_num, hg, by rw [hs]⟩
      · go_wp2_with fail
        obtain ⟨hs, hj⟩ := HS.out
        rw [if_neg (by omega), Int.add_zero] at hs
        go_roundg (gk - 1)
        case measure => omega
        case rel => exact ⟨j + 1, by omega, by go_num, hg, by rw [hs]⟩
    · obtain rfl : j = n := by omega
      have hv : befP (l.take j) d = befP l d := by rw [List.take_of_length_le (by have := HL.out; omega)]
      rw [hv]
      go_wp2_with fail
      go_ret
      exact ⟨rfl, hg⟩

/-- What a round of CheckCoil says. -/
theorem PcInv.tail {l : List Pc} {j : Nat} {t : Pc} (h : PcInv l j) (ht : l[j]? = some t) (h1 : keyB t.lot = true) :
    (btw t.mn 1 1000 = false → pcFrom none l = 1) ∧ (btw t.mn 1 1000 = true → (pPrev l j).any (fun p => sEq t.lot p) = true → pcFrom none l = 3) ∧
    (btw t.mn 1 1000 = true → (pPrev l j).any (fun p => sEq t.lot p) = false → PcInv l (j + 1)) := by
  have hr := h.step ht
  refine ⟨fun a => ?_, fun a b => ?_, fun a b => h.next ht h1 a b⟩
  · rw [hr, if_neg (by simp [h1]), if_pos a]
  · rw [hr, if_neg (by simp [h1]), if_neg (by simp [a]), if_pos b]
theorem PcInv.rid {l : List Pc} {j : Nat} {t : Pc} (h : PcInv l j) (ht : l[j]? = some t) (h1 : keyB t.lot = false) : pcFrom none l = 5 := by
  rw [h.step ht, if_pos h1]

/-- A coil as a value: its pieces lie at A. -/
def coilV (C : Coil) (A : Option Addr) (c : Nat) : Array Value := #[.string C.pr, .int .i64 C.most, .slice A C.ps.length c]
theorem coilF_of {C : Coil} (h1 : keyB C.pr = true) (h2 : btw C.most 0 1000 = true) (h3 : C.ps.length ≤ 1000) :
    (∀ f, f ≠ 0 → pcFrom none C.ps = f → coilF C = f) ∧ (pcFrom none C.ps = 0 → C.most < numP C.ps → coilF C = 12) ∧ (pcFrom none C.ps = 0 → ¬ C.most < numP C.ps → coilF C = 0) := by
  unfold coilF
  rw [if_neg (by simp [h1]), if_neg (by simp [h2]), if_neg (by omega)]
  refine ⟨fun f hf h => ?_, fun h h' => ?_, fun h h' => ?_⟩
  · rw [if_pos (by omega), h]
  · rw [if_neg (by omega), if_pos h']
  · rw [if_neg (by omega), if_neg h']

set_option maxRecDepth 100000 in
set_option maxHeartbeats 4000000 in
theorem checkCoil_any (C : Coil) (A : Option Addr) (c : Nat) (w : World) (hr : Rd w 2 A C.ps.length (pcFlat C.ps)) (hlen : C.ps.length ≤ 1000000) :
    Calls Tryd.prog 97 #[.agg #[.string C.pr, .int .i64 C.most, .slice A C.ps.length c]] w fun e w' => e = .returned (.int .i64 (coilF C)) ∧ w.grownBy w' none := by
  have hB := Blk.new w 58 #[.string C.pr, .int .i64 C.most, .slice A C.ps.length c]
  have hg0 := grown_alloc (grown_refl w) (.cells #[.string C.pr, .int .i64 C.most, .slice A C.ps.length c] 58)
  have k0 := hB.cell 0
  have k1 := hB.cell 1
  have k2 := hB.cell 2
  have hr0 := hr.grown hg0
  obtain ⟨V, hV⟩ : ∃ V, V = coilF C := ⟨_, rfl⟩
  rw [← hV]
  have hof := @coilF_of C
  rw [← hV] at hof
  have hV' := hV
  unfold coilF at hV'
  by_cases h1 : keyB C.pr = true
  · by_cases h2 : btw C.most 0 1000 = true
    · by_cases h3 : C.ps.length ≤ 1000
      · have hof1 := hof h1 h2 h3
        have HO2 := Lib.hid hof1
        clear hof hof1 hV hV'
        have h3' : ¬ ((1000 : Int) < (C.ps.length : Int)) := by omega
        have hS := PcInv.start C.ps
        obtain ⟨pr, most, ps⟩ := C
        simp only at *
        obtain ⟨n, hn⟩ : ∃ n, ps.length = n := ⟨_, rfl⟩
        rw [hn] at hr hB hg0 k0 k1 k2 hr0 h3 h3' hlen ⊢
        have HN := Lib.hid hn
        clear hn
        go_enter Tryd.func97, Tryd.ntmps97
        go_wp2_with (first | (go_at_call 68; refine (isKey_any _ _).mono ?_; rintro e w' ⟨rfl, rfl⟩) | (go_at_call 70; refine (between_any _ _ _ _).mono ?_; rintro e w' ⟨rfl, rfl⟩))
        go_loopg [23] n (fun k i wr => ∃ j : Nat, k + j = n ∧ i = .int .i64 j ∧ w.grownBy wr none ∧ Blk wr w.heap.size 58 #[.string pr, .int .i64 most, .slice A n c] ∧ PcInv ps j)
        case atStart => exact ⟨0, by omega, rfl, hg0, hB, hS⟩
        case round =>
          clear k0 k1 k2 hr0 hB hg0
          obtain ⟨j, hj, rfl, hg, hB, H⟩ := hrel
          have k0 := hB.cell 0
          have k1 := hB.cell 1
          have k2 := hB.cell 2
          by_cases hlt : j < n
          · obtain ⟨b, off, rfl, hb, t, ht, c0, c1⟩ := pc_cells (hr.grown hg) hlt
            have hBl := hB.lt
            have HT := Lib.hid (And.intro ht (And.intro hj hB))
            have hprev : (j = 0) ∨ ∃ p t', j = p + 1 ∧ ps[p]? = some t' ∧ wr.cell? ⟨b, off + p * 2, none⟩ = some (.string t'.lot) := by
              rcases Nat.eq_zero_or_pos j with h | h
              · exact .inl h
              · obtain ⟨p, rfl⟩ : ∃ p, j = p + 1 := ⟨j - 1, by omega⟩
                obtain ⟨b', off', e', _, t', ht', d0, _⟩ := pc_cells (hr.grown hg) (k := p) (by omega)
                obtain ⟨rfl, rfl⟩ : b = b' ∧ off = off' := by simpa using e'
                exact .inr ⟨p, t', rfl, ht', d0⟩
            by_cases h1t : keyB t.lot = true
            · have HTL := Lib.hid (H.tail ht h1t)
              clear ht hj hB
              by_cases h2t : btw t.mn 1 1000 = true
              · rcases hprev with rfl | ⟨p, t', rfl, ht', d0⟩
                · simp only [Nat.zero_mul, Nat.add_zero] at c0 c1
                  go_wp2_with (first | (go_at_call 68; refine (isKey_any _ _).mono ?_; rintro e w' ⟨rfl, rfl⟩) | (go_at_call 70; refine (between_any _ _ _ _).mono ?_; rintro e w' ⟨rfl, rfl⟩))
                  go_quiet (fail)
                  go_wp2_with fail
                  obtain ⟨ht, hj, hB⟩ := HT.out
                  go_roundg (gk - 1)
                  case measure => omega
                  case rel => exact ⟨1, by omega, by go_num, grown_drewN (grown_alloc hg _) _, hB.alloc _, HTL.out.2.2 h2t (by simp [pPrev])⟩
                · have HT' := Lib.hid ht'
                  clear ht'
                  by_cases heq : (t.lot.toList == t'.lot.toList) = true
                  · have HO := Lib.hid (HTL.out.2.1 h2t (by simp [pPrev, HT'.out, sEq, heq]))
                    go_wp2_with (first | (go_at_call 68; refine (isKey_any _ _).mono ?_; rintro e w' ⟨rfl, rfl⟩) | (go_at_call 70; refine (between_any _ _ _ _).mono ?_; rintro e w' ⟨rfl, rfl⟩))
                    go_quiet (fail)
                    go_wp2_with fail
                    go_ret
                    exact ⟨retI (HO2.out.1 3 (by omega) HO.out).symm, grown_drewN (grown_alloc hg _) _⟩
                  · have heq' : (t.lot.toList == t'.lot.toList) = false := by simpa using heq
                    clear heq
                    have HN2 := Lib.hid (HTL.out.2.2 h2t (by simp [pPrev, HT'.out, sEq, heq']))
                    go_wp2_with (first | (go_at_call 68; refine (isKey_any _ _).mono ?_; rintro e w' ⟨rfl, rfl⟩) | (go_at_call 70; refine (between_any _ _ _ _).mono ?_; rintro e w' ⟨rfl, rfl⟩))
                    go_quiet (fail)
                    go_wp2_with fail
                    obtain ⟨ht, hj, hB⟩ := HT.out
                    go_roundg (gk - 1)
                    case measure => omega
                    case rel => exact ⟨p + 1 + 1, by omega, by go_num, grown_drewN (grown_alloc hg _) _, hB.alloc _, HN2.out⟩
              · have h2t' : btw t.mn 1 1000 = false := by simpa using h2t
                clear h2t hprev
                go_wp2_with (first | (go_at_call 68; refine (isKey_any _ _).mono ?_; rintro e w' ⟨rfl, rfl⟩) | (go_at_call 70; refine (between_any _ _ _ _).mono ?_; rintro e w' ⟨rfl, rfl⟩))
                go_ret
                exact ⟨retI (HO2.out.1 1 (by omega) (HTL.out.1 h2t')).symm, grown_alloc hg _⟩
            · have h1t' : keyB t.lot = false := by simpa using h1t
              have HR := Lib.hid (H.rid ht h1t')
              clear ht hj hB h1t hprev
              go_wp2_with (first | (go_at_call 68; refine (isKey_any _ _).mono ?_; rintro e w' ⟨rfl, rfl⟩) | (go_at_call 70; refine (between_any _ _ _ _).mono ?_; rintro e w' ⟨rfl, rfl⟩))
              go_ret
              exact ⟨retI (HO2.out.1 5 (by omega) HR.out).symm, grown_alloc hg _⟩
          · obtain rfl : j = n := by omega
            have hz := H.done HN.out.symm
            have hok := pcFrom_ok _ _ hz
            have HC := Lib.hid (number_any A j c ps wr.drew (show Rd wr.drew 2 A j (pcFlat ps) from hr.grown (grown_drew hg)) hlen hok)
            have hBd : Blk wr.drew w.heap.size 58 #[.string pr, .int .i64 most, .slice A j c] := hB
            have HB := Lib.hid (And.intro hBd (grown_drew hg))
            have d1 : wr.drew.cell? ⟨w.heap.size, 1, none⟩ = some (.int .i64 most) := hBd.cell 1
            have d2 : wr.drew.cell? ⟨w.heap.size, 2, none⟩ = some (.slice A j c) := hBd.cell 2
            have HZ := Lib.hid hz
            clear hz hok hB hBd hg hr hj k0 k1 k2 H hlt hS
            by_cases hm : most < numP ps
            · have HV := Lib.hid (HO2.out.2.1 HZ.out hm)
              generalize numP ps = S at *
              go_wp2_with fail
              go_region_law (first | (go_simp; go_at_call 98; refine HC.out.mono ?_; rintro e w3 ⟨rfl, hg3⟩; dsimp only; have e1 := (HB.out.1.grown hg3 (by simp)).cell 1))
              all_goals (
                go_wp2_with fail
                go_ret
                exact ⟨retI HV.out.symm, HB.out.2.trans hg3⟩)
            · have HV := Lib.hid (HO2.out.2.2 HZ.out (by omega))
              have hm2 : numP ps ≤ most := by omega
              generalize numP ps = S at *
              go_wp2_with fail
              go_region_law (first | (go_simp; go_at_call 98; refine HC.out.mono ?_; rintro e w3 ⟨rfl, hg3⟩; dsimp only; have e1 := (HB.out.1.grown hg3 (by simp)).cell 1))
              all_goals (
                go_wp2_with fail
                go_ret
                exact ⟨retI HV.out.symm, HB.out.2.trans hg3⟩)
      · have h3' : (1000 : Int) < (C.ps.length : Int) := by omega
        rw [if_neg (by simp [h1]), if_neg (by simp [h2]), if_pos (by omega)] at hV'
        have HV := Lib.hid hV'
        clear hof hV hV' h3
        go_enter Tryd.func97, Tryd.ntmps97
        go_wp2_with (first | (go_at_call 68; refine (isKey_any _ _).mono ?_; rintro e w' ⟨rfl, rfl⟩) | (go_at_call 70; refine (between_any _ _ _ _).mono ?_; rintro e w' ⟨rfl, rfl⟩))
        go_ret
        exact ⟨retI HV.out.symm, hg0⟩
    · have h2' : btw C.most 0 1000 = false := by simpa using h2
      rw [if_neg (by simp [h1]), if_pos h2'] at hV'
      have HV := Lib.hid hV'
      clear hof hV hV' h2
      go_enter Tryd.func97, Tryd.ntmps97
      go_wp2_with (first | (go_at_call 68; refine (isKey_any _ _).mono ?_; rintro e w' ⟨rfl, rfl⟩) | (go_at_call 70; refine (between_any _ _ _ _).mono ?_; rintro e w' ⟨rfl, rfl⟩))
      go_ret
      exact ⟨retI HV.out.symm, hg0⟩
  · have h1' : keyB C.pr = false := by simpa using h1
    rw [if_pos h1'] at hV'
    have HV := Lib.hid hV'
    clear hof hV hV' h1
    go_enter Tryd.func97, Tryd.ntmps97
    go_wp2_with (first | (go_at_call 68; refine (isKey_any _ _).mono ?_; rintro e w' ⟨rfl, rfl⟩) | (go_at_call 70; refine (between_any _ _ _ _).mono ?_; rintro e w' ⟨rfl, rfl⟩))
    go_ret
    exact ⟨retI HV.out.symm, hg0⟩

end Go.Proofs.YtidfhgpjpieajaaDoor
