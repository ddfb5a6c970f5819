/- The walk of the stream's Pieces. -/
import Derived.Test.YtidfhgpjpieajaaDoorMkB
namespace Go.Proofs.YtidfhgpjpieajaaDoor
open Go.RowKit
variable {Q : Nat → Prop}

def pcsRun (L : List Int) (t : Nat) : Nat → List Pc
  | 0 => []
  | k + 1 => pcsRun L t k ++ [⟨pkS L (t + 2 * k) [bLa, bLb, bLc, bLd], pk L (t + 2 * k + 1) [1, 1, 2, 4]⟩]
theorem pcsRun_len (L : List Int) (t k : Nat) : (pcsRun L t k).length = k := by
  induction k with
  | zero => rfl
  | succ k ih => simp [pcsRun, ih]
/-- Pieces, mostly right ones. -/
def pcsM (L : List Int) (t : Nat) : Nat × List Pc :=
  let k := (nx L t 4).toNat
  if nx L (t + 1 + 2 * k) 15 == 0 then (t + 1 + 2 * k + 1 + 1 + 1, pcsRun L (t + 1) k ++ [⟨pkS L (t + 1 + 2 * k + 1) [ByteArray.empty, sZz, bLa], pk L (t + 1 + 2 * k + 1 + 1) [0, -1, 1000, 1001]⟩])
  else (t + 1 + 2 * k + 1, pcsRun L (t + 1) k)
theorem pcsM_bound (L : List Int) (t : Nat) : (pcsM L t).1 ≤ t + 10 ∧ (pcsM L t).2.length ≤ 4 := by
  have h := nx_in L t 4 (by omega)
  unfold pcsM
  simp only
  split <;> simp [pcsRun_len] <;> omega

theorem pcsRun_lots (L : List Int) (t k : Nat) : ∀ x ∈ pcsRun L t k, x.lot.size ≤ 2 := by
  induction k with
  | zero => simp [pcsRun]
  | succ k ih =>
    intro x hx
    rcases List.mem_append.1 hx with hx | hx
    · exact ih x hx
    · rw [List.mem_singleton.1 hx]
      have h := pkS_mem L (t + 2 * k) [bLa, bLb, bLc, bLd] (by simp)
      exact (show ∀ s ∈ [bLa, bLb, bLc, bLd], s.size ≤ 2 by decide) _ h
theorem pcsM_lots (L : List Int) (t : Nat) : ∀ x ∈ (pcsM L t).2, x.lot.size ≤ 2 := by
  intro x hx
  unfold pcsM at hx
  simp only at hx
  split at hx
  · rcases List.mem_append.1 hx with hx | hx
    · exact pcsRun_lots L _ _ x hx
    · rw [List.mem_singleton.1 hx]
      have h := pkS_mem L (t + 1 + 2 * (nx L t 4).toNat + 1) [ByteArray.empty, sZz, bLa] (by simp)
      exact (show ∀ s ∈ [ByteArray.empty, sZz, bLa], s.size ≤ 2 by decide) _ h
  · exact pcsRun_lots L _ _ x hx

set_option maxRecDepth 100000 in
set_option maxHeartbeats 2000000 in
theorem pieces_any (bs t : Nat) (L : List Int) (w : World) (hs : StrQ Q w bs L t) (ht : t ≤ 900000) :
    Calls Tryd.prog 46 #[.pointer (some ⟨bs, 0, none⟩)] w
      fun e w' => ∃ v, e = .returned v ∧ w'.ownsRow w.heap.size 54 2 v (pcsM L t).2.length (pcFlat (pcsM L t).2) ∧ StrQ Q w' bs L (pcsM L t).1 ∧ w.grownBy w' (some bs) := by
  have hbs := hs.lt
  obtain ⟨M, hM⟩ : ∃ M, pcsM L t = M := ⟨_, rfl⟩
  rw [hM]
  unfold pcsM at hM
  simp only at hM
  have hk4 := nx_in L t 4 (by omega)
  obtain ⟨k, hk⟩ := Int.eq_ofNat_of_zero_le hk4.1
  have hkk : k < 4 := by omega
  rw [hk, Int.toNat_natCast] at hM
  have HM := Lib.hid (And.intro hM hk)
  clear hM hk4 hk
  go_enter Tryd.func46, Tryd.ntmps46
  go_wp2_with fail
  refine (next_any bs L t 4 _ hs (by omega) (by omega)).mono ?_
  rw [HM.out.2]
  rintro e w1 ⟨rfl, hst1, hg1⟩
  go_wp2_with fail
  go_loopg [3, 6] k (fun kk v i wr => ∃ j : Nat, kk + j = k ∧ i = .int .i64 j ∧ wr.ownsRow w.heap.size 54 2 v (pcsRun L (t + 1) j).length (pcFlat (pcsRun L (t + 1) j)) ∧ StrQ Q wr bs L (t + 1 + 2 * j) ∧ w.grownBy wr (some bs))
  case atStart => exact ⟨0, by omega, rfl, World.ownsRow_nil _ _ _ _, hst1, hg1⟩
  case round =>
    clear hst1 hg1
    obtain ⟨j, hj, rfl, hown, hst, hg⟩ := hrel
    by_cases hlt : j < k
    · have hlen := pcsRun_len L (t + 1) j
      have hsucc : pcsRun L (t + 1) (j + 1) = pcsRun L (t + 1) j ++ [⟨pkS L (t + 1 + 2 * j) [bLa, bLb, bLc, bLd], pk L (t + 1 + 2 * j + 1) [1, 1, 2, 4]⟩] := rfl
      generalize pcsRun L (t + 1) j = E at *
      obtain ⟨u, hu⟩ : ∃ u, t + 1 + 2 * j = u := ⟨_, rfl⟩
      rw [hu] at hst hsucc
      have HJ := Lib.hid (And.intro hj (And.intro hsucc (And.intro hu hlen)))
      have hjk : (j : Int) < (k : Int) := by omega
      have hu9 : u ≤ 910000 := by omega
      clear hj hsucc hu hlen
      go_wp2_with fail
      refine (one_lit bs L u [bLa, bLb, bLc, bLd] wr hst (by omega) (by decide) (by decide) 9).mono ?_
      rintro e w3 ⟨rfl, hst3, hg3⟩
      go_wp2_with fail
      refine (pick_lit bs L _ [1, 1, 2, 4] w3 hst3 (by omega) (by decide) (by decide) 3).mono ?_
      rintro e w4 ⟨rfl, hst4, hg4⟩
      have hown4 := (hown.kept hg3 (own_ne hown hbs)).kept hg4 (own_ne (hown.kept hg3 (own_ne hown hbs)) hbs)
      have hgw := (hg.trans hg3).trans hg4
      have HS := Lib.hid (And.intro hst4 (And.intro hgw hown4))
      clear hst3 hst4 hg3 hg4 hown hg hst hgw hown4
      generalize pkS L u [bLa, bLb, bLc, bLd] = K at *
      generalize pk L (u + 1) [1, 1, 2, 4] = nn at *
      go_wp2_with (at_builtin; refine ap_pc w4 ⟨K, nn⟩ rfl _ _ rfl w.heap.size _ E rfl HS.out.2.2 rfl (by have := HJ.out.2.2.2; omega) HS.out.2.1.size ?_; intro v5 w5 hown5 hg5)
      obtain ⟨hj, hsucc, hu, hlen⟩ := HJ.out
      obtain ⟨hst4, hgw, hown4⟩ := HS.out
      go_roundg (gk - 1)
      case measure => omega
      case rel =>
        have hga := grown_alloc (grown_refl w4) (.cells #[.string K, .int .i64 nn] 54)
        refine ⟨j + 1, by omega, by go_num, by rw [hsucc]; exact hown5, ?_, grown_below (grown_alloc hgw _) hg5 (fun i hi => .inl (hown4.lt i hi).1)⟩
        rw [show t + 1 + 2 * (j + 1) = u + 1 + 1 from by omega]
        exact (hst4.grown hga (by simp)).grown hg5 (fun i hi => by have := (hown4.lt i hi).1; omega)
    · obtain rfl : j = k := by omega
      have HLn := Lib.hid (pcsRun_len L (t + 1) j)
      obtain ⟨hM, _⟩ := HM.out
      clear HM
      generalize pcsRun L (t + 1) j = E at *
      obtain ⟨u, hu⟩ : ∃ u, t + 1 + 2 * j = u := ⟨_, rfl⟩
      rw [hu] at hst hM
      have hu9 : u ≤ 910000 := by omega
      clear hu
      go_wp2_with fail
      refine (flip_any bs L u 15 _ hst (by omega) (by omega)).mono ?_
      rintro e w3 ⟨rfl, hst3, hg3⟩
      have hown3 := hown.kept hg3 (own_ne hown hbs)
      by_cases hf : (nx L u 15 == 0) = true
      · rw [if_pos hf] at hM
        subst hM
        go_wp2_with fail
        refine (one_lit bs L (u + 1) [ByteArray.empty, sZz, bLa] w3 hst3 (by omega) (by decide) (by decide) 9).mono ?_
        rintro e w4 ⟨rfl, hst4, hg4⟩
        go_wp2_with fail
        refine (pick_lit bs L _ [0, -1, 1000, 1001] w4 hst4 (by omega) (by decide) (by decide) 3).mono ?_
        rintro e w5 ⟨rfl, hst5, hg5⟩
        have hown5 := (hown3.kept hg4 (own_ne hown3 hbs)).kept hg5 (own_ne (hown3.kept hg4 (own_ne hown3 hbs)) hbs)
        have hgw := ((hg.trans hg3).trans hg4).trans hg5
        have HS := Lib.hid (And.intro hst5 (And.intro hgw hown5))
        clear hst3 hst4 hst5 hg3 hg4 hg5 hown hown3 hown5 hg hst hgw
        generalize hKe : pkS L (u + 1) [ByteArray.empty, sZz, bLa] = K at *
        generalize hne : pk L (u + 1 + 1) [0, -1, 1000, 1001] = nn at *
        have HK := Lib.hid (And.intro hKe hne)
        clear hKe hne
        go_wp2_with (at_builtin; refine ap_pc w5 ⟨K, nn⟩ rfl _ _ rfl w.heap.size _ E rfl HS.out.2.2 rfl (by have := HLn.out; omega) HS.out.2.1.size ?_; intro v6 w6 hown6 hg6)
        go_ret
        obtain ⟨hst5, hgw, hown5⟩ := HS.out
        obtain ⟨e1, e2⟩ := HK.out
        subst e1 e2
        have hga := grown_alloc (grown_refl w5) (.cells #[.string (pkS L (u + 1) [ByteArray.empty, sZz, bLa]), .int .i64 (pk L (u + 1 + 1) [0, -1, 1000, 1001])] 54)
        rw [List.length_append] at hown6
        exact ⟨_, rfl, hown6, (hst5.grown hga (by simp)).grown hg6 (fun i hi => by have := (hown5.lt i hi).1; omega), grown_below (grown_alloc hgw _) hg6 (fun i hi => .inl (hown5.lt i hi).1)⟩
      · rw [if_neg hf] at hM
        subst hM
        have hf' : (nx L u 15 == 0) = false := by simpa using hf
        go_wp2_with fail
        go_ret
        exact ⟨_, rfl, hown3, hst3, hg.trans hg3⟩

end Go.Proofs.YtidfhgpjpieajaaDoor
