/- The walk of Numbers: numbers made of the stream's numbers. -/
import Derived.Test.YtidfhgpjpieajaaDoorTerms
import Derived.Deep.DeepCutAuto
import Derived.Deep.CutBlock
import Derived.Deep.RegionHeld3
namespace Go.Proofs.YtidfhgpjpieajaaDoor
open Go.RowKit
variable {Q : Nat → Prop}

def nmRow (L : List Int) (t : Nat) (most : Int) (j : Nat) : List Int := (List.range j).map fun i => nx L (t + i) (most + 1)
theorem nmRow_succ (L : List Int) (t : Nat) (most : Int) (j : Nat) : nmRow L t most (j + 1) = nmRow L t most j ++ [nx L (t + j) (most + 1)] := by simp [nmRow, List.range_succ]
theorem nmRow_len (L : List Int) (t : Nat) (most : Int) (j : Nat) : (nmRow L t most j).length = j := by simp [nmRow]

/-- Numbers. -/
def nm1 (L : List Int) (t : Nat) (most : Int) (n : Nat) : Nat × List Int := (t + n + 1, if nx L (t + n) 15 == 0 then nmRow L t most n ++ [1] else nmRow L t most n)
def nm2 (L : List Int) (s : Nat × List Int) : Nat × List Int :=
  if nx L s.1 15 == 0 then
    if s.2 = [] then (s.1 + 1, s.2) else (s.1 + 3, s.2.set (nx L (s.1 + 1) s.2.length).toNat (pk L (s.1 + 2) [-1, 1000001, 1099511627776]))
  else (s.1 + 1, s.2)
def numbersM (L : List Int) (t n : Nat) (most : Int) : Nat × List Int := nm2 L (nm1 L t most n)
theorem numbersM_bound (L : List Int) (t n : Nat) (most : Int) : (numbersM L t n most).1 ≤ t + n + 5 ∧ (numbersM L t n most).2.length ≤ n + 1 := by
  have h1 : (nm1 L t most n).2.length ≤ n + 1 := by unfold nm1; simp only; split <;> simp [nmRow_len]
  have h0 : (nm1 L t most n).1 = t + n + 1 := rfl
  unfold numbersM nm2
  split
  · split
    · simp only; omega
    · simp only [List.length_set]; omega
  · simp only; omega

set_option maxRecDepth 100000 in
set_option maxHeartbeats 1000000 in
theorem numbers_any (bs : Nat) (L : List Int) (t n : Nat) (most : Int) (w : World) (hs : StrQ Q w bs L t) (ht : t ≤ 800000) (hn : n ≤ 1000) (hm : 0 ≤ most ∧ most ≤ 1000000) :
    Calls Tryd.prog 30 #[.pointer (some ⟨bs, 0, none⟩), .int .i64 n, .int .i64 most] w
      fun e w' => ∃ v, e = .returned v ∧ w'.ownsRow w.heap.size 3 1 v (numbersM L t n most).2.length (ints (numbersM L t n most).2) ∧ StrQ Q w' bs L (numbersM L t n most).1 ∧ w.grownBy w' (some bs) := by
  have hbs := hs.lt
  have hM : numbersM L t n most = nm2 L (nm1 L t most n) := rfl
  have hN1 : nm1 L t most n = (t + n + 1, if nx L (t + n) 15 == 0 then nmRow L t most n ++ [1] else nmRow L t most n) := rfl
  generalize numbersM L t n most = M at *
  have HM := Lib.hid hM
  have HN1 := Lib.hid hN1
  clear hM hN1
  go_enter Tryd.func30, Tryd.ntmps30
  go_wp2_with fail
  go_loopg [7, 9] n (fun k v i wr => ∃ j : Nat, k + j = n ∧ i = .int .i64 j ∧ wr.ownsRow w.heap.size 3 1 v (nmRow L t most j).length (ints (nmRow L t most j)) ∧ StrQ Q wr bs L (t + j) ∧ w.grownBy wr (some bs))
  case atStart => exact ⟨0, by omega, rfl, World.ownsRow_nil _ _ _ _, hs, World.grownBy.refl _ _⟩
  case round =>
    obtain ⟨j, hj, rfl, hown, hst, hg⟩ := hrel
    by_cases hlt : j < n
    · have hsucc := nmRow_succ L t most j
      have hl := nmRow_len L t most j
      generalize nmRow L t most j = l at *
      have hl1 : l.length ≤ 1000000000 := by omega
      have HS := Lib.hid (And.intro hsucc hj)
      clear hsucc hj hl
      go_wp2_with fail
      refine (next_any bs L _ _ _ hst (by omega) (by omega)).mono ?_
      rintro e w3 ⟨rfl, hs3, hg3⟩
      have hown3 := hown.kept hg3 (own_ne hown (by omega))
      have hgg3 := hg.trans hg3
      have hsz3 := hgg3.size
      go_wp2_with (at_builtin; refine ap_int w3 (nx L (t + j) (most + 1)) rfl _ _ rfl w.heap.size _ l rfl hown3 rfl hl1 hsz3 ?_; intro v5 w5 hown5 hg5)
      have hgg5 := ap_grown hgg3 hown3 hg5 (Nat.le_refl _)
      have hs5 := ap_str hs3 hown3 hg5 hbs
      obtain ⟨hsucc, hj⟩ := HS.out
      go_roundg (gk - 1)
      case measure => omega
      case rel => exact ⟨j + 1, by omega, by go_num, by rw [hsucc]; exact hown5, hs5, hgg5⟩
    · obtain rfl : j = n := by omega
      have hl := nmRow_len L t most j
      generalize nmRow L t most j = l at *
      clear hlt hj
      go_wp2_with fail
      refine (flip_any bs L _ 15 _ hst (by omega) (by omega)).mono ?_
      rintro e w2 ⟨rfl, hs2, hg2⟩
      have hown2 := hown.kept hg2 (own_ne hown hbs)
      have hgg2 := hg.trans hg2
      go_upto_if 20 with fail
      go_cut [7] (fun v wx => wx.ownsRow w.heap.size 3 1 v (nm1 L t most j).2.length (ints (nm1 L t most j).2) ∧ StrQ Q wx bs L (t + j + 1) ∧ w.grownBy wx (some bs))
      case first =>
        by_cases hf : (nx L (t + j) 15 == 0) = true
        · have hN := HN1.out
          rw [if_pos hf] at hN
          rw [hf]
          have HN := Lib.hid hN
          clear hN hf
          have hl1 : l.length ≤ 1000000000 := by omega
          have hsz := hgg2.size
          go_wp2_with (at_builtin; refine ap_int w2 1 rfl _ _ rfl w.heap.size _ l rfl hown2 rfl hl1 hsz ?_; intro v5 w5 hown5 hg5)
          go_meet
          rw [HN.out]
          exact ⟨hown5, ap_str hs2 hown2 hg5 hbs, ap_grown hgg2 hown2 hg5 (Nat.le_refl _)⟩
        · have hN := HN1.out
          rw [if_neg hf] at hN
          have hf' : (nx L (t + j) 15 == 0) = false := by simpa using hf
          rw [hf']
          have HN := Lib.hid hN
          clear hN hf hf'
          go_wp2_with fail
          go_meet
          rw [HN.out]
          exact ⟨hown2, hs2, hgg2⟩
      case rest =>
        clear hown2 hs2 hgg2 hg2
        obtain ⟨hown2, hs2, hgg2⟩ := hcut
        obtain ⟨A2, c2, rfl, _, _, _, _⟩ := Rd.of_own hown2
        have hlen : (nm1 L t most j).2.length ≤ j + 1 := by unfold nm1; simp only; split <;> simp [nmRow_len]
        have h1 : (nm1 L t most j).1 = t + j + 1 := rfl
        have hM2 : M = if nx L (t + j + 1) 15 == 0 then
            if (nm1 L t most j).2 = [] then (t + j + 1 + 1, (nm1 L t most j).2) else (t + j + 1 + 3, (nm1 L t most j).2.set (nx L (t + j + 1 + 1) (nm1 L t most j).2.length).toNat (pk L (t + j + 1 + 2) [-1, 1000001, 1099511627776]))
          else (t + j + 1 + 1, (nm1 L t most j).2) := by rw [HM.out]; unfold nm2; rw [h1]
        generalize (nm1 L t most j).2 = l2 at *
        have HM2 := Lib.hid hM2
        clear hM2 h1 HM HN1 hown hst hg hl
        go_wp2_with fail
        refine (flip_any bs L _ 15 _ hs2 (by omega) (by omega)).mono ?_
        rintro e w4 ⟨rfl, hs4, hg4⟩
        have hown4 := hown2.kept hg4 (own_ne hown2 hbs)
        have hgg4 := hgg2.trans hg4
        by_cases hf : (nx L (t + j + 1) 15 == 0) = true
        · have hM := HM2.out
          rw [if_pos hf] at hM
          rw [hf]
          by_cases he : l2 = []
          · rw [if_pos he] at hM
            have HM3 := Lib.hid hM
            clear hM hf
            subst he
            go_wp2_with fail
            go_ret
            rw [HM3.out]
            exact ⟨_, rfl, hown4, hs4, hgg4⟩
          · rw [if_neg he] at hM
            have HM3 := Lib.hid hM
            have hp : 0 < l2.length := by cases l2 with | nil => exact absurd rfl he | cons => simp
            have hpi : (0 : Int) < (l2.length : Int) := by omega
            clear hM hf he
            obtain ⟨g, cap, hv, hgb, hglt⟩ := hown4.form hp
            injection hv with hA _ hc
            subst hA
            subst hc
            go_wp2_with fail
            refine (next_any bs L _ _ _ hs4 (by omega) (by omega)).mono ?_
            obtain ⟨x0, x1⟩ := nx_in L (t + j + 1 + 1) l2.length (by omega)
            obtain ⟨k, hk⟩ := Int.eq_ofNat_of_zero_le x0
            rw [hk]
            rintro e w5 ⟨rfl, hs5, hg5⟩
            have hM := HM3.out
            rw [hk, Int.toNat_natCast] at hM
            have HM4 := Lib.hid hM
            have hk1 : k < l2.length := by omega
            have hki : (k : Int) < (l2.length : Int) := by omega
            have hown5 := hown4.kept hg5 (own_ne hown4 hbs)
            have hgg5 := hgg4.trans hg5
            clear hM hk x0 x1 HM3 HM2
            go_wp2_with fail
            refine (pick_lit bs L _ [-1, 1000001, 1099511627776] _ hs5 (by omega) (by decide) (by decide) 3).mono ?_
            rintro e w6 ⟨rfl, hs6, hg6⟩
            have hown6 := hown5.kept hg6 (own_ne hown5 hbs)
            have hgg6 := hgg5.trans hg6
            have e0 := own_int hown6 hk1
            have f0 := hown6.frozenAt k
            have hset := own_int_set hown6 k (pk L (t + j + 1 + 1 + 1) [-1, 1000001, 1099511627776])
            have hstr := hs6.far g (by omega) k (.int .i64 (pk L (t + j + 1 + 1 + 1) [-1, 1000001, 1099511627776]))
            go_wp2_with fail
            go_ret
            rw [HM4.out]
            exact ⟨_, rfl, by rw [List.length_set]; exact hset, hstr, grown_set (p := ⟨g, k, none⟩) hgg6 (.inl hgb) _⟩
        · have hM := HM2.out
          rw [if_neg hf] at hM
          have hf' : (nx L (t + j + 1) 15 == 0) = false := by simpa using hf
          rw [hf']
          have HM3 := Lib.hid hM
          clear hM hf hf'
          go_wp2_with fail
          go_ret
          rw [HM3.out]
          exact ⟨_, rfl, hown4, hs4, hgg4⟩

end Go.Proofs.YtidfhgpjpieajaaDoor
