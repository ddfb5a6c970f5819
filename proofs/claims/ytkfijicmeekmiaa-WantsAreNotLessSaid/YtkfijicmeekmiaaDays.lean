/- The walk of Days: days made of the stream's numbers. -/
import Derived.Test.YtkfijicmeekmiaaSal
namespace Go.Proofs.Ytkfijicmeekmiaa
open Go.RowKit
variable {Q : Nat → Prop}

/-- The day of the j-th round; the sales that it adds. -/
def dayAt (L : List Int) (t : Nat) : Nat → Int
  | 0 => nx L t 5
  | j + 1 => dayAt L t j + pk L (t + 2 + 3 * j + 2) [1, 1, 1, 3]
def salAt (L : List Int) (t j : Nat) : Sal := ⟨dayAt L t j, pk L (t + 2 + 3 * j) [0, 1, 2, 3, 5, 9], nx L (t + 2 + 3 * j + 1) 4 == 0⟩
def salRows (L : List Int) (t j : Nat) : List Sal := (List.range j).map (salAt L t)
theorem salRows_succ (L : List Int) (t j : Nat) : salRows L t (j + 1) = salRows L t j ++ [salAt L t j] := by simp [salRows, List.range_succ]
theorem salRows_len (L : List Int) (t j : Nat) : (salRows L t j).length = j := by simp [salRows]

/-- Days. -/
def daysM (L : List Int) (t : Nat) : Nat × List Sal :=
  if nx L (t + 2 + 3 * (nx L (t + 1) 12).toNat) 15 == 0 then
    (t + 2 + 3 * (nx L (t + 1) 12).toNat + 3, salRows L t (nx L (t + 1) 12).toNat ++ [⟨pk L (t + 2 + 3 * (nx L (t + 1) 12).toNat + 1) [-1, 0, 4000, 4001], pk L (t + 2 + 3 * (nx L (t + 1) 12).toNat + 2) [-1, 0, 1000, 1001], false⟩])
  else (t + 2 + 3 * (nx L (t + 1) 12).toNat + 1, salRows L t (nx L (t + 1) 12).toNat)

theorem dayAt_bound (L : List Int) (t j : Nat) : 0 ≤ dayAt L t j ∧ dayAt L t j ≤ 5 + 3 * j := by
  induction j with
  | zero => have := nx_in L t 5 (by omega); simp [dayAt]; omega
  | succ j ih =>
    have h := pk_mem L (t + 2 + 3 * j + 2) [1, 1, 1, 3] (by simp)
    simp only [List.mem_cons, List.not_mem_nil, or_false] at h
    simp only [dayAt]
    omega
theorem daysM_bound (L : List Int) (t : Nat) : (daysM L t).1 ≤ t + 40 ∧ (daysM L t).2.length ≤ 12 := by
  have h := nx_in L (t + 1) 12 (by omega)
  unfold daysM
  split <;> simp [salRows_len] <;> omega

set_option maxRecDepth 100000 in
set_option maxHeartbeats 1000000 in
theorem days_any (bs : Nat) (L : List Int) (t : Nat) (w : World) (hs : StrQ Q w bs L t) (ht : t ≤ 800000) :
    Calls Try.prog 12 #[.pointer (some ⟨bs, 0, none⟩)] w
      fun e w' => ∃ v, e = .returned v ∧ w'.ownsRow w.heap.size 79 3 v (daysM L t).2.length (salFlat (daysM L t).2) ∧ StrQ Q w' bs L (daysM L t).1 ∧ w.grownBy w' (some bs) := by
  have hbs := hs.lt
  obtain ⟨N, hN⟩ : ∃ N : Nat, nx L (t + 1) 12 = N := ⟨(nx L (t + 1) 12).toNat, by have := nx_in L (t + 1) 12 (by omega); omega⟩
  have hN12 : N < 12 := by have := nx_in L (t + 1) 12 (by omega); omega
  have hM : daysM L t = if nx L (t + 2 + 3 * N) 15 == 0 then (t + 2 + 3 * N + 3, salRows L t N ++ [⟨pk L (t + 2 + 3 * N + 1) [-1, 0, 4000, 4001], pk L (t + 2 + 3 * N + 2) [-1, 0, 1000, 1001], false⟩]) else (t + 2 + 3 * N + 1, salRows L t N) := by
    unfold daysM; rw [hN]; rfl
  generalize daysM L t = M at *
  have HM := Lib.hid hM
  have HN := Lib.hid hN
  clear hM hN
  go_enter Try.func12, Try.ntmps12
  go_wp2_with fail
  refine (next_any bs L t 5 _ hs (by omega) (by omega)).mono ?_
  rintro e w1 ⟨rfl, hs1, hg1⟩
  go_wp2_with fail
  refine (next_any bs L _ 12 _ hs1 (by omega) (by omega)).mono ?_
  rw [HN.out]
  rintro e w2 ⟨rfl, hs2, hg2⟩
  have hgg2 := hg1.trans hg2
  go_wp2_with fail
  have hsz2 := hgg2.size
  go_loopg [3, 4, 9] N (fun k v d i wr => ∃ j : Nat, k + j = N ∧ i = .int .i64 j ∧ d = .int .i64 (dayAt L t j) ∧ wr.ownsRow w2.heap.size 79 3 v (salRows L t j).length (salFlat (salRows L t j)) ∧ StrQ Q wr bs L (t + 2 + 3 * j) ∧ w2.grownBy wr (some bs))
  case atStart => exact ⟨0, by omega, rfl, rfl, World.ownsRow_nil _ _ _ _, hs2, World.grownBy.refl _ _⟩
  case round =>
    obtain ⟨j, hj, rfl, rfl, hown, hst, hg⟩ := hrel
    by_cases hlt : j < N
    · have hd := dayAt_bound L t j
      have hsucc := salRows_succ L t j
      have hl := salRows_len L t j
      have hdn : dayAt L t (j + 1) = dayAt L t j + pk L (t + 2 + 3 * j + 2) [1, 1, 1, 3] := rfl
      have hsa : salAt L t j = ⟨dayAt L t j, pk L (t + 2 + 3 * j) [0, 1, 2, 3, 5, 9], nx L (t + 2 + 3 * j + 1) 4 == 0⟩ := rfl
      have hpk := pk_mem L (t + 2 + 3 * j + 2) [1, 1, 1, 3] (by simp)
      simp only [List.mem_cons, List.not_mem_nil, or_false] at hpk
      have hpk2 : 0 ≤ pk L (t + 2 + 3 * j + 2) [1, 1, 1, 3] ∧ pk L (t + 2 + 3 * j + 2) [1, 1, 1, 3] ≤ 3 := by omega
      obtain ⟨T, hT⟩ : ∃ T, T = t + 2 + 3 * j := ⟨_, rfl⟩
      rw [hsa] at hsucc
      rw [← hT] at hsucc hdn hpk2 hst
      have hT1 : T ≤ 900000 := by omega
      rw [show T + 2 = T + 1 + 1 from rfl] at hpk2 hdn
      generalize salRows L t j = l at *
      generalize dayAt L t j = d at *
      have HS := Lib.hid (And.intro hsucc (And.intro hdn (And.intro hT hj)))
      have hl1 : l.length ≤ 1000000000 := by omega
      clear hsucc hdn hsa hT hj hl hpk ht
      go_wp2_with fail
      refine (pick_lit bs L _ [0, 1, 2, 3, 5, 9] _ hst (by omega) (by decide) (by decide) 3).mono ?_
      rintro e w3 ⟨rfl, hs3, hg3⟩
      have hown3 := hown.kept hg3 (own_ne hown (by omega))
      have hgg3 := hg.trans hg3
      go_wp2_with fail
      refine (flip_any bs L _ 4 _ hs3 (by omega) (by omega)).mono ?_
      rintro e w4 ⟨rfl, hs4, hg4⟩
      have hown4 := hown3.kept hg4 (own_ne hown3 (by omega))
      have hgg4 := hgg3.trans hg4
      have hsz4 := hgg4.size
      go_wp2_with (at_builtin; refine ap_sal w4 ⟨d, pk L T [0, 1, 2, 3, 5, 9], nx L (T + 1) 4 == 0⟩ rfl _ _ rfl w2.heap.size _ l rfl hown4 rfl hl1 hsz4 ?_; intro v5 w5 hown5 hg5)
      have hgg5 := ap_grown hgg4 hown4 hg5 (Nat.le_refl _)
      have hs5 := ap_str hs4 hown4 hg5 (by omega)
      refine (pick_lit bs L _ [1, 1, 1, 3] _ hs5 (by omega) (by decide) (by decide) 3).mono ?_
      rintro e w6 ⟨rfl, hs6, hg6⟩
      have hown6 := hown5.kept hg6 (own_ne hown5 (by omega))
      have hgg6 := hgg5.trans hg6
      go_wp2_with fail
      obtain ⟨hsucc, hdn, hT, hj⟩ := HS.out
      go_roundg (gk - 1)
      case measure => omega
      case rel => exact ⟨j + 1, by omega, by go_num, by rw [hdn], by rw [hsucc]; exact hown6, by rw [show t + 2 + 3 * (j + 1) = T + 1 + 1 + 1 from by omega]; exact hs6, hgg6⟩
    · obtain rfl : j = N := by omega
      have hl := salRows_len L t j
      generalize salRows L t j = l at *
      have hggr := hgg2.trans hg
      have hownw := own_mono hown hsz2
      clear hown hg hsz2 hgg2 hg2 hg1 hs1 hs2
      go_wp2_with fail
      refine (flip_any bs L _ 15 _ hst (by omega) (by omega)).mono ?_
      rintro e w7 ⟨rfl, hs7, hg7⟩
      have hown7 := hownw.kept hg7 (own_ne hownw (by omega))
      have hgg7 := hggr.trans hg7
      by_cases hf : (nx L (t + 2 + 3 * j) 15 == 0) = true
      · have hM := HM.out
        rw [if_pos hf] at hM
        rw [hf]
        have HM2 := Lib.hid hM
        clear hM hf
        go_wp2_with fail
        refine (pick_lit bs L _ [-1, 0, 4000, 4001] _ hs7 (by omega) (by decide) (by decide) 3).mono ?_
        rintro e w8 ⟨rfl, hs8, hg8⟩
        have hown8 := hown7.kept hg8 (own_ne hown7 hbs)
        go_wp2_with fail
        refine (pick_lit bs L _ [-1, 0, 1000, 1001] _ hs8 (by omega) (by decide) (by decide) 3).mono ?_
        rintro e w9 ⟨rfl, hs9, hg9⟩
        have hown9 := hown8.kept hg9 (own_ne hown8 hbs)
        have hgg9 := (hgg7.trans hg8).trans hg9
        have hsz := hgg9.size
        have hl1 : l.length ≤ 1000000000 := by omega
        go_wp2_with (at_builtin; refine ap_sal w9 ⟨pk L (t + 2 + 3 * j + 1) [-1, 0, 4000, 4001], pk L (t + 2 + 3 * j + 2) [-1, 0, 1000, 1001], false⟩ rfl _ _ rfl w.heap.size _ l rfl hown9 rfl hl1 hsz ?_; intro v10 w10 hown10 hg10)
        go_ret
        have hgg10 := ap_grown hgg9 hown9 hg10 (Nat.le_refl _)
        have hs10 := ap_str hs9 hown9 hg10 hbs
        rw [HM2.out]
        exact ⟨_, rfl, hown10, hs10, hgg10⟩
      · have hf' : (nx L (t + 2 + 3 * j) 15 == 0) = false := by simpa using hf
        have hM := HM.out
        rw [if_neg hf] at hM
        rw [hf']
        have HM2 := Lib.hid hM
        clear hM hf hf'
        go_wp2_with fail
        go_ret
        rw [HM2.out]
        exact ⟨_, rfl, hown7, hs7, hgg7⟩

end Go.Proofs.Ytkfijicmeekmiaa
