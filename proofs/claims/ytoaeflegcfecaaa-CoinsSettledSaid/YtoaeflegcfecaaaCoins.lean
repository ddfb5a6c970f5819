/- The walk of Coins: numbers of coins made of the stream's numbers. -/
import Derived.Test.YtoaeflegcfecaaaApp
namespace Go.Proofs.Ytoaeflegcfecaaa
open Go.RowKit

def coinPick (L : List Int) (t : Nat) : Int := ([0, 1, 2, 9] : List Int).getD (nx L t 4).toNat 0
def coinBad (L : List Int) (t : Nat) : Int := ([-1, 10001, 10000] : List Int).getD (nx L t 3).toNat 0
def coinBase (L : List Int) (t n : Nat) : List Int := (List.range n).map fun i => coinPick L (t + i)
def coinMid (L : List Int) (t n : Nat) : List Int := if nx L (t + n) 12 == 0 then coinBase L t n ++ [1] else coinBase L t n
def coins (L : List Int) (t n : Nat) : Nat × List Int :=
  if (nx L (t + n + 1) 12 == 0) && decide (0 < (coinMid L t n).length) then
    (t + n + 1 + 1 + 1 + 1, (coinMid L t n).set (nx L (t + n + 1 + 1) (coinMid L t n).length).toNat (coinBad L (t + n + 1 + 1 + 1)))
  else (t + n + 1 + 1, coinMid L t n)

theorem coinBase_succ (L : List Int) (t n : Nat) : coinBase L t (n + 1) = coinBase L t n ++ [coinPick L (t + n)] := by
  simp [coinBase, List.range_succ]
theorem coinBase_len (L : List Int) (t n : Nat) : (coinBase L t n).length = n := by simp [coinBase]
theorem coinMid_len (L : List Int) (t n : Nat) : (coinMid L t n).length ≤ n + 1 := by
  unfold coinMid; split <;> simp [coinBase_len]

theorem pickCoin (bs : Nat) (L : List Int) (t : Nat) (w : World) (hs : Str w bs L t) (ht : t ≤ 1000000) :
    Calls Try.prog 21 #[.pointer (some ⟨bs, 0, none⟩), .slice (some ⟨w.heap.size, 0, none⟩) 4 4] (w.alloc (.cells #[.int .i64 0, .int .i64 1, .int .i64 2, .int .i64 9] 3))
      fun e w' => e = .returned (.int .i64 (coinPick L t)) ∧ Str w' bs L (t + 1) ∧ w.grownBy w' (some bs) := by
  have hlt := hs.lt
  have h := pick_any bs L t (some ⟨w.heap.size, 0, none⟩) 4 [0, 1, 2, 9] _ (hs.grown (grown_alloc (grown_refl w) (.cells #[.int .i64 0, .int .i64 1, .int .i64 2, .int .i64 9] 3)) (by simp)) ht (by decide) (by decide) (rd_new w [0, 1, 2, 9] _)
    (by intro a e; cases e; simp; omega)
  exact h.mono fun e w' ⟨he, h1, h2⟩ => ⟨he, h1, (grown_alloc (World.grownBy.refl w _) _).trans h2⟩

theorem pickBad (bs : Nat) (L : List Int) (t : Nat) (w : World) (hs : Str w bs L t) (ht : t ≤ 1000000) :
    Calls Try.prog 21 #[.pointer (some ⟨bs, 0, none⟩), .slice (some ⟨w.heap.size, 0, none⟩) 3 3] (w.alloc (.cells #[.int .i64 (-1), .int .i64 10001, .int .i64 10000] 3))
      fun e w' => e = .returned (.int .i64 (coinBad L t)) ∧ Str w' bs L (t + 1) ∧ w.grownBy w' (some bs) := by
  have hlt := hs.lt
  have h := pick_any bs L t (some ⟨w.heap.size, 0, none⟩) 3 [-1, 10001, 10000] _ (hs.grown (grown_alloc (grown_refl w) (.cells #[.int .i64 (-1), .int .i64 10001, .int .i64 10000] 3)) (by simp)) ht (by decide) (by decide) (rd_new w [-1, 10001, 10000] _)
    (by intro a e; cases e; simp; omega)
  exact h.mono fun e w' ⟨he, h1, h2⟩ => ⟨he, h1, (grown_alloc (World.grownBy.refl w _) _).trans h2⟩

/-- What is known behind the loop and each of its rounds. -/
def CoinsAt (w : World) (bs : Nat) (L : List Int) (t : Nat) (l : List Int) (v : Value) (wr : World) : Prop :=
  wr.ownsRow w.heap.size 3 1 v l.length (ints l) ∧ Str wr bs L t ∧ w.grownBy wr (some bs)

theorem CoinsAt.mk {w wr : World} {bs t : Nat} {L l : List Int} {v : Value} (h1 : wr.ownsRow w.heap.size 3 1 v l.length (ints l)) (h2 : Str wr bs L t) (h3 : w.grownBy wr (some bs)) : CoinsAt w bs L t l v wr := ⟨h1, h2, h3⟩
theorem coinMid_pos {w wr : World} {bs t t1 j : Nat} {L : List Int} {v : Value} (hf : (nx L (t + j) 12 == 0) = true) (h : CoinsAt w bs L t1 (coinBase L t j ++ [1]) v wr) : CoinsAt w bs L t1 (coinMid L t j) v wr := by
  unfold coinMid; rw [if_pos hf]; exact h
theorem coinMid_neg {w wr : World} {bs t t1 j : Nat} {L : List Int} {v : Value} (hf : (nx L (t + j) 12 == 0) = false) (h : CoinsAt w bs L t1 (coinBase L t j) v wr) : CoinsAt w bs L t1 (coinMid L t j) v wr := by
  unfold coinMid; rw [hf]; exact h

set_option maxHeartbeats 400000 in
theorem coins_any (bs : Nat) (L : List Int) (t n : Nat) (w : World) (hs : Str w bs L t) (ht : t ≤ 900000) (hn : n ≤ 1000) :
    Calls Try.prog 28 #[.pointer (some ⟨bs, 0, none⟩), .int .i64 n] w
      fun e w' => ∃ v, e = .returned v ∧ CoinsAt w bs L (coins L t n).1 (coins L t n).2 v w' := by
  have hbs := hs.lt
  go_enter Try.func28, Try.ntmps28
  go_wp2_with fail
  go_loopg [5, 7] n (fun k v i wr => ∃ j : Nat, k + j = n ∧ i = .int .i64 j ∧ CoinsAt w bs L (t + j) (coinBase L t j) v wr)
  case atStart => exact ⟨0, by omega, rfl, World.ownsRow_nil _ _ _ _, hs, World.grownBy.refl _ _⟩
  case round =>
    obtain ⟨j, hj, rfl, hown, hst, hg⟩ := hrel
    by_cases hlt : j < n
    · have HJ := Lib.hid hj
      clear hj
      have hbl : (coinBase L t j).length ≤ 1000 := by rw [coinBase_len]; omega
      go_wp2_with fail
      refine (pickCoin bs L _ _ hst (by omega)).mono ?_
      rintro e w1 ⟨rfl, hst1, hg1⟩
      have hown1 := hown.kept hg1 (own_ne hown hbs)
      have hgg1 := hg.trans hg1
      go_wp2_with (at_builtin; refine ap_int w1 (coinPick L (t + j)) rfl _ _ rfl w.heap.size _ (coinBase L t j) rfl hown1 rfl (by omega) hgg1.size ?_; intro v4 w4 hown4 hg4)
      have hj := HJ.out
      go_roundg (gk - 1)
      case measure => omega
      case rel => exact ⟨j + 1, by omega, by go_num, by rw [coinBase_succ]; exact ⟨hown4, ap_str hst1 hown1 hg4 hbs, ap_grown hgg1 hown1 hg4 (Nat.le_refl _)⟩⟩
    · obtain rfl : j = n := by omega
      have hbl : (coinBase L t j).length ≤ 1000 := by rw [coinBase_len]; omega
      go_wp2_with fail
      refine (flip_any bs L _ 12 _ hst (by omega) (by omega)).mono ?_
      rintro e w1 ⟨rfl, hst1, hg1⟩
      have hown1 := hown.kept hg1 (own_ne hown hbs)
      have hgg1 := hg.trans hg1
      clear hown hg
      by_cases hf : (nx L (t + j) 12 == 0) = true
      case' pos =>
        go_wp2_with (at_builtin; refine ap_int w1 1 rfl _ _ rfl w.heap.size _ (coinBase L t j) rfl hown1 rfl (by omega) hgg1.size ?_; intro v4 w4 hown4 hg4)
        have hM := coinMid_pos hf (CoinsAt.mk hown4 (ap_str hst1 hown1 hg4 hbs) (ap_grown hgg1 hown1 hg4 (Nat.le_refl _)))
      case' neg =>
        have hf' : (nx L (t + j) 12 == 0) = false := by simpa using hf
        go_wp2_with fail
        have hM := coinMid_neg hf' (CoinsAt.mk hown1 hst1 hgg1)
      all_goals
        have hml := coinMid_len L t j
        obtain ⟨hownM, hstM, hgM⟩ := hM
        refine (flip_any bs L _ 12 _ hstM (by omega) (by omega)).mono ?_
        rintro e w5 ⟨rfl, hst5, hg5⟩
        have hown5 := hownM.kept hg5 (own_ne hownM hbs)
        have hgg5 := hgM.trans hg5
        have hco : coins L t j = if (nx L (t + j + 1) 12 == 0) && decide (0 < (coinMid L t j).length) then
          (t + j + 1 + 1 + 1 + 1, (coinMid L t j).set (nx L (t + j + 1 + 1) (coinMid L t j).length).toNat (coinBad L (t + j + 1 + 1 + 1)))
          else (t + j + 1 + 1, coinMid L t j) := rfl
        generalize coinMid L t j = M at *
        have HC := Lib.hid hco
        clear hco hf
        obtain ⟨A, c, rfl, _, _, _⟩ := Rd.of_own hown5
        by_cases hf2 : (nx L (t + j + 1) 12 == 0) = true
        · by_cases h0 : 0 < M.length
          · obtain ⟨g, cap, hv, hgb, hglt⟩ := hown5.form h0
            obtain ⟨rfl, rfl⟩ : A = some ⟨g, 0, none⟩ ∧ c = cap := by simpa using hv
            have hn0 : 0 ≤ nx L (t + j + 1 + 1) M.length := by unfold nx; split <;> exact belowI_nonneg _ _
            have hn1 : nx L (t + j + 1 + 1) M.length < M.length := by unfold nx; split <;> exact belowI_lt _ _ (by omega)
            obtain ⟨k, hk⟩ := Int.eq_ofNat_of_zero_le hn0
            have hk1 : k < M.length := by omega
            have HK := Lib.hid hk
            clear hk hn0 hn1 hv
            have hfin : coins L t j = (t + j + 1 + 1 + 1 + 1, M.set k (coinBad L (t + j + 1 + 1 + 1))) := by
              rw [HC.out, HK.out]; simp [hf2, h0]
            have HF := Lib.hid hfin
            clear hfin
            go_wp2_with fail
            refine (next_any bs L _ _ _ hst5 (by omega) (by omega)).mono ?_
            rw [HK.out]
            rintro e w6 ⟨rfl, hst6, hg6⟩
            have hown6 := hown5.kept hg6 (own_ne hown5 hbs)
            have hgg6 := hgg5.trans hg6
            go_wp2_with fail
            refine (pickBad bs L _ _ hst6 (by omega)).mono ?_
            rintro e w7 ⟨rfl, hst7, hg7⟩
            have hown7 := hown6.kept hg7 (own_ne hown6 hbs)
            have hgg7 := hgg6.trans hg7
            have hs7 := hown7.stored k (.int .i64 (coinBad L (t + j + 1 + 1 + 1)))
            have hc7 := hown7.cellAt k (by omega)
            have hf7 := hown7.frozenAt k
            have hc7' : w7.cell? ⟨g, k, none⟩ = some (.int .i64 M[k]) := by rw [hc7]; simp [ints, hk1]
            clear hc7
            go_wp2_with fail
            go_ret
            refine ⟨_, rfl, ?_⟩
            rw [HF.out]
            refine CoinsAt.mk ?_ (hst7.grown hs7.2 (by intro j hj; cases hj; omega)) (grown_below hgg7 hs7.2 (by intro j hj; cases hj; exact .inl hgb))
            have := hs7.1
            rw [List.length_set]
            simpa [ints, List.map_set] using this
          · have hfin : coins L t j = (t + j + 1 + 1, M) := by rw [HC.out]; simp [h0]
            have HF := Lib.hid hfin
            clear hfin
            have h0' : M.length = 0 := by omega
            have hM0 : M = [] := List.eq_nil_of_length_eq_zero h0'
            subst hM0
            simp only [List.length_nil] at *
            go_wp2_with fail
            go_ret
            refine ⟨_, rfl, ?_⟩
            rw [HF.out]
            exact CoinsAt.mk hown5 hst5 hgg5
        · have hf2' : (nx L (t + j + 1) 12 == 0) = false := by simpa using hf2
          have hfin : coins L t j = (t + j + 1 + 1, M) := by rw [HC.out]; simp [hf2']
          have HF := Lib.hid hfin
          clear hfin hf2
          go_wp2_with fail
          go_ret
          refine ⟨_, rfl, ?_⟩
          rw [HF.out]
          exact CoinsAt.mk hown5 hst5 hgg5

end Go.Proofs.Ytoaeflegcfecaaa
