/- The walks of Quantile, of the reference's ChanceOf and QuantileOf. -/
import Derived.Test.YtkfijicmeekmiaaChq
namespace Go.Proofs.Ytkfijicmeekmiaa
open Go.RowKit

def qcond (l : List Int) (pc : Int) (n : Nat) : Prop := 100 * (l.take (n + 1)).sum < pc * l.sum
def QuS (l : List Int) (pc : Int) (n : Nat) : Prop := (∀ i, i < n → qcond l pc i) ∧ ¬ qcond l pc n
theorem qu_in {l : List Int} {pc : Int} (hs : 0 < l.sum) (hp : pc ≤ 100) {n : Nat} (h : qcond l pc n) : n + 1 < l.length := by
  rcases Nat.lt_or_ge (n + 1) l.length with h1 | h1
  · exact h1
  · unfold qcond at h
    rw [List.take_of_length_le h1] at h
    have := Int.mul_le_mul_of_nonneg_right hp (show 0 ≤ l.sum by omega)
    omega
theorem qu_ex {l : List Int} {pc : Int} (hs : 0 < l.sum) (hp : pc ≤ 100) : ∃ n, QuS l pc n := by
  have h : ∀ m, (∃ n, QuS l pc n) ∨ ∀ i, i < m → qcond l pc i := by
    intro m
    induction m with
    | zero => exact .inr fun i hi => absurd hi (by omega)
    | succ m ih =>
      rcases ih with h | h
      · exact .inl h
      · by_cases hc : qcond l pc m
        · exact .inr fun i hi => by
            by_cases e : i = m
            · rw [e]; exact hc
            · exact h i (by omega)
        · exact .inl ⟨m, h, hc⟩
  rcases h (l.length + 1) with h | h
  · exact h
  · have := qu_in hs hp (h l.length (by omega))
    omega
theorem QuS.iff {l : List Int} {pc : Int} {N : Nat} (h : QuS l pc N) {i : Nat} (hi : i ≤ N) : qcond l pc i ↔ i < N := by
  constructor
  · intro hc
    rcases Nat.lt_or_ge i N with h1 | h1
    · exact h1
    · obtain rfl : i = N := by omega
      exact absurd hc h.2
  · exact h.1 i

set_option maxRecDepth 100000 in
set_option maxHeartbeats 1000000 in
theorem quantile_ok (A : Option Addr) (n c : Nat) (l : List Int) (pc : Int) (N : Nat) (w : World) (hr : Rd w 1 A n (ints l)) (hf : histF l = 0) (hpc : 1 ≤ pc ∧ pc ≤ 100) (hN : QuS l pc N) :
    Calls Try.prog 42 #[.slice A n c, .int .i64 pc] w fun e w' => e = .returned (.tuple #[.int .i64 N, .int .i64 0]) ∧ w.grownBy w' none := by
  have hl : l.length = n := by have := hr.1; simpa [ints] using this
  obtain ⟨f1, f2, f3, f4⟩ := histF_ok hf
  have hck := checkHist_any A n c l w hr (by omega)
  rw [hf] at hck
  have hbt := between_any pc 1 100
  rw [btw_true.2 hpc] at hbt
  have hb : ∀ x ∈ l, -1000000000 ≤ x ∧ x ≤ 1000000000 := fun x hx => by have := f2 x hx; omega
  have htt := fun w1 (hg : w.grownBy w1 none) => total_any A n c l w1 (hr.grown hg) (by omega) hb
  have hn0 : 0 < n := by
    rcases Nat.eq_zero_or_pos n with h | h
    · have h2 : l = [] := List.eq_nil_of_length_eq_zero (by omega)
      rw [h2] at f3; simp at f3
    · exact h
  obtain ⟨b, off, rfl, hbb, x, hx, c0⟩ := int_cells hr hn0
  have hx0 : (l.take (0 + 1)).sum = x := by rw [sum_take hx]; simp
  have hin := fun i (h : qcond l pc i) => qu_in f3 hpc.2 h
  have hts := fun j => take_sum (fun x hx => (f2 x hx).1) j
  have hqc : ∀ i, i ≤ N → (100 * (l.take (i + 1)).sum < pc * l.sum ↔ i < N) := fun i hi => hN.iff hi
  have hps := mul_abs (x := l.sum) (y := pc) (K := 100) (by omega) (by omega)
  rw [Int.mul_comm l.sum pc] at hps
  have hin2 : ∀ i, i < N → i + 1 < n := fun i hi => by rw [← hl]; exact hin i (hN.1 i hi)
  generalize hd : l.sum = d at *
  have p1 : -100000000000 ≤ pc * d := by omega
  have p2 : pc * d ≤ 100000000000 := by omega
  have HC := Lib.hid (And.intro hck (And.intro hbt (And.intro htt (And.intro hts (And.intro hqc (And.intro hin2 hx0))))))
  have x0 := hts 1
  rw [show (1 : Nat) = 0 + 1 from rfl, hx0] at x0
  have hn1 : n ≤ 2001 := by omega
  clear hck hbt htt hts hqc hin2 hx0 hf f2 hb hin hN hps hl hx hd
  rw [show off + 0 = off from rfl] at c0
  go_enter Try.func42, Try.ntmps42
  go_wp2_with fail
  refine HC.out.1.mono ?_
  rintro e w1 ⟨rfl, hg1⟩
  go_wp2_with fail
  refine (HC.out.2.1 _).mono ?_
  rintro e w' ⟨rfl, rfl⟩
  go_wp2_with fail
  refine (HC.out.2.2.1 _ hg1).mono ?_
  rintro e w2 ⟨rfl, hg2⟩
  have hg02 := hg1.trans hg2
  have c2 := hg02.cell c0 (by simp)
  go_wp2_with fail
  go_quiet (fail)
  go_wp2_with fail
  go_loopg [8, 9] N (fun k i z wr => ∃ j : Nat, k + j = N ∧ i = .int .i64 j ∧ z = .int .i64 (l.take (j + 1)).sum ∧ w.grownBy wr none)
  case atStart => exact ⟨0, by omega, rfl, by rw [HC.out.2.2.2.2.2.2], grown_drewN hg02 _⟩
  case round =>
    obtain ⟨j, hj, rfl, rfl, hg⟩ := hrel
    have hiff := HC.out.2.2.2.2.1 j (by omega)
    obtain ⟨z0, z1⟩ := HC.out.2.2.2.1 (j + 1)
    by_cases hlt : j < N
    · have hlt1 := hiff.2 hlt
      have hjn := HC.out.2.2.2.2.2.1 j hlt
      obtain ⟨b', off', e', hb', y, hy, cy⟩ := int_cells (hr.grown hg) hjn
      cases e'
      have hst := sum_take hy
      obtain ⟨y0, y1⟩ := HC.out.2.2.2.1 (j + 1 + 1)
      rw [hst] at y0 y1
      generalize (l.take (j + 1)).sum = z at *
      have hd : decide (100 * z < pc * d) = true := by simpa using hlt1
      obtain ⟨j1, hj1⟩ : ∃ j1, j1 = j + 1 := ⟨_, rfl⟩
      have hw1 : IntKind.i64.wrap ((j : Int) + 1) = j1 := by rw [IntWalk.i64_in _ (by omega)]; omega
      have hwz : IntKind.i64.wrap (z + y) = z + y := IntWalk.i64_in _ (by omega)
      rw [← hj1] at cy hjn hy hst
      have HS := Lib.hid (And.intro hst (And.intro hj hj1))
      clear hst hj hj1 hy hiff
      go_wp2_with fail
      obtain ⟨hst, hj, hj1⟩ := HS.out
      go_roundg (gk - 1)
      case measure => omega
      case rel => exact ⟨j1, by omega, rfl, by rw [hst], hg⟩
    · obtain rfl : j = N := by omega
      have hlt1 : ¬ 100 * (l.take (j + 1)).sum < pc * d := fun h => hlt (hiff.1 h)
      generalize (l.take (j + 1)).sum = z at *
      have hd : decide (100 * z < pc * d) = false := by simpa using hlt1
      clear hiff
      go_wp2_with fail
      go_ret2
      exact ⟨rfl, hg⟩

/-- What is wrong with a histogram and a percentage. -/
def quE (l : List Int) (pc : Int) : Int := if histF l ≠ 0 then histF l else if btw pc 1 100 = false then 1 else 0

set_option maxRecDepth 100000 in
set_option maxHeartbeats 1000000 in
theorem quantile_bad (A : Option Addr) (n c : Nat) (l : List Int) (pc : Int) (w : World) (hr : Rd w 1 A n (ints l)) (hn : n ≤ 100000) (he : quE l pc ≠ 0) :
    Calls Try.prog 42 #[.slice A n c, .int .i64 pc] w fun e w' => e = .returned (.tuple #[.int .i64 0, .int .i64 (quE l pc)]) ∧ w.grownBy w' none := by
  have hck := checkHist_any A n c l w hr hn
  obtain ⟨V, hV⟩ : ∃ V, V = quE l pc := ⟨_, rfl⟩
  rw [← hV] at he ⊢
  unfold quE at hV
  by_cases hf : histF l = 0
  · rw [if_neg (by omega)] at hV
    rw [hf] at hck
    have hbt := between_any pc 1 100
    by_cases hb : btw pc 1 100 = false
    · rw [if_pos hb] at hV
      rw [hb] at hbt
      have HC := Lib.hid (And.intro hck (And.intro hbt hV))
      clear hck hbt hV hf hb he
      go_enter Try.func42, Try.ntmps42
      go_wp2_with fail
      refine HC.out.1.mono ?_
      rintro e w1 ⟨rfl, hg1⟩
      go_wp2_with fail
      refine (HC.out.2.1 _).mono ?_
      rintro e w' ⟨rfl, rfl⟩
      go_wp2_with fail
      go_ret2
      exact ⟨by rw [HC.out.2.2]; rfl, hg1⟩
    · rw [if_neg hb] at hV
      exact absurd hV he
  · rw [if_pos hf] at hV
    have hne : (histF l != 0) = true := by rw [bne_iff_ne]; exact hf
    generalize histF l = f at *
    have HC := Lib.hid (And.intro hck hV)
    clear hck hV hf he
    go_enter Try.func42, Try.ntmps42
    go_wp2_with fail
    refine HC.out.1.mono ?_
    rintro e w1 ⟨rfl, hg1⟩
    go_wp2_with fail
    go_ret2
    exact ⟨by rw [HC.out.2]; rfl, hg1⟩

set_option maxRecDepth 100000 in
set_option maxHeartbeats 1000000 in
theorem quantileOf_ok (A : Option Addr) (n c : Nat) (l : List Int) (pc : Int) (N : Nat) (w : World) (hr : Rd w 1 A n (ints l)) (hnc : n ≤ c) (hf : histF l = 0) (hpc : 1 ≤ pc ∧ pc ≤ 100) (hN : QuS l pc N) :
    Calls Try.prog 45 #[.slice A n c, .int .i64 pc] w fun e w' => e = .returned (.tuple #[.int .i64 N, .int .i64 0]) ∧ w.grownBy w' none := by
  have hl : l.length = n := by have := hr.1; simpa [ints] using this
  obtain ⟨f1, f2, f3, f4⟩ := histF_ok hf
  have hb : ∀ x ∈ l, -1000000000 ≤ x ∧ x ≤ 1000000000 := fun x hx => by have := f2 x hx; omega
  have htt := fun w1 (hg : w.grownBy w1 none) => refSum_any A n c l w1 (hr.grown hg) (by omega) hb
  have hmt := fun (k : Nat) (hk : k ≤ n) w1 (hg : w.grownBy w1 none) => moreThan_any A n c l k w1 (hr.grown hg) (by omega) hnc hb hk
  have hin := fun i (h : qcond l pc i) => qu_in f3 hpc.2 h
  have hts := fun j => take_sum (fun x hx => (f2 x hx).1) j
  have hdr : ∀ j, (l.drop j).sum = l.sum - (l.take j).sum := by
    intro j
    have e : (l.take j).sum + (l.drop j).sum = l.sum := by rw [← List.sum_append, List.take_append_drop]
    omega
  have hqc : ∀ i, i ≤ N → (100 * (l.take (i + 1)).sum < pc * l.sum ↔ i < N) := fun i hi => hN.iff hi
  have hps := mul_abs (x := l.sum) (y := pc) (K := 100) (by omega) (by omega)
  rw [Int.mul_comm l.sum pc] at hps
  have hNn : N + 1 ≤ n := by
    rcases Nat.eq_zero_or_pos N with h | h
    · rcases Nat.eq_zero_or_pos n with h1 | h1
      · have h2 : l = [] := List.eq_nil_of_length_eq_zero (by omega)
        rw [h2] at f3; simp at f3
      · omega
    · have := hin (N - 1) (hN.1 (N - 1) (by omega))
      omega
  generalize hd : l.sum = d at *
  have p1 : -100000000000 ≤ pc * d := by omega
  have p2 : pc * d ≤ 100000000000 := by omega
  have HC := Lib.hid (And.intro htt (And.intro hmt (And.intro hts (And.intro hqc hdr))))
  have hb0 : decide (pc < 1) = false := by simp; omega
  have hb1 : decide (100 < pc) = false := by simp; omega
  have hn1 : n ≤ 2001 := by omega
  clear hmt htt hts hqc hf f2 hb hin hN hps hl hd hdr
  go_enter Try.func45, Try.ntmps45
  go_wp2_with fail
  go_loopg [6] N (fun k i wr => ∃ j : Nat, k + j = N ∧ i = .int .i64 j ∧ w.grownBy wr none)
  case atStart => exact ⟨0, by omega, rfl, grown_refl w⟩
  case round =>
    obtain ⟨j, hj, rfl, hg⟩ := hrel
    obtain ⟨j1, hj1⟩ : ∃ j1, j1 = j + 1 := ⟨_, rfl⟩
    have hiff := HC.out.2.2.2.1 j (by omega)
    obtain ⟨z0, z1⟩ := HC.out.2.2.1 (j + 1)
    have hcall := HC.out.2.1 j1 (by omega)
    rw [HC.out.2.2.2.2 j1, hj1] at hcall
    rw [← hj1] at hiff z0 z1
    rw [← hj1] at hcall
    generalize (l.take j1).sum = z at *
    have hw1 : IntKind.i64.wrap ((j : Int) + 1) = j1 := by rw [IntWalk.i64_in _ (by omega)]; omega
    have hw2 : d - (d - z) = z := by omega
    by_cases hlt : j < N
    · have hlt1 := hiff.2 hlt
      have hd : decide (100 * z < pc * d) = true := by simpa using hlt1
      have HS := Lib.hid (And.intro hj (And.intro hj1 hcall))
      clear hj hj1 hcall hiff
      go_wp2_with fail
      refine (HC.out.1 _ hg).mono ?_
      rintro e w1 ⟨rfl, hg1⟩
      have hgg1 := hg.trans hg1
      go_wp2_with fail
      refine (HS.out.2.2 _ hgg1).mono ?_
      rintro e w2 ⟨rfl, hg2⟩
      have hgg2 := hgg1.trans hg2
      go_wp2_with fail
      refine (HC.out.1 _ hgg2).mono ?_
      rintro e w3 ⟨rfl, hg3⟩
      have hgg3 := hgg2.trans hg3
      go_wp2_with fail
      obtain ⟨hj, hj1, -⟩ := HS.out
      go_roundg (gk - 1)
      case measure => omega
      case rel => exact ⟨j1, by omega, rfl, hgg3⟩
    · obtain rfl : j = N := by omega
      have hlt1 : ¬ 100 * z < pc * d := fun h => hlt (hiff.1 h)
      have hd : decide (100 * z < pc * d) = false := by simpa using hlt1
      have HS := Lib.hid (And.intro hj (And.intro hj1 hcall))
      clear hj hj1 hcall hiff
      go_wp2_with fail
      refine (HC.out.1 _ hg).mono ?_
      rintro e w1 ⟨rfl, hg1⟩
      have hgg1 := hg.trans hg1
      go_wp2_with fail
      refine (HS.out.2.2 _ hgg1).mono ?_
      rintro e w2 ⟨rfl, hg2⟩
      have hgg2 := hgg1.trans hg2
      go_wp2_with fail
      refine (HC.out.1 _ hgg2).mono ?_
      rintro e w3 ⟨rfl, hg3⟩
      have hgg3 := hgg2.trans hg3
      go_wp2_with fail
      go_ret2
      exact ⟨rfl, hgg3⟩

theorem quantileOf_bad (A : Option Addr) (n c : Nat) (pc : Int) (w : World) (hpc : btw pc 1 100 = false) :
    Calls Try.prog 45 #[.slice A n c, .int .i64 pc] w fun e w' => e = .returned (.tuple #[.int .i64 0, .int .i64 1]) ∧ w.grownBy w' none := by
  by_cases h1 : pc < 1
  · have e1 : decide (pc < 1) = true := by simpa using h1
    clear hpc
    go_enter Try.func45, Try.ntmps45
    go_wp2_with fail
    go_ret2
    exact ⟨rfl, grown_refl w⟩
  · have e1 : decide (pc < 1) = false := by simpa using h1
    have h2 : 100 < pc := by
      by_cases h : 100 < pc
      · exact h
      · rw [btw_true.2 ⟨by omega, by omega⟩] at hpc; cases hpc
    have e2 : decide (100 < pc) = true := by simpa using h2
    clear hpc
    go_enter Try.func45, Try.ntmps45
    go_wp2_with fail
    go_ret2
    exact ⟨rfl, grown_refl w⟩

set_option maxRecDepth 100000 in
set_option maxHeartbeats 1000000 in
theorem chanceOf_any (A : Option Addr) (n c : Nat) (l : List Int) (least : Int) (w : World) (hr : Rd w 1 A n (ints l)) (hnc : n ≤ c) (hf : histF l = 0) (hk : -100 ≤ least ∧ least ≤ 4611686018427387904) :
    Calls Try.prog 44 #[.slice A n c, .int .i64 least] w fun e w' => e = .returned (chV l least) ∧ w.grownBy w' none := by
  have hl : l.length = n := by have := hr.1; simpa [ints] using this
  have hg0 := grown_alloc (grown_refl w) (.cells #[.int .i64 0, .int .i64 0] 31)
  have hB0 := Blk.new w 31 #[.int .i64 0, .int .i64 0]
  obtain ⟨V, hV⟩ : ∃ V, V = chV l least := ⟨_, rfl⟩
  rw [← hV]
  unfold chV at hV
  rw [if_neg (by simp [hf])] at hV
  obtain ⟨e0, e1, f0, f1⟩ := hB0.two
  by_cases hneg : least < 0
  · rw [if_pos hneg] at hV
    have hd : decide (least < 0) = true := by simpa using hneg
    have HC := Lib.hid hV
    clear hV hf hl
    go_enter Try.func44, Try.ntmps44
    go_wp2_with fail
    refine bodyPost_ret (results_row_tmp rfl _ _ w.heap.size _ _ _ _ rfl hB0 Try.underlying31 rfl (by kernel_rfl)) rfl ?_
    exact ⟨by rw [HC.out]; rfl, hg0⟩
  · rw [if_neg hneg] at hV
    obtain ⟨f1', f2, f3, f4⟩ := histF_ok hf
    obtain ⟨k, rfl⟩ : ∃ k : Nat, least = k := ⟨least.toNat, by omega⟩
    rw [show ((k : Int)).toNat = k from by omega] at hV
    have hb : ∀ x ∈ l, -1000000000 ≤ x ∧ x ≤ 1000000000 := fun x hx => by have := f2 x hx; omega
    have ht := fun w1 (hg : w.grownBy w1 none) => refSum_any A n c l w1 (hr.grown hg) (by omega) hb
    have hm := fun w1 (hg : w.grownBy w1 none) => moreThan2_any A n c l k w1 (hr.grown hg) (by omega) hnc hb (by omega)
    have hrng := drop_sum_le (fun x hx => (f2 x hx).1) k
    have hrng2 : (l.drop k).sum ≤ l.sum := by
      have h1 := take_sum (fun x hx => (f2 x hx).1) k
      have e : (l.take k).sum + (l.drop k).sum = l.sum := by rw [← List.sum_append, List.take_append_drop]
      omega
    have hlo := fun w => refPart_any (l.drop k).sum l.sum w (by omega) (by omega) f3 (by omega)
    generalize (l.drop k).sum = z at *
    generalize l.sum = d at *
    generalize lowN z d = a at *
    generalize lowD z d = b at *
    have hd : decide ((k : Int) < 0) = false := by simp
    have HC := Lib.hid (And.intro hm (And.intro ht (And.intro hlo hV)))
    clear hm ht hlo hV hf f1' f2 f3 f4 hrng hrng2 hl hb hr hneg
    go_enter Try.func44, Try.ntmps44
    go_wp2_with fail
    refine (HC.out.1 _ hg0).mono ?_
    rintro e w1 ⟨rfl, hg1⟩
    have hgg1 := hg0.trans hg1
    go_wp2_with fail
    refine (HC.out.2.1 _ hgg1).mono ?_
    rintro e w2 ⟨rfl, hg2⟩
    have hgg2 := hgg1.trans hg2
    go_wp2_with fail
    refine (HC.out.2.2.1 _).mono ?_
    rintro e w3 ⟨rfl, hg3⟩
    have hgg3 := hgg2.trans hg3
    have hB3 := hB0.grown ((hg1.trans hg2).trans hg3) (by simp)
    obtain ⟨e0, e1, f0, f1⟩ := hB3.two
    unfold frac at *
    go_wp2_with fail
    refine bodyPost_ret (results_row_tmp rfl _ _ w.heap.size _ _ _ _ rfl ((hB3.set_ 0 (.int .i64 a)).set_ 1 (.int .i64 b)) Try.underlying31 rfl (by kernel_rfl)) rfl ?_
    exact ⟨by rw [HC.out.2.2.2]; rfl, grown_set (p := ⟨w.heap.size, 1, none⟩) (grown_set (p := ⟨w.heap.size, 0, none⟩) hgg3 (.inl (Nat.le_refl _)) _) (.inl (Nat.le_refl _)) _⟩

end Go.Proofs.Ytkfijicmeekmiaa
