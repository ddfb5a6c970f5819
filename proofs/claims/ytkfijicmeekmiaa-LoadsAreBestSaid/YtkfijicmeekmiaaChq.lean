/- The walks of Chance and Quantile, of the reference's ChanceOf and QuantileOf. -/
import Derived.Test.YtkfijicmeekmiaaLoadC
import Derived.Test.YtkfijicmeekmiaaOver
import Derived.Test.YtkfijicmeekmiaaBlk
namespace Go.Proofs.Ytkfijicmeekmiaa
open Go.RowKit

set_option maxRecDepth 100000 in
set_option maxHeartbeats 1000000 in
theorem moreThan2_any (A : Option Addr) (n c : Nat) (l : List Int) (k : Nat) (w : World) (hr : Rd w 1 A n (ints l)) (hn : n ≤ 1000000) (hnc : n ≤ c) (hb : ∀ x ∈ l, -1000000000 ≤ x ∧ x ≤ 1000000000) (hk : k ≤ 4611686018427387904) :
    Calls Try.prog 100 #[.slice A n c, .int .i64 k] w fun e w' => e = .returned (.int .i64 (l.drop k).sum) ∧ w.grownBy w' none := by
  by_cases hkn : k ≤ n
  · exact moreThan_any A n c l k w hr hn hnc hb hkn
  · have hl : l.length = n := by have := hr.1; simpa [ints] using this
    have hz : (l.drop k).sum = (l.drop n).sum := by rw [List.drop_of_length_le (by omega), List.drop_of_length_le (by omega)]
    rw [hz]
    have hs := fun B c' hB => refSum_any B (n - n) c' (l.drop n) w (hr.drop (Nat.le_refl n) B hB) (by omega) fun x hx => hb x (List.mem_of_mem_drop hx)
    generalize (l.drop n).sum = z at *
    have HC := Lib.hid (And.intro hs (And.intro hr hb))
    have hkn' : n < k := by omega
    clear hs hr hb hz hl hkn
    go_enter Try.func100, Try.ntmps100
    go_wp2_with fail
    · have h := HC.out.1 A 0 (fun h _ _ => absurd h (by omega))
      rw [Nat.sub_self] at h
      refine h.mono ?_
      rintro e w1 ⟨rfl, hg1⟩
      clear h
      go_wp2_with fail
      go_ret
      exact ⟨rfl, hg1⟩
    · have h := HC.out.1 (Option.map (fun x => x.add n) A) (c - n) (fun _ a ha => by rw [ha]; rfl)
      rw [Nat.sub_self] at h
      refine h.mono ?_
      rintro e w1 ⟨rfl, hg1⟩
      clear h
      go_wp2_with fail
      go_ret
      exact ⟨rfl, hg1⟩

/-- What Chance answers. -/
def chV (h : List Int) (least : Int) : Value :=
  if histF h ≠ 0 then .tuple #[frac 0 0, .int .i64 (histF h)] else if least < 0 then .tuple #[frac 0 0, .int .i64 1]
  else .tuple #[frac (lowN (h.drop least.toNat).sum h.sum) (lowD (h.drop least.toNat).sum h.sum), .int .i64 0]

set_option maxRecDepth 100000 in
set_option maxHeartbeats 1000000 in
theorem chance_any (A : Option Addr) (n c : Nat) (l : List Int) (least : Int) (w : World) (hr : Rd w 1 A n (ints l)) (hn : n ≤ 100000) (hnc : n ≤ c) (hk : -100 ≤ least ∧ least ≤ 4611686018427387904) :
    Calls Try.prog 41 #[.slice A n c, .int .i64 least] w fun e w' => e = .returned (chV l least) ∧ w.grownBy w' none := by
  have hl : l.length = n := by have := hr.1; simpa [ints] using this
  have hck := fun w1 (hg : w.grownBy w1 none) => checkHist_any A n c l w1 (hr.grown hg) hn
  have hg0 := grown_alloc (grown_refl w) (.cells #[.int .i64 0, .int .i64 0] 31)
  have hB0 := Blk.new w 31 #[.int .i64 0, .int .i64 0]
  obtain ⟨V, hV⟩ : ∃ V, V = chV l least := ⟨_, rfl⟩
  rw [← hV]
  unfold chV at hV
  by_cases h0 : histF l = 0
  · rw [if_neg (by simp [h0])] at hV
    rw [h0] at hck
    by_cases hneg : least < 0
    · rw [if_pos hneg] at hV
      have hd : decide (least < 0) = true := by simpa using hneg
      have HC := Lib.hid (And.intro hck hV)
      clear hck hV h0 hl
      go_enter Try.func41, Try.ntmps41
      go_wp2_with fail
      refine (HC.out.1 _ hg0).mono ?_
      rintro e w1 ⟨rfl, hg1⟩
      have hB1 := hB0.grown hg1 (by simp)
      have hgg1 := hg0.trans hg1
      obtain ⟨e0, e1, f0, f1⟩ := hB1.two
      go_wp2_with fail
      refine bodyPost_ret (results_row_tmp rfl _ _ w.heap.size _ _ _ _ rfl ((hB1.set_ 0 (.int .i64 0)).set_ 1 (.int .i64 0)) Try.underlying31 rfl (by kernel_rfl)) rfl ?_
      exact ⟨by rw [HC.out.2]; rfl, grown_set (p := ⟨w.heap.size, 1, none⟩) (grown_set (p := ⟨w.heap.size, 0, none⟩) hgg1 (.inl (Nat.le_refl _)) _) (.inl (Nat.le_refl _)) _⟩
    · rw [if_neg hneg] at hV
      obtain ⟨f1, f2, f3, f4⟩ := histF_ok h0
      obtain ⟨k, rfl⟩ : ∃ k : Nat, least = k := ⟨least.toNat, by omega⟩
      rw [show ((k : Int)).toNat = k from by omega] at hV
      have hb : ∀ x ∈ l, -1000000000 ≤ x ∧ x ≤ 1000000000 := fun x hx => by have := f2 x hx; omega
      have ht := fun c' w1 (hg : w.grownBy w1 none) => total_any A n c' l w1 (hr.grown hg) (by omega) hb
      obtain ⟨k', hk'⟩ : ∃ k', k' = min k n := ⟨_, rfl⟩
      have hz : (l.drop k).sum = (l.drop k').sum := by
        by_cases hkn : k ≤ n
        · rw [hk', Nat.min_eq_left hkn]
        · rw [List.drop_of_length_le (by omega), List.drop_of_length_le (by omega)]
      rw [hz] at hV
      have hkn : k' ≤ n := by omega
      have hs := fun B c' hB w1 (hg : w.grownBy w1 none) => total_any B (n - k') c' (l.drop k') w1 ((hr.drop hkn B hB).grown hg) (by omega) fun x hx => hb x (List.mem_of_mem_drop hx)
      have hrng := drop_sum_le (fun x hx => (f2 x hx).1) k'
      have hrng2 : (l.drop k').sum ≤ l.sum := by
        have h1 := take_sum (fun x hx => (f2 x hx).1) k'
        have e : (l.take k').sum + (l.drop k').sum = l.sum := by rw [← List.sum_append, List.take_append_drop]
        omega
      have hlo := fun w => lowest_any (l.drop k').sum l.sum w (by omega) (by omega) f3 (by omega)
      generalize (l.drop k').sum = z at *
      generalize l.sum = d at *
      generalize lowN z d = a at *
      generalize lowD z d = b at *
      have hd : decide ((k : Int) < 0) = false := by simp
      have HC := Lib.hid (And.intro hck (And.intro hs (And.intro ht (And.intro hlo (And.intro hV hr)))))
      clear hck hs ht hlo hV h0 f1 f2 f3 f4 hrng hrng2 hl hb hz hr hneg
      have hcases : (k ≤ n ∧ k' = k) ∨ (n < k ∧ k' = n) := by omega
      clear hk'
      rcases hcases with ⟨hle, rfl⟩ | ⟨hle, rfl⟩
      · go_enter Try.func41, Try.ntmps41
        go_wp2_with fail
        refine (HC.out.1 _ hg0).mono ?_
        rintro e w1 ⟨rfl, hg1⟩
        have hgg1 := hg0.trans hg1
        go_wp2_with fail
        · have h := HC.out.2.1 A 0 (fun h _ _ => absurd h (by omega)) _ hgg1
          refine h.mono ?_
          clear h
          rintro e w2 ⟨rfl, hg2⟩
          have hgg2 := hgg1.trans hg2
          go_wp2_with fail
          refine (HC.out.2.2.1 _ _ hgg2).mono ?_
          rintro e w3 ⟨rfl, hg3⟩
          have hgg3 := hgg2.trans hg3
          go_wp2_with fail
          refine (HC.out.2.2.2.1 _).mono ?_
          rintro e w4 ⟨rfl, hg4⟩
          have hgg4 := hgg3.trans hg4
          have hB3 := hB0.grown (((hg1.trans hg2).trans hg3).trans hg4) (by simp)
          obtain ⟨e0, e1, f0, f1⟩ := hB3.two
          unfold frac at *
          go_wp2_with fail
          refine bodyPost_ret (results_row_tmp rfl _ _ w.heap.size _ _ _ _ rfl ((hB3.set_ 0 (.int .i64 a)).set_ 1 (.int .i64 b)) Try.underlying31 rfl (by kernel_rfl)) rfl ?_
          exact ⟨by rw [HC.out.2.2.2.2.1]; rfl, grown_set (p := ⟨w.heap.size, 1, none⟩) (grown_set (p := ⟨w.heap.size, 0, none⟩) hgg4 (.inl (Nat.le_refl _)) _) (.inl (Nat.le_refl _)) _⟩
        · have h := HC.out.2.1 (Option.map (fun x => x.add k') A) (c - k') (fun _ a ha => by rw [ha]; rfl) _ hgg1
          refine h.mono ?_
          clear h
          rintro e w2 ⟨rfl, hg2⟩
          have hgg2 := hgg1.trans hg2
          go_wp2_with fail
          refine (HC.out.2.2.1 _ _ hgg2).mono ?_
          rintro e w3 ⟨rfl, hg3⟩
          have hgg3 := hgg2.trans hg3
          go_wp2_with fail
          refine (HC.out.2.2.2.1 _).mono ?_
          rintro e w4 ⟨rfl, hg4⟩
          have hgg4 := hgg3.trans hg4
          have hB3 := hB0.grown (((hg1.trans hg2).trans hg3).trans hg4) (by simp)
          obtain ⟨e0, e1, f0, f1⟩ := hB3.two
          unfold frac at *
          go_wp2_with fail
          refine bodyPost_ret (results_row_tmp rfl _ _ w.heap.size _ _ _ _ rfl ((hB3.set_ 0 (.int .i64 a)).set_ 1 (.int .i64 b)) Try.underlying31 rfl (by kernel_rfl)) rfl ?_
          exact ⟨by rw [HC.out.2.2.2.2.1]; rfl, grown_set (p := ⟨w.heap.size, 1, none⟩) (grown_set (p := ⟨w.heap.size, 0, none⟩) hgg4 (.inl (Nat.le_refl _)) _) (.inl (Nat.le_refl _)) _⟩
      · go_enter Try.func41, Try.ntmps41
        go_wp2_with fail
        refine (HC.out.1 _ hg0).mono ?_
        rintro e w1 ⟨rfl, hg1⟩
        have hgg1 := hg0.trans hg1
        go_wp2_with fail
        · have h := HC.out.2.1 A 0 (fun h _ _ => absurd h (by omega)) _ hgg1
          rw [Nat.sub_self] at h
          refine h.mono ?_
          clear h
          rintro e w2 ⟨rfl, hg2⟩
          have hgg2 := hgg1.trans hg2
          go_wp2_with fail
          refine (HC.out.2.2.1 _ _ hgg2).mono ?_
          rintro e w3 ⟨rfl, hg3⟩
          have hgg3 := hgg2.trans hg3
          go_wp2_with fail
          refine (HC.out.2.2.2.1 _).mono ?_
          rintro e w4 ⟨rfl, hg4⟩
          have hgg4 := hgg3.trans hg4
          have hB3 := hB0.grown (((hg1.trans hg2).trans hg3).trans hg4) (by simp)
          obtain ⟨e0, e1, f0, f1⟩ := hB3.two
          unfold frac at *
          go_wp2_with fail
          refine bodyPost_ret (results_row_tmp rfl _ _ w.heap.size _ _ _ _ rfl ((hB3.set_ 0 (.int .i64 a)).set_ 1 (.int .i64 b)) Try.underlying31 rfl (by kernel_rfl)) rfl ?_
          exact ⟨by rw [HC.out.2.2.2.2.1]; rfl, grown_set (p := ⟨w.heap.size, 1, none⟩) (grown_set (p := ⟨w.heap.size, 0, none⟩) hgg4 (.inl (Nat.le_refl _)) _) (.inl (Nat.le_refl _)) _⟩
        · have h := HC.out.2.1 (Option.map (fun x => x.add k') A) (c - k') (fun _ a ha => by rw [ha]; rfl) _ hgg1
          rw [Nat.sub_self] at h
          refine h.mono ?_
          clear h
          rintro e w2 ⟨rfl, hg2⟩
          have hgg2 := hgg1.trans hg2
          go_wp2_with fail
          refine (HC.out.2.2.1 _ _ hgg2).mono ?_
          rintro e w3 ⟨rfl, hg3⟩
          have hgg3 := hgg2.trans hg3
          go_wp2_with fail
          refine (HC.out.2.2.2.1 _).mono ?_
          rintro e w4 ⟨rfl, hg4⟩
          have hgg4 := hgg3.trans hg4
          have hB3 := hB0.grown (((hg1.trans hg2).trans hg3).trans hg4) (by simp)
          obtain ⟨e0, e1, f0, f1⟩ := hB3.two
          unfold frac at *
          go_wp2_with fail
          refine bodyPost_ret (results_row_tmp rfl _ _ w.heap.size _ _ _ _ rfl ((hB3.set_ 0 (.int .i64 a)).set_ 1 (.int .i64 b)) Try.underlying31 rfl (by kernel_rfl)) rfl ?_
          exact ⟨by rw [HC.out.2.2.2.2.1]; rfl, grown_set (p := ⟨w.heap.size, 1, none⟩) (grown_set (p := ⟨w.heap.size, 0, none⟩) hgg4 (.inl (Nat.le_refl _)) _) (.inl (Nat.le_refl _)) _⟩
  · rw [if_pos h0] at hV
    have hne : (histF l != 0) = true := by rw [bne_iff_ne]; exact h0
    generalize histF l = f at *
    have HC := Lib.hid (And.intro hck hV)
    clear hck hV h0 hl
    go_enter Try.func41, Try.ntmps41
    go_wp2_with fail
    refine (HC.out.1 _ hg0).mono ?_
    rintro e w1 ⟨rfl, hg1⟩
    have hB1 := hB0.grown hg1 (by simp)
    have hgg1 := hg0.trans hg1
    obtain ⟨e0, e1, f0, f1⟩ := hB1.two
    go_wp2_with fail
    refine bodyPost_ret (results_row_tmp rfl _ _ w.heap.size _ _ _ _ rfl ((hB1.set_ 0 (.int .i64 0)).set_ 1 (.int .i64 0)) Try.underlying31 rfl (by kernel_rfl)) rfl ?_
    exact ⟨by rw [HC.out.2]; rfl, grown_set (p := ⟨w.heap.size, 1, none⟩) (grown_set (p := ⟨w.heap.size, 0, none⟩) hgg1 (.inl (Nat.le_refl _)) _) (.inl (Nat.le_refl _)) _⟩

end Go.Proofs.Ytkfijicmeekmiaa
