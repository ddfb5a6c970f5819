/- The walks of fits and plus. -/
import Derived.Test.YtkfijicmeekmiaaConv
import Derived.Test.YtkfijicmeekmiaaMade
namespace Go.Proofs.Ytkfijicmeekmiaa
open Go.RowKit

/-- Whether d more days, after the product p, are not too much. -/
def fitB (s : Int) : Nat → Int → Bool
  | 0, _ => true
  | d + 1, p => if 1000000000 < p * s then false else fitB s d (p * s)

set_option maxRecDepth 100000 in
set_option maxHeartbeats 1000000 in
theorem fits_any (s : Int) (d : Nat) (w : World) (hs : 0 ≤ s ∧ s ≤ 1000000000) (hd : d ≤ 7) :
    Calls Try.prog 96 #[.int .i64 s, .int .i64 d] w fun e w' => e = .returned (.bool (fitB s d 1)) ∧ w.grownBy w' none := by
  go_enter Try.func96, Try.ntmps96
  go_wp2_with fail
  go_loopg [5, 7] d (fun k p i wr => ∃ (j : Nat) (q : Int), k + j = d ∧ i = .int .i64 j ∧ p = .int .i64 q ∧ (0 ≤ q ∧ q ≤ 1000000000) ∧ w.grownBy wr none ∧ Hid (fitB s k q = fitB s d 1))
  case atStart => exact ⟨0, 1, by omega, rfl, rfl, by omega, grown_refl w, Lib.hid rfl⟩
  case round =>
    obtain ⟨j, q, hj, rfl, rfl, hq, hg, HJ⟩ := hrel
    by_cases hlt : j < d
    · obtain ⟨k0, rfl⟩ : ∃ k0, gk = k0 + 1 := ⟨gk - 1, by omega⟩
      have hst : fitB s (k0 + 1) q = if 1000000000 < q * s then false else fitB s k0 (q * s) := rfl
      have h0 : 0 ≤ q * s := Int.mul_nonneg hq.1 hs.1
      have h1 : q * s ≤ 1000000000 * 1000000000 := Int.mul_le_mul hq.2 hs.2 hs.1 (by omega)
      by_cases hx : 1000000000 < q * s
      · rw [if_pos hx] at hst
        have hx1 : decide (1000000000 < q * s) = true := by simpa using hx
        have HS := Lib.hid (And.intro hst hj)
        clear hst hj
        go_wp2_with fail
        go_ret
        exact ⟨by rw [← HJ.out, HS.out.1]; rfl, hg⟩
      · rw [if_neg hx] at hst
        have HS := Lib.hid (And.intro hst hj)
        clear hst hj
        go_wp2_with fail
        obtain ⟨hst, hj⟩ := HS.out
        go_roundg k0
        case measure => omega
        case rel => exact ⟨j + 1, q * s, by omega, by go_num, by go_num, by omega, hg, Lib.hid (by rw [← hst]; exact HJ.out)⟩
    · obtain rfl : j = d := by omega
      obtain rfl : gk = 0 := by omega
      go_wp2_with fail
      go_ret
      exact ⟨by rw [← HJ.out]; rfl, hg⟩

set_option maxRecDepth 100000 in
set_option maxHeartbeats 1000000 in
theorem plus_any (A B : Option Addr) (n m c d : Nat) (a b : List Int) (w : World) (hra : Rd w 1 A n (ints a)) (hrb : Rd w 1 B m (ints b)) (hn : 0 < n ∧ n ≤ 2001) (hm : 0 < m ∧ m ≤ 2001)
    (ha : ∀ y ∈ a, 0 ≤ y ∧ y ≤ 1000000000) (hb : ∀ y ∈ b, 0 ≤ y ∧ y ≤ 1000000000) (hs : a.sum * b.sum ≤ 1000000000) :
    Calls Try.prog 97 #[.slice A n c, .slice B m d] w fun e w' => ∃ v, e = .returned v ∧ w'.ownsRow w.heap.size 3 1 v (n + m - 1) (ints (cv a b)) ∧ w.grownBy w' none := by
  have hal : a.length = n := by have := hra.1; simpa [ints] using this
  have hbl : b.length = m := by have := hrb.1; simpa [ints] using this
  obtain ⟨N, hN⟩ : ∃ N, N = n + m - 1 := ⟨_, rfl⟩
  have hmk : ∀ w : World, (Instr.makeSlice 22 (.int .i64 ((n : Int) + m - 1)) (.int .i64 ((n : Int) + m - 1))).run Try.prog w = .ok (.slice (some ⟨w.heap.size, 0, none⟩) N N) (w.alloc (.cells (madeCells #[.int .i64 0] N) 3)) := by
    rw [show (n : Int) + m - 1 = (N : Int) from by omega]
    exact make_ints N (by omega)
  rw [← hN]
  have hapos : ∀ y ∈ a, 0 ≤ y := fun y hy => (ha y hy).1
  have hbpos : ∀ y ∈ b, 0 ≤ y := fun y hy => (hb y hy).1
  have hrng := fun (i j : Nat) (hi : i < a.length) (hj : j ≤ b.length) => cvIn_rng hapos hbpos (N := N) hi hj (by omega)
  have hcv : cv a b = cvOut a b N n := by unfold cv; rw [hal, hbl, hN]
  have hXl := fun i => cvOut_len a b N i
  have HN := Lib.hid (And.intro hN (And.intro hal hbl))
  have HC := Lib.hid (And.intro ha (And.intro hb (And.intro hrng hcv)))
  have hNn : N ≤ 4001 := by omega
  have HS0 := Lib.hid hs
  clear hN ha hb hrng hcv hapos hbpos hal hbl hs
  go_enter Try.func97, Try.ntmps97
  go_wp2_with fail
  have hown0 := made_ints w N (by omega)
  have hg0 := grown_alloc (grown_refl w) (.cells (madeCells #[.int .i64 0] N) 3)
  have hsz : w.heap.size ≤ w.heap.size := Nat.le_refl _
  generalize w.alloc (.cells (madeCells #[.int .i64 0] N) 3) = w3 at *
  obtain ⟨g, hge⟩ : ∃ g, g = w.heap.size := ⟨_, rfl⟩
  rw [← hge] at hown0 ⊢
  have hsz : w.heap.size ≤ g := by omega
  clear hge hmk
  go_loopg [19] n (fun k ii wr => ∃ i : Nat, k + i = n ∧ ii = .int .i64 i ∧ wr.ownsRow g 3 1 (.slice (some ⟨g, 0, none⟩) N N) N (ints (cvOut a b N i)) ∧ w.grownBy wr none)
  case atStart => exact ⟨0, by omega, rfl, hown0, hg0⟩
  case round =>
    obtain ⟨i, hi, rfl, hown, hg⟩ := hrel
    by_cases hlt : i < n
    · obtain ⟨bb, off, rfl, hbb, x, hx, c0⟩ := int_cells (hra.grown hg) hlt
      have hxd : a.getD i 0 = x := by simp [List.getD, hx]
      have hnext : cvOut a b N (i + 1) = cvIn i x b (cvOut a b N i) m := by simp only [cvOut]; rw [hxd, HN.out.2.2]
      have hr2 := fun j hj k => HC.out.2.2.1 i j (by rw [HN.out.2.1]; exact hlt) hj k
      rw [hxd] at hr2
      obtain ⟨x0, x1⟩ := HC.out.1 x (List.mem_of_getElem? hx)
      have HI := Lib.hid (And.intro hi (And.intro hnext hr2))
      have hnN : i + m ≤ N := by have := HN.out.1; omega
      generalize hR : cvOut a b N i = R at *
      have hRl : R.length = N := by rw [← hR]; exact hXl i
      have HR := Lib.hid (And.intro hR hRl)
      clear hi hnext hr2 hx hxd hR hRl
      go_wp2_with fail
      go_loopg [26] m (fun k2 jj wo => ∃ j : Nat, k2 + j = m ∧ jj = .int .i64 j ∧ wo.ownsRow g 3 1 (.slice (some ⟨g, 0, none⟩) N N) N (ints (cvIn i x b R j)) ∧ w.grownBy wo none)
      case atStart => exact ⟨0, by omega, rfl, hown, hg⟩
      case round =>
        obtain ⟨j, hj, rfl, hown2, hg2⟩ := hrel
        by_cases hltj : j < m
        · obtain ⟨b2, off2, rfl, hb2, y, hy, d0⟩ := int_cells (hrb.grown hg2) hltj
          have hyd : b.getD j 0 = y := by simp [List.getD, hy]
          obtain ⟨k, hk⟩ : ∃ k, k = i + j := ⟨_, rfl⟩
          have hst : cvIn i x b R (j + 1) = (cvIn i x b R j).set k ((cvIn i x b R j).getD k 0 + x * y) := by simp only [cvIn]; rw [hyd, ← hk]
          obtain ⟨z0, z1⟩ := HI.out.2.2 j (by rw [HN.out.2.2]; omega) k
          obtain ⟨y0, y1⟩ := HC.out.2.1 y (List.mem_of_getElem? hy)
          have hkN : k < N := by omega
          have hkw : IntKind.i64.wrap ((i : Int) + (j : Int)) = (k : Int) := by rw [IntWalk.i64_in _ (by omega)]; omega
          have e0 := own_int hown2 hkN
          have f0 := hown2.frozenAt k
          have o1 := own_int_set hown2 k ((cvIn i x b R j).getD k 0 + x * y)
          obtain ⟨g', cap', hv, hgb, hglt⟩ := hown2.form (by omega)
          cases hv
          have p0 : 0 ≤ x * y := Int.mul_nonneg x0 y0
          have p1 : x * y ≤ 1000000000 * 1000000000 := Int.mul_le_mul x1 y1 y0 (by omega)
          have hs := HS0.out
          generalize a.sum * b.sum = P at *
          generalize (cvIn i x b R j).getD k 0 = z at *
          have z2 : z ≤ 1000000000 := by omega
          have hgne : g ≠ wr.heap.size := by omega
          have HT := Lib.hid (And.intro hst (And.intro hj (And.intro o1 hk)))
          clear hst hj o1 hk hy hyd hown2 z1 hs
          go_wp2_with fail
          obtain ⟨hst, hj, o1, hk⟩ := HT.out
          go_roundg (gk - 1)
          case measure => omega
          case rel => exact ⟨j + 1, by omega, by go_num, by rw [hst]; exact o1, grown_set (p := ⟨g, k, none⟩) hg2 (.inl hsz) _⟩
        · obtain rfl : j = m := by omega
          go_wp2_with fail
          obtain ⟨hi, hnext, -⟩ := HI.out
          go_roundg (n - i - 1)
          case measure => omega
          case rel => exact ⟨i + 1, by omega, by go_num, by rw [hnext]; exact hown2, hg2⟩
    · obtain rfl : i = n := by omega
      have hcv := HC.out.2.2.2
      rw [← hcv] at hown
      have HOWN := Lib.hid hown
      clear hcv
      go_wp2_with fail
      go_ret
      exact ⟨_, rfl, own_mono HOWN.out hsz, hg⟩

end Go.Proofs.Ytkfijicmeekmiaa
