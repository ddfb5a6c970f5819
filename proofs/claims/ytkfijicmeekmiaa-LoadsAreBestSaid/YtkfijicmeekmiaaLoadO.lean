/- The walks of Order and of the reference's ExpectedOf, ProfitOf, OrderOf. -/
import Derived.Test.YtkfijicmeekmiaaLoadV
namespace Go.Proofs.Ytkfijicmeekmiaa
open Go.RowKit

/-- The best of the loads up to j. -/
def ordA (h : List Int) (m u : Int) : Nat → Nat
  | 0 => 0
  | j + 1 => if prOf h (ordA h m u j) m u < prOf h (j + 1) m u then j + 1 else ordA h m u j
theorem ordA_ok {h : List Int} {m u : Int} (hh : ∀ x ∈ h, 0 ≤ x) (hmu : 0 ≤ m + u) (j : Nat) : OrdS h j m u (ordA h m u j) := by
  induction j with
  | zero => exact ⟨Nat.le_refl _, fun i hi => absurd hi (by simp [ordA]), fun hlt => absurd hlt (by simp [ordA])⟩
  | succ j ih => exact ih.next hh hmu
theorem more_next {l : List Int} {j : Nat} {x : Int} (hx : l[j + 1]? = some x) : moreN l (j + 1) = moreN l j - x := by
  unfold moreN
  rw [drop_at hx, List.sum_cons]
  omega
theorem more_zero {l : List Int} {x : Int} (hx : l[0]? = some x) : moreN l 0 = l.sum - x := by
  have := drop_at hx
  rw [List.drop_zero] at this
  unfold moreN
  rw [this, List.sum_cons, List.drop_succ_cons, List.drop_zero]
  omega
theorem gain_in {l : List Int} (hl : ∀ x ∈ l, 0 ≤ x) {m u : Int} (hu : 0 ≤ u) {j : Nat} (hg : gain l m u j) : j + 1 < l.length := by
  rcases Nat.lt_or_ge (j + 1) l.length with h | h
  · exact h
  · unfold gain moreN at hg
    rw [List.drop_of_length_le h] at hg
    have := Int.mul_nonneg hu ((drop_sum_le hl 0).1)
    simp at hg
    rw [List.drop_zero] at this
    omega
/-- What Order answers. -/
def ordV (h : List Int) (most m u : Int) : Value :=
  if orE (histF h) (moneyF most m u) ≠ 0 then .tuple #[.int .i64 0, .int .i64 (orE (histF h) (moneyF most m u))]
  else .tuple #[.int .i64 (ordA h m u most.toNat), .int .i64 0]

set_option maxRecDepth 100000 in
set_option maxHeartbeats 1000000 in
theorem order_any (A : Option Addr) (n c : Nat) (l : List Int) (most m u : Int) (w : World) (hr : Rd w 1 A n (ints l)) (hn : n ≤ 100000) :
    Calls Try.prog 48 #[.slice A n c, .int .i64 most, .int .i64 m, .int .i64 u] w fun e w' => e = .returned (ordV l most m u) ∧ w.grownBy w' none := by
  have hl : l.length = n := by have := hr.1; simpa [ints] using this
  have hck := fun w1 (hg : w.grownBy w1 none) => checkUnit_any A n c l most m u w1 (hr.grown hg) hn
  obtain ⟨V, hV⟩ : ∃ V, V = ordV l most m u := ⟨_, rfl⟩
  rw [← hV]
  unfold ordV at hV
  by_cases h0 : orE (histF l) (moneyF most m u) = 0
  · rw [if_neg (by simp [h0])] at hV
    rw [h0] at hck
    obtain ⟨hf, hq⟩ := orE_zero h0
    obtain ⟨f1, f2, f3, f4⟩ := histF_ok hf
    obtain ⟨⟨q1, q2⟩, hm, hu⟩ := money_ok hq
    obtain ⟨most, rfl⟩ : ∃ k : Nat, most = k := ⟨most.toNat, by omega⟩
    rw [show ((most : Int)).toNat = most from by omega] at hV
    have ht := fun w1 (hg : w.grownBy w1 none) => total_any A n c l w1 (hr.grown hg) (by omega) fun x hx => by have := f2 x hx; omega
    have hu0 := hu.1
    have hpos : ∀ x ∈ l, 0 ≤ x := fun x hx => (f2 x hx).1
    have hmo : ∀ j, 0 ≤ moreN l j ∧ moreN l j ≤ l.sum := by
      intro j
      have h1 := more_mono hpos (Nat.zero_le j)
      have h2 := more_mono hpos (Nat.le_refl 0)
      have h3 : moreN l 0 ≤ l.sum := by
        have := (drop_sum_le hpos 0).2
        rwa [List.drop_zero] at this
      omega
    have hun : ∀ k, OrdS l most m u k → V = .tuple #[.int .i64 k, .int .i64 0] := by
      intro k hk
      rw [hV, hk.uniq (ordA_ok hpos (by omega) most)]
    have hin : ∀ j, gain l m u j → j + 1 < n := by
      intro j hg
      have := gain_in hpos hu.1 hg
      omega
    have hn0 : 0 < n := by
      rcases Nat.eq_zero_or_pos n with rfl | h
      · rw [List.eq_nil_of_length_eq_zero hl] at f3; simp at f3
      · exact h
    obtain ⟨b, off, rfl, hb, x, hx, c0⟩ := int_cells hr hn0
    have hm0 := more_zero hx
    have hb0 := hmo 0
    have hgd : ∀ j, gain l m u j ↔ u * l.sum < (m + u) * moreN l j := fun j => Iff.rfl
    obtain ⟨p0, p1⟩ := mul_abs (x := l.sum) (y := u) (K := 10000) (by omega) (by omega)
    rw [Int.mul_comm l.sum u] at p0 p1
    generalize l.sum = d at *
    have p2 : u * d ≤ 10000000000000 := by omega
    have p3 : -10000000000000 ≤ u * d := by omega
    have HC := Lib.hid (And.intro hck (And.intro ht (And.intro hun (And.intro hmo (And.intro hin (And.intro hgd (And.intro hm0 hl)))))))
    clear hck ht hV h0 hq hf f1 f2 hl hun hmo hin hgd hpos hx p0 p1
    rw [show off + 0 = off from rfl] at c0
    go_enter Try.func48, Try.ntmps48
    go_wp2_with fail
    refine (HC.out.1 _ (grown_refl w)).mono ?_
    rintro e w1 ⟨rfl, hg1⟩
    go_wp2_with fail
    refine (HC.out.2.1 _ hg1).mono ?_
    rintro e w2 ⟨rfl, hg2⟩
    have hg02 := hg1.trans hg2
    have c2 := hg02.cell c0 (by simp)
    rw [HC.out.2.2.2.2.2.2.1] at hb0
    go_wp2_with fail
    go_quiet (fail)
    go_wp2_with fail
    go_loopg [12, 13] most (fun k i z wr => ∃ j : Nat, k + j = most ∧ i = .int .i64 j ∧ z = .int .i64 (moreN l j) ∧ w.grownBy wr none ∧ Hid (∀ i, i < j → gain l m u i))
    case atStart => exact ⟨0, by omega, rfl, by rw [HC.out.2.2.2.2.2.2.1], grown_drewN hg02 _, Lib.hid fun i hi => absurd hi (by omega)⟩
    case round =>
      obtain ⟨j, hj, rfl, rfl, hg, HG⟩ := hrel
      by_cases hlt : j < most
      · obtain ⟨m0, m1⟩ := HC.out.2.2.2.1 j
        have hgj := HC.out.2.2.2.2.2.1 j
        have hnx : ∀ x, l[j + 1]? = some x → moreN l (j + 1) = moreN l j - x := fun x => more_next
        obtain ⟨s0, s1⟩ := mul_abs (x := moreN l j) (y := m + u) (K := 20000) (by omega) (by omega)
        rw [Int.mul_comm (moreN l j) (m + u)] at s0 s1
        by_cases hgn : gain l m u j
        · have hjn := HC.out.2.2.2.2.1 j hgn
          obtain ⟨n0, n1⟩ := HC.out.2.2.2.1 (j + 1)
          obtain ⟨b', off', e', hb', y, hy, cy⟩ := int_cells (hr.grown hg) hjn
          cases e'
          have hst := hnx y hy
          have hd : decide (u * d < (m + u) * moreN l j) = true := by simp; exact hgj.1 hgn
          generalize moreN l j = z at *
          have s2 : (m + u) * z ≤ 20000000000000 := by omega
          have s3 : -20000000000000 ≤ (m + u) * z := by omega
          obtain ⟨j1, hj1⟩ : ∃ j1, j1 = j + 1 := ⟨_, rfl⟩
          have hw1 : IntKind.i64.wrap ((j : Int) + 1) = j1 := by rw [IntWalk.i64_in _ (by omega)]; omega
          have hwz : IntKind.i64.wrap (z - y) = moreN l j1 := by rw [IntWalk.i64_in _ (by omega), hj1, hst]
          rw [← hj1] at cy hst hjn n0 n1 hy
          have HS := Lib.hid (And.intro hst (And.intro hj (And.intro hgn hj1)))
          clear hst hj hgn hj1 hgj hnx hy s0 s1 n0 n1
          go_wp2_with fail
          obtain ⟨hst, hj, hgn, hj1⟩ := HS.out
          go_roundg (gk - 1)
          case measure => omega
          case rel =>
            refine ⟨j1, by omega, rfl, rfl, hg, Lib.hid fun i hi => ?_⟩
            by_cases e : i = j
            · rw [e]; exact hgn
            · exact HG.out i (by omega)
        · have hd : decide (u * d < (m + u) * moreN l j) = false := by
            rw [decide_eq_false_iff_not]
            exact fun h => hgn (hgj.2 h)
          have hd2 : ¬ u * d < (m + u) * moreN l j := fun h => hgn (hgj.2 h)
          have hv := HC.out.2.2.1 j ⟨by omega, HG.out, fun _ => hgn⟩
          generalize moreN l j = z at *
          have s2 : (m + u) * z ≤ 20000000000000 := by omega
          have s3 : -20000000000000 ≤ (m + u) * z := by omega
          have HV := Lib.hid hv
          clear hgn hgj hnx hv s0 s1
          go_wp2_with fail
          go_ret2
          rw [HV.out]
          exact ⟨rfl, hg⟩
      · obtain rfl : j = most := by omega
        have HV := Lib.hid (HC.out.2.2.1 j ⟨Nat.le_refl _, HG.out, fun h => absurd h (by omega)⟩)
        have hd : decide ((j : Int) < (j : Int)) = false := by simp
        go_wp2_with fail
        go_ret2
        rw [HV.out]
        exact ⟨rfl, hg⟩
  · rw [if_pos h0] at hV
    have hne : (orE (histF l) (moneyF most m u) != 0) = true := by rw [bne_iff_ne]; exact h0
    generalize orE (histF l) (moneyF most m u) = f at *
    have HC := Lib.hid (And.intro hck hV)
    clear hck hV h0 hl
    go_enter Try.func48, Try.ntmps48
    go_wp2_with fail
    refine (HC.out.1 _ (grown_refl w)).mono ?_
    rintro e w1 ⟨rfl, hg1⟩
    go_wp2_with fail
    go_ret2
    exact ⟨by rw [HC.out.2]; rfl, hg1⟩

end Go.Proofs.Ytkfijicmeekmiaa
