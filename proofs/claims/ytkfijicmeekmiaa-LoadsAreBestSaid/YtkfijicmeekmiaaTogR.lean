/- The walk of the reference's TogetherOf. -/
import Derived.Test.YtkfijicmeekmiaaTog
namespace Go.Proofs.Ytkfijicmeekmiaa
open Go.RowKit

theorem cvIn_one (b : List Int) (j : Nat) (hj : j ≤ b.length) : cvIn 0 1 b (List.replicate b.length 0) j = fill b b.length j := by
  induction j with
  | zero => rw [fill_zero]; rfl
  | succ j ih =>
    have hx : b[j]? = some (b.getD j 0) := by simp [List.getD, show j < b.length from by omega]
    simp only [cvIn]
    rw [ih (by omega), Nat.zero_add, Int.one_mul, show (fill b b.length j).getD j 0 = 0 from ?_, Int.zero_add, fill_set rfl (by omega) hx]
    unfold fill
    simp [List.getD, show min j b.length = j from by omega, show 0 < b.length - j from by omega]
theorem cv_one {b : List Int} (_ : 0 < b.length) : cv [1] b = b := by
  unfold cv
  rw [show ([1] : List Int).length + b.length - 1 = b.length from by simp]
  show cvIn 0 1 b (List.replicate b.length 0) b.length = b
  rw [cvIn_one b _ (Nat.le_refl _), fill_full rfl]
/-- The rows of the reference: k days. -/
def togQ (one : List Int) : Nat → List Int
  | 0 => [1]
  | k + 1 => cv (togQ one k) one
theorem togQ_eq {one : List Int} (h : 0 < one.length) (k : Nat) : togQ one (k + 1) = togP one k := by
  induction k with
  | zero => exact cv_one h
  | succ k ih => show cv (togQ one (k + 1)) one = cv (togP one k) one; rw [ih]
theorem fit_step {s q : Int} (hs : 0 < s) : (1000000000 : Int).tdiv s < q ↔ 1000000000 < q * s := by
  rw [Int.tdiv_eq_ediv_of_nonneg (by omega), Int.ediv_lt_iff_lt_mul hs]

set_option maxRecDepth 100000 in
set_option maxHeartbeats 1600000 in
theorem togetherOf_any (A : Option Addr) (n c : Nat) (l : List Int) (days : Int) (w : World) (hr : Rd w 1 A n (ints l)) (hnc : n ≤ c) (hf : histF l = 0) (hdd : -100 ≤ days ∧ days ≤ 100) :
    Calls Try.prog 43 #[.slice A n c, .int .i64 days] w fun e w' => ∃ v, e = .returned (.tuple #[v, .int .i64 (togE l days)]) ∧ (togE l days ≠ 0 → v = .slice none 0 0) ∧ (togE l days = 0 → w'.ownsRow w.heap.size 3 1 v (togL l days).length (ints (togL l days))) ∧ w.grownBy w' none := by
  have hl : l.length = n := by have := hr.1; simpa [ints] using this
  obtain ⟨f1, f2, f3, f4⟩ := histF_ok hf
  have hp := tr_pos f3
  have hle := trN_le l
  obtain ⟨V, hV⟩ : ∃ V, V = togE l days := ⟨_, rfl⟩
  rw [← hV]
  by_cases hb : btw days 1 7 = true
  · obtain ⟨d0, d1⟩ := btw_true.1 hb
    have htr := fun w1 (hg : w.grownBy w1 none) => trimmed_any A n c l w1 (hr.grown hg) (by omega) hnc
    have hos := trN_sum l
    have hone : (l.take (trN l)).length = trN l := by rw [List.length_take]; omega
    have hpos : ∀ y ∈ l.take (trN l), 0 ≤ y ∧ y ≤ 1000000000 := fun y hy => f2 y (List.mem_of_mem_take hy)
    have htt := fun A1 c1 w1 (h : Rd w1 1 A1 (trN l) (ints (l.take (trN l)))) => refSum_any A1 (trN l) c1 (l.take (trN l)) w1 h (by omega) fun x hx => by have := hpos x hx; omega
    rw [hos] at htt
    have htok := fun (h : togE l days = 0) => tog_ok h
    have hE : togE l days = if 2001 < ((trN l : Int) - 1) * days + 1 ∨ fitB l.sum days.toNat 1 = false then 2 else 0 := by unfold togE; rw [if_neg (by simp [hf]), if_neg (by simp [hb])]
    obtain ⟨d, rfl⟩ : ∃ d : Nat, days = d := ⟨days.toNat, by omega⟩
    have hL : togL l d = togP (l.take (trN l)) (d - 1) := by unfold togL; rw [show ((d : Int)).toNat = d from by omega]
    rw [← hV] at htok hE
    rw [show ((d : Int)).toNat = d from by omega] at hE htok
    have hj : V = 0 → ∀ j, j < d → (togP (l.take (trN l)) j).length ≤ 2001 ∧ 0 < (togP (l.take (trN l)) j).length ∧ (∀ y ∈ togP (l.take (trN l)) j, 0 ≤ y ∧ y ≤ 1000000000) ∧ (j + 1 < d → (togP (l.take (trN l)) j).sum * l.sum ≤ 1000000000) := by
      intro hV0 j hj
      obtain ⟨_, _, hlen, hpw, _⟩ := htok hV0
      have e1 := togP_len (one := l.take (trN l)) (by omega) j
      have e2 := togP_sum (one := l.take (trN l)) (by omega) j
      have e3 := togP_nonneg (fun y hy => (hpos y hy).1) j
      have e4 : ((l.take (trN l)).length - 1) * (j + 1) ≤ ((l.take (trN l)).length - 1) * d := Nat.mul_le_mul_left _ (by omega)
      rw [hone] at e4 e1
      refine ⟨by omega, by omega, fun y hy => ⟨e3 y hy, ?_⟩, fun hlt => ?_⟩
      · have := le_sum e3 y hy
        have := hpw j hj
        rw [e2, hos] at *
        omega
      · have := hpw (j + 1) hlt
        rw [e2, hos]
        exact this
    have hlo : (0 : Int) ≤ ((trN l : Int) - 1) * d := Int.mul_nonneg (by omega) (by omega)
    have hhi : ((trN l : Int) - 1) * d ≤ 2001 * 7 := Int.mul_le_mul (by omega) (by omega) (by omega) (by omega)
    have htn : trN l ≤ 2001 := by omega
    rw [hL]
    generalize l.take (trN l) = one at *
    generalize trN l = m at *
    generalize l.sum = s at *
    have hmx : max s 1 = s := by omega
    have hsn : ¬ s = 0 := by omega
    have hs0 : (s == 0) = false := by rw [beq_eq_false_iff_ne]; exact hsn
    have hfs := fun q => fit_step (q := q) (show 0 < s by omega)
    have hqs : 0 ≤ (1000000000 : Int).tdiv s ∧ (1000000000 : Int).tdiv s ≤ 1000000000 := ⟨Int.tdiv_nonneg (by omega) (by omega), Int.tdiv_le_self _ (by omega)⟩
    obtain ⟨q0, hq0⟩ : ∃ q, (1000000000 : Int).tdiv s = q := ⟨_, rfl⟩
    have hq1 : (1000000000 : Int) / s = q0 := by rw [← hq0, Int.tdiv_eq_ediv_of_nonneg (by omega)]
    rw [hq0] at hqs hfs
    have hqw : IntKind.i64.wrap q0 = q0 := IntWalk.i64_in _ (by omega)
    have hqw2 : IntKind.i64.wrap ((1000000000 : Int).tdiv s) = q0 := by rw [hq0]; exact hqw
    have hb0 : decide ((d : Int) < 1) = false := by simp; omega
    have hb1 : decide ((7 : Int) < (d : Int)) = false := by simp; omega
    have HC := Lib.hid (And.intro htr (And.intro htt (And.intro hE (And.intro hj (And.intro hpos (And.intro hone (And.intro hos hfs)))))))
    have hs1 : 1 ≤ s := by omega
    clear htr htt hE hj hpos hone hos hfs hf f1 f2 f3 hL htok hle hl hb hV
    go_enter Try.func43, Try.ntmps43
    go_wp2_with fail
    refine (HC.out.1 _ (grown_refl w)).mono ?_
    rintro e w1 ⟨v1, rfl, hown1, hg1⟩
    obtain ⟨A1, c1, rfl, hnc1, hcm1, hr1, hb1'⟩ := Rd.of_own hown1
    clear hown1
    go_wp2_with fail
    go_loopg [7, 23] d (fun k p ii wr => ∃ (j : Nat) (q : Int), k + j = d ∧ ii = .int .i64 j ∧ p = .int .i64 q ∧ (1 ≤ q ∧ q ≤ 1000000000) ∧ w1.grownBy wr none ∧ Hid (fitB s k q = fitB s d 1))
    case atStart => exact ⟨0, 1, by omega, rfl, rfl, by omega, grown_refl w1, Lib.hid rfl⟩
    case round =>
      obtain ⟨j, q, hj, rfl, rfl, hq, hg, HJ⟩ := hrel
      by_cases hlt : j < d
      · obtain ⟨k0, rfl⟩ : ∃ k0, gk = k0 + 1 := ⟨gk - 1, by omega⟩
        have hst : fitB s (k0 + 1) q = if 1000000000 < q * s then false else fitB s k0 (q * s) := rfl
        have h0 : 1 * 1 ≤ q * s := Int.mul_le_mul hq.1 hs1 (by omega) (by omega)
        have h1 : q * s ≤ 1000000000 * 1000000000 := Int.mul_le_mul hq.2 f4 (by omega) (by omega)
        have htt := HC.out.2.1 A1 c1
        by_cases hx : 1000000000 < q * s
        · rw [if_pos hx] at hst
          have hx0 : decide (q0 < q) = true := by
            rw [decide_eq_true_iff]
            exact (HC.out.2.2.2.2.2.2.2 q).2 hx
          have hV2 : V = 2 := by rw [HC.out.2.2.1, if_pos (.inr (by rw [← HJ.out, hst]))]
          have HS := Lib.hid (And.intro hV2 htt)
          clear hst hj hV2 htt
          go_wp2_with fail
          refine (HS.out.2 _ (hr1.grown hg)).mono ?_
          rintro e w2 ⟨rfl, hg2⟩
          go_wp2_with fail
          go_ret2
          rw [HS.out.1]
          exact ⟨_, rfl, fun _ => rfl, fun h => by omega, (hg1.trans hg).trans hg2⟩
        · rw [if_neg hx] at hst
          have hx0 : decide (q0 < q) = false := by
            rw [decide_eq_false_iff_not]
            exact fun h => hx ((HC.out.2.2.2.2.2.2.2 q).1 h)
          have hx1 : ¬ q0 < q := fun h => hx ((HC.out.2.2.2.2.2.2.2 q).1 h)
          have HS := Lib.hid (And.intro hst (And.intro hj htt))
          clear hst hj htt
          go_wp2_with fail
          refine (HS.out.2.2 _ (hr1.grown hg)).mono ?_
          rintro e w2 ⟨rfl, hg2⟩
          go_wp2_with fail
          refine (HS.out.2.2 _ ((hr1.grown hg).grown hg2)).mono ?_
          rintro e w3 ⟨rfl, hg3⟩
          go_wp2_with fail
          obtain ⟨hst, hj, -⟩ := HS.out
          go_roundg k0
          case measure => omega
          case rel => exact ⟨j + 1, q * s, by omega, by go_num, by go_num, by omega, (hg.trans hg2).trans hg3, Lib.hid (by rw [← hst]; exact HJ.out)⟩
      · obtain rfl : j = d := by omega
        obtain rfl : gk = 0 := by omega
        have hfit : fitB s j 1 = true := by rw [← HJ.out]; rfl
        have hE := HC.out.2.2.1
        rw [hfit] at hE
        clear hfit hj
        by_cases hlen : 2001 < ((m : Int) - 1) * j + 1
        · rw [if_pos (.inl hlen)] at hE
          have hx0 : decide (2001 < ((m : Int) - 1) * j + 1) = true := by simpa using hlen
          have HS := Lib.hid hE
          clear hE
          go_wp2_with fail
          go_ret2
          rw [HS.out]
          exact ⟨_, rfl, fun _ => rfl, fun h => by omega, hg1.trans hg⟩
        · rw [if_neg (by simp [hlen])] at hE
          have hx0 : decide (2001 < ((m : Int) - 1) * j + 1) = false := by simpa using hlen
          have hjj := HC.out.2.2.2.1 hE
          have HS := Lib.hid hE
          have HJJ := Lib.hid hjj
          clear hE hjj
          go_wp2_with fail
          have hown0 := World.ownsRow_lit (base := wr.heap.size) (size := 1) (e := 3) wr #[.int .i64 1] 1 (Nat.le_refl _) (by unfold maxLen; omega) (by simp)
          have hgW := grown_alloc hg (.cells #[.int .i64 1] 3)
          have hsz0 : w.heap.size ≤ wr.heap.size := (hg1.trans hg).size
          generalize wr.alloc (.cells #[.int .i64 1] 3) = wq at *
          go_loopg [8, 45] j (fun k v ii wr2 => ∃ t : Nat, k + t = j ∧ ii = .int .i64 t ∧ wr2.ownsRow w.heap.size 3 1 v (togQ one t).length (ints (togQ one t)) ∧ w1.grownBy wr2 none)
          case atStart => exact ⟨0, by omega, rfl, own_mono hown0 hsz0, hgW⟩
          case round =>
            obtain ⟨t, ht, rfl, hown, hg2⟩ := hrel
            by_cases hlt2 : t < j
            · have hfacts : 0 < (togQ one t).length ∧ (togQ one t).length ≤ 2001 ∧ (∀ y ∈ togQ one t, 0 ≤ y ∧ y ≤ 1000000000) ∧ (togQ one t).sum * s ≤ 1000000000 := by
                rcases t with _ | t
                · refine ⟨by simp [togQ], by simp [togQ], fun y hy => ?_, ?_⟩
                  · simp [togQ] at hy; omega
                  · simp [togQ]; exact f4
                · obtain ⟨j0, j1, j2, j3⟩ := HJJ.out t (by omega)
                  rw [togQ_eq (by rw [HC.out.2.2.2.2.2.1]; exact hp)]
                  exact ⟨j1, j0, j2, j3 hlt2⟩
              have hQ : togQ one (t + 1) = cv (togQ one t) one := rfl
              have hrone := hr1.grown hg2
              obtain ⟨AS, cS, rfl, _, _, hrS, _⟩ := Rd.of_own hown
              generalize togQ one t = a at *
              obtain ⟨hl0, hl1, ha, hs⟩ := hfacts
              obtain ⟨ln, hln⟩ : ∃ ln, ln = a.length := ⟨_, rfl⟩
              rw [← hln] at hl0 hl1 hrS ⊢
              obtain ⟨N, hN⟩ : ∃ N, N = ln + m - 1 := ⟨_, rfl⟩
              have hmk : ∀ w : World, (Instr.makeSlice 22 (.int .i64 ((ln : Int) + m - 1)) (.int .i64 ((ln : Int) + m - 1))).run Try.prog w = .ok (.slice (some ⟨w.heap.size, 0, none⟩) N N) (w.alloc (.cells (madeCells #[.int .i64 0] N) 3)) := by
                rw [show (ln : Int) + m - 1 = (N : Int) from by omega]
                exact make_ints N (by omega)
              have hNn : N ≤ 4001 := by omega
              have HN := Lib.hid (And.intro hN (And.intro ht (And.intro hQ (And.intro hs ha))))
              have HLN := Lib.hid hln
              clear hN ht hQ hs ha hown hln
              go_wp2_with fail
              have hown0 := made_ints wr N (by omega)
              have hg0 := grown_alloc hg2 (.cells (madeCells #[.int .i64 0] N) 3)
              have hra := hrS.grown (grown_alloc (grown_refl wr) (.cells (madeCells #[.int .i64 0] N) 3))
              have hgw := hg2.size
              have hne : ∀ a', AS = some a' → some a'.block ≠ some wr.heap.size := by
                obtain ⟨b', off', e', hb', _⟩ := hrS.2 (by omega)
                intro a' h
                rw [e'] at h
                cases h
                simp
                omega
              have hw1g : w1.heap.size ≤ wr.heap.size := hgw
              generalize wr.alloc (.cells (madeCells #[.int .i64 0] N) 3) = w3 at *
              obtain ⟨g, hge⟩ : ∃ g, g = wr.heap.size := ⟨_, rfl⟩
              rw [← hge] at hown0 hgw hne hw1g ⊢
              clear hge hmk hrS hrone hg2
              go_loopg [56] ln (fun k ii wr => ∃ i : Nat, k + i = ln ∧ ii = .int .i64 i ∧ wr.ownsRow g 3 1 (.slice (some ⟨g, 0, none⟩) N N) N (ints (cvOut a one N i)) ∧ w1.grownBy wr none ∧ w3.grownBy wr (some g))
              case atStart => exact ⟨0, by omega, rfl, hown0, hg0, World.grownBy.refl w3 _⟩
              case round =>
                obtain ⟨i, hi, rfl, hown, hg, hgg⟩ := hrel
                by_cases hlt3 : i < ln
                · obtain ⟨bb, off, rfl, hbb, x, hx, c0⟩ := int_cells (hra.grown_ hgg hne) hlt3
                  have hapos : ∀ y ∈ a, 0 ≤ y := fun y hy => (HN.out.2.2.2.2 y hy).1
                  have hbpos : ∀ y ∈ one, 0 ≤ y := fun y hy => (HC.out.2.2.2.2.1 y hy).1
                  have hrng := fun (j : Nat) (hj : j ≤ m) => cvIn_rng hapos hbpos (N := N) (i := i) (j := j) (by rw [← HLN.out]; exact hlt3) (by rw [HC.out.2.2.2.2.2.1]; exact hj) (by rw [← HLN.out, HC.out.2.2.2.2.2.1]; have := HN.out.1; omega)
                  have hxd : a.getD i 0 = x := by simp [List.getD, hx]
                  have hnext : cvOut a one N (i + 1) = cvIn i x one (cvOut a one N i) m := by simp only [cvOut]; rw [hxd, HC.out.2.2.2.2.2.1]
                  rw [hxd, HC.out.2.2.2.2.2.2.1] at hrng
                  obtain ⟨x0, x1⟩ := HN.out.2.2.2.2 x (List.mem_of_getElem? hx)
                  have hXl := cvOut_len a one N i
                  have HI := Lib.hid (And.intro hi (And.intro hnext hrng))
                  have hnN : i + m ≤ N := by have := HN.out.1; omega
                  generalize hR : cvOut a one N i = R at *
                  have HR := Lib.hid (And.intro hR hXl)
                  clear hi hnext hrng hx hxd hR hXl hapos hbpos
                  go_wp2_with fail
                  go_loopg [63] m (fun k2 jj wo => ∃ j : Nat, k2 + j = m ∧ jj = .int .i64 j ∧ wo.ownsRow g 3 1 (.slice (some ⟨g, 0, none⟩) N N) N (ints (cvIn i x one R j)) ∧ w1.grownBy wo none ∧ w3.grownBy wo (some g))
                  case atStart => exact ⟨0, by omega, rfl, hown, hg, hgg⟩
                  case round =>
                    obtain ⟨jj, hjj, rfl, hown2, hg2, hgg2⟩ := hrel
                    by_cases hltj : jj < m
                    · obtain ⟨b2, off2, rfl, hb2, y, hy, d0'⟩ := int_cells (hr1.grown hg2) hltj
                      have hyd : one.getD jj 0 = y := by simp [List.getD, hy]
                      obtain ⟨k, hk⟩ : ∃ k, k = i + jj := ⟨_, rfl⟩
                      have hst : cvIn i x one R (jj + 1) = (cvIn i x one R jj).set k ((cvIn i x one R jj).getD k 0 + x * y) := by simp only [cvIn]; rw [hyd, ← hk]
                      obtain ⟨z0, z1⟩ := HI.out.2.2 jj (by omega) k
                      obtain ⟨y0, y1⟩ := HC.out.2.2.2.2.1 y (List.mem_of_getElem? hy)
                      have hkN : k < N := by omega
                      have hkw : IntKind.i64.wrap ((i : Int) + (jj : Int)) = (k : Int) := by rw [IntWalk.i64_in _ (by omega)]; omega
                      have e0 := own_int hown2 hkN
                      have f0 := hown2.frozenAt k
                      have o1 := own_int_set hown2 k ((cvIn i x one R jj).getD k 0 + x * y)
                      obtain ⟨g', cap', hv, hgb, hglt⟩ := hown2.form (by omega)
                      cases hv
                      have p0 : 0 ≤ x * y := Int.mul_nonneg x0 y0
                      have p1 : x * y ≤ 1000000000 * 1000000000 := Int.mul_le_mul x1 y1 y0 (by omega)
                      have hs := HN.out.2.2.2.1
                      generalize a.sum * s = P at *
                      generalize (cvIn i x one R jj).getD k 0 = z at *
                      have z2 : z ≤ 1000000000 := by omega
                      have hgne : g ≠ wr.heap.size := by omega
                      have HT := Lib.hid (And.intro hst (And.intro hjj (And.intro o1 hk)))
                      clear hst hjj o1 hk hy hyd hown2 z1 hs
                      go_wp2_with fail
                      obtain ⟨hst, hjj, o1, hk⟩ := HT.out
                      go_roundg (gk - 1)
                      case measure => omega
                      case rel => exact ⟨jj + 1, by omega, by go_num, by rw [hst]; exact o1, grown_set (p := ⟨g, k, none⟩) hg2 (.inl hw1g) _, grown_set (p := ⟨g, k, none⟩) hgg2 (.inr rfl) _⟩
                    · obtain rfl : jj = m := by omega
                      go_wp2_with fail
                      obtain ⟨hi, hnext, -⟩ := HI.out
                      go_roundg (ln - i - 1)
                      case measure => omega
                      case rel => exact ⟨i + 1, by omega, by go_num, by rw [hnext]; exact hown2, hg2, hgg2⟩
                · obtain rfl : i = ln := by omega
                  have hcv : cvOut a one N i = cv a one := by unfold cv; rw [← HLN.out, HC.out.2.2.2.2.2.1, HN.out.1]
                  rw [hcv] at hown
                  have hcl : (cv a one).length = N := by rw [cv_len, ← HLN.out, HC.out.2.2.2.2.2.1, HN.out.1]
                  have HOWN := Lib.hid hown
                  have HCL := Lib.hid hcl
                  clear hcv hown hcl
                  go_wp2_with fail
                  obtain ⟨hN, ht, hQ, -⟩ := HN.out
                  go_roundg (j - t - 1)
                  case measure => omega
                  case rel => exact ⟨t + 1, by omega, by go_num, by rw [hQ, HCL.out]; exact own_mono HOWN.out (by have := hg1.size; omega), hg⟩
            · obtain rfl : t = j := by omega
              have ht0 : t ≠ 0 := by omega
              obtain ⟨t0, rfl⟩ : ∃ t0, t = t0 + 1 := ⟨t - 1, by omega⟩
              rw [togQ_eq (by rw [HC.out.2.2.2.2.2.1]; exact hp)] at hown
              have HOWN := Lib.hid hown
              clear hown
              go_wp2_with fail
              go_ret2
              rw [HS.out]
              exact ⟨_, rfl, fun h => absurd rfl h, fun _ => HOWN.out, hg1.trans hg2⟩
  · have hb' : btw days 1 7 = false := by simpa using hb
    have hv : V = 1 := by rw [hV]; unfold togE; rw [if_neg (by simp [hf]), if_pos hb']
    have HV := Lib.hid hv
    clear hV hv hf f1 f2 f3 f4 hl hp hle hr
    by_cases h1 : days < 1
    · have e1 : decide (days < 1) = true := by simpa using h1
      go_enter Try.func43, Try.ntmps43
      go_wp2_with fail
      go_ret2
      rw [HV.out]
      exact ⟨_, rfl, fun _ => rfl, fun h => by omega, grown_refl w⟩
    · have e1 : decide (days < 1) = false := by simpa using h1
      have h2 : 7 < days := by
        by_cases h : 7 < days
        · exact h
        · exact absurd (btw_true.2 ⟨by omega, by omega⟩) hb
      have e2 : decide (7 < days) = true := by simpa using h2
      go_enter Try.func43, Try.ntmps43
      go_wp2_with fail
      go_ret2
      rw [HV.out]
      exact ⟨_, rfl, fun _ => rfl, fun h => by omega, grown_refl w⟩

end Go.Proofs.Ytkfijicmeekmiaa
