/- The walk of the law WantsAreNotLess. -/
import Derived.Test.YtkfijicmeekmiaaWnlP
import Derived.Test.YtkfijicmeekmiaaKLow
import Derived.Test.YtkfijicmeekmiaaAddB
import Derived.Test.YtkfijicmeekmiaaKeep
import Derived.Test.YtkfijicmeekmiaaDays
import Derived.Test.YtkfijicmeekmiaaIn
import Derived.Deep.DeepCutAuto
import Derived.Deep.CutBlock
namespace Go.Proofs.Ytkfijicmeekmiaa
open Go.RowKit

theorem addV01 (p q : Int) : ∃ x y z : Int, addV 0 1 p q = .tuple #[.agg #[.int .i64 x, .int .i64 y], .int .i64 z] ∧ (z = 0 → (1 ≤ y ∧ y ≤ 1000000000) ∧ (-1000000000 ≤ x ∧ x ≤ 1000000000) ∧ x = lowN p q ∧ y = lowD p q) := by
  unfold addV frac
  split
  · exact ⟨_, _, _, rfl, fun h => by omega⟩
  · split
    · exact ⟨_, _, _, rfl, fun h => by omega⟩
    · rename_i h
      have h' : inbB (sumN 0 1 p q) (sumD 0 1 p q) = true := by simpa using h
      unfold inbB at h'
      rw [Bool.and_eq_true, btw_true, btw_true] at h'
      refine ⟨_, _, _, rfl, fun _ => ⟨h'.1, h'.2, ?_, ?_⟩⟩
      · unfold sumN; rw [Int.zero_mul, Int.zero_add, Int.mul_one, Int.one_mul]
      · unfold sumD; rw [Int.zero_mul, Int.zero_add, Int.mul_one, Int.one_mul]
theorem wkRow_at (l : List Sal) {k : Nat} (hk : k < 7) : (ints (wkRow l 7))[k * 2]? = some (.int .i64 (wkN l k)) ∧ (ints (wkRow l 7))[k * 2 + 1]? = some (.int .i64 (wkD l k)) := by
  obtain rfl | rfl | rfl | rfl | rfl | rfl | rfl : k = 0 ∨ k = 1 ∨ k = 2 ∨ k = 3 ∨ k = 4 ∨ k = 5 ∨ k = 6 := by omega
  all_goals exact ⟨rfl, rfl⟩

theorem mean_tight {p : Sal → Bool} {l : List Sal} (h : ∀ t ∈ l, 0 ≤ t.s ∧ t.s ≤ 1000) (hn : l.length ≤ 12) (hc : cntP p l ≠ 0) : (0 < meanD p l ∧ meanD p l ≤ 12) ∧ 0 ≤ meanN p l ∧ meanN p l ≤ 12000 := by
  have h1 := sumP_bound (p := p) h
  have h2 := cntP_le p l
  unfold meanN meanD
  rw [if_neg hc, if_neg hc]
  have hp : (0 : Int) < (cntP p l : Int) := by omega
  have d0 := lowD_pos (num := sumP p l) hp
  have d1 := lowD_le (num := sumP p l) hp
  have n0 := lowN_nonneg (den := (cntP p l : Int)) h1.1
  have n1 := lowN_le (den := (cntP p l : Int)) h1.1
  omega

set_option maxRecDepth 100000 in
set_option maxHeartbeats 8000000 in
theorem wantsAreNotLess_walk (a0 : Option Addr) (len0 cap0 : Nat) (z0 : List Int) (w : World) (w0 : InRow w a0 len0 cap0 z0) :
    Calls Try.prog 8 #[.slice a0 len0 cap0] w fun e w' => e = .returned (.bool true) ∧ w.grownBy w' none := by
  obtain ⟨hlen, hs0⟩ := str_start w0
  have hg0 : w.grownBy (w.alloc (.cells #[.slice a0 len0 cap0, .int .i64 0] 25)) none := grown_alloc (grown_refl w) _
  clear hlen w0
  generalize z0.take len0 = L at *
  go_enter Try.func8, Try.ntmps8
  go_wp2_with fail
  generalize w.alloc (.cells #[.slice a0 len0 cap0, .int .i64 0] 25) = wA at *
  obtain ⟨bs, hbs⟩ : ∃ bs, bs = w.heap.size := ⟨_, rfl⟩
  rw [← hbs] at hs0 ⊢
  have HZ := Lib.hid hbs
  clear hbs
  refine (days_any bs L 0 _ hs0 (by omega)).mono ?_
  rintro e w1 ⟨vT, rfl, hown1, hs1, hg1⟩
  obtain ⟨_, hn12⟩ := daysM_bound L 0
  generalize (daysM L 0).2 = T at *
  have hgg1 : w.grownBy w1 none := grown_below hg0 hg1 (fun j hj => .inl (by have := HZ.out; cases hj; omega))
  obtain ⟨AT, cT, rfl, _, _, rT, _⟩ := Rd.of_own hown1
  have hDf := refDaysFault_any AT T.length cT T w1 rT (by omega)
  clear hs0 hg0 hs1 hg1 hown1
  by_cases hf : dayFault T = 0
  · rw [hf] at hDf
    obtain ⟨_, hok⟩ := days_ok hf
    have hUn := fun w2 (hg : w1.grownBy w2 none) => uncover_any AT T.length cT T w2 (rT.grown hg) (by omega) hf
    have hRt := fun w2 (hg : w1.grownBy w2 none) => rate_any AT T.length cT T w2 (rT.grown hg) (by omega)
    have hWk := fun w2 (hg : w1.grownBy w2 none) => week_any AT T.length cT T w2 (rT.grown hg) (by omega) hf
    have hrv : rateV lastB T = .tuple #[frac (meanN lastB T) (meanD lastB T), .int .i64 (if cntP lastB T = 0 then 8 else 0)] := by unfold rateV; rw [if_neg (by omega)]
    rw [hrv] at hRt
    unfold frac at hRt
    have hxs : ∀ t ∈ T, 0 ≤ t.s ∧ t.s ≤ 1000 := fun t ht => (hok t ht).2
    have hd0 : ∀ t ∈ T, 0 ≤ t.d := fun t ht => (hok t ht).1.1
    have hwr := fun x (hx : x ∈ T) hb hr => wk_rate hx (hd0 x hx) hb hr hxs (by omega)
    have hmb := fun p => mean_tight (p := p) hxs (by omega)
    have hend := aJ_end hd0
    obtain ⟨n, hn⟩ : ∃ n, n = T.length := ⟨_, rfl⟩
    rw [← hn] at hend hn12 hDf hUn hRt hWk rT ⊢
    have HD := Lib.hid hDf
    have HU := Lib.hid (And.intro hUn (And.intro hRt hWk))
    have HW := Lib.hid hwr
    have HM := Lib.hid (And.intro hok (And.intro hmb (And.intro hend hn)))
    clear hDf hUn hRt hWk hrv hxs hd0 hwr hmb hend hok hf hn
    go_wp2_with fail
    refine HD.out.mono ?_
    rintro e w2 ⟨rfl, hg2⟩
    go_wp2_with fail
    refine (HU.out.1 _ hg2).mono ?_
    rintro e w3 ⟨vU, rfl, hoU, hg3⟩
    obtain ⟨AU, cU, rfl, _, _, rU, _⟩ := Rd.of_own hoU
    have hg13 := hg2.trans hg3
    clear hoU hg2 hg3 HD
    have hnn : ((n : Int) != (n : Int)) = false := by simp
    go_wp2_with fail
    go_loopg [46] n (fun k i wr => ∃ j : Nat, k + j = n ∧ i = .int .i64 j ∧ w3.grownBy wr none)
    case atStart => exact ⟨0, by omega, rfl, grown_refl _⟩
    case round =>
      obtain ⟨j, hj, rfl, hg⟩ := hrel
      by_cases hlt : j < n
      · obtain ⟨b, off, rfl, _, t, ht, c0, c1, c2⟩ := sal_cells (rT.grown (hg13.trans hg)) hlt
        obtain ⟨b', off', rfl, _, v, hv, cv⟩ := int_cells (rU.grown hg) hlt
        have hvv := uncL_at ht
        rw [hv] at hvv
        injection hvv with hvv
        unfold uncB at hvv
        obtain ⟨d, s, o⟩ := t
        dsimp only at c0 c1 c2
        have hlt' : (j : Int) < (n : Int) := by omega
        have hdv : decide (v < s) = false := by
          rw [hvv]
          cases o <;> simp <;> omega
        have hnv : o = false → (v != s) = false := by
          intro h; rw [hvv, h]; simp
        have HJ := Lib.hid hj
        clear hj ht hv hvv
        go_upto_region 11 with fail
        have hB := Blk.new wr 79 #[.int .i64 d, .int .i64 s, .bool o]
        have hgz := grown_alloc hg (.cells #[.int .i64 d, .int .i64 s, .bool o] 79)
        have cv' := (grown_alloc (grown_refl wr) (.cells #[.int .i64 d, .int .i64 s, .bool o] 79)).cell cv (by simp)
        obtain ⟨x0, x1, x2, _, _, _⟩ := hB.three
        generalize wr.alloc (.cells #[.int .i64 d, .int .i64 s, .bool o] 79) = wx at *
        generalize wr.heap.size = gx at *
        clear hB c0 c1 c2 cv
        cases o
        case' false => have hns := hnv rfl
        all_goals
          clear hnv
          go_wp2_with fail
          go_quiet (fail)
          go_wp2_with fail
          have hj := HJ.out
          go_roundg (gk - 1)
          case measure => omega
          case rel => exact ⟨j + 1, by omega, by go_num, grown_drewN hgz _⟩
      · obtain rfl : j = n := by omega
        have hg14 := hg13.trans hg
        clear hlt hj hg rU hg13
        go_wp2_with fail
        have hRt := HU.out.2.1 _ hg14
        obtain ⟨a, ha⟩ : ∃ a, a = meanN lastB T := ⟨_, rfl⟩
        obtain ⟨b, hb⟩ : ∃ b, b = meanD lastB T := ⟨_, rfl⟩
        obtain ⟨fc, hfc⟩ : ∃ fc : Int, fc = if cntP lastB T = 0 then 8 else 0 := ⟨_, rfl⟩
        rw [← ha, ← hb, ← hfc] at hRt
        have HRt := Lib.hid hRt
        have HE := Lib.hid (And.intro ha (And.intro hb hfc))
        clear hRt ha hb hfc
        refine HRt.out.mono ?_
        rintro e w5 ⟨rfl, hg5⟩
        have hB5 := Blk.new w5 31 #[.int .i64 a, .int .i64 b]
        have hg15 := hg14.trans (grown_alloc hg5 (.cells #[.int .i64 a, .int .i64 b] 31))
        clear HRt hg14 hg5
        go_wp2_with fail
        generalize w5.alloc (.cells #[.int .i64 a, .int .i64 b] 31) = w6 at *
        generalize w5.heap.size = gR at *
        refine (HU.out.2.2 _ hg15).mono ?_
        rintro e w7 ⟨gW, rfl, hW7, hg7⟩
        have hR7 := hB5.grown hg7 (by simp)
        have hg17 := hg15.trans hg7
        have hgE := hgg1.trans hg17
        clear HU hB5 hg15 hg7 hgg1
        obtain ⟨k0, k1, _, _⟩ := hR7.two
        by_cases hc : cntP lastB T = 0
        · have hfc := HE.out.2.2
          rw [if_pos hc] at hfc
          subst hfc
          clear hc
          go_wp2_with fail
          refine (keepDemands_any _).mono ?_
          rintro e w8 ⟨rfl, hg8⟩
          go_wp2_with fail
          go_ret
          exact ⟨rfl, hgE.trans hg8⟩
        · have hfc := HE.out.2.2
          rw [if_neg hc] at hfc
          subst hfc
          obtain ⟨⟨b0, b1⟩, a0', a1⟩ := HM.out.2.1 lastB hc
          rw [← HE.out.1] at a0' a1
          rw [← HE.out.2.1] at b0 b1
          clear hc
          by_cases ha0 : a = 0
          · subst ha0
            go_wp2_with fail
            refine (keepDemands_any _).mono ?_
            rintro e w8 ⟨rfl, hg8⟩
            go_wp2_with fail
            go_ret
            exact ⟨rfl, hgE.trans hg8⟩
          · have ha1 : 0 < a := by omega
            have hab : (a == 0) = false := by rw [beq_eq_false_iff_ne]; exact ha0
            clear a0'
            go_wp2_with fail
            clear k0 k1
            go_loopg [13, 14, 100] j (fun k lf dn i wr => ∃ (r : Nat) (left den : Int), k + r = j ∧ i = .int .i64 r ∧ lf = .int .i64 left ∧ dn = .int .i64 den ∧ (1 ≤ den ∧ den ≤ 1000000000) ∧ (-1000000000 ≤ left ∧ left ≤ 1000000000) ∧ Hid (left * gA T = den * aJ T r) ∧ w7.grownBy wr none)
            case atStart => exact ⟨0, 0, 1, by omega, rfl, rfl, rfl, by omega, by omega, Lib.hid (by unfold aJ sumC sumP; simp), grown_refl _⟩
            case round =>
              obtain ⟨r, left, den, hr, rfl, rfl, rfl, hden, hleft, H, hg⟩ := hrel
              by_cases hlt : r < j
              · obtain ⟨bq, off, rfl, _, t, ht, c0, c1, c2⟩ := sal_cells (rT.grown (hg17.trans hg)) hlt
                have hstep := aJ_step ht
                have hmem := List.mem_of_getElem? ht
                have hx := HM.out.1 t hmem
                have hw0 := HW.out t hmem
                obtain ⟨d, s, o⟩ := t
                dsimp only at c0 c1 c2 hx
                have hlt' : (r : Int) < (j : Int) := by omega
                have HJ := Lib.hid (And.intro hr hstep)
                clear hr hstep ht hmem
                go_upto_region 24 with fail
                have hBx := Blk.new wr 79 #[.int .i64 d, .int .i64 s, .bool o]
                have hgx := grown_alloc hg (.cells #[.int .i64 d, .int .i64 s, .bool o] 79)
                generalize wr.alloc (.cells #[.int .i64 d, .int .i64 s, .bool o] 79) = wx at *
                generalize wr.heap.size = gx at *
                obtain ⟨x0, x1, x2, _, _, _⟩ := hBx.three
                clear c0 c1 c2 hg
                cases o
                · obtain ⟨hw, v0, u0, u1, v1⟩ := hw0 rfl (by rw [← HE.out.1]; exact ha1)
                  obtain ⟨hk7, hkm⟩ := kx_rng (x := ⟨d, s, false⟩) hx.1.1
                  have hst := HJ.out.2
                  rw [if_pos (show lastB ⟨d, s, false⟩ = true from rfl)] at hst
                  dsimp only at hst hkm
                  have hck : cntP (wkB (kx ⟨d, s, false⟩)) T ≠ 0 := by
                    intro h0
                    have h1 : wkN T (kx ⟨d, s, false⟩) ≤ 0 := by
                      unfold meanN at u1
                      rw [if_pos h0, Int.zero_mul] at u1
                      exact u1
                    have h2 : wkD T (kx ⟨d, s, false⟩) ≤ 0 := by
                      unfold meanD at v1
                      rw [if_pos h0, Int.zero_mul] at v1
                      exact v1
                    omega
                  obtain ⟨⟨m0, m1⟩, m2, m3⟩ := HM.out.2.1 _ hck
                  obtain ⟨cN, cD⟩ := wkRow_at T hk7
                  rw [← HE.out.1] at v1 hw
                  rw [← HE.out.2.1] at u1 hw
                  generalize kx ⟨d, s, false⟩ = k at *
                  have u2 : wkN T k ≤ 12000 * 12 := Int.le_trans u1 (Int.mul_le_mul m3 b1 (by omega) (by omega))
                  have v2 : wkD T k ≤ 12 * 12000 := Int.le_trans v1 (Int.mul_le_mul m1 a1 (by omega) (by omega))
                  clear u1 v1 m0 m1 m2 m3 hck
                  generalize wkN T k = u at *
                  generalize wkD T k = v at *
                  have hinv := sum_step (x := s) H.out hw
                  rw [← hst] at hinv
                  have q1 : 0 ≤ u * a := Int.mul_nonneg u0 (by omega)
                  have q2 : u * a ≤ 144000 * 12000 := Int.mul_le_mul u2 a1 (by omega) (by omega)
                  have q3 : 0 ≤ u * a * den := Int.mul_nonneg q1 (by omega)
                  have q4 : u * a * den ≤ 144000 * 12000 * 1000000000 := Int.mul_le_mul q2 hden.2 (by omega) (by omega)
                  have q5 : 0 ≤ s * v := Int.mul_nonneg hx.2.1 (by omega)
                  have q6 : s * v ≤ 1000 * 144000 := Int.mul_le_mul hx.2.2 v2 (by omega) (by omega)
                  have q7 : 0 ≤ s * v * b := Int.mul_nonneg q5 (by omega)
                  have q8 : s * v * b ≤ 1000 * 144000 * 12 := Int.mul_le_mul q6 b1 (by omega) (by omega)
                  have q9 : 0 ≤ s * v * b * den := Int.mul_nonneg q7 (by omega)
                  have q10 : s * v * b * den ≤ 1000 * 144000 * 12 * 1000000000 := Int.mul_le_mul q8 hden.2 (by omega) (by omega)
                  have q11 : left * v ≤ 1000000000 * v := Int.mul_le_mul_of_nonneg_right hleft.2 (by omega)
                  have q12 : -1000000000 * v ≤ left * v := Int.mul_le_mul_of_nonneg_right hleft.1 (by omega)
                  have q13 : left * v * b ≤ 144000000000000 * b := Int.mul_le_mul_of_nonneg_right (by omega) (by omega)
                  have q14 : -144000000000000 * b ≤ left * v * b := Int.mul_le_mul_of_nonneg_right (by omega) (by omega)
                  have q15 : 0 < den * v := Int.mul_pos (by omega) v0
                  have q16 : den * v ≤ 1000000000 * 144000 := Int.mul_le_mul hden.2 v2 (by omega) (by omega)
                  have q17 : 0 < den * v * b := Int.mul_pos q15 b0
                  have q18 : den * v * b ≤ 1000000000 * 144000 * 12 := Int.mul_le_mul q16 b1 (by omega) (by omega)
                  have hKL := fun w => keepLowest_any (left * v * b + (u * a * den - s * v * b * den)) (den * v * b) w (by omega) (by omega) q17 (by omega)
                  have hlow := low_step q17 hinv
                  have hlp := lowD_pos (num := left * v * b + (u * a * den - s * v * b * den)) q17
                  obtain ⟨x, y, z, hV, hz⟩ := addV01 (lowN (left * v * b + (u * a * den - s * v * b * den)) (den * v * b)) (lowD (left * v * b + (u * a * den - s * v * b * den)) (den * v * b))
                  have hAd := fun w => add_any 0 1 (lowN (left * v * b + (u * a * den - s * v * b * den)) (den * v * b)) (lowD (left * v * b + (u * a * den - s * v * b * den)) (den * v * b)) w
                  rw [hV] at hAd
                  unfold frac at hKL hAd
                  have hlow2 := low_step hlp hlow
                  generalize lowN (left * v * b + (u * a * den - s * v * b * den)) (den * v * b) = p at *
                  generalize lowD (left * v * b + (u * a * den - s * v * b * den)) (den * v * b) = q at *
                  have HKA := Lib.hid (And.intro hKL (And.intro hAd (And.intro hz hlow2)))
                  have cW0 : wx.cell? ⟨gW, k * 2, none⟩ = some (.int .i64 u) := by rw [(hW7.grown hgx (by simp)).cell (k * 2)]; simpa using cN
                  have cW1 : wx.cell? ⟨gW, k * 2 + 1, none⟩ = some (.int .i64 v) := by rw [(hW7.grown hgx (by simp)).cell (k * 2 + 1)]; simpa using cD
                  have hk7' : (k : Int) < 7 := by omega
                  have hkm2 : d % 7 = (k : Int) := by rw [← Int.tmod_eq_emod_of_nonneg hx.1.1]; exact hkm
                  clear hKL hAd hz hlow2 hlow hinv hlp hV hst hw cN cD H HW
                  go_upto_region 26 with fail
                  have hBw := Blk.new wx 31 #[.int .i64 u, .int .i64 v]
                  have hgw := grown_alloc hgx (.cells #[.int .i64 u, .int .i64 v] 31)
                  have hBx2 := hBx.alloc (.cells #[.int .i64 u, .int .i64 v] 31)
                  generalize wx.alloc (.cells #[.int .i64 u, .int .i64 v] 31) = wy at *
                  generalize wx.heap.size = gw at *
                  obtain ⟨y0, y1, y2, _, _, _⟩ := hBx2.three
                  obtain ⟨e0, e1, _, _⟩ := hBw.two
                  obtain ⟨k0, k1, _, _⟩ := (hR7.grown hgw (by simp)).two
                  clear x0 x1 x2 cW0 cW1 hBx hBw hBx2 hgx
                  go_upto_region 27 with fail
                  have qn1 : u * a * den - s * v * b * den ≤ 2000000000000000000 := by omega
                  have qn2 : -2000000000000000000 ≤ u * a * den - s * v * b * den := by omega
                  generalize u * a * den - s * v * b * den = N1 at *
                  clear y0 y1 y2 q1 q2 q3 q4 q5 q6 q7 q8 q9 q10 hkm hkm2 hk7' hk7 hx u0 u2
                  go_wp2_with fail
                  go_quiet (fail)
                  go_wp2_with fail
                  refine (HKA.out.1 _).mono ?_
                  rintro e w8 ⟨rfl, hg8⟩
                  go_wp2_with fail
                  refine (HKA.out.2.1 _).mono ?_
                  rintro e w9 ⟨rfl, hg9⟩
                  have hg79 := ((grown_drewN hgw nq).trans hg8).trans hg9
                  clear hg8 hg9 e0 e1 k0 k1 q11 q12 q13 q14 q15 q16 q17 q18 qn1 qn2 hleft hden
                  by_cases hz0 : z = 0
                  · obtain ⟨hy, hxb, hxe, hye⟩ := HKA.out.2.2.1 hz0
                    have hI := HKA.out.2.2.2
                    rw [← hxe, ← hye] at hI
                    have HI := Lib.hid hI
                    subst hz0
                    clear hxe hye hI
                    go_upto_region 31 with fail
                    have hBh := Blk.new w9 31 #[.int .i64 x, .int .i64 y]
                    have hgh := grown_alloc hg79 (.cells #[.int .i64 x, .int .i64 y] 31)
                    generalize w9.alloc (.cells #[.int .i64 x, .int .i64 y] 31) = wh at *
                    generalize w9.heap.size = gh at *
                    obtain ⟨e0, e1, _, _⟩ := hBh.two
                    go_wp2_with fail
                    go_quiet (fail)
                    go_wp2_with fail
                    have hr := HJ.out.1
                    go_roundg (gk - 1)
                    case measure => omega
                    case rel => exact ⟨r + 1, x, y, by omega, by go_num, rfl, rfl, hy, hxb, HI, grown_drewN hgh _⟩
                  · have hzb : (z != 0) = true := by rw [bne_iff_ne]; exact hz0
                    clear hz0
                    go_wp2_with fail
                    refine (keepDemands_any _).mono ?_
                    rintro e w10 ⟨rfl, hg10⟩
                    go_wp2_with fail
                    go_ret
                    exact ⟨rfl, (hgE.trans (grown_alloc hg79 _)).trans hg10⟩
                · have hst := HJ.out.2
                  rw [if_neg (by simp [lastB]), Int.add_zero] at hst
                  have HI := Lib.hid (show left * gA T = den * aJ T (r + 1) from by rw [hst]; exact H.out)
                  clear hst H hw0 hx
                  go_wp2_with fail
                  have hr := HJ.out.1
                  go_roundg (gk - 1)
                  case measure => omega
                  case rel => exact ⟨r + 1, left, den, by omega, by go_num, rfl, rfl, hden, hleft, HI, hgx⟩
              · obtain rfl : r = j := by omega
                have hl0 : left = 0 := by
                  have h1 := H.out
                  rw [HM.out.2.2.1, Int.mul_zero] at h1
                  have h2 := gA_pos T
                  rcases Int.mul_eq_zero.1 h1 with h | h
                  · exact h
                  · omega
                subst hl0
                clear H hleft
                go_wp2_with fail
                refine (keepDemands_any _).mono ?_
                rintro e w8 ⟨rfl, hg8⟩
                go_wp2_with fail
                go_ret
                exact ⟨rfl, (hgE.trans hg).trans hg8⟩
  · have hne : (dayFault T != 0) = true := by rw [bne_iff_ne]; exact hf
    generalize dayFault T = f at *
    have HD := Lib.hid hDf
    clear hDf hf
    go_wp2_with fail
    refine HD.out.mono ?_
    rintro e w2 ⟨rfl, hg2⟩
    go_wp2_with fail
    refine (keepDemands_any _).mono ?_
    rintro e w3 ⟨rfl, hg3⟩
    go_wp2_with fail
    go_ret
    exact ⟨rfl, (hgg1.trans hg2).trans hg3⟩

end Go.Proofs.Ytkfijicmeekmiaa
