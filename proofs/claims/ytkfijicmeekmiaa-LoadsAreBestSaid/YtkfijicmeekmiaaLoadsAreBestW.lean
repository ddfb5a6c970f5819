/- The walk of the law LoadsAreBest. -/
import Derived.Test.YtkfijicmeekmiaaBest
import Derived.Test.YtkfijicmeekmiaaHistU
import Derived.Test.YtkfijicmeekmiaaLoadO
import Derived.Test.YtkfijicmeekmiaaKeep
import Derived.Test.YtkfijicmeekmiaaIn
namespace Go.Proofs.Ytkfijicmeekmiaa
open Go.RowKit

/-- The sum that stands before chance j. -/
def bfS (T : List Int) (j : Nat) : Int := if j = 0 then T.sum else (T.drop (j - 1)).sum
theorem bfS_rng {T : List Int} (h : ∀ x ∈ T, 0 ≤ x) (j : Nat) : (0 ≤ bfS T j ∧ bfS T j ≤ T.sum) ∧ (0 ≤ (T.drop j).sum ∧ (T.drop j).sum ≤ bfS T j) := by
  have h1 : ∀ k, 0 ≤ (T.drop k).sum ∧ (T.drop k).sum ≤ T.sum := by
    intro k
    have h2 := (drop_sum_le h k).1
    have h3 := take_sum h k
    have e : (T.take k).sum + (T.drop k).sum = T.sum := by rw [← List.sum_append, List.take_append_drop]
    omega
  unfold bfS
  rcases j with _ | j
  · have := h1 0
    rw [if_pos rfl]
    refine ⟨⟨?_, Int.le_refl _⟩, this⟩
    omega
  · rw [if_neg (by omega), show j + 1 - 1 = j from by omega]
    exact ⟨h1 j, (h1 (j + 1)).1, (drop_sum_le h j).2⟩
theorem low_rng {P S : Int} (hS : 0 < S) (hS1 : S ≤ 1000000000) (hP : 0 ≤ P ∧ P ≤ S) : (0 ≤ lowN P S ∧ lowN P S ≤ 1000000000) ∧ (0 < lowD P S ∧ lowD P S ≤ 1000000000) := by
  have h1 := lowN_nonneg (den := S) hP.1
  have h2 := lowN_le (den := S) hP.1
  have h3 := lowD_pos (num := P) hS
  have h4 := lowD_le (num := P) hS
  omega

set_option maxRecDepth 100000 in
set_option maxHeartbeats 1600000 in
theorem loadsAreBest_walk (a0 : Option Addr) (len0 cap0 : Nat) (z0 : List Int) (w : World) (w0 : InRow w a0 len0 cap0 z0) :
    Calls Try.prog 9 #[.slice a0 len0 cap0] w fun e w' => e = .returned (.bool true) ∧ w.grownBy w' none := by
  obtain ⟨hlen, hs0⟩ := str_start w0
  have hg0 : w.grownBy (w.alloc (.cells #[.slice a0 len0 cap0, .int .i64 0] 25)) none := grown_alloc (grown_refl w) _
  have hz0 : (w.alloc (.cells #[.slice a0 len0 cap0, .int .i64 0] 25)).heap.size = w.heap.size + 1 := by simp
  clear hlen w0
  generalize z0.take len0 = L at *
  go_enter Try.func9, Try.ntmps9
  go_wp2_with fail
  generalize w.alloc (.cells #[.slice a0 len0 cap0, .int .i64 0] 25) = wA at *
  obtain ⟨bs, hbs⟩ : ∃ bs, bs = w.heap.size := ⟨_, rfl⟩
  rw [← hbs] at hs0 hz0 ⊢
  have HZ := Lib.hid (And.intro hz0 hbs)
  clear hz0 hbs
  refine (hist_any bs L 0 _ hs0 (by omega)).mono ?_
  rintro e w1 ⟨vT, rfl, hown1, hs1, hg1⟩
  obtain ⟨hT1, hT2⟩ := histM_bound L 0
  have hsh := hist_short (L := L) (t := 0)
  generalize (histM L 0).2 = T at *
  generalize (histM L 0).1 = t1 at *
  obtain ⟨AT, cT, rfl, hnc, hcm, hrT1, hbT⟩ := Rd.of_own hown1
  have hbs1 := hs1.lt
  have hfar : ∀ a, AT = some a → some a.block ≠ some bs := fun a ha => by have := hbT a ha; have := HZ.out.1; have := HZ.out.2; simp; omega
  have hn : T.length ≤ 100000 := by omega
  clear hbT hs0 hown1
  go_wp2_with fail
  refine (pick_lit bs L _ [0, 50, 100] _ hs1 (by omega) (by decide) (by decide) 3).mono ?_
  rintro e w2 ⟨rfl, hs2, hg2⟩
  go_wp2_with fail
  refine (pick_lit bs L _ [0, 10, 60] _ hs2 (by omega) (by decide) (by decide) 3).mono ?_
  rintro e w3 ⟨rfl, hs3, hg3⟩
  have hm : 0 ≤ pk L t1 [0, 50, 100] ∧ pk L t1 [0, 50, 100] ≤ 10000 := by
    have h := pk_mem L t1 [0, 50, 100] (by simp)
    simp only [List.mem_cons, List.not_mem_nil, or_false] at h
    omega
  have hu : 0 ≤ pk L (t1 + 1) [0, 10, 60] ∧ pk L (t1 + 1) [0, 10, 60] ≤ 10000 := by
    have h := pk_mem L (t1 + 1) [0, 10, 60] (by simp)
    simp only [List.mem_cons, List.not_mem_nil, or_false] at h
    omega
  generalize pk L t1 [0, 50, 100] = m at *
  generalize pk L (t1 + 1) [0, 10, 60] = u at *
  have hg13 := hg2.trans hg3
  have hrT3 := hrT1.grown_ hg13 hfar
  have hgg3 : w.grownBy w3 none := grown_below hg0 (hg1.trans hg13) (fun j hj => .inl (by have := HZ.out.2; cases hj; omega))
  clear hg2 hg3 hs1 hs2 hs3 hrT1 hg0 hg1 hg13 hfar
  have hHf := fun w1 (hr : Rd w1 1 AT T.length (ints T)) => refHistF_any AT T.length cT T w1 hr hn
  by_cases hf : histF T = 0
  · rw [hf] at hHf
    by_cases hl20 : T.length ≤ 20
    · obtain ⟨f1, f2, f3, f4⟩ := histF_ok hf
      have hpos : ∀ x ∈ T, 0 ≤ x := fun x hx => (f2 x hx).1
      have hcr := fun i j hi => cross_rng hpos f3 f4 (hsh hf hl20) hm hu (i := i) (j := j) hi
      have hmon : ∀ n : Nat, n ≤ 12 → moneyF n m u = 0 := by
        intro n hn
        unfold moneyF
        rw [btw_true.2 (show (0 : Int) ≤ n ∧ (n : Int) ≤ 2001 by omega), btw_true.2 hm, btw_true.2 hu]
        rfl
      have hPr : ∀ (n : Nat), n ≤ 12 → ∀ w1, Rd w1 1 AT T.length (ints T) → Calls Try.prog 47 #[.slice AT T.length cT, .int .i64 n, .int .i64 m, .int .i64 u] w1 fun e w' => e = .returned (.tuple #[.agg #[.int .i64 (lowN (prOf T n m u) T.sum), .int .i64 (lowD (prOf T n m u) T.sum)], .int .i64 0]) ∧ w1.grownBy w' none := by
        intro n hn12 w1 hr
        have h := profit_any AT T.length cT T n m u w1 hr hn
        unfold proV at h
        rw [hf, hmon n hn12, if_neg (by simp [orE])] at h
        exact h
      have hOr : ∀ w1, Rd w1 1 AT T.length (ints T) → Calls Try.prog 48 #[.slice AT T.length cT, .int .i64 12, .int .i64 m, .int .i64 u] w1 fun e w' => e = .returned (.tuple #[.int .i64 (ordA T m u 12), .int .i64 0]) ∧ w1.grownBy w' none := by
        intro w1 hr
        have h := order_any AT T.length cT T (12 : Nat) m u w1 hr hn
        unfold ordV at h
        rw [hf, hmon 12 (by omega), if_neg (by simp [orE])] at h
        exact h
      have hCh : ∀ (n : Nat), n ≤ 12 → ∀ w1, Rd w1 1 AT T.length (ints T) → Calls Try.prog 41 #[.slice AT T.length cT, .int .i64 n] w1 fun e w' => e = .returned (.tuple #[.agg #[.int .i64 (lowN (T.drop n).sum T.sum), .int .i64 (lowD (T.drop n).sum T.sum)], .int .i64 0]) ∧ w1.grownBy w' none := by
        intro n hn12 w1 hr
        have h := chance_any AT T.length cT T n w1 hr hn hnc (by omega)
        unfold chV at h
        rw [hf, if_neg (by simp), if_neg (by omega)] at h
        exact h
      have hord := ordA_ok hpos (show 0 ≤ m + u by omega) 12
      have hbest : ordA T m u 12 ≤ 12 := hord.1
      have hob := fun n hn => ord_best hpos (show 0 ≤ m + u by omega) hord (n := n) hn
      generalize ordA T m u 12 = b at *
      have hTo := fun w1 (hr : Rd w1 1 AT T.length (ints T)) => together_any AT T.length cT T 2 w1 hr hnc hn (by omega)
      have hto := fun w1 (hr : Rd w1 1 AT T.length (ints T)) => keepTotal_any AT T.length cT T w1 hr (by omega) fun x hx => by have := f2 x hx; omega
      have HC := Lib.hid (And.intro hHf (And.intro hOr (And.intro hPr (And.intro hCh (And.intro hTo hto)))))
      have HB := Lib.hid (And.intro hob hcr)
      have HS := Lib.hid (And.intro f3 (And.intro f4 hpos))
      have HF := Lib.hid hf
      clear hHf hOr hPr hCh hTo hto hob hcr hord hmon hf hsh f1 f2 f3 f4 hpos hm hu
      go_wp2_with fail
      refine (HC.out.1 _ hrT3).mono ?_
      rintro e w4 ⟨rfl, hg4⟩
      go_wp2_with fail
      refine (HC.out.2.1 _ (hrT3.grown hg4)).mono ?_
      rintro e w5 ⟨rfl, hg5⟩
      have hg35 := hg4.trans hg5
      go_wp2_with fail
      refine (HC.out.2.2.1 b hbest _ (hrT3.grown hg35)).mono ?_
      rintro e w6 ⟨rfl, hg6⟩
      have hg36 := hg35.trans hg6
      go_wp2_with fail
      have hBt := (Blk.new w6 31 #[.int .i64 (lowN (prOf T b m u) T.sum), .int .i64 (lowD (prOf T b m u) T.sum)]).alloc (.cells #[.int .i64 1, .int .i64 1] 31)
      have hBb := Blk.new (w6.alloc (.cells #[.int .i64 (lowN (prOf T b m u) T.sum), .int .i64 (lowD (prOf T b m u) T.sum)] 31)) 31 #[.int .i64 1, .int .i64 1]
      rw [show (w6.alloc (.cells #[.int .i64 (lowN (prOf T b m u) T.sum), .int .i64 (lowD (prOf T b m u) T.sum)] 31)).heap.size = w6.heap.size + 1 from by simp] at hBb
      have hg37 := grown_alloc (grown_alloc hg36 (.cells #[.int .i64 (lowN (prOf T b m u) T.sum), .int .i64 (lowD (prOf T b m u) T.sum)] 31)) (.cells #[.int .i64 1, .int .i64 1] 31)
      have hszG := hg36.size
      generalize ((w6.alloc (.cells #[.int .i64 (lowN (prOf T b m u) T.sum), .int .i64 (lowD (prOf T b m u) T.sum)] 31)).alloc (.cells #[.int .i64 1, .int .i64 1] 31)) = wq at *
      obtain ⟨G, hG⟩ : ∃ G, G = w6.heap.size := ⟨_, rfl⟩
      rw [← hG] at hBt hBb hszG ⊢
      clear hg4 hg5 hg6 hg35 hg36 hG
      go_loopg [70] 13 (fun k ii wr => ∃ j : Nat, k + j = 13 ∧ ii = .int .i64 j ∧ Blk wr (G + 1) 31 #[.int .i64 (lowN (bfS T j) T.sum), .int .i64 (lowD (bfS T j) T.sum)] ∧ Blk wr G 31 #[.int .i64 (lowN (prOf T b m u) T.sum), .int .i64 (lowD (prOf T b m u) T.sum)] ∧ w3.grownBy wr none)
      case atStart =>
        refine ⟨0, by omega, rfl, ?_, hBt, hg37⟩
        unfold bfS
        rw [if_pos rfl, (low_self HS.out.1).1, (low_self HS.out.1).2]
        exact hBb
      case round =>
        obtain ⟨j, hj, rfl, hBb, hBt, hg⟩ := hrel
        by_cases hlt : j < 13
        · obtain ⟨ho1, ho2⟩ := HB.out.1 j (by omega)
          obtain ⟨x0, x1⟩ := HB.out.2 j b (by omega)
          obtain ⟨y0, y1⟩ := HB.out.2 b j hbest
          have hl1 := frac_lt (P := prOf T b m u) (Q := prOf T j m u) HS.out.1
          have hl2 := frac_lt (P := prOf T j m u) (Q := prOf T b m u) HS.out.1
          obtain ⟨hb1, hb2, hb3⟩ := bfS_rng HS.out.2.2 j
          have hl3 := frac_lt (P := bfS T j) (Q := (T.drop j).sum) HS.out.1
          obtain ⟨⟨z0, z1⟩, z2, z3⟩ := low_rng HS.out.1 HS.out.2.1 hb1
          obtain ⟨⟨v0, v1⟩, v2, v3⟩ := low_rng HS.out.1 HS.out.2.1 (show 0 ≤ (T.drop j).sum ∧ (T.drop j).sum ≤ T.sum by omega)
          have hbn : bfS T (j + 1) = (T.drop j).sum := by unfold bfS; rw [if_neg (by omega), show j + 1 - 1 = j from by omega]
          have hcP := HC.out.2.2.1 j (by omega)
          have hcC := HC.out.2.2.2.1 j (by omega)
          have hnl1 : ¬ lowN (prOf T b m u) T.sum * lowD (prOf T j m u) T.sum < lowN (prOf T j m u) T.sum * lowD (prOf T b m u) T.sum := fun h => by have := hl1.1 h; omega
          have hnl3 : ¬ lowN (bfS T j) T.sum * lowD (T.drop j).sum T.sum < lowN (T.drop j).sum T.sum * lowD (bfS T j) T.sum := fun h => by have := hl3.1 h; omega
          have hl2' : j < b → lowN (prOf T j m u) T.sum * lowD (prOf T b m u) T.sum < lowN (prOf T b m u) T.sum * lowD (prOf T j m u) T.sum := fun h => hl2.2 (ho2 h)
          have HJ := Lib.hid (And.intro hj (And.intro hbn (And.intro hcP hcC)))
          clear hl1 hl2 hl3 ho1 ho2 hj hbn hcP hcC hb1 hb2 hb3
          generalize hP1 : lowN (prOf T j m u) T.sum = pN at *
          generalize hP2 : lowD (prOf T j m u) T.sum = pD at *
          generalize hC1 : lowN (T.drop j).sum T.sum = cN at *
          generalize hC2 : lowD (T.drop j).sum T.sum = cD at *
          generalize lowN (prOf T b m u) T.sum = tN at *
          generalize lowD (prOf T b m u) T.sum = tD at *
          generalize lowN (bfS T j) T.sum = eN at *
          generalize lowD (bfS T j) T.sum = eD at *
          have r0 : 0 ≤ eN * cD := Int.mul_nonneg z0 (by omega)
          have r1 : eN * cD ≤ 1000000000 * 1000000000 := Int.mul_le_mul z1 v3 (by omega) (by omega)
          have r2 : 0 ≤ cN * eD := Int.mul_nonneg v0 (by omega)
          have r3 : cN * eD ≤ 1000000000 * 1000000000 := Int.mul_le_mul v1 z3 (by omega) (by omega)
          have HE := Lib.hid (And.intro hP1 (And.intro hP2 (And.intro hC1 hC2)))
          clear hP1 hP2 hC1 hC2 z0 z1 z2 z3 v0 v1 v2 v3
          have hd1 : decide (tN * pD < pN * tD) = false := by simpa using hnl1
          have hd3 : decide (eN * cD < cN * eD) = false := by simpa using hnl3
          have hGw : G + 1 < wr.heap.size := hBb.lt
          have hlt13 : (j : Int) < 13 := by omega
          go_wp2_with fail
          refine (HJ.out.2.2.1 _ (hrT3.grown hg)).mono ?_
          rintro e w7 ⟨rfl, hg7⟩
          have hBp := Blk.new w7 31 #[.int .i64 pN, .int .i64 pD]
          have hg7' := grown_alloc hg7 (.cells #[.int .i64 pN, .int .i64 pD] 31)
          have hsz7 := hg7.size
          go_wp2_with fail
          refine (HJ.out.2.2.2 _ (hrT3.grown (hg.trans hg7'))).mono ?_
          rintro e w8 ⟨rfl, hg8⟩
          have hBc := Blk.new w8 31 #[.int .i64 cN, .int .i64 cD]
          have hg8' := grown_alloc hg8 (.cells #[.int .i64 cN, .int .i64 cD] 31)
          have hsz8 := hg8.size
          have hg78 := hg7'.trans hg8'
          have hBt8 := hBt.grown hg78 (by simp)
          have hBb8 := hBb.grown hg78 (by simp)
          have hBp8 := hBp.grown hg8' (by simp)
          obtain ⟨k0, k1, _, _⟩ := hBt8.two
          obtain ⟨k2, k3, k4, k5⟩ := hBb8.two
          obtain ⟨k6, k7, _, _⟩ := hBp8.two
          obtain ⟨k8, k9, _, _⟩ := hBc.two
          have hne1 : w8.heap.size ≠ G + 1 := by simp at hsz8; omega
          have hne2 : G + 1 ≠ w8.heap.size := Ne.symm hne1
          have HBK := Lib.hid (And.intro hBt8 hBb8)
          clear hBt hBb hBp hBc hBt8 hBb8 hBp8
          by_cases hjb : j < b
          · have hd2 : decide (pN * tD < tN * pD) = true := by simpa using hl2' hjb
            have hjb' : (j : Int) < (b : Int) := by omega
            have hjd : decide ((j : Int) < (b : Int)) = true := by simpa using hjb'
            clear hl2'
            go_wp2_with fail
            obtain ⟨hj, hbn, -⟩ := HJ.out
            go_roundg (gk - 1)
            case measure => omega
            case rel =>
              refine ⟨j + 1, by omega, by go_num, ?_, (HBK.out.1.far (p := ⟨G + 1, 0, none⟩) (by simp) _).far (p := ⟨G + 1, 1, none⟩) (by simp) _, grown_set (p := ⟨G + 1, 1, none⟩) (grown_set (p := ⟨G + 1, 0, none⟩) (hg.trans hg78) (.inl (by simp; omega)) _) (.inl (by simp; omega)) _⟩
              rw [hbn, HE.out.2.2.1, HE.out.2.2.2]
              exact (HBK.out.2.set_ 0 (.int .i64 cN)).set_ 1 (.int .i64 cD)
          · have hjb' : ¬ (j : Int) < (b : Int) := by omega
            have hjd : decide ((j : Int) < (b : Int)) = false := by simpa using hjb'
            clear hl2'
            obtain ⟨q, hq⟩ : ∃ q, decide (pN * tD < tN * pD) = q := ⟨_, rfl⟩
            go_wp2_with fail
            obtain ⟨hj, hbn, -⟩ := HJ.out
            go_roundg (gk - 1)
            case measure => omega
            case rel =>
              refine ⟨j + 1, by omega, by go_num, ?_, (HBK.out.1.far (p := ⟨G + 1, 0, none⟩) (by simp) _).far (p := ⟨G + 1, 1, none⟩) (by simp) _, grown_set (p := ⟨G + 1, 1, none⟩) (grown_set (p := ⟨G + 1, 0, none⟩) (hg.trans hg78) (.inl (by simp; omega)) _) (.inl (by simp; omega)) _⟩
              rw [hbn, HE.out.2.2.1, HE.out.2.2.2]
              exact (HBK.out.2.set_ 0 (.int .i64 cN)).set_ 1 (.int .i64 cD)
        · obtain rfl : j = 13 := by omega
          have hd13 : decide (((13 : Nat) : Int) < 13) = false := by simp
          have hrTz := hrT3.grown hg
          have hX := togX_len (l := T) (days := 2)
          have hE : togE T 2 = 0 ∨ togE T 2 = 2 := by
            unfold togE
            rw [if_neg (by have := HS.out.1; simp [show histF T = 0 from HF.out]), if_neg (by simp [show btw 2 1 7 = true from rfl])]
            split
            · exact .inr rfl
            · exact .inl rfl
          have hXs : togE T 2 = 0 → (togX T 2).sum = T.sum * T.sum ∧ (∀ x ∈ togX T 2, -1000000000 ≤ x ∧ x ≤ 1000000000) ∧ T.sum * T.sum ≤ 1000000000 := by
            intro h
            obtain ⟨hf, _, hlen, hpw, _⟩ := tog_ok h
            have hone : (T.take (trN T)).length = trN T := by rw [List.length_take]; have := trN_le T; omega
            have hp := tr_pos HS.out.1
            have hx : togX T 2 = togP (T.take (trN T)) 1 := by unfold togX; rw [if_pos h]; rfl
            have e2 := togP_sum (one := T.take (trN T)) (by omega) 1
            have e3 := togP_nonneg (one := T.take (trN T)) (fun y hy => HS.out.2.2 y (List.mem_of_mem_take hy)) 1
            have e4 := hpw 1 (by decide)
            have e5 : pw T.sum (1 + 1) = T.sum * T.sum := by show (1 * T.sum) * T.sum = _; rw [Int.one_mul]
            rw [trN_sum, e5] at e2
            rw [e5] at e4
            rw [hx]
            refine ⟨e2, fun x hx' => ?_, e4⟩
            have h1 := e3 x hx'
            have h2 := le_sum e3 x hx'
            omega
          have hTo := HC.out.2.2.2.2.1
          have hto2 := fun B d (h : togE T 2 = 0) w1 (hr : Rd w1 1 B (togX T 2).length (ints (togX T 2))) => keepTotal_any B (togX T 2).length d (togX T 2) w1 hr (by omega) (hXs h).2.1
          rcases hE with hE | hE
          · have hs2 := (hXs hE).1
            have hs3 := (hXs hE).2.2
            have hto3 := fun B d => hto2 B d hE
            rw [hE] at hTo
            rw [hs2] at hto3
            have hSS : 0 ≤ T.sum * T.sum := Int.mul_nonneg (by have := HS.out.1; omega) (by have := HS.out.1; omega)
            have hs0 := HS.out.1
            have hs1 := HS.out.2.1
            have hto := HC.out.2.2.2.2.2
            generalize togX T 2 = X at *
            generalize T.sum = S at *
            have HT := Lib.hid (And.intro hTo (And.intro hto3 hto))
            clear hTo hto2 hto3 hto hE hXs hs2 hj HB HS HC
            go_wp2_with fail
            refine (HT.out.1 _ hrTz).mono ?_
            rintro e w9 ⟨B9, d9, rfl, hr9, hg9⟩
            go_wp2_with fail
            refine (keepDemands_any _).mono ?_
            rintro e w10 ⟨rfl, hg10⟩
            go_wp2_with fail
            refine (HT.out.2.1 _ _ _ (hr9.grown hg10)).mono ?_
            rintro e w11 ⟨rfl, hg11⟩
            have hg911 := (hg9.trans hg10).trans hg11
            go_wp2_with fail
            refine (HT.out.2.2 _ (hrTz.grown hg911)).mono ?_
            rintro e w12 ⟨rfl, hg12⟩
            have hg912 := hg911.trans hg12
            go_wp2_with fail
            refine (HT.out.2.2 _ (hrTz.grown hg912)).mono ?_
            rintro e w13 ⟨rfl, hg13⟩
            have hgZ := (hgg3.trans hg).trans (hg912.trans hg13)
            go_wp2_with fail
            go_ret
            exact ⟨rfl, hgZ⟩
          · rw [hE] at hTo
            have HT := Lib.hid hTo
            clear hTo hto2 hE hXs hj HB HS HC
            go_wp2_with fail
            refine (HT.out _ hrTz).mono ?_
            rintro e w9 ⟨B9, d9, rfl, hr9, hg9⟩
            go_wp2_with fail
            refine (keepDemands_any _).mono ?_
            rintro e w10 ⟨rfl, hg10⟩
            have hgZ := (hgg3.trans hg).trans (hg9.trans hg10)
            go_wp2_with fail
            go_ret
            exact ⟨rfl, hgZ⟩
    · have hl21 : (20 : Int) < (T.length : Int) := by omega
      have hld : decide ((20 : Int) < (T.length : Int)) = true := by simpa using hl21
      have HC := Lib.hid hHf
      clear hHf hsh hf hm hu
      go_wp2_with fail
      refine (HC.out _ hrT3).mono ?_
      rintro e w4 ⟨rfl, hg4⟩
      go_wp2_with fail
      refine (keepDemands_any _).mono ?_
      rintro e w10 ⟨rfl, hg10⟩
      have hgZ := (hgg3.trans hg4).trans hg10
      go_wp2_with fail
      go_ret
      exact ⟨rfl, hgZ⟩
  · have hne : (histF T != 0) = true := by rw [bne_iff_ne]; exact hf
    generalize histF T = f at *
    have HC := Lib.hid hHf
    clear hHf hsh hf hm hu
    go_wp2_with fail
    refine (HC.out _ hrT3).mono ?_
    rintro e w4 ⟨rfl, hg4⟩
    go_wp2_with fail
    refine (keepDemands_any _).mono ?_
    rintro e w10 ⟨rfl, hg10⟩
    have hgZ := (hgg3.trans hg4).trans hg10
    go_wp2_with fail
    go_ret
    exact ⟨rfl, hgZ⟩

end Go.Proofs.Ytkfijicmeekmiaa
