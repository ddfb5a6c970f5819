/- Fractions in lowest terms: the walks of demand's divisor and lowest, and of the reference's part. -/
import Derived.Test.YtkfijicmeekmiaaTerms
import Derived.Test.YtkfijicmeekmiaaBlk
import Derived.Test.YtkfijicmeekmiaaEq
import Derived.StillTailTactics
namespace Go.Proofs.Ytkfijicmeekmiaa
open Go.RowKit

/-- A fraction as it lies in a value. -/
def frac (n d : Int) : Value := .agg #[.int .i64 n, .int .i64 d]
def lowN (num den : Int) : Int := num.tdiv (Int.gcd num den : Int)
def lowD (num den : Int) : Int := den.tdiv (Int.gcd num den : Int)

theorem tdiv_le {x g : Int} {B : Int} (hg : 0 < g) (h0 : -B ≤ x) (h1 : x ≤ B) : -B ≤ x.tdiv g ∧ x.tdiv g ≤ B := by
  have hb : 0 ≤ B := by omega
  rcases (show x < 0 ∨ 0 ≤ x from by omega) with hx | hx
  · have e : x.tdiv g = -((-x).tdiv g) := by rw [Int.neg_tdiv]; omega
    have h2 : (-x).tdiv g ≤ -x := Int.tdiv_le_self _ (by omega)
    have h3 : 0 ≤ (-x).tdiv g := Int.tdiv_nonneg (by omega) (by omega)
    omega
  · have h2 : x.tdiv g ≤ x := Int.tdiv_le_self _ hx
    have h3 : 0 ≤ x.tdiv g := Int.tdiv_nonneg hx (by omega)
    omega

theorem gcd_pos {num den : Int} (hd : 0 < den) : 0 < (Int.gcd num den : Int) := by
  have : 0 < Int.gcd num den := Int.gcd_pos_of_ne_zero_right _ (by omega)
  omega

theorem lowN_nonneg {num den : Int} (hn : 0 ≤ num) : 0 ≤ lowN num den := Int.tdiv_nonneg hn (by omega)
theorem lowN_le {num den : Int} (hn : 0 ≤ num) : lowN num den ≤ num := Int.tdiv_le_self _ hn
theorem lowD_le {num den : Int} (hd : 0 < den) : lowD num den ≤ den := Int.tdiv_le_self _ (by omega)
theorem lowD_mul {num den : Int} : lowD num den * (Int.gcd num den : Int) = den := by
  unfold lowD
  rw [Int.tdiv_eq_ediv_of_dvd (Int.gcd_dvd_right ..)]
  exact Int.ediv_mul_cancel (Int.gcd_dvd_right ..)
theorem lowN_mul {num den : Int} : lowN num den * (Int.gcd num den : Int) = num := by
  unfold lowN
  rw [Int.tdiv_eq_ediv_of_dvd (Int.gcd_dvd_left ..)]
  exact Int.ediv_mul_cancel (Int.gcd_dvd_left ..)
theorem lowD_pos {num den : Int} (hd : 0 < den) : 0 < lowD num den := by
  have h1 := gcd_pos (num := num) hd
  have h2 := lowD_mul (num := num) (den := den)
  rcases (show 0 < lowD num den ∨ lowD num den ≤ 0 from by omega) with h | h
  · exact h
  · have := Int.mul_nonneg (show 0 ≤ -lowD num den from by omega) (show 0 ≤ (Int.gcd num den : Int) from by omega)
    rw [Int.neg_mul] at this
    omega
/-- A fraction in lowest terms has the ratio of what it is made of. -/
theorem low_cross {num den : Int} : lowN num den * den = num * lowD num den := by
  have h1 := lowN_mul (num := num) (den := den)
  have h2 := lowD_mul (num := num) (den := den)
  generalize (Int.gcd num den : Int) = g at *
  generalize lowN num den = a at *
  generalize lowD num den = b at *
  subst h1
  subst h2
  rw [Int.mul_right_comm, Int.mul_assoc]
theorem lowN_zero {num den : Int} (hd : 0 < den) : lowN num den = 0 ↔ num = 0 := by
  have h1 := lowN_mul (num := num) (den := den)
  have h2 := gcd_pos (num := num) hd
  constructor
  · intro h; rw [h] at h1; omega
  · intro h; rw [h]; simp [lowN]

theorem gcd_abs (num den : Int) (hd : 0 < den) : Nat.gcd (max num (-num)).toNat den.toNat = Int.gcd num den := by
  unfold Int.gcd
  congr 1 <;> omega

set_option maxHeartbeats 400000 in
theorem divisor_any (p q : Nat) (w : World) (hp : p ≤ 4611686018427387904) (hq : 0 < q) (hq1 : q ≤ 4611686018427387904) :
    Calls Try.prog 116 #[.int .i64 p, .int .i64 q] w fun e w' => e = .returned (.int .i64 (Nat.gcd p q : Nat)) ∧ w = w' := by
  go_enter Try.func116, Try.ntmps116
  go_wp2_with fail
  go_loopg [0, 1] p (fun k a b wr => ∃ x y : Nat, k = x ∧ a = .int .i64 x ∧ b = .int .i64 y ∧ 0 < y ∧ x ≤ 4611686018427387904 ∧ y ≤ 4611686018427387904 ∧ Hid (Nat.gcd x y = Nat.gcd p q) ∧ w = wr)
  case atStart => exact ⟨p, q, rfl, rfl, rfl, hq, hp, hq1, Lib.hid rfl, rfl⟩
  case round =>
    obtain ⟨x, y, hk, rfl, rfl, hy, hx1, hy1, H, rfl⟩ := hrel
    by_cases hx : 0 < x
    · have hm : y % x < x := Nat.mod_lt _ hx
      have er : (y : Int) % (x : Int) = ((y % x : Nat) : Int) := by simp
      have er' : (y : Int).tmod (x : Int) = ((y % x : Nat) : Int) := by rw [Int.tmod_eq_emod_of_nonneg (by omega)]; simp
      have hne : ((x : Int) == 0) = false := by rw [beq_eq_false_iff_ne]; omega
      have H2 : Hid (Nat.gcd (y % x) x = Nat.gcd p q) := Lib.hid (by rw [← Nat.gcd_rec, H.out])
      have HK := Lib.hid hk
      generalize y % x = r at *
      clear hk H
      go_wp2_with fail
      have hk := HK.out
      go_roundg r
      case measure => omega
      case rel => exact ⟨r, x, rfl, rfl, rfl, hx, by omega, by omega, H2, rfl⟩
    · obtain rfl : x = 0 := by omega
      go_wp2_with fail
      go_ret
      have := H.out
      rw [Nat.gcd_zero_left] at this
      exact ⟨retI (by rw [this]), rfl⟩

theorem low_facts {num den : Int} (h0 : -4611686018427387904 ≤ num) (h1 : num ≤ 4611686018427387904) (hd : 0 < den) (hd1 : den ≤ 4611686018427387904) :
    ∃ G : Nat, Int.gcd num den = G ∧ 0 < G ∧ num.tdiv (G : Int) = lowN num den ∧ den.tdiv (G : Int) = lowD num den ∧ (-4611686018427387904 ≤ lowN num den ∧ lowN num den ≤ 4611686018427387904) ∧ (-4611686018427387904 ≤ lowD num den ∧ lowD num den ≤ 4611686018427387904) := by
  have hp := gcd_pos (num := num) hd
  exact ⟨Int.gcd num den, rfl, by omega, rfl, rfl, tdiv_le hp h0 h1, tdiv_le hp (by omega) hd1⟩

set_option maxRecDepth 100000 in
set_option maxHeartbeats 400000 in
theorem lowest_any (num den : Int) (w : World) (h0 : -4611686018427387904 ≤ num) (h1 : num ≤ 4611686018427387904) (hd : 0 < den) (hd1 : den ≤ 4611686018427387904) :
    Calls Try.prog 98 #[.int .i64 num, .int .i64 den] w fun e w' => e = .returned (frac (lowN num den) (lowD num den)) ∧ w.grownBy w' none := by
  obtain ⟨G, hG, hG0, e1, e2, ⟨b1, b2⟩, b3, b4⟩ := low_facts h0 h1 hd hd1
  have hab := gcd_abs num den hd
  rw [hG] at hab
  have hGd : G ≤ den.toNat := by rw [← hab]; exact Nat.gcd_le_right _ (by omega)
  have hcall : ∀ (m : Int) w, m = max num (-num) → Calls Try.prog 116 #[.int .i64 m, .int .i64 den] w fun e w' => e = .returned (.int .i64 G) ∧ w = w' := by
    rintro m w rfl
    have hcall := divisor_any (max num (-num)).toNat den.toNat w (by omega) (by omega) (by omega)
    rwa [hab, show (((max num (-num)).toNat : Nat) : Int) = max num (-num) from by omega, show ((den.toNat : Nat) : Int) = den from by omega] at hcall
  have hne : ((G : Int) == 0) = false := by rw [beq_eq_false_iff_ne]; omega
  have hne1 : ¬ (G : Int) = 0 := by omega
  have hne2 : ¬ G = 0 := by omega
  have w1 : IntKind.i64.wrap (lowN num den) = lowN num den := IntWalk.i64_in _ (by omega)
  have w2 : IntKind.i64.wrap (lowD num den) = lowD num den := IntWalk.i64_in _ (by omega)
  have HC := Lib.hid hcall
  clear hcall hab hG b1 b2 b3 b4 hGd
  generalize lowN num den = q1 at *
  generalize lowD num den = q2 at *
  go_enter Try.func98, Try.ntmps98
  go_wp2_with fail
  all_goals
    refine (HC.out _ _ (by omega)).mono ?_
    rintro e w' ⟨rfl, rfl⟩
    clear h0 h1 hd hd1 hG0 HC
    go_wp2_with fail
    go_still_tail 7, (by kernel_rfl)
    change wpList _ _ _ _ _ (w.alloc (.cells #[.int .i64 0, .int .i64 0] 31)).drew
    have hB : Blk (w.alloc (.cells #[.int .i64 0, .int .i64 0] 31)).drew w.heap.size 31 #[.int .i64 0, .int .i64 0] := Blk.new w _ _
    have hg : w.grownBy (w.alloc (.cells #[.int .i64 0, .int .i64 0] 31)).drew none := grown_drew (grown_alloc (grown_refl w) _)
    generalize (w.alloc (.cells #[.int .i64 0, .int .i64 0] 31)).drew = w2 at *
    have c0 := hB.cell 0
    have c1 := hB.cell 1
    have f0 := hB.frozen 0
    have f1 := hB.frozen 1
    simp only [List.getElem?_toArray, List.getElem?_cons_zero, List.getElem?_cons_succ] at c0 c1
    go_wp2_with fail
    refine bodyPost_ret (results_cell_row rfl _ _ w.heap.size _ _ _ _ rfl ((hB.set_ 0 (.int .i64 q1)).set_ 1 (.int .i64 q2)) Try.underlying31 rfl (by kernel_rfl)) rfl ?_
    exact ⟨rfl, grown_set (p := ⟨w.heap.size, 1, none⟩) (grown_set (p := ⟨w.heap.size, 0, none⟩) hg (.inl (Nat.le_refl _)) _) (.inl (Nat.le_refl _)) _⟩

/-- A struct in a cell and a number are returned. -/
theorem results_row_tmp {P : Program} {fn : Func} {p u : Tmp} {ty : TypeId} (h : fn.results = #[.cell p ty, .tmp u]) (tmps : Array Value) (w : World) (g : Nat) (t : TypeId) (cs : Array Value) (fr : Nat × Nat) (d : TypeDesc)
    (hp : tmps.getD p undef = .pointer (some ⟨g, 0, none⟩)) (hg : w.heap[g]? = some (.cells cs t fr))
    (hu : P.underlying ty = some d) (hd : (match d with | .struct _ | .array _ _ => true | _ => false) = true) (hi : (P.info? ty).map (·.size) = some cs.size) :
    (results fn tmps).run P w = .ok (.tuple #[.agg cs, tmps.getD u undef]) w := by
  have hp' : tmps[p]?.getD undef = .pointer (some ⟨g, 0, none⟩) := by simpa using hp
  rw [results_cell_tmp h]
  simp [hp', asAddr, run_loadVar_row w g t ty cs fr d hg hu hd hi, Result.andThen]

set_option maxRecDepth 100000 in
set_option maxHeartbeats 400000 in
theorem refPart_any (num den : Int) (w : World) (h0 : -4611686018427387904 ≤ num) (h1 : num ≤ 4611686018427387904) (hd : 0 < den) (hd1 : den ≤ 4611686018427387904) :
    Calls Try.prog 79 #[.int .i64 num, .int .i64 den] w fun e w' => e = .returned (frac (lowN num den) (lowD num den)) ∧ w.grownBy w' none := by
  obtain ⟨G, hG, hG0, e1, e2, ⟨b1, b2⟩, b3, b4⟩ := low_facts h0 h1 hd hd1
  have hab := gcd_abs num den hd
  rw [hG] at hab
  have hm : 0 ≤ max num (-num) ∧ max num (-num) ≤ 4611686018427387904 := by omega
  have hne : ((G : Int) == 0) = false := by rw [beq_eq_false_iff_ne]; omega
  have hne1 : ¬ (G : Int) = 0 := by omega
  have hne2 : ¬ G = 0 := by omega
  have w1 : IntKind.i64.wrap (lowN num den) = lowN num den := IntWalk.i64_in _ (by omega)
  have w2 : IntKind.i64.wrap (lowD num den) = lowD num den := IntWalk.i64_in _ (by omega)
  have HAB := Lib.hid hab
  clear hab hG b1 b2 b3 b4
  generalize lowN num den = q1 at *
  generalize lowD num den = q2 at *
  go_enter Try.func79, Try.ntmps79
  go_wp2_with fail
  all_goals
    obtain ⟨p0, hp0⟩ : ∃ p0 : Nat, (p0 : Int) = max num (-num) := ⟨(max num (-num)).toNat, by omega⟩
    obtain ⟨r0, hr0⟩ : ∃ r0 : Nat, (r0 : Int) = den := ⟨den.toNat, by omega⟩
    have H0 : Hid (Nat.gcd p0 r0 = G) := Lib.hid (by rw [← HAB.out, ← hp0, ← hr0]; rfl)
    go_loopg [5, 6] r0 (fun k a b wr => ∃ x y : Nat, k = y ∧ a = .int .i64 x ∧ b = .int .i64 y ∧ x ≤ 4611686018427387904 ∧ y ≤ 4611686018427387904 ∧ Hid (Nat.gcd x y = G) ∧ Dr (w.alloc (.cells #[.int .i64 0, .int .i64 0] 31)) wr)
    case atStart => exact ⟨p0, r0, rfl, by congr 1; omega, by congr 1; omega, by omega, by omega, H0, Dr.refl _⟩
    case round =>
      obtain ⟨x, y, hk, rfl, rfl, hx1, hy1, H, hdr⟩ := hrel
      by_cases hy : 0 < y
      · have hm : x % y < y := Nat.mod_lt _ hy
        have er : (x : Int) % (y : Int) = ((x % y : Nat) : Int) := by simp
        have er' : (x : Int).tmod (y : Int) = ((x % y : Nat) : Int) := by rw [Int.tmod_eq_emod_of_nonneg (by omega)]; simp
        have hyne : ((y : Int) == 0) = false := by rw [beq_eq_false_iff_ne]; omega
        have hyn : ((y : Int) != 0) = true := by rw [bne_iff_ne]; omega
        have H2 : Hid (Nat.gcd y (x % y) = G) := Lib.hid (by rw [Nat.gcd_comm, ← Nat.gcd_rec, Nat.gcd_comm, H.out])
        have HK := Lib.hid hk
        have HM := Lib.hid hm
        generalize x % y = r at *
        clear hk H hp0 hr0 H0 hm HAB
        go_wp2_with fail
        go_quiet (fail)
        go_wp2_with fail
        have hk := HK.out
        have hm := HM.out
        go_roundg r
        case measure => omega
        case rel => exact ⟨y, r, rfl, rfl, rfl, hy1, by omega, H2, hdr.more _⟩
      · obtain rfl : y = 0 := by omega
        have hyn : (((0 : Nat) : Int) != 0) = false := by simp
        have hxG := H.out
        rw [Nat.gcd_zero_right] at hxG
        subst hxG
        clear hp0 hr0 H0 HAB H
        go_wp2_with fail
        have hB0 : Blk (w.alloc (.cells #[.int .i64 0, .int .i64 0] 31)) w.heap.size 31 #[.int .i64 0, .int .i64 0] := Blk.new w _ _
        have hB1 := hB0.grown hdr.grown (by simp)
        have hg1 := (grown_alloc (grown_refl w) (.cells #[.int .i64 0, .int .i64 0] 31)).trans hdr.grown
        clear hB0 hdr h0 h1 hd hd1 hm hx1 hy1 hG0
        go_still_tail 7, (by kernel_rfl)
        change wpList _ _ _ _ _ wr.drew
        have hB : Blk wr.drew w.heap.size 31 #[.int .i64 0, .int .i64 0] := hB1
        have hg := grown_drew hg1
        clear hB1 hg1
        generalize wr.drew = w2 at *
        have c0 := hB.cell 0
        have c1 := hB.cell 1
        have f0 := hB.frozen 0
        have f1 := hB.frozen 1
        simp only [List.getElem?_toArray, List.getElem?_cons_zero, List.getElem?_cons_succ] at c0 c1
        go_wp2_with fail
        refine bodyPost_ret (results_cell_row rfl _ _ w.heap.size _ _ _ _ rfl ((hB.set_ 0 (.int .i64 q1)).set_ 1 (.int .i64 q2)) Try.underlying31 rfl (by kernel_rfl)) rfl ?_
        exact ⟨rfl, grown_set (p := ⟨w.heap.size, 1, none⟩) (grown_set (p := ⟨w.heap.size, 0, none⟩) hg (.inl (Nat.le_refl _)) _) (.inl (Nat.le_refl _)) _⟩

end Go.Proofs.Ytkfijicmeekmiaa
