/- The walks of Uncover and of the reference's UncoverOf. -/
import Derived.Test.YtkfijicmeekmiaaRates
import Derived.Test.YtkfijicmeekmiaaMade
namespace Go.Proofs.Ytkfijicmeekmiaa
open Go.RowKit

/-- The rate rounded up. -/
def usualI (l : List Sal) : Int := if cntP lastB l = 0 then 0 else (meanN lastB l + meanD lastB l - 1) / meanD lastB l
def uncB (u : Int) (t : Sal) : Int := if t.o then max t.s u else t.s
def uncL (l : List Sal) : List Int := l.map (uncB (usualI l))

theorem usual_bound {l : List Sal} (h : ∀ t ∈ l, 0 ≤ t.s ∧ t.s ≤ 1000) (hn : l.length ≤ 400) : 0 ≤ usualI l ∧ usualI l ≤ 1000000 := by
  unfold usualI
  by_cases h0 : cntP lastB l = 0
  · rw [if_pos h0]; omega
  · rw [if_neg h0]
    obtain ⟨a0, a1⟩ := sumP_bound (p := lastB) h
    have ha : meanN lastB l = lowN (sumP lastB l) (cntP lastB l) := by unfold meanN; rw [if_neg h0]
    have hb : meanD lastB l = lowD (sumP lastB l) (cntP lastB l) := by unfold meanD; rw [if_neg h0]
    have n0 := lowN_nonneg (den := (cntP lastB l : Int)) a0
    have n1 := lowN_le (den := (cntP lastB l : Int)) a0
    have d0 := lowD_pos (num := sumP lastB l) (den := (cntP lastB l : Int)) (by omega)
    have d1 := lowD_le (num := sumP lastB l) (den := (cntP lastB l : Int)) (by omega)
    have c1 := cntP_le lastB l
    rw [ha, hb]
    have h1 := Int.ediv_le_self (a := lowN (sumP lastB l) (cntP lastB l) + lowD (sumP lastB l) (cntP lastB l) - 1) (lowD (sumP lastB l) (cntP lastB l)) (by omega)
    have h2 := Int.ediv_nonneg (a := lowN (sumP lastB l) (cntP lastB l) + lowD (sumP lastB l) (cntP lastB l) - 1) (b := lowD (sumP lastB l) (cntP lastB l)) (by omega) (by omega)
    omega

theorem uncL_at {l : List Sal} {j : Nat} {t : Sal} (h : l[j]? = some t) : (uncL l)[j]? = some (uncB (usualI l) t) := by simp [uncL, h]

theorem mean_bound {p : Sal → Bool} {l : List Sal} (h : ∀ t ∈ l, 0 ≤ t.s ∧ t.s ≤ 1000) (hn : l.length ≤ 400) : cntP p l ≠ 0 → 0 < meanD p l ∧ meanD p l ≤ 1000000 ∧ 0 ≤ meanN p l ∧ meanN p l ≤ 1000000 := by
  intro h0
  obtain ⟨a0, a1⟩ := sumP_bound (p := p) (l := l) h
  have n0 := lowN_nonneg (den := (cntP p l : Int)) a0
  have n1 := lowN_le (den := (cntP p l : Int)) a0
  have d0 := lowD_pos (num := sumP p l) (den := (cntP p l : Int)) (by omega)
  have d1 := lowD_le (num := sumP p l) (den := (cntP p l : Int)) (by omega)
  have c1 := cntP_le p l
  unfold meanD meanN
  rw [if_neg h0, if_neg h0]
  omega

theorem up_lt {a b x : Int} (hb : 0 < b) : x * b < a ↔ x < (a + b - 1) / b := by
  constructor
  · intro h
    have h1 : (x + 1) * b ≤ a + b - 1 := by rw [Int.add_mul]; omega
    have := Int.le_ediv_of_mul_le hb h1
    omega
  · intro h
    have h1 : (x + 1) * b ≤ (a + b - 1) / b * b := Int.mul_le_mul_of_nonneg_right (by omega) (by omega)
    have h2 := Int.ediv_mul_le (a + b - 1) (b := b) (by omega)
    rw [Int.add_mul] at h1
    omega

set_option maxRecDepth 100000 in
set_option maxHeartbeats 1000000 in
theorem uncover_any (A : Option Addr) (n c : Nat) (l : List Sal) (w : World) (hr : Rd w 3 A n (salFlat l)) (hn : n ≤ 400) (hf : dayFault l = 0) :
    Calls Try.prog 17 #[.slice A n c] w fun e w' => ∃ v, e = .returned (.tuple #[v, .int .i64 0]) ∧ w'.ownsRow w.heap.size 3 1 v n (ints (uncL l)) ∧ w.grownBy w' none := by
  have hl : l.length = n := by have := hr.1; rw [salFlat_len] at this; omega
  have hul : (uncL l).length = n := by simp [uncL, hl]
  have hck := checkDays_any A n c l w hr hn
  rw [hf] at hck
  obtain ⟨_, hok⟩ := days_ok hf
  have hm := fun w1 (hg : w.grownBy w1 none) => meanLast A n c l w1 (hr.grown hg) hn fun t ht => (hok t ht).2
  have hmk := make_ints n (by omega)
  have hus := usual_bound (fun t ht => (hok t ht).2) (by omega)
  have hat := fun j t (h : l[j]? = some t) => uncL_at h
  have hud : usualI l = if cntP lastB l = 0 then 0 else (meanN lastB l + meanD lastB l - 1) / meanD lastB l := rfl
  have hmb : cntP lastB l ≠ 0 → 0 < meanD lastB l ∧ meanD lastB l ≤ 1000000 ∧ 0 ≤ meanN lastB l ∧ meanN lastB l ≤ 1000000 := by
    intro h0
    obtain ⟨a0, a1⟩ := sumP_bound (p := lastB) (l := l) fun t ht => (hok t ht).2
    have n0 := lowN_nonneg (den := (cntP lastB l : Int)) a0
    have n1 := lowN_le (den := (cntP lastB l : Int)) a0
    have d0 := lowD_pos (num := sumP lastB l) (den := (cntP lastB l : Int)) (by omega)
    have d1 := lowD_le (num := sumP lastB l) (den := (cntP lastB l : Int)) (by omega)
    have c1 := cntP_le lastB l
    unfold meanD meanN
    rw [if_neg h0, if_neg h0]
    omega
  unfold meanV frac at hm
  have hdiv : cntP lastB l ≠ 0 → (meanN lastB l + meanD lastB l - 1).tdiv (meanD lastB l) = usualI l := by
    intro h0
    have := hmb h0
    rw [hud, if_neg h0, Int.tdiv_eq_ediv_of_nonneg (by omega)]
  have hu0 : cntP lastB l = 0 → usualI l = 0 := fun h0 => by rw [hud, if_pos h0]
  clear hud
  generalize uncL l = U at *
  generalize usualI l = u at *
  generalize meanN lastB l = a at *
  generalize meanD lastB l = b at *
  generalize cntP lastB l = q at *
  have HA := Lib.hid hat
  have HL := Lib.hid (And.intro hl hul)
  have HC := Lib.hid (And.intro hck hm)
  have HO := Lib.hid hok
  clear hck hm hok hf hat hl hul
  by_cases h0 : q = 0
  · obtain rfl := hu0 h0
    have hd0 : decide (q ≠ 0) = false := by simp [h0]
    clear hmb hdiv hu0 h0
    rw [hd0] at HC
    clear hd0
    go_enter Try.func17, Try.ntmps17
    go_wp2_with fail
    refine HC.out.1.mono ?_
    rintro e w1 ⟨rfl, hg1⟩
    go_wp2_with fail
    refine (HC.out.2 _ hg1).mono ?_
    rintro e w2 ⟨rfl, hg2⟩
    have hgg2 := hg1.trans hg2
    have hg0 := grown_alloc hgg2 (.cells #[.int .i64 a, .int .i64 b] 31)
    have hsz0 := hg0.size
    go_wp2_with fail
    have hown0 := made_ints (w2.alloc (.cells #[.int .i64 a, .int .i64 b] 31)) n (by omega)
    have hga := grown_alloc hg0 (.cells (madeCells #[.int .i64 0] n) 3)
    have hz1 : (w2.alloc (.cells #[.int .i64 a, .int .i64 b] 31)).heap.size = w2.heap.size + 1 := by simp
    rw [hz1] at hown0 hsz0
    generalize (w2.alloc (.cells #[.int .i64 a, .int .i64 b] 31)).alloc (.cells (madeCells #[.int .i64 0] n) 3) = w3 at *
    obtain ⟨g, hg⟩ : ∃ g, g = w2.heap.size + 1 := ⟨_, rfl⟩
    rw [← hg] at hown0 hsz0 ⊢
    clear hmk hz1 hg hg0 hgg2 hg1 hg2
    go_loopg [36] n (fun k i wr => ∃ j : Nat, k + j = n ∧ i = .int .i64 j ∧ wr.ownsRow g 3 1 (.slice (some ⟨g, 0, none⟩) n n) n (ints (fill U n j)) ∧ w.grownBy wr none)
    case atStart => exact ⟨0, by omega, rfl, by rw [fill_zero]; exact hown0, hga⟩
    case round =>
      obtain ⟨j, hj, rfl, hown, hg⟩ := hrel
      by_cases hlt : j < n
      · obtain ⟨bb, off, rfl, hb, t, ht, c0, c1, c2⟩ := sal_cells (hr.grown hg) hlt
        have hUj := HA.out j t ht
        have hts := HO.out t (List.mem_of_getElem? ht)
        have hst := fill_set HL.out.2 hlt hUj
        obtain ⟨s0, s1⟩ := hts.2
        obtain ⟨g', cap', hv, hgb, hglt⟩ := hown.form (by omega)
        cases hv
        have hgne : g ≠ wr.heap.size := by omega
        have e0 := own_int hown hlt
        have f0 := hown.frozenAt j
        have o1 := own_int_set hown j t.s
        have o2 := own_int_set o1 j (max t.s 0)
        rw [List.set_set] at o2
        have hlt' : (j : Int) < (n : Int) := by omega
        have HS := Lib.hid (And.intro hst (And.intro hj (And.intro o1 o2)))
        clear hst hj o1 o2 hUj ht hts hown
        by_cases ho : t.o = true
        · have hmx : uncB 0 t = max t.s 0 := by unfold uncB; rw [if_pos ho]
          have HM := Lib.hid hmx
          clear hmx
          generalize t.o = to at *
          subst ho
          by_cases hle : t.s < 0
          case' pos => exact absurd hle (by omega)
          case' neg => have hmm : max t.s 0 = t.s := by omega
          all_goals
            have HQ := Lib.hid hmm
            clear hmm
            go_wp2_with fail
            obtain ⟨hst, hj, o1, o3⟩ := HS.out
            rw [← HM.out, hst, HM.out, HQ.out] at o3
            go_roundg (gk - 1)
            case measure => omega
            case rel => exact ⟨j + 1, by omega, by go_num, o3.alloc _, grown_alloc (grown_set (p := ⟨g, j, none⟩) (grown_set (p := ⟨g, j, none⟩) hg (.inl hsz0) _) (.inl hsz0) _) _⟩
        · have hmx : uncB 0 t = t.s := by unfold uncB; rw [if_neg ho]
          have ho' : t.o = false := by simpa using ho
          have HM := Lib.hid hmx
          clear hmx ho
          generalize t.o = to at *
          subst ho'
          go_wp2_with fail
          obtain ⟨hst, hj, o1, o3⟩ := HS.out
          rw [← HM.out, hst, HM.out] at o1
          go_roundg (gk - 1)
          case measure => omega
          case rel => exact ⟨j + 1, by omega, by go_num, o1.alloc _, grown_alloc (grown_set (p := ⟨g, j, none⟩) hg (.inl hsz0) _) _⟩
      · obtain rfl : j = n := by omega
        rw [fill_full HL.out.2] at hown
        go_wp2_with fail
        go_ret2
        exact ⟨_, rfl, own_mono hown (by omega), hg⟩
  · obtain ⟨b0, b1, a0, a1⟩ := hmb h0
    have hdv := hdiv h0
    have hd0 : decide (q ≠ 0) = true := by simp [h0]
    have hbn : ¬ b = 0 := by omega
    have hbq : (b == 0) = false := by rw [beq_eq_false_iff_ne]; exact hbn
    clear hmb hdiv hu0 h0
    rw [hd0] at HC
    clear hd0
    go_enter Try.func17, Try.ntmps17
    go_wp2_with fail
    refine HC.out.1.mono ?_
    rintro e w1 ⟨rfl, hg1⟩
    go_wp2_with fail
    refine (HC.out.2 _ hg1).mono ?_
    rintro e w2 ⟨rfl, hg2⟩
    have hgg2 := hg1.trans hg2
    have hg0 := grown_alloc hgg2 (.cells #[.int .i64 a, .int .i64 b] 31)
    have hsz0 := hg0.size
    go_wp2_with fail
    have hown0 := made_ints (w2.alloc (.cells #[.int .i64 a, .int .i64 b] 31)) n (by omega)
    have hga := grown_alloc hg0 (.cells (madeCells #[.int .i64 0] n) 3)
    have hz1 : (w2.alloc (.cells #[.int .i64 a, .int .i64 b] 31)).heap.size = w2.heap.size + 1 := by simp
    rw [hz1] at hown0 hsz0
    generalize (w2.alloc (.cells #[.int .i64 a, .int .i64 b] 31)).alloc (.cells (madeCells #[.int .i64 0] n) 3) = w3 at *
    obtain ⟨g, hg⟩ : ∃ g, g = w2.heap.size + 1 := ⟨_, rfl⟩
    rw [← hg] at hown0 hsz0 ⊢
    clear hmk hz1 hg hg0 hgg2 hg1 hg2
    go_loopg [36] n (fun k i wr => ∃ j : Nat, k + j = n ∧ i = .int .i64 j ∧ wr.ownsRow g 3 1 (.slice (some ⟨g, 0, none⟩) n n) n (ints (fill U n j)) ∧ w.grownBy wr none)
    case atStart => exact ⟨0, by omega, rfl, by rw [fill_zero]; exact hown0, hga⟩
    case round =>
      obtain ⟨j, hj, rfl, hown, hg⟩ := hrel
      by_cases hlt : j < n
      · obtain ⟨bb, off, rfl, hb, t, ht, c0, c1, c2⟩ := sal_cells (hr.grown hg) hlt
        have hUj := HA.out j t ht
        have hts := HO.out t (List.mem_of_getElem? ht)
        have hst := fill_set HL.out.2 hlt hUj
        obtain ⟨s0, s1⟩ := hts.2
        obtain ⟨g', cap', hv, hgb, hglt⟩ := hown.form (by omega)
        cases hv
        have hgne : g ≠ wr.heap.size := by omega
        have e0 := own_int hown hlt
        have f0 := hown.frozenAt j
        have o1 := own_int_set hown j t.s
        have o2 := own_int_set o1 j (max t.s u)
        rw [List.set_set] at o2
        have hlt' : (j : Int) < (n : Int) := by omega
        have HS := Lib.hid (And.intro hst (And.intro hj (And.intro o1 o2)))
        clear hst hj o1 o2 hUj ht hts hown
        by_cases ho : t.o = true
        · have hmx : uncB u t = max t.s u := by unfold uncB; rw [if_pos ho]
          have HM := Lib.hid hmx
          clear hmx
          generalize t.o = to at *
          subst ho
          by_cases hle : t.s < u
          case' pos => have hmm : max t.s u = u := by omega
          case' neg => have hmm : max t.s u = t.s := by omega
          all_goals
            have HQ := Lib.hid hmm
            clear hmm
            go_wp2_with fail
            obtain ⟨hst, hj, o1, o3⟩ := HS.out
            rw [← HM.out, hst, HM.out, HQ.out] at o3
            go_roundg (gk - 1)
            case measure => omega
            case rel => exact ⟨j + 1, by omega, by go_num, o3.alloc _, grown_alloc (grown_set (p := ⟨g, j, none⟩) (grown_set (p := ⟨g, j, none⟩) hg (.inl hsz0) _) (.inl hsz0) _) _⟩
        · have hmx : uncB u t = t.s := by unfold uncB; rw [if_neg ho]
          have ho' : t.o = false := by simpa using ho
          have HM := Lib.hid hmx
          clear hmx ho
          generalize t.o = to at *
          subst ho'
          go_wp2_with fail
          obtain ⟨hst, hj, o1, o3⟩ := HS.out
          rw [← HM.out, hst, HM.out] at o1
          go_roundg (gk - 1)
          case measure => omega
          case rel => exact ⟨j + 1, by omega, by go_num, o1.alloc _, grown_alloc (grown_set (p := ⟨g, j, none⟩) hg (.inl hsz0) _) _⟩
      · obtain rfl : j = n := by omega
        rw [fill_full HL.out.2] at hown
        go_wp2_with fail
        go_ret2
        exact ⟨_, rfl, own_mono hown (by omega), hg⟩

set_option maxRecDepth 100000 in
set_option maxHeartbeats 400000 in
theorem uncover_bad (A : Option Addr) (n c : Nat) (l : List Sal) (w : World) (hr : Rd w 3 A n (salFlat l)) (hn : n ≤ 400) (hf : dayFault l ≠ 0) :
    Calls Try.prog 17 #[.slice A n c] w fun e w' => e = .returned (.tuple #[.slice none 0 0, .int .i64 (dayFault l)]) ∧ w.grownBy w' none := by
  have hck := checkDays_any A n c l w hr hn
  have hne : (dayFault l != 0) = true := by rw [bne_iff_ne]; exact hf
  generalize dayFault l = f at *
  have HC := Lib.hid hck
  clear hck hf
  go_enter Try.func17, Try.ntmps17
  go_wp2_with fail
  refine HC.out.mono ?_
  rintro e w1 ⟨rfl, hg1⟩
  go_wp2_with fail
  go_ret2
  exact ⟨rfl, hg1⟩

set_option maxRecDepth 100000 in
set_option maxHeartbeats 400000 in
theorem refUncover_any (A : Option Addr) (n c : Nat) (l : List Sal) (w : World) (hr : Rd w 3 A n (salFlat l)) (hn : n ≤ 400) (hf : dayFault l = 0) :
    Calls Try.prog 23 #[.slice A n c] w fun e w' => ∃ v, e = .returned v ∧ w'.ownsRow w.heap.size 3 1 v n (ints (uncL l)) ∧ w.grownBy w' none := by
  have hl : l.length = n := by have := hr.1; rw [salFlat_len] at this; omega
  have hul : (uncL l).length = n := by simp [uncL, hl]
  obtain ⟨_, hok⟩ := days_ok hf
  have hm := fun w1 (hg : w.grownBy w1 none) => refRateOf_all A n c l w1 (hr.grown hg) hn fun t ht => (hok t ht).2
  have hus := usual_bound (fun t ht => (hok t ht).2) (by omega)
  have hat := fun j t (h : l[j]? = some t) => uncL_at h
  have hud : usualI l = if cntP lastB l = 0 then 0 else (meanN lastB l + meanD lastB l - 1) / meanD lastB l := rfl
  have hmb : cntP lastB l ≠ 0 → 0 < meanD lastB l ∧ meanD lastB l ≤ 1000000 ∧ 0 ≤ meanN lastB l ∧ meanN lastB l ≤ 1000000 := mean_bound (fun t ht => (hok t ht).2) (by omega)
  unfold meanV frac at hm
  have hup : cntP lastB l ≠ 0 → ∀ x : Int, x * meanD lastB l < meanN lastB l ↔ x < usualI l := by
    intro h0 x
    obtain ⟨b0, _, a0, _⟩ := hmb h0
    rw [hud, if_neg h0]
    exact up_lt b0
  have hu0 : cntP lastB l = 0 → usualI l = 0 := fun h0 => by rw [hud, if_pos h0]
  clear hud
  generalize uncL l = U at *
  generalize usualI l = u at *
  generalize meanN lastB l = a at *
  generalize meanD lastB l = b at *
  generalize cntP lastB l = q at *
  have hq : (decide (q ≠ 0) = true) ↔ q ≠ 0 := by simp
  generalize hok1 : decide (q ≠ 0) = ok at *
  have HA := Lib.hid hat
  have HL := Lib.hid (And.intro hl hul)
  have HC := Lib.hid hm
  have HO := Lib.hid hok
  have HQ := Lib.hid (And.intro hq (And.intro hmb (And.intro hup hu0)))
  clear hm hok hf hat hl hul hq hok1 hmb hup hu0
  go_enter Try.func23, Try.ntmps23
  go_wp2_with fail
  refine (HC.out _ (grown_refl w)).mono ?_
  rintro e w2 ⟨rfl, hg2⟩
  have hsz0 := hg2.size
  have hB0 := Blk.new w2 31 #[.int .i64 a, .int .i64 b]
  have hg0 := grown_alloc hg2 (.cells #[.int .i64 a, .int .i64 b] 31)
  have hz1 : (w2.alloc (.cells #[.int .i64 a, .int .i64 b] 31)).heap.size = w2.heap.size + 1 := by simp
  go_wp2_with fail
  generalize w2.alloc (.cells #[.int .i64 a, .int .i64 b] 31) = w3 at *
  have HZ := Lib.hid (And.intro hz1 hsz0)
  clear hz1 hsz0
  go_loopg [5, 16] n (fun k v i wr => ∃ j : Nat, k + j = n ∧ i = .int .i64 j ∧ wr.ownsRow w3.heap.size 3 1 v (U.take j).length (ints (U.take j)) ∧ w3.grownBy wr none)
  case atStart => exact ⟨0, by omega, rfl, World.ownsRow_nil _ _ _ _, grown_refl w3⟩
  case round =>
    obtain ⟨j, hj, rfl, hown, hg⟩ := hrel
    by_cases hlt : j < n
    · obtain ⟨bb, off, rfl, hb, t, ht, c0, c1, c2⟩ := sal_cells ((hr.grown hg0).grown hg) hlt
      have hUj := HA.out j t ht
      have htk := take_at hUj
      obtain ⟨⟨_, _⟩, s0, s1⟩ := HO.out t (List.mem_of_getElem? ht)
      have hBr := hB0.grown hg (by simp)
      have hgr := grown_alloc hg (.cells #[.int .i64 t.d, .int .i64 t.s, .bool t.o] 79)
      have hownr := hown.alloc (.cells #[.int .i64 t.d, .int .i64 t.s, .bool t.o] 79)
      have hBa := hBr.alloc (.cells #[.int .i64 t.d, .int .i64 t.s, .bool t.o] 79)
      have hbox := Blk.new wr 79 #[.int .i64 t.d, .int .i64 t.s, .bool t.o]
      have hll : (U.take j).length ≤ 1000000000 := by rw [List.length_take]; omega
      have HS := Lib.hid (And.intro htk hj)
      clear htk hj hUj ht hown hBr
      generalize U.take j = l0 at *
      have hz0 : w2.heap.size ≠ wr.heap.size := by
        have h1 := hg.size
        have h2 := HZ.out.1
        omega
      have hwz : w3.heap.size ≤ (wr.alloc (.cells #[.int .i64 t.d, .int .i64 t.s, .bool t.o] 79)).heap.size := hgr.size
      generalize gk = ko at *
      go_wp2_with fail
      obtain ⟨B, hB⟩ : ∃ B, B = wr.heap.size := ⟨_, rfl⟩
      rw [← hB] at hbox hz0 ⊢
      clear hB c0 c1 c2
      generalize wr.alloc (.cells #[.int .i64 t.d, .int .i64 t.s, .bool t.o] 79) = wb at *
      obtain ⟨d0, d1, d2, _, _, _⟩ := hbox.three
      obtain ⟨g0, g1, _, _⟩ := hBa.two
      have hunc : uncB u t = if t.o then max t.s u else t.s := rfl
      have HU := Lib.hid hunc
      clear hunc
      go_loopg [8] 1000001 (fun k xv wx => ∃ x : Int, xv = .int .i64 x ∧ t.s ≤ x ∧ x ≤ uncB u t ∧ 1000000 - x < k ∧ x ≤ 1000000 ∧ wx = wb)
      case atStart => exact ⟨t.s, rfl, Int.le_refl _, by rw [HU.out]; split <;> omega, by omega, by omega, rfl⟩
      case round =>
        obtain ⟨x, rfl, hx0, hx1, hxk, hxm, rfl⟩ := hrel
        by_cases ho : t.o = true
        · have hU1 : uncB u t = max t.s u := by rw [HU.out, if_pos ho]
          rw [hU1] at hx1
          generalize t.o = to at *
          subst ho
          by_cases hk : ok = true
          · obtain ⟨b0, b1, a0, a1⟩ := HQ.out.2.1 (HQ.out.1.1 hk)
            have hiff := HQ.out.2.2.1 (HQ.out.1.1 hk) x
            have p0 : 0 ≤ x * b := Int.mul_nonneg (by omega) (by omega)
            have p1 : x * b ≤ 1000000 * 1000000 := Int.mul_le_mul hxm b1 (by omega) (by omega)
            subst hk
            by_cases hxu : x < u
            · have hlt2 := hiff.2 hxu
              clear hiff
              go_wp2_with fail
              go_roundg (gk - 1)
              case measure => omega
              case rel => exact ⟨x + 1, by go_num, by omega, by rw [hU1]; omega, by omega, by omega, rfl⟩
            · have hlt2 : ¬ x * b < a := fun h => hxu (hiff.1 h)
              have HX : Hid (x = uncB u t) := Lib.hid (by rw [hU1]; omega)
              clear hiff
              go_wp2_with (at_builtin; refine ap_int wr x rfl _ _ rfl w3.heap.size _ l0 rfl hownr rfl hll hwz ?_; intro v5 w5 hown5 hg5)
              obtain ⟨htk, hj⟩ := HS.out
              go_roundg (ko - 1)
              case measure => omega
              case rel => exact ⟨j + 1, by omega, by go_num, by rw [htk, ← HX.out]; exact hown5, ap_grown hgr hownr hg5 (Nat.le_refl _)⟩
          · have hk' : ok = false := by simpa using hk
            have hu := HQ.out.2.2.2 (Decidable.byContradiction fun h => hk (HQ.out.1.2 h))
            have HX : Hid (x = uncB u t) := Lib.hid (by rw [hU1]; omega)
            clear hu hk
            subst hk'
            go_wp2_with (at_builtin; refine ap_int wr x rfl _ _ rfl w3.heap.size _ l0 rfl hownr rfl hll hwz ?_; intro v5 w5 hown5 hg5)
            obtain ⟨htk, hj⟩ := HS.out
            go_roundg (ko - 1)
            case measure => omega
            case rel => exact ⟨j + 1, by omega, by go_num, by rw [htk, ← HX.out]; exact hown5, ap_grown hgr hownr hg5 (Nat.le_refl _)⟩
        · have ho' : t.o = false := by simpa using ho
          have hU1 : uncB u t = t.s := by rw [HU.out, if_neg ho]
          rw [hU1] at hx1
          have HX : Hid (x = uncB u t) := Lib.hid (by rw [hU1]; omega)
          clear ho hU1
          generalize t.o = to at *
          subst ho'
          go_wp2_with (at_builtin; refine ap_int wr x rfl _ _ rfl w3.heap.size _ l0 rfl hownr rfl hll hwz ?_; intro v5 w5 hown5 hg5)
          obtain ⟨htk, hj⟩ := HS.out
          go_roundg (ko - 1)
          case measure => omega
          case rel => exact ⟨j + 1, by omega, by go_num, by rw [htk, ← HX.out]; exact hown5, ap_grown hgr hownr hg5 (Nat.le_refl _)⟩
    · obtain rfl : j = n := by omega
      rw [List.take_of_length_le (by rw [HL.out.2]; omega), HL.out.2] at hown
      go_wp2_with fail
      go_ret
      exact ⟨_, rfl, own_mono hown (by have := HZ.out; omega), hg0.trans hg⟩

end Go.Proofs.Ytkfijicmeekmiaa
