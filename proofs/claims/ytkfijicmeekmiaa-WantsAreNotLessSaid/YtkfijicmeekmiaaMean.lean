/- The walks of mean and of the reference's rateOf, for a function that only looks at a day. -/
import Derived.Test.YtkfijicmeekmiaaOver
import Derived.Test.YtkfijicmeekmiaaSal
import Derived.Shelf.Abstract
namespace Go.Proofs.Ytkfijicmeekmiaa
open Go.RowKit

/-- The sum of Sold of the days that are kept; how many they are. -/
def sumP (p : Sal → Bool) (l : List Sal) : Int := ((l.filter p).map (·.s)).sum
def cntP (p : Sal → Bool) (l : List Sal) : Nat := (l.filter p).length
theorem sumP_step {p : Sal → Bool} {l : List Sal} {j : Nat} {t : Sal} (h : l[j]? = some t) : sumP p (l.take (j + 1)) = sumP p (l.take j) + (if p t then t.s else 0) := by
  unfold sumP; rw [take_at h, List.filter_append, List.map_append, List.sum_append]
  by_cases hp : p t = true
  · simp [hp]
  · simp [hp]
theorem cntP_step {p : Sal → Bool} {l : List Sal} {j : Nat} {t : Sal} (h : l[j]? = some t) : cntP p (l.take (j + 1)) = cntP p (l.take j) + (if p t then 1 else 0) := by
  unfold cntP; rw [take_at h, List.filter_append, List.length_append]
  by_cases hp : p t = true
  · simp [hp]
  · simp [hp]
theorem cntP_le (p : Sal → Bool) (l : List Sal) : cntP p l ≤ l.length := List.length_filter_le _ _
theorem sumP_bound {p : Sal → Bool} : ∀ {l : List Sal}, (∀ t ∈ l, 0 ≤ t.s ∧ t.s ≤ 1000) → 0 ≤ sumP p l ∧ sumP p l ≤ 1000 * l.length
  | [], _ => by simp [sumP]
  | a :: l, h => by
    have ih := sumP_bound (p := p) (l := l) fun t ht => h t (by simp [ht])
    have ha := h a (by simp)
    have e : sumP p (a :: l) = (if p a then a.s else 0) + sumP p l := by
      unfold sumP
      by_cases hp : p a = true
      · simp [hp]
      · simp [hp]
    rw [e, List.length_cons]
    split <;> omega

/-- The mean of Sold of the days that are kept. -/
def meanN (p : Sal → Bool) (l : List Sal) : Int := if cntP p l = 0 then 0 else lowN (sumP p l) (cntP p l)
def meanD (p : Sal → Bool) (l : List Sal) : Int := if cntP p l = 0 then 0 else lowD (sumP p l) (cntP p l)
def meanV (p : Sal → Bool) (l : List Sal) : Value := .tuple #[frac (meanN p l) (meanD p l), .bool (decide (cntP p l ≠ 0))]

set_option maxRecDepth 100000 in
set_option maxHeartbeats 400000 in
theorem mean0_any (g : Nat) (p : Sal → Bool) (A : Option Addr) (n c : Nat) (l : List Sal) (w : World) (hr : Rd w 3 A n (salFlat l)) (hn : n ≤ 400) (hb : ∀ t ∈ l, 0 ≤ t.s ∧ t.s ≤ 1000) (he : Enters Try.prog g)
    (hf : ∀ (x : Sal) w1, w.grownBy w1 none → Calls Try.prog g #[.agg #[.int .i64 x.d, .int .i64 x.s, .bool x.o]] w1 fun e w2 => e = .returned (.bool (p x)) ∧ w1.grownBy w2 none) :
    Calls Try.prog 71 #[.slice A n c, .func (.func g) #[] #[]] w fun e w' => e = .returned (meanV p l) ∧ w.grownBy w' none := by
  have hl : l.length = n := by have := hr.1; rw [salFlat_len] at this; omega
  have HL := Lib.hid hl
  have HF := Lib.hid hf
  have HB := Lib.hid hb
  have he' : ∀ (args : Array Value) (w : World), (callFunc g args).run Try.prog w = .ok (.enter g args) w := he
  clear hl hf he hb
  go_enter Try.func71, Try.ntmps71
  go_wp2_with fail
  have hB0 := Blk.new w 31 #[.int .i64 0, .int .i64 0]
  have hg0 := grown_alloc (grown_refl w) (.cells #[.int .i64 0, .int .i64 0] 31)
  have hz0 : (w.alloc (.cells #[.int .i64 0, .int .i64 0] 31)).heap.size = w.heap.size + 1 := by simp
  generalize w.alloc (.cells #[.int .i64 0, .int .i64 0] 31) = w0 at *
  have HZ := Lib.hid hz0
  clear hz0
  go_loopg [6, 7, 12] n (fun k s q i wr => ∃ j : Nat, k + j = n ∧ i = .int .i64 j ∧ s = .int .i64 (sumP p (l.take j)) ∧ q = .int .i64 (cntP p (l.take j)) ∧ w0.grownBy wr none)
  case atStart => exact ⟨0, by omega, rfl, rfl, rfl, grown_refl w0⟩
  case round =>
    obtain ⟨j, hj, rfl, rfl, rfl, hg⟩ := hrel
    by_cases hlt : j < n
    · obtain ⟨b, off, rfl, hb, t, ht, c0, c1, c2⟩ := sal_cells ((hr.grown hg0).grown hg) hlt
      have hs := sumP_step (p := p) ht
      have hq := cntP_step (p := p) ht
      obtain ⟨s0, s1⟩ := sumP_bound (p := p) (l := l.take j) fun t ht => HB.out t (List.mem_of_mem_take ht)
      have s2 : (l.take j).length ≤ 400 := by rw [List.length_take]; omega
      have q1 := cntP_le p (l.take j)
      have ht1 := HB.out t (List.mem_of_getElem? ht)
      generalize sumP p (l.take j) = s at *
      generalize cntP p (l.take j) = q at *
      have q2 : q ≤ 400 := by omega
      have s3 : s ≤ 400000 := by omega
      have HS := Lib.hid (And.intro hs (And.intro hq hj))
      clear hs hq hj ht s2 s1 q1
      have hbox := Blk.new wr 79 #[.int .i64 t.d, .int .i64 t.s, .bool t.o]
      have hgb := grown_alloc hg (.cells #[.int .i64 t.d, .int .i64 t.s, .bool t.o] 79)
      go_wp2_with fail
      refine (HF.out t _ (hg0.trans hgb)).mono ?_
      rintro e w2 ⟨rfl, hg2⟩
      have hbox2 := hbox.grown hg2 (by simp)
      have hgg := hgb.trans hg2
      have d1 := hbox2.cell 1
      simp only [List.getElem?_toArray, List.getElem?_cons_zero, List.getElem?_cons_succ] at d1
      clear hbox hgb c0 c1 c2
      by_cases hp : p t = true
      · rw [hp]
        have HP := Lib.hid hp
        clear hp
        go_wp2_with fail
        obtain ⟨hs, hq, hj⟩ := HS.out
        rw [if_pos HP.out] at hs hq
        go_roundg (gk - 1)
        case measure => omega
        case rel => exact ⟨j + 1, by omega, by go_num, by rw [hs], by rw [hq]; go_num, hgg⟩
      · have hp' : p t = false := by simpa using hp
        rw [hp']
        have HP := Lib.hid hp
        clear hp hp'
        go_wp2_with fail
        obtain ⟨hs, hq, hj⟩ := HS.out
        rw [if_neg HP.out] at hs hq
        go_roundg (gk - 1)
        case measure => omega
        case rel => exact ⟨j + 1, by omega, by go_num, by rw [hs]; simp, by rw [hq]; rfl, hgg⟩
    · obtain rfl : j = n := by omega
      rw [List.take_of_length_le (by have := HL.out; omega)]
      have hB := hB0.grown hg (by simp)
      obtain ⟨e0, e1, f0, f1⟩ := hB.two
      have hgw := hg0.trans hg
      obtain ⟨s0, s1⟩ := sumP_bound (p := p) (l := l) HB.out
      have s2 : l.length ≤ 400 := by rw [HL.out]; omega
      have q1 := cntP_le p l
      by_cases h0 : cntP p l = 0
      · have hv : meanV p l = .tuple #[frac 0 0, .bool false] := by unfold meanV meanN meanD; simp [h0]
        rw [h0]
        have HV := Lib.hid hv
        clear hv h0 s0 s1 s2 q1 hB0 hg0 hg
        go_wp2_with fail
        refine bodyPost_ret (results_row_tmp rfl _ _ w.heap.size _ _ _ _ rfl ((hB.set_ 0 (.int .i64 0)).set_ 1 (.int .i64 0)) Try.underlying31 rfl (by kernel_rfl)) rfl ?_
        rw [HV.out]
        exact ⟨rfl, grown_set (p := ⟨w.heap.size, 1, none⟩) (grown_set (p := ⟨w.heap.size, 0, none⟩) hgw (.inl (Nat.le_refl _)) _) (.inl (Nat.le_refl _)) _⟩
      · have hv : meanV p l = .tuple #[frac (lowN (sumP p l) (cntP p l)) (lowD (sumP p l) (cntP p l)), .bool true] := by unfold meanV meanN meanD; simp [h0]
        have hcall := fun w => lowest_any (sumP p l) (cntP p l) w (by omega) (by omega) (by omega) (by omega)
        have hq0 : ((cntP p l : Int) == 0) = false := by rw [beq_eq_false_iff_ne]; omega
        generalize sumP p l = s at *
        generalize cntP p l = q at *
        generalize lowN s q = y1 at *
        generalize lowD s q = y2 at *
        have HV := Lib.hid hv
        have HC := Lib.hid hcall
        clear hcall hv h0 s0 s1 s2 q1 hB0 hg0 hg e0 e1 f0 f1
        go_wp2_with fail
        refine (HC.out _).mono ?_
        rintro e w3 ⟨rfl, hg3⟩
        have hB3 := hB.grown hg3 (by simp)
        obtain ⟨e0, e1, f0, f1⟩ := hB3.two
        unfold frac
        go_wp2_with fail
        refine bodyPost_ret (results_row_tmp rfl _ _ w.heap.size _ _ _ _ rfl ((hB3.set_ 0 (.int .i64 y1)).set_ 1 (.int .i64 y2)) Try.underlying31 rfl (by kernel_rfl)) rfl ?_
        rw [HV.out]
        exact ⟨rfl, grown_set (p := ⟨w.heap.size, 1, none⟩) (grown_set (p := ⟨w.heap.size, 0, none⟩) (hgw.trans hg3) (.inl (Nat.le_refl _)) _) (.inl (Nat.le_refl _)) _⟩

set_option maxRecDepth 100000 in
set_option maxHeartbeats 400000 in
theorem mean1_any (g : Nat) (cv : Value) (p : Sal → Bool) (A : Option Addr) (n c : Nat) (l : List Sal) (w : World) (hr : Rd w 3 A n (salFlat l)) (hn : n ≤ 400) (hb : ∀ t ∈ l, 0 ≤ t.s ∧ t.s ≤ 1000) (he : Enters Try.prog g)
    (hf : ∀ (x : Sal) w1, w.grownBy w1 none → Calls Try.prog g #[.agg #[.int .i64 x.d, .int .i64 x.s, .bool x.o], cv] w1 fun e w2 => e = .returned (.bool (p x)) ∧ w1.grownBy w2 none) :
    Calls Try.prog 71 #[.slice A n c, .func (.func g) #[] #[cv]] w fun e w' => e = .returned (meanV p l) ∧ w.grownBy w' none := by
  have hl : l.length = n := by have := hr.1; rw [salFlat_len] at this; omega
  have HL := Lib.hid hl
  have HF := Lib.hid hf
  have HB := Lib.hid hb
  have he' : ∀ (args : Array Value) (w : World), (callFunc g args).run Try.prog w = .ok (.enter g args) w := he
  clear hl hf he hb
  go_enter Try.func71, Try.ntmps71
  go_wp2_with fail
  have hB0 := Blk.new w 31 #[.int .i64 0, .int .i64 0]
  have hg0 := grown_alloc (grown_refl w) (.cells #[.int .i64 0, .int .i64 0] 31)
  have hz0 : (w.alloc (.cells #[.int .i64 0, .int .i64 0] 31)).heap.size = w.heap.size + 1 := by simp
  generalize w.alloc (.cells #[.int .i64 0, .int .i64 0] 31) = w0 at *
  have HZ := Lib.hid hz0
  clear hz0
  go_loopg [6, 7, 12] n (fun k s q i wr => ∃ j : Nat, k + j = n ∧ i = .int .i64 j ∧ s = .int .i64 (sumP p (l.take j)) ∧ q = .int .i64 (cntP p (l.take j)) ∧ w0.grownBy wr none)
  case atStart => exact ⟨0, by omega, rfl, rfl, rfl, grown_refl w0⟩
  case round =>
    obtain ⟨j, hj, rfl, rfl, rfl, hg⟩ := hrel
    by_cases hlt : j < n
    · obtain ⟨b, off, rfl, hb, t, ht, c0, c1, c2⟩ := sal_cells ((hr.grown hg0).grown hg) hlt
      have hs := sumP_step (p := p) ht
      have hq := cntP_step (p := p) ht
      obtain ⟨s0, s1⟩ := sumP_bound (p := p) (l := l.take j) fun t ht => HB.out t (List.mem_of_mem_take ht)
      have s2 : (l.take j).length ≤ 400 := by rw [List.length_take]; omega
      have q1 := cntP_le p (l.take j)
      have ht1 := HB.out t (List.mem_of_getElem? ht)
      generalize sumP p (l.take j) = s at *
      generalize cntP p (l.take j) = q at *
      have q2 : q ≤ 400 := by omega
      have s3 : s ≤ 400000 := by omega
      have HS := Lib.hid (And.intro hs (And.intro hq hj))
      clear hs hq hj ht s2 s1 q1
      have hbox := Blk.new wr 79 #[.int .i64 t.d, .int .i64 t.s, .bool t.o]
      have hgb := grown_alloc hg (.cells #[.int .i64 t.d, .int .i64 t.s, .bool t.o] 79)
      go_wp2_with fail
      refine (HF.out t _ (hg0.trans hgb)).mono ?_
      rintro e w2 ⟨rfl, hg2⟩
      have hbox2 := hbox.grown hg2 (by simp)
      have hgg := hgb.trans hg2
      have d1 := hbox2.cell 1
      simp only [List.getElem?_toArray, List.getElem?_cons_zero, List.getElem?_cons_succ] at d1
      clear hbox hgb c0 c1 c2
      by_cases hp : p t = true
      · rw [hp]
        have HP := Lib.hid hp
        clear hp
        go_wp2_with fail
        obtain ⟨hs, hq, hj⟩ := HS.out
        rw [if_pos HP.out] at hs hq
        go_roundg (gk - 1)
        case measure => omega
        case rel => exact ⟨j + 1, by omega, by go_num, by rw [hs], by rw [hq]; go_num, hgg⟩
      · have hp' : p t = false := by simpa using hp
        rw [hp']
        have HP := Lib.hid hp
        clear hp hp'
        go_wp2_with fail
        obtain ⟨hs, hq, hj⟩ := HS.out
        rw [if_neg HP.out] at hs hq
        go_roundg (gk - 1)
        case measure => omega
        case rel => exact ⟨j + 1, by omega, by go_num, by rw [hs]; simp, by rw [hq]; rfl, hgg⟩
    · obtain rfl : j = n := by omega
      rw [List.take_of_length_le (by have := HL.out; omega)]
      have hB := hB0.grown hg (by simp)
      obtain ⟨e0, e1, f0, f1⟩ := hB.two
      have hgw := hg0.trans hg
      obtain ⟨s0, s1⟩ := sumP_bound (p := p) (l := l) HB.out
      have s2 : l.length ≤ 400 := by rw [HL.out]; omega
      have q1 := cntP_le p l
      by_cases h0 : cntP p l = 0
      · have hv : meanV p l = .tuple #[frac 0 0, .bool false] := by unfold meanV meanN meanD; simp [h0]
        rw [h0]
        have HV := Lib.hid hv
        clear hv h0 s0 s1 s2 q1 hB0 hg0 hg
        go_wp2_with fail
        refine bodyPost_ret (results_row_tmp rfl _ _ w.heap.size _ _ _ _ rfl ((hB.set_ 0 (.int .i64 0)).set_ 1 (.int .i64 0)) Try.underlying31 rfl (by kernel_rfl)) rfl ?_
        rw [HV.out]
        exact ⟨rfl, grown_set (p := ⟨w.heap.size, 1, none⟩) (grown_set (p := ⟨w.heap.size, 0, none⟩) hgw (.inl (Nat.le_refl _)) _) (.inl (Nat.le_refl _)) _⟩
      · have hv : meanV p l = .tuple #[frac (lowN (sumP p l) (cntP p l)) (lowD (sumP p l) (cntP p l)), .bool true] := by unfold meanV meanN meanD; simp [h0]
        have hcall := fun w => lowest_any (sumP p l) (cntP p l) w (by omega) (by omega) (by omega) (by omega)
        have hq0 : ((cntP p l : Int) == 0) = false := by rw [beq_eq_false_iff_ne]; omega
        generalize sumP p l = s at *
        generalize cntP p l = q at *
        generalize lowN s q = y1 at *
        generalize lowD s q = y2 at *
        have HV := Lib.hid hv
        have HC := Lib.hid hcall
        clear hcall hv h0 s0 s1 s2 q1 hB0 hg0 hg e0 e1 f0 f1
        go_wp2_with fail
        refine (HC.out _).mono ?_
        rintro e w3 ⟨rfl, hg3⟩
        have hB3 := hB.grown hg3 (by simp)
        obtain ⟨e0, e1, f0, f1⟩ := hB3.two
        unfold frac
        go_wp2_with fail
        refine bodyPost_ret (results_row_tmp rfl _ _ w.heap.size _ _ _ _ rfl ((hB3.set_ 0 (.int .i64 y1)).set_ 1 (.int .i64 y2)) Try.underlying31 rfl (by kernel_rfl)) rfl ?_
        rw [HV.out]
        exact ⟨rfl, grown_set (p := ⟨w.heap.size, 1, none⟩) (grown_set (p := ⟨w.heap.size, 0, none⟩) (hgw.trans hg3) (.inl (Nat.le_refl _)) _) (.inl (Nat.le_refl _)) _⟩


set_option maxRecDepth 100000 in
set_option maxHeartbeats 400000 in
theorem rateOf0_any (g : Nat) (p : Sal → Bool) (A : Option Addr) (n c : Nat) (l : List Sal) (w : World) (hr : Rd w 3 A n (salFlat l)) (hn : n ≤ 400) (hb : ∀ t ∈ l, 0 ≤ t.s ∧ t.s ≤ 1000) (he : Enters Try.prog g)
    (hf : ∀ (x : Sal) w1, w.grownBy w1 none → Calls Try.prog g #[.agg #[.int .i64 x.d, .int .i64 x.s, .bool x.o]] w1 fun e w2 => e = .returned (.bool (p x)) ∧ w1.grownBy w2 none) :
    Calls Try.prog 77 #[.slice A n c, .func (.func g) #[] #[]] w fun e w' => e = .returned (meanV (fun t => !t.o && p t) l) ∧ w.grownBy w' none := by
  have hl : l.length = n := by have := hr.1; rw [salFlat_len] at this; omega
  have HL := Lib.hid hl
  have HF := Lib.hid hf
  have HB := Lib.hid hb
  have he' : ∀ (args : Array Value) (w : World), (callFunc g args).run Try.prog w = .ok (.enter g args) w := he
  clear hl hf he hb
  obtain ⟨P, hP⟩ : ∃ P : Sal → Bool, P = fun t => !t.o && p t := ⟨_, rfl⟩
  rw [← hP]
  have HPP : Hid (∀ t, P t = (!t.o && p t)) := Lib.hid (by rw [hP]; intro t; rfl)
  clear hP
  go_enter Try.func77, Try.ntmps77
  go_wp2_with fail
  have hB0 := Blk.new w 31 #[.int .i64 0, .int .i64 0]
  have hg0 := grown_alloc (grown_refl w) (.cells #[.int .i64 0, .int .i64 0] 31)
  have hz0 : (w.alloc (.cells #[.int .i64 0, .int .i64 0] 31)).heap.size = w.heap.size + 1 := by simp
  generalize w.alloc (.cells #[.int .i64 0, .int .i64 0] 31) = w0 at *
  have HZ := Lib.hid hz0
  clear hz0
  go_loopg [6, 7, 12] n (fun k s q i wr => ∃ j : Nat, k + j = n ∧ i = .int .i64 j ∧ s = .int .i64 (sumP P (l.take j)) ∧ q = .int .i64 (cntP P (l.take j)) ∧ w0.grownBy wr none)
  case atStart => exact ⟨0, by omega, rfl, rfl, rfl, grown_refl w0⟩
  case round =>
    obtain ⟨j, hj, rfl, rfl, rfl, hg⟩ := hrel
    by_cases hlt : j < n
    · obtain ⟨b, off, rfl, hb, t, ht, c0, c1, c2⟩ := sal_cells ((hr.grown hg0).grown hg) hlt
      have hs := sumP_step (p := P) ht
      have hq := cntP_step (p := P) ht
      obtain ⟨s0, s1⟩ := sumP_bound (p := P) (l := l.take j) fun t ht => HB.out t (List.mem_of_mem_take ht)
      have s2 : (l.take j).length ≤ 400 := by rw [List.length_take]; omega
      have q1 := cntP_le P (l.take j)
      have ht1 := HB.out t (List.mem_of_getElem? ht)
      generalize sumP P (l.take j) = s at *
      generalize cntP P (l.take j) = q at *
      have q2 : q ≤ 400 := by omega
      have s3 : s ≤ 400000 := by omega
      have HS := Lib.hid (And.intro hs (And.intro hq hj))
      clear hs hq hj ht s2 s1 q1
      have hPP := HPP.out t
      by_cases ho : t.o = true
      · have hP : ¬ P t = true := by rw [hPP, ho]; simp
        rw [ho] at c2
        have HP := Lib.hid hP
        have hgb := grown_alloc hg (.cells #[.int .i64 t.d, .int .i64 t.s, .bool true] 79)
        clear hP ho hPP
        go_wp2_with fail
        obtain ⟨hs, hq, hj⟩ := HS.out
        rw [if_neg HP.out] at hs hq
        go_roundg (gk - 1)
        case measure => omega
        case rel => exact ⟨j + 1, by omega, by go_num, by rw [hs]; simp, by rw [hq]; rfl, hgb⟩
      · have ho' : t.o = false := by simpa using ho
        have hPp : P t = p t := by rw [hPP, ho']; simp
        rw [ho'] at c2
        have hct := HF.out t
        rw [ho'] at hct
        have HCT := Lib.hid hct
        have HPp := Lib.hid hPp
        have hbox := Blk.new wr 79 #[.int .i64 t.d, .int .i64 t.s, .bool false]
        have hgb := grown_alloc hg (.cells #[.int .i64 t.d, .int .i64 t.s, .bool false] 79)
        clear hct hPP hPp ho ho'
        go_wp2_with fail
        refine (HCT.out _ (hg0.trans hgb)).mono ?_
        rintro e w2 ⟨rfl, hg2⟩
        have hbox2 := hbox.grown hg2 (by simp)
        have hgg := hgb.trans hg2
        have d1 := hbox2.cell 1
        simp only [List.getElem?_toArray, List.getElem?_cons_zero, List.getElem?_cons_succ] at d1
        clear hbox hgb c0 c1 c2
        by_cases hp : p t = true
        · rw [hp]
          have HP := Lib.hid (HPp.out.trans hp)
          clear hp
          go_wp2_with fail
          obtain ⟨hs, hq, hj⟩ := HS.out
          rw [if_pos HP.out] at hs hq
          go_roundg (gk - 1)
          case measure => omega
          case rel => exact ⟨j + 1, by omega, by go_num, by rw [hs], by rw [hq]; go_num, hgg⟩
        · have hp' : p t = false := by simpa using hp
          rw [hp']
          have HP := Lib.hid (show ¬ P t = true from by rw [HPp.out]; exact hp)
          clear hp hp'
          go_wp2_with fail
          obtain ⟨hs, hq, hj⟩ := HS.out
          rw [if_neg HP.out] at hs hq
          go_roundg (gk - 1)
          case measure => omega
          case rel => exact ⟨j + 1, by omega, by go_num, by rw [hs]; simp, by rw [hq]; rfl, hgg⟩
    · obtain rfl : j = n := by omega
      rw [List.take_of_length_le (by have := HL.out; omega)]
      have hB := hB0.grown hg (by simp)
      obtain ⟨e0, e1, f0, f1⟩ := hB.two
      have hgw := hg0.trans hg
      obtain ⟨s0, s1⟩ := sumP_bound (p := P) (l := l) HB.out
      have s2 : l.length ≤ 400 := by rw [HL.out]; omega
      have q1 := cntP_le P l
      by_cases h0 : cntP P l = 0
      · have hv : meanV P l = .tuple #[frac 0 0, .bool false] := by unfold meanV meanN meanD; simp [h0]
        rw [h0]
        have HV := Lib.hid hv
        clear hv h0 s0 s1 s2 q1 hB0 hg0 hg
        go_wp2_with fail
        refine bodyPost_ret (results_row_tmp rfl _ _ w.heap.size _ _ _ _ rfl ((hB.set_ 0 (.int .i64 0)).set_ 1 (.int .i64 0)) Try.underlying31 rfl (by kernel_rfl)) rfl ?_
        rw [HV.out]
        exact ⟨rfl, grown_set (p := ⟨w.heap.size, 1, none⟩) (grown_set (p := ⟨w.heap.size, 0, none⟩) hgw (.inl (Nat.le_refl _)) _) (.inl (Nat.le_refl _)) _⟩
      · have hv : meanV P l = .tuple #[frac (lowN (sumP P l) (cntP P l)) (lowD (sumP P l) (cntP P l)), .bool true] := by unfold meanV meanN meanD; simp [h0]
        have hcall := fun w => refPart_any (sumP P l) (cntP P l) w (by omega) (by omega) (by omega) (by omega)
        have hq0 : ((cntP P l : Int) == 0) = false := by rw [beq_eq_false_iff_ne]; omega
        generalize sumP P l = s at *
        generalize cntP P l = q at *
        generalize lowN s q = y1 at *
        generalize lowD s q = y2 at *
        have HV := Lib.hid hv
        have HC := Lib.hid hcall
        clear hcall hv h0 s0 s1 s2 q1 hB0 hg0 hg e0 e1 f0 f1
        go_wp2_with fail
        refine (HC.out _).mono ?_
        rintro e w3 ⟨rfl, hg3⟩
        have hB3 := hB.grown hg3 (by simp)
        obtain ⟨e0, e1, f0, f1⟩ := hB3.two
        unfold frac
        go_wp2_with fail
        refine bodyPost_ret (results_row_tmp rfl _ _ w.heap.size _ _ _ _ rfl ((hB3.set_ 0 (.int .i64 y1)).set_ 1 (.int .i64 y2)) Try.underlying31 rfl (by kernel_rfl)) rfl ?_
        rw [HV.out]
        exact ⟨rfl, grown_set (p := ⟨w.heap.size, 1, none⟩) (grown_set (p := ⟨w.heap.size, 0, none⟩) (hgw.trans hg3) (.inl (Nat.le_refl _)) _) (.inl (Nat.le_refl _)) _⟩

set_option maxRecDepth 100000 in
set_option maxHeartbeats 400000 in
theorem rateOf1_any (g : Nat) (cv : Value) (p : Sal → Bool) (A : Option Addr) (n c : Nat) (l : List Sal) (w : World) (hr : Rd w 3 A n (salFlat l)) (hn : n ≤ 400) (hb : ∀ t ∈ l, 0 ≤ t.s ∧ t.s ≤ 1000) (he : Enters Try.prog g)
    (hf : ∀ (x : Sal) w1, w.grownBy w1 none → Calls Try.prog g #[.agg #[.int .i64 x.d, .int .i64 x.s, .bool x.o], cv] w1 fun e w2 => e = .returned (.bool (p x)) ∧ w1.grownBy w2 none) :
    Calls Try.prog 77 #[.slice A n c, .func (.func g) #[] #[cv]] w fun e w' => e = .returned (meanV (fun t => !t.o && p t) l) ∧ w.grownBy w' none := by
  have hl : l.length = n := by have := hr.1; rw [salFlat_len] at this; omega
  have HL := Lib.hid hl
  have HF := Lib.hid hf
  have HB := Lib.hid hb
  have he' : ∀ (args : Array Value) (w : World), (callFunc g args).run Try.prog w = .ok (.enter g args) w := he
  clear hl hf he hb
  obtain ⟨P, hP⟩ : ∃ P : Sal → Bool, P = fun t => !t.o && p t := ⟨_, rfl⟩
  rw [← hP]
  have HPP : Hid (∀ t, P t = (!t.o && p t)) := Lib.hid (by rw [hP]; intro t; rfl)
  clear hP
  go_enter Try.func77, Try.ntmps77
  go_wp2_with fail
  have hB0 := Blk.new w 31 #[.int .i64 0, .int .i64 0]
  have hg0 := grown_alloc (grown_refl w) (.cells #[.int .i64 0, .int .i64 0] 31)
  have hz0 : (w.alloc (.cells #[.int .i64 0, .int .i64 0] 31)).heap.size = w.heap.size + 1 := by simp
  generalize w.alloc (.cells #[.int .i64 0, .int .i64 0] 31) = w0 at *
  have HZ := Lib.hid hz0
  clear hz0
  go_loopg [6, 7, 12] n (fun k s q i wr => ∃ j : Nat, k + j = n ∧ i = .int .i64 j ∧ s = .int .i64 (sumP P (l.take j)) ∧ q = .int .i64 (cntP P (l.take j)) ∧ w0.grownBy wr none)
  case atStart => exact ⟨0, by omega, rfl, rfl, rfl, grown_refl w0⟩
  case round =>
    obtain ⟨j, hj, rfl, rfl, rfl, hg⟩ := hrel
    by_cases hlt : j < n
    · obtain ⟨b, off, rfl, hb, t, ht, c0, c1, c2⟩ := sal_cells ((hr.grown hg0).grown hg) hlt
      have hs := sumP_step (p := P) ht
      have hq := cntP_step (p := P) ht
      obtain ⟨s0, s1⟩ := sumP_bound (p := P) (l := l.take j) fun t ht => HB.out t (List.mem_of_mem_take ht)
      have s2 : (l.take j).length ≤ 400 := by rw [List.length_take]; omega
      have q1 := cntP_le P (l.take j)
      have ht1 := HB.out t (List.mem_of_getElem? ht)
      generalize sumP P (l.take j) = s at *
      generalize cntP P (l.take j) = q at *
      have q2 : q ≤ 400 := by omega
      have s3 : s ≤ 400000 := by omega
      have HS := Lib.hid (And.intro hs (And.intro hq hj))
      clear hs hq hj ht s2 s1 q1
      have hPP := HPP.out t
      by_cases ho : t.o = true
      · have hP : ¬ P t = true := by rw [hPP, ho]; simp
        rw [ho] at c2
        have HP := Lib.hid hP
        have hgb := grown_alloc hg (.cells #[.int .i64 t.d, .int .i64 t.s, .bool true] 79)
        clear hP ho hPP
        go_wp2_with fail
        obtain ⟨hs, hq, hj⟩ := HS.out
        rw [if_neg HP.out] at hs hq
        go_roundg (gk - 1)
        case measure => omega
        case rel => exact ⟨j + 1, by omega, by go_num, by rw [hs]; simp, by rw [hq]; rfl, hgb⟩
      · have ho' : t.o = false := by simpa using ho
        have hPp : P t = p t := by rw [hPP, ho']; simp
        rw [ho'] at c2
        have hct := HF.out t
        rw [ho'] at hct
        have HCT := Lib.hid hct
        have HPp := Lib.hid hPp
        have hbox := Blk.new wr 79 #[.int .i64 t.d, .int .i64 t.s, .bool false]
        have hgb := grown_alloc hg (.cells #[.int .i64 t.d, .int .i64 t.s, .bool false] 79)
        clear hct hPP hPp ho ho'
        go_wp2_with fail
        refine (HCT.out _ (hg0.trans hgb)).mono ?_
        rintro e w2 ⟨rfl, hg2⟩
        have hbox2 := hbox.grown hg2 (by simp)
        have hgg := hgb.trans hg2
        have d1 := hbox2.cell 1
        simp only [List.getElem?_toArray, List.getElem?_cons_zero, List.getElem?_cons_succ] at d1
        clear hbox hgb c0 c1 c2
        by_cases hp : p t = true
        · rw [hp]
          have HP := Lib.hid (HPp.out.trans hp)
          clear hp
          go_wp2_with fail
          obtain ⟨hs, hq, hj⟩ := HS.out
          rw [if_pos HP.out] at hs hq
          go_roundg (gk - 1)
          case measure => omega
          case rel => exact ⟨j + 1, by omega, by go_num, by rw [hs], by rw [hq]; go_num, hgg⟩
        · have hp' : p t = false := by simpa using hp
          rw [hp']
          have HP := Lib.hid (show ¬ P t = true from by rw [HPp.out]; exact hp)
          clear hp hp'
          go_wp2_with fail
          obtain ⟨hs, hq, hj⟩ := HS.out
          rw [if_neg HP.out] at hs hq
          go_roundg (gk - 1)
          case measure => omega
          case rel => exact ⟨j + 1, by omega, by go_num, by rw [hs]; simp, by rw [hq]; rfl, hgg⟩
    · obtain rfl : j = n := by omega
      rw [List.take_of_length_le (by have := HL.out; omega)]
      have hB := hB0.grown hg (by simp)
      obtain ⟨e0, e1, f0, f1⟩ := hB.two
      have hgw := hg0.trans hg
      obtain ⟨s0, s1⟩ := sumP_bound (p := P) (l := l) HB.out
      have s2 : l.length ≤ 400 := by rw [HL.out]; omega
      have q1 := cntP_le P l
      by_cases h0 : cntP P l = 0
      · have hv : meanV P l = .tuple #[frac 0 0, .bool false] := by unfold meanV meanN meanD; simp [h0]
        rw [h0]
        have HV := Lib.hid hv
        clear hv h0 s0 s1 s2 q1 hB0 hg0 hg
        go_wp2_with fail
        refine bodyPost_ret (results_row_tmp rfl _ _ w.heap.size _ _ _ _ rfl ((hB.set_ 0 (.int .i64 0)).set_ 1 (.int .i64 0)) Try.underlying31 rfl (by kernel_rfl)) rfl ?_
        rw [HV.out]
        exact ⟨rfl, grown_set (p := ⟨w.heap.size, 1, none⟩) (grown_set (p := ⟨w.heap.size, 0, none⟩) hgw (.inl (Nat.le_refl _)) _) (.inl (Nat.le_refl _)) _⟩
      · have hv : meanV P l = .tuple #[frac (lowN (sumP P l) (cntP P l)) (lowD (sumP P l) (cntP P l)), .bool true] := by unfold meanV meanN meanD; simp [h0]
        have hcall := fun w => refPart_any (sumP P l) (cntP P l) w (by omega) (by omega) (by omega) (by omega)
        have hq0 : ((cntP P l : Int) == 0) = false := by rw [beq_eq_false_iff_ne]; omega
        generalize sumP P l = s at *
        generalize cntP P l = q at *
        generalize lowN s q = y1 at *
        generalize lowD s q = y2 at *
        have HV := Lib.hid hv
        have HC := Lib.hid hcall
        clear hcall hv h0 s0 s1 s2 q1 hB0 hg0 hg e0 e1 f0 f1
        go_wp2_with fail
        refine (HC.out _).mono ?_
        rintro e w3 ⟨rfl, hg3⟩
        have hB3 := hB.grown hg3 (by simp)
        obtain ⟨e0, e1, f0, f1⟩ := hB3.two
        unfold frac
        go_wp2_with fail
        refine bodyPost_ret (results_row_tmp rfl _ _ w.heap.size _ _ _ _ rfl ((hB3.set_ 0 (.int .i64 y1)).set_ 1 (.int .i64 y2)) Try.underlying31 rfl (by kernel_rfl)) rfl ?_
        rw [HV.out]
        exact ⟨rfl, grown_set (p := ⟨w.heap.size, 1, none⟩) (grown_set (p := ⟨w.heap.size, 0, none⟩) (hgw.trans hg3) (.inl (Nat.le_refl _)) _) (.inl (Nat.le_refl _)) _⟩

end Go.Proofs.Ytkfijicmeekmiaa
