/- The week's means, weighted by its days, are what was sold. -/
import Derived.Test.YtkfijicmeekmiaaWeek
import Derived.Test.YtkfijicmeekmiaaUncov
namespace Go.Proofs.Ytkfijicmeekmiaa
open Go.RowKit

/-- A sum over the days of the week; a product. -/
def S7 (f : Nat → Int) : Int := f 0 + f 1 + f 2 + f 3 + f 4 + f 5 + f 6
def P7 (f : Nat → Int) : Int := f 0 * f 1 * f 2 * f 3 * f 4 * f 5 * f 6
def kx (x : Sal) : Nat := (x.d.tmod 7).toNat
def cK (l : List Sal) (k : Nat) : Int := if cntP (wkB k) l = 0 then 1 else (cntP (wkB k) l : Int)
def sK (l : List Sal) (k : Nat) : Int := sumP (wkB k) l
def gK (l : List Sal) (k : Nat) : Int := P7 fun i => if i = k then 1 else cK l i
def gA (l : List Sal) : Int := P7 (cK l)

theorem cK_pos (l : List Sal) (k : Nat) : 0 < cK l k := by unfold cK; split <;> omega
theorem P7_pos {f : Nat → Int} (h : ∀ k, 0 < f k) : 0 < P7 f :=
  Int.mul_pos (Int.mul_pos (Int.mul_pos (Int.mul_pos (Int.mul_pos (Int.mul_pos (h 0) (h 1)) (h 2)) (h 3)) (h 4)) (h 5)) (h 6)
theorem gA_pos (l : List Sal) : 0 < gA l := P7_pos (cK_pos l)
theorem gK_mul (l : List Sal) {k : Nat} (hk : k < 7) : cK l k * gK l k = gA l := by
  unfold gK gA P7
  generalize cK l = f
  obtain rfl | rfl | rfl | rfl | rfl | rfl | rfl : k = 0 ∨ k = 1 ∨ k = 2 ∨ k = 3 ∨ k = 4 ∨ k = 5 ∨ k = 6 := by omega
  all_goals (simp only [if_pos, Nat.reduceEqDiff, if_false, Int.one_mul, Int.mul_one]; try grind)
theorem kx_rng {x : Sal} (h : 0 ≤ x.d) : kx x < 7 ∧ x.d.tmod 7 = (kx x : Int) := by
  have h1 : 0 ≤ x.d.tmod 7 := Int.tmod_nonneg 7 h
  have h2 : x.d.tmod 7 < 7 := Int.tmod_lt_of_pos x.d (by omega)
  unfold kx
  omega
theorem wkB_at {x : Sal} (h : 0 ≤ x.d) (hx : lastB x = true) (k : Nat) : wkB k x = decide (k = kx x) := by
  obtain ⟨h1, h2⟩ := kx_rng h
  have ho : x.o = false := by simpa [lastB] using hx
  unfold wkB wdB
  rw [ho, h2, Bool.eq_iff_iff]
  simp
  omega
theorem wkB_out {x : Sal} (hx : lastB x = false) (k : Nat) : wkB k x = false := by
  have ho : x.o = true := by simpa [lastB] using hx
  unfold wkB; rw [ho]; rfl

theorem S7_pick (f : Nat → Int) {k : Nat} (hk : k < 7) : S7 (fun i => if i = k then f i else 0) = f k := by
  unfold S7
  obtain rfl | rfl | rfl | rfl | rfl | rfl | rfl : k = 0 ∨ k = 1 ∨ k = 2 ∨ k = 3 ∨ k = 4 ∨ k = 5 ∨ k = 6 := by omega
  all_goals simp
theorem S7_add (f g : Nat → Int) : S7 (fun i => f i + g i) = S7 f + S7 g := by unfold S7; dsimp only; omega
theorem S7_zero : S7 (fun _ => 0) = 0 := rfl
theorem S7_congr {f g : Nat → Int} (h : ∀ k, k < 7 → f k = g k) : S7 f = S7 g := by
  unfold S7
  rw [h 0 (by omega), h 1 (by omega), h 2 (by omega), h 3 (by omega), h 4 (by omega), h 5 (by omega), h 6 (by omega)]
theorem S7_mul (f : Nat → Int) (c : Int) : S7 (fun i => c * f i) = c * S7 f := by
  unfold S7; simp only [Int.mul_add]

/-- The sum of numbers of the days' classes. -/
def sumC (φ : Nat → Int) (l : List Sal) : Int := ((l.filter lastB).map fun x => φ (kx x)).sum
theorem sumC_step {φ : Nat → Int} {l : List Sal} {j : Nat} {t : Sal} (h : l[j]? = some t) : sumC φ (l.take (j + 1)) = sumC φ (l.take j) + (if lastB t then φ (kx t) else 0) := by
  unfold sumC
  rw [take_at h, List.filter_append, List.map_append, List.sum_append]
  cases hb : lastB t <;> simp [hb]
theorem sumC_cnt (φ : Nat → Int) {l : List Sal} (h : ∀ t ∈ l, 0 ≤ t.d) : sumC φ l = S7 fun k => (cntP (wkB k) l : Int) * φ k := by
  induction l with
  | nil => unfold sumC S7 cntP; simp
  | cons a r ih =>
    have ih := ih fun t ht => h t (by simp [ht])
    have ha := h a (by simp)
    have e1 : sumC φ (a :: r) = (if lastB a then φ (kx a) else 0) + sumC φ r := by
      unfold sumC
      cases hb : lastB a <;> simp [hb]
    have e2 : ∀ k, (cntP (wkB k) (a :: r) : Int) * φ k = (if k = kx a then (if lastB a then φ k else 0) else 0) + (cntP (wkB k) r : Int) * φ k := by
      intro k
      unfold cntP
      cases hb : lastB a
      · rw [List.filter_cons_of_neg (by rw [wkB_out hb]; simp)]; simp
      · by_cases hk : k = kx a
        · rw [List.filter_cons_of_pos (by rw [wkB_at ha hb]; simpa using hk), if_pos hk, if_pos rfl, List.length_cons, Int.natCast_add, Int.add_mul]
          simp; omega
        · rw [List.filter_cons_of_neg (by rw [wkB_at ha hb]; simpa using hk), if_neg hk]; simp
    rw [e1, ih, S7_congr fun k _ => e2 k, S7_add, S7_pick _ (kx_rng ha).1]
theorem sumP_cls {l : List Sal} (h : ∀ t ∈ l, 0 ≤ t.d) : sumP lastB l = S7 (sK l) := by
  induction l with
  | nil => rfl
  | cons a r ih =>
    have ih := ih fun t ht => h t (by simp [ht])
    have ha := h a (by simp)
    have e1 : sumP lastB (a :: r) = (if lastB a then a.s else 0) + sumP lastB r := by
      unfold sumP
      cases hb : lastB a <;> simp [hb]
    have e2 : ∀ k, sK (a :: r) k = (if k = kx a then (if lastB a then a.s else 0) else 0) + sK r k := by
      intro k
      unfold sK sumP
      cases hb : lastB a
      · rw [List.filter_cons_of_neg (by rw [wkB_out hb]; simp)]; simp
      · by_cases hk : k = kx a
        · rw [List.filter_cons_of_pos (by rw [wkB_at ha hb]; simpa using hk), if_pos hk, if_pos rfl]; simp
        · rw [List.filter_cons_of_neg (by rw [wkB_at ha hb]; simpa using hk), if_neg hk]; simp
    rw [e1, ih, S7_congr fun k _ => e2 k, S7_add, S7_pick (fun _ => if lastB a then a.s else 0) (kx_rng ha).1]

/-- What the exact sum of the first j days is, times gA. -/
def aJ (l : List Sal) (j : Nat) : Int := sumC (fun k => sK l k * gK l k) (l.take j) - gA l * sumP lastB (l.take j)
theorem aJ_step {l : List Sal} {j : Nat} {t : Sal} (h : l[j]? = some t) : aJ l (j + 1) = aJ l j + (if lastB t then sK l (kx t) * gK l (kx t) - gA l * t.s else 0) := by
  unfold aJ
  rw [sumC_step h, sumP_step h]
  cases hb : lastB t
  · simp
  · simp only [if_true]; rw [Int.mul_add]; omega
theorem aJ_end {l : List Sal} (h : ∀ t ∈ l, 0 ≤ t.d) : aJ l l.length = 0 := by
  unfold aJ
  rw [List.take_of_length_le (Nat.le_refl _), sumC_cnt _ h, sumP_cls h]
  have e : ∀ k, k < 7 → (cntP (wkB k) l : Int) * (sK l k * gK l k) = gA l * sK l k := by
    intro k hk
    by_cases h0 : cntP (wkB k) l = 0
    · have hs : sK l k = 0 := by
        unfold sK sumP
        rw [List.eq_nil_of_length_eq_zero h0]; rfl
      rw [hs]; simp
    · have hg := gK_mul l hk
      unfold cK at hg
      rw [if_neg h0] at hg
      rw [← hg]; grind
  rw [S7_congr e, S7_mul]; omega

/-- A class that a day has: its mean, divided by the rate, times the rate. -/
theorem wk_rate {l : List Sal} {x : Sal} (hx : x ∈ l) (hd : 0 ≤ x.d) (hb : lastB x = true) (hr : 0 < meanN lastB l) (hok : ∀ t ∈ l, 0 ≤ t.s ∧ t.s ≤ 1000) (hn : l.length ≤ 400) :
    wkN l (kx x) * meanN lastB l * gA l = wkD l (kx x) * meanD lastB l * (sK l (kx x) * gK l (kx x)) ∧ 0 < wkD l (kx x) ∧ 0 ≤ wkN l (kx x) ∧
      wkN l (kx x) ≤ meanN (wkB (kx x)) l * meanD lastB l ∧ wkD l (kx x) ≤ meanD (wkB (kx x)) l * meanN lastB l := by
  obtain ⟨k1, _⟩ := kx_rng hd
  have hm : x ∈ l.filter (wkB (kx x)) := List.mem_filter.2 ⟨hx, by rw [wkB_at hd hb]; simp⟩
  have hc : cntP (wkB (kx x)) l ≠ 0 := by
    unfold cntP
    intro h0
    rw [List.eq_nil_of_length_eq_zero h0] at hm
    simp at hm
  have hg := gK_mul l k1
  unfold cK at hg
  rw [if_neg hc] at hg
  generalize kx x = k at *
  have hN : wkN l k = lowN (meanN (wkB k) l * meanD lastB l) (meanD (wkB k) l * meanN lastB l) := by unfold wkN; rw [if_pos ⟨hc, hr⟩]
  have hD : wkD l k = lowD (meanN (wkB k) l * meanD lastB l) (meanD (wkB k) l * meanN lastB l) := by unfold wkD; rw [if_pos ⟨hc, hr⟩]
  obtain ⟨d0, d1, n0, n1⟩ := mean_bound hok hn hc
  have hcl : cntP lastB l ≠ 0 := by
    intro h0
    unfold meanN at hr
    rw [if_pos h0] at hr
    omega
  obtain ⟨b0, b1, _, a1⟩ := mean_bound hok hn hcl
  have hp : 0 < meanD (wkB k) l * meanN lastB l := Int.mul_pos d0 hr
  have hq : 0 ≤ meanN (wkB k) l * meanD lastB l := Int.mul_nonneg n0 (by omega)
  have hcr := low_cross (num := meanN (wkB k) l * meanD lastB l) (den := meanD (wkB k) l * meanN lastB l)
  have hcm : meanN (wkB k) l * (cntP (wkB k) l : Int) = sumP (wkB k) l * meanD (wkB k) l := by
    unfold meanN meanD
    rw [if_neg hc, if_neg hc]
    exact low_cross
  have hs : sK l k = sumP (wkB k) l := rfl
  rw [← hN, ← hD] at hcr
  refine ⟨?_, ?_, ?_, ?_, ?_⟩
  · rw [hs]
    generalize wkN l k = u at *
    generalize wkD l k = v at *
    generalize meanN (wkB k) l = m at *
    generalize meanD (wkB k) l = q at *
    generalize meanN lastB l = a at *
    generalize meanD lastB l = b at *
    generalize sumP (wkB k) l = s at *
    generalize (cntP (wkB k) l : Int) = c at *
    generalize gK l k = g at *
    rw [← hg]
    have e : q * (u * a * (c * g)) = q * (v * b * (s * g)) := by
      have e1 : q * (u * a * (c * g)) = (u * (q * a)) * (c * g) := by grind
      have e2 : (m * b * v) * (c * g) = (m * c) * (b * v * g) := by grind
      rw [e1, hcr, e2, hcm]; grind
    exact Int.eq_of_mul_eq_mul_left (by omega) e
  · rw [hD]; exact lowD_pos hp
  · rw [hN]; exact lowN_nonneg hq
  · rw [hN]; exact lowN_le hq
  · rw [hD]; exact lowD_le hp

/-- One step of the sum. -/
theorem sum_step {left den u v a b s x G A : Int} (h : left * G = den * A) (hw : u * a * G = v * b * s) :
    (left * v * b + (u * a * den - x * v * b * den)) * G = (den * v * b) * (A + (s - G * x)) := by
  have e : (left * v * b + (u * a * den - x * v * b * den)) * G = (left * G) * (v * b) + (u * a * G) * den - x * v * b * den * G := by grind
  rw [e, h, hw]; grind
theorem low_step {n d G A : Int} (hd : 0 < d) (h : n * G = d * A) : lowN n d * G = lowD n d * A := by
  have hc := low_cross (num := n) (den := d)
  have e : d * (lowN n d * G) = d * (lowD n d * A) := by
    have e1 : d * (lowN n d * G) = (lowN n d * d) * G := by grind
    rw [e1, hc]
    have e2 : n * lowD n d * G = lowD n d * (n * G) := by grind
    rw [e2, h]; grind
  exact Int.eq_of_mul_eq_mul_left (by omega) e

end Go.Proofs.Ytkfijicmeekmiaa
