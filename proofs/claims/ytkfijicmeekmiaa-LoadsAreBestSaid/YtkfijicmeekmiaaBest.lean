/- The best load as numbers; the stream's histograms that are short. No model in this text. -/
import Derived.Test.YtkfijicmeekmiaaLoadO
import Derived.Test.YtkfijicmeekmiaaHist
namespace Go.Proofs.Ytkfijicmeekmiaa
open Go.RowKit

theorem frac_lt {P Q S : Int} (hS : 0 < S) : lowN P S * lowD Q S < lowN Q S * lowD P S ↔ P < Q := by
  have p0 := lowD_pos (num := P) hS
  have q0 := lowD_pos (num := Q) hS
  have e1 := low_cross (num := P) (den := S)
  have e2 := low_cross (num := Q) (den := S)
  have hD : 0 < lowD P S * lowD Q S := Int.mul_pos p0 q0
  have h1 : (lowN P S * lowD Q S) * S = P * (lowD P S * lowD Q S) := by
    rw [Int.mul_right_comm, e1, Int.mul_assoc]
  have h2 : (lowN Q S * lowD P S) * S = Q * (lowD P S * lowD Q S) := by
    rw [Int.mul_right_comm, e2, Int.mul_assoc, Int.mul_comm (lowD Q S)]
  rw [← Int.mul_lt_mul_right hS, h1, h2, Int.mul_lt_mul_right hD]
theorem low_self {S : Int} (hS : 0 < S) : lowN S S = 1 ∧ lowD S S = 1 := by
  have h1 : lowN S S * (Int.gcd S S : Int) = S := lowN_mul
  have h2 : lowD S S * (Int.gcd S S : Int) = S := lowD_mul
  have h3 : (Int.gcd S S : Int) = S := by rw [Int.gcd_self]; omega
  rw [h3] at h1 h2
  exact ⟨Int.eq_of_mul_eq_mul_right (show S ≠ 0 from by omega) (by rw [h1, Int.one_mul]), Int.eq_of_mul_eq_mul_right (show S ≠ 0 from by omega) (by rw [h2, Int.one_mul])⟩
theorem ord_best {h : List Int} {most : Nat} {m w : Int} {b : Nat} (hh : ∀ x ∈ h, 0 ≤ x) (hmw : 0 ≤ m + w) (hb : OrdS h most m w b) {n : Nat} (hn : n ≤ most) :
    prOf h n m w ≤ prOf h b m w ∧ (n < b → prOf h n m w < prOf h b m w) := by
  obtain ⟨h1, h2, h3⟩ := hb
  have hup : ∀ d, d ≤ b → prOf h (b - d) m w + (if d = 0 then 0 else 1) ≤ prOf h b m w := by
    intro d
    induction d with
    | zero => intro _; simp
    | succ d ih =>
      intro hd
      have h4 := ih (by omega)
      have h5 := h2 (b - (d + 1)) (by omega)
      have e := prOf_step h (b - (d + 1)) m w
      rw [show b - (d + 1) + 1 = b - d from by omega] at e
      unfold gain at h5
      rw [if_neg (by omega)]
      split at h4 <;> omega
  have hdown : ∀ d, b + d ≤ most → prOf h (b + d) m w ≤ prOf h b m w := by
    intro d
    induction d with
    | zero => intro _; exact Int.le_refl _
    | succ d ih =>
      intro hd
      have h4 := ih (by omega)
      have h5 := gain_stop hh hmw (show b ≤ b + d by omega) (h3 (by omega))
      have e := prOf_step h (b + d) m w
      rw [show b + (d + 1) = b + d + 1 from rfl, e]
      unfold gain at h5
      omega
  rcases Nat.lt_or_ge n b with h | h
  · have := hup (b - n) (by omega)
    rw [show b - (b - n) = n from by omega, if_neg (by omega)] at this
    exact ⟨by omega, fun _ => by omega⟩
  · have := hdown (n - b) (by omega)
    rw [show b + (n - b) = n from by omega] at this
    exact ⟨this, fun h' => by omega⟩

theorem hs_row {L : List Int} {t j : Nat} : ∀ x ∈ hsRow L t j, 0 ≤ x ∧ x ≤ 5 := by
  intro x hx
  obtain ⟨i, _, rfl⟩ := List.mem_map.1 hx
  have h := pk_mem L (t + i) [0, 1, 1, 2, 5] (by simp)
  simp only [List.mem_cons, List.not_mem_nil, or_false] at h
  omega
theorem small_sum {l : List Int} (h : ∀ x ∈ l, 0 ≤ x ∧ x ≤ 5) : 0 ≤ l.sum ∧ l.sum ≤ 5 * l.length := sum_rng (by omega) h
theorem zero_sum {l : List Int} (h : ∀ x ∈ l, 0 ≤ x) (hs : l.sum = 0) : ∀ x ∈ l, x = 0 := by
  induction l with
  | nil => intro x hx; cases hx
  | cons a l ih =>
    have h1 := h a (by simp)
    have h2 := (drop_sum_le (h := l) (fun x hx => h x (by simp [hx])) 0).1
    rw [List.drop_zero] at h2
    rw [List.sum_cons] at hs
    intro x hx
    rcases List.mem_cons.1 hx with rfl | hx
    · omega
    · exact ih (fun x hx => h x (by simp [hx])) (by omega) x hx
/-- A right histogram of the stream that is short: its sum is small, or divides all its numbers. -/
theorem hist_short {L : List Int} {t : Nat} (hf : histF (histM L t).2 = 0) (hl : (histM L t).2.length ≤ 20) :
    (histM L t).2.sum ≤ 200000 ∨ ∀ x ∈ (histM L t).2, (histM L t).2.sum ∣ x := by
  have hn := nx_in L t 8 (by omega)
  have hr := hs_row (L := L) (t := t + 1) (j := (nx L t 8).toNat)
  have hrl := hsRow_len L (t + 1) (nx L t 8).toNat
  obtain ⟨f1, f2, f3, f4⟩ := histF_ok hf
  unfold histM at *
  generalize hsRow L (t + 1) (nx L t 8).toNat = R at *
  generalize t + 1 + (nx L t 8).toNat = t' at *
  have hs := small_sum hr
  unfold hsEnd at *
  by_cases c0 : nx L t' 20 = 0
  · simp only [if_pos c0] at *
    have hp := pk_mem L (t' + 1) [-1, 1000000000, 1000000001] (by simp)
    simp only [List.mem_cons, List.not_mem_nil, or_false] at hp
    generalize pk L (t' + 1) [-1, 1000000000, 1000000001] = p at *
    have hpr := f2 p (by simp)
    rw [List.sum_append] at f3 f4 ⊢
    simp only [List.sum_cons, List.sum_nil] at *
    have hp1 : p = 1000000000 := by omega
    have hz := zero_sum (fun x hx => (hr x hx).1) (show R.sum = 0 by omega)
    right
    intro x hx
    rw [show R.sum + (p + 0) = 1000000000 from by omega]
    rcases List.mem_append.1 hx with h | h
    · rw [hz x h]; exact Int.dvd_zero _
    · simp at h; rw [h, hp1]; exact Int.dvd_refl _
  · by_cases c1 : nx L t' 20 = 1
    · simp only [if_neg c0, if_pos c1] at hl
      have hp := pk_mem L (t' + 1) [1000, 2000, 2001] (by simp)
      simp only [List.mem_cons, List.not_mem_nil, or_false] at hp
      simp at hl
      omega
    · by_cases c2 : nx L t' 20 = 2
      · simp only [if_neg c0, if_neg c1, if_pos c2] at *
        left
        rw [List.sum_append]
        simp
        omega
      · simp only [if_neg c0, if_neg c1, if_neg c2] at *
        left
        omega

theorem pr_dvd {h : List Int} {S : Int} (hd : ∀ x ∈ h, S ∣ x) (load : Nat) (m w : Int) : S ∣ prOf h load m w := by
  unfold prOf
  have : ∀ j, j ≤ h.length → S ∣ prAt h load m w j := by
    intro j
    induction j with
    | zero => intro _; exact Int.dvd_zero _
    | succ j ih =>
      intro hj
      have hx : h[j]? = some (h.getD j 0) := by simp [List.getD, show j < h.length from by omega]
      simp only [prAt]
      exact Int.dvd_add (ih (by omega)) (Int.dvd_mul_of_dvd_left (hd _ (List.mem_of_getElem? hx)))
  exact this _ (Nat.le_refl _)
theorem low_dvd {P S : Int} (hS : 0 < S) (h : S ∣ P) : lowD P S = 1 ∧ lowN P S * S = P := by
  have hg : (Int.gcd P S : Int) = S := by
    have h1 : (S : Int) ∣ (Int.gcd P S : Int) := Int.dvd_coe_gcd h (Int.dvd_refl _)
    have h2 : (Int.gcd P S : Int) ∣ S := Int.gcd_dvd_right ..
    exact Int.dvd_antisymm (by omega) (by omega) h2 h1
  have h1 : lowN P S * (Int.gcd P S : Int) = P := lowN_mul
  have h2 : lowD P S * (Int.gcd P S : Int) = S := lowD_mul
  rw [hg] at h1 h2
  exact ⟨Int.eq_of_mul_eq_mul_right (show S ≠ 0 from by omega) (by rw [h2, Int.one_mul]), h1⟩
/-- The products that are compared are in range. -/
theorem cross_rng {h : List Int} (hh : ∀ x ∈ h, 0 ≤ x) (hS : 0 < h.sum) (hS1 : h.sum ≤ 1000000000) (hd : h.sum ≤ 200000 ∨ ∀ x ∈ h, h.sum ∣ x) {m w : Int} (hm : 0 ≤ m ∧ m ≤ 10000) (hw : 0 ≤ w ∧ w ≤ 10000) {i j : Nat} (hi : i ≤ 12) :
    -9000000000000000000 ≤ lowN (prOf h i m w) h.sum * lowD (prOf h j m w) h.sum ∧ lowN (prOf h i m w) h.sum * lowD (prOf h j m w) h.sum ≤ 9000000000000000000 := by
  have hp := prOf_rng hh (load := i) (by omega) hm hw
  rcases hd with hd | hd
  · have d0 := lowD_pos (num := prOf h j m w) hS
    have d1 := lowD_le (num := prOf h j m w) hS
    have n0 : -(20010000 * h.sum) ≤ lowN (prOf h i m w) h.sum ∧ lowN (prOf h i m w) h.sum ≤ 20010000 * h.sum := tdiv_le (gcd_pos hS) hp.1 hp.2
    have := mul_abs (x := lowD (prOf h j m w) h.sum) (y := lowN (prOf h i m w) h.sum) (K := 4002000000000) (by omega) (by omega)
    rw [Int.mul_comm (lowD (prOf h j m w) h.sum)] at this
    omega
  · obtain ⟨e1, _⟩ := low_dvd hS (pr_dvd hd j m w)
    obtain ⟨_, e2⟩ := low_dvd hS (pr_dvd hd i m w)
    rw [e1, Int.mul_one]
    have : lowN (prOf h i m w) h.sum ≤ 20010000 := by
      have : lowN (prOf h i m w) h.sum * h.sum ≤ 20010000 * h.sum := by rw [e2]; exact hp.2
      exact Int.le_of_mul_le_mul_right this hS
    have : -20010000 ≤ lowN (prOf h i m w) h.sum := by
      have : -20010000 * h.sum ≤ lowN (prOf h i m w) h.sum * h.sum := by rw [e2, Int.neg_mul]; exact hp.1
      exact Int.le_of_mul_le_mul_right this hS
    omega

end Go.Proofs.Ytkfijicmeekmiaa
