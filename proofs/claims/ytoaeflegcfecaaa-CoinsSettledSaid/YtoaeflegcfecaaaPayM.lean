/- The mathematics of paying: what the descent leaves; no way has fewer coins. -/
import Derived.Test.YtoaeflegcfecaaaPayer
import Derived.Test.YtoaeflegcfecaaaGreedy
namespace Go.Proofs.Ytoaeflegcfecaaa
open Go.RowKit

/-- The greatest number up to m for which something is so. -/
def kDown (p : Nat → Bool) : Nat → Nat
  | 0 => 0
  | m + 1 => if p (m + 1) then m + 1 else kDown p m
theorem kDown_le (p : Nat → Bool) (m : Nat) : kDown p m ≤ m := by
  induction m with
  | zero => exact Nat.le_refl _
  | succ m ih => simp only [kDown]; split <;> omega
theorem kDown_spec (p : Nat → Bool) (m : Nat) (h : ∃ k, k ≤ m ∧ p k = true) : p (kDown p m) = true := by
  induction m with
  | zero => obtain ⟨k, h1, h2⟩ := h; obtain rfl : k = 0 := by omega
            exact h2
  | succ m ih =>
    simp only [kDown]
    by_cases hp : p (m + 1) = true
    · rw [if_pos hp]; exact hp
    · rw [if_neg hp]
      obtain ⟨k, h1, h2⟩ := h
      by_cases e : k = m + 1
      · subst e; exact absurd h2 hp
      · exact ih ⟨k, by omega, h2⟩
theorem kDown_pos {p : Nat → Bool} {m : Nat} (h : p m = true) : kDown p m = m := by
  cases m with
  | zero => rfl
  | succ m => simp [kDown, h]
theorem kDown_neg {p : Nat → Bool} {m : Nat} (h : p (m + 1) = false) : kDown p (m + 1) = kDown p m := by simp [kDown, h]

def fitB (l : List Tub) (i left v : Nat) (k : Nat) : Bool := decide (rowF l i (left - k * v) + k = rowF l (i + 1) left)
def payK (l : List Tub) (x : Nat × Tub) (left : Nat) : Nat := kDown (fitB l x.1 left x.2.v.toNat) (min x.2.c.toNat (left / x.2.v.toNat))
def payStep (l : List Tub) (s : List Int × Nat) (x : Nat × Tub) : List Int × Nat := (s.1.set x.1 (payK l x s.2 : Nat), s.2 - payK l x s.2 * x.2.v.toNat)
def payRun (n a : Nat) {l : List Tub} (pre : List (BackAt l)) : List Int × Nat := (pre.map (·.1)).foldl (payStep l) (List.replicate n 0, a)
theorem payRun_snoc (n a : Nat) {l : List Tub} (pre : List (BackAt l)) (x : BackAt l) : payRun n a (pre ++ [x]) = payStep l (payRun n a pre) x.1 := by simp [payRun]

theorem payK_fit {l : List Tub} {i : Nat} {t : Tub} (ht : l[i]? = some t) (hv : 1 ≤ t.v) (left : Nat) :
    ∃ k, k ≤ min t.c.toNat (left / t.v.toNat) ∧ fitB l i left t.v.toNat k = true := by
  obtain ⟨k, h1, h2, h3⟩ := up_ex (rowF l i) t.v.toNat t.c.toNat left
  have h4 : k ≤ left / t.v.toNat := (Nat.le_div_iff_mul_le (by omega)).2 h2
  exact ⟨k, by omega, by unfold fitB; rw [rowF_succ ht, h3]; simp⟩
theorem payK_ok {l : List Tub} {i : Nat} {t : Tub} (ht : l[i]? = some t) (hv : 1 ≤ t.v) (left : Nat) :
    payK l (i, t) left ≤ t.c.toNat ∧ payK l (i, t) left * t.v.toNat ≤ left ∧ rowF l i (left - payK l (i, t) left * t.v.toNat) + payK l (i, t) left = rowF l (i + 1) left := by
  have h1 := kDown_le (fitB l i left t.v.toNat) (min t.c.toNat (left / t.v.toNat))
  have h2 := kDown_spec _ _ (payK_fit ht hv left)
  unfold fitB at h2
  have h3 := of_decide_eq_true h2
  have h4 : payK l (i, t) left ≤ left / t.v.toNat := by unfold payK; simp only at *; omega
  exact ⟨by unfold payK; simp only at *; omega, (Nat.le_div_iff_mul_le (by omega)).1 h4, h3⟩

theorem payRun_rng (n a : Nat) {l : List Tub} (pre : List (BackAt l)) : (payRun n a pre).2 ≤ a := by
  suffices h : ∀ (xs : List (Nat × Tub)) (s : List Int × Nat), (xs.foldl (payStep l) s).2 ≤ s.2 by exact h _ _
  intro xs
  induction xs with
  | nil => intro s; exact Nat.le_refl _
  | cons x xs ih => intro s; refine Nat.le_trans (ih _) ?_; simp [payStep]

/-- The sum of the first j numbers. -/
def sumTo (g : List Int) : Nat → Int
  | 0 => 0
  | j + 1 => sumTo g j + g.getD j 0
theorem sumTo_set (g : List Int) (i : Nat) (x : Int) (hi : i < g.length) (j : Nat) : sumTo (g.set i x) j = sumTo g j + if i < j then x - g.getD i 0 else 0 := by
  induction j with
  | zero => simp [sumTo]
  | succ j ih =>
    simp only [sumTo, ih]
    by_cases hij : i = j
    · subst hij
      have e1 : (g.set i x).getD i 0 = x := by simp [List.getD, hi]
      rw [e1, if_neg (by omega), if_pos (by omega)]
      omega
    · have e1 : (g.set i x).getD j 0 = g.getD j 0 := by simp [List.getD, List.getElem?_set_ne hij]
      rw [e1]
      by_cases h : i < j
      · rw [if_pos h, if_pos (by omega)]; omega
      · rw [if_neg h, if_neg (by omega)]; omega
theorem rep_getD (n j : Nat) : (List.replicate n (0 : Int)).getD j 0 = 0 := by
  simp only [List.getD]
  cases h : (List.replicate n (0 : Int))[j]? with
  | none => rfl
  | some y => have := List.mem_of_getElem? h; simp at this; simp [this.2]
theorem sumTo_rep (n j : Nat) : sumTo (List.replicate n 0) j = 0 := by
  induction j with
  | zero => rfl
  | succ j ih => simp only [sumTo, ih, rep_getD]; omega

/-- After the tubes from the last down to tube j: coins g, and left. -/
structure Down (l : List Tub) (a : Int) (j : Nat) (g : List Int) (left : Int) : Prop where
  len : g.length = l.length
  low : ∀ i, i < j → g.getD i 0 = 0
  rng : ∀ i, i < l.length → 0 ≤ g.getD i 0 ∧ g.getD i 0 ≤ (tubD l i).c
  pos : 0 ≤ left
  sum : left + worthOf l g l.length = a

theorem Down.start (l : List Tub) (a : Int) (h : 0 ≤ a) (hc : ∀ t ∈ l, 0 ≤ t.c) : Down l a l.length (List.replicate l.length 0) a where
  len := by simp
  low := fun i _ => rep_getD _ _
  rng := fun i hi => by
    rw [rep_getD]
    have ht := hc (tubD l i) (List.mem_of_getElem? (tubD_at (l := l) (i := i) (List.getElem?_eq_getElem hi) ▸ List.getElem?_eq_getElem hi))
    exact ⟨Int.le_refl _, ht⟩
  pos := h
  sum := by rw [worthOf_rep]; omega

theorem Down.next {l : List Tub} {a : Int} {j : Nat} {g : List Int} {left : Int} {t : Tub} (h : Down l a (j + 1) g left) (ht : l[j]? = some t) (k : Int) (h0 : 0 ≤ k) (h1 : k ≤ t.c) (h2 : k * t.v ≤ left) :
    Down l a j (g.set j k) (left - k * t.v) := by
  obtain ⟨hj, _⟩ := List.getElem?_eq_some_iff.1 ht
  have hlow := h.low j (by omega)
  have htd := tubD_at ht
  have hlen := h.len
  refine ⟨by rw [List.length_set]; exact h.len, fun i hi => ?_, fun i hi => ?_, by omega, ?_⟩
  · have := h.low i (by omega)
    simpa [List.getD, List.getElem?_set_ne (show j ≠ i from by omega)] using this
  · by_cases e : i = j
    · subst e
      have e1 : (g.set i k).getD i 0 = k := by simp [List.getD, show i < g.length from by omega]
      rw [e1, htd]; exact ⟨h0, h1⟩
    · have := h.rng i hi
      simpa [List.getD, List.getElem?_set_ne (show j ≠ i from fun e' => e e'.symm)] using this
  · have := h.sum
    rw [worthOf_set _ _ _ _ (by omega), if_pos hj, hlow, htd]
    have e : (k - 0) * t.v = k * t.v := by rw [Int.sub_zero]
    rw [e]
    omega

/-- The tubes from the last down: one more. -/
theorem back_step {l : List Tub} {j : Nat} (hj : j < l.length) : ∃ (t : Tub) (x : BackAt l), l[j]? = some t ∧ x.1 = (j, t) ∧ (backAll l).take (l.length - j) = (backAll l).take (l.length - (j + 1)) ++ [x] := by
  have ht : l[j]? = some l[j] := List.getElem?_eq_getElem hj
  obtain ⟨x, hx, hxe⟩ := backAll_at l j _ ht
  exact ⟨_, x, ht, hxe, by rw [show l.length - j = (l.length - (j + 1)) + 1 from by omega]; exact take_at hx⟩
theorem back_all (l : List Tub) : (backAll l).take (l.length - 0) = backAll l := by rw [Nat.sub_zero, List.take_of_length_le (by rw [backAll_len]; omega)]

theorem pay_down (l : List Tub) (a : Nat) (hr : ∀ t ∈ l, RightT t) (m j : Nat) (hj : j + m = l.length) :
    Down l a j (payRun l.length a ((backAll l).take (l.length - j))).1 ((payRun l.length a ((backAll l).take (l.length - j))).2 : Int) ∧
    sumTo (payRun l.length a ((backAll l).take (l.length - j))).1 l.length + rowF l j (payRun l.length a ((backAll l).take (l.length - j))).2 = rowF l l.length a := by
  induction m generalizing j with
  | zero =>
    obtain rfl : j = l.length := by omega
    rw [Nat.sub_self, List.take_zero]
    refine ⟨Down.start l a (by omega) fun t ht => (hr t ht).2.2.1, ?_⟩
    show sumTo (List.replicate l.length 0) l.length + rowF l l.length a = _
    rw [sumTo_rep]; omega
  | succ m ih =>
    obtain ⟨hd, hs⟩ := ih (j + 1) (by omega)
    obtain ⟨t, x, ht, hxe, htk⟩ := back_step (show j < l.length by omega)
    rw [htk, payRun_snoc, hxe]
    generalize payRun l.length a ((backAll l).take (l.length - (j + 1))) = s at *
    obtain ⟨r1, r2, r3, r4, r5⟩ := hr t (List.mem_of_getElem? ht)
    obtain ⟨k1, k2, k3⟩ := payK_ok ht r1 s.2
    simp only [payStep]
    generalize payK l (j, t) s.2 = k at *
    have e1 : ((s.2 - k * t.v.toNat : Nat) : Int) = (s.2 : Int) - (k : Int) * t.v := by
      rw [Int.ofNat_sub k2, Int.natCast_mul, Int.toNat_of_nonneg (by omega)]
    have k2' : (k : Int) * t.v ≤ (s.2 : Int) := by
      have : ((k * t.v.toNat : Nat) : Int) = (k : Int) * t.v := by rw [Int.natCast_mul, Int.toNat_of_nonneg (by omega)]
      omega
    refine ⟨by rw [e1]; exact hd.next ht k (by omega) (by omega) k2', ?_⟩
    have hlen := hd.len
    rw [sumTo_set s.1 j (k : Int) (by omega) l.length, if_pos (by omega), hd.low j (by omega)]
    omega

/-- What pay's coins are. -/
theorem pay_spec (l : List Tub) (a : Nat) (hr : ∀ t ∈ l, RightT t) (hp : rowF l l.length a ≠ 20001) :
    (payRun l.length a (backAll l)).1.length = l.length ∧ (∀ i, i < l.length → 0 ≤ (payRun l.length a (backAll l)).1.getD i 0 ∧ (payRun l.length a (backAll l)).1.getD i 0 ≤ (tubD l i).c) ∧
    worthOf l (payRun l.length a (backAll l)).1 l.length = a ∧ sumTo (payRun l.length a (backAll l)).1 l.length = rowF l l.length a := by
  have h := pay_down l a hr l.length 0 (by omega)
  rw [back_all] at h
  generalize payRun l.length a (backAll l) = s at *
  obtain ⟨hd, hs⟩ := h
  have hb := rowF_bound l l.length a
  have hnn : ∀ j, j ≤ l.length → 0 ≤ sumTo s.1 j := by
    intro j hj
    induction j with
    | zero => exact Int.le_refl _
    | succ j ih => have := hd.rng j (by omega); have := ih (by omega); simp only [sumTo]; omega
  have h0 := hnn l.length (Nat.le_refl _)
  have hr0 : rowF l 0 s.2 = if s.2 = 0 then 0 else 20001 := rfl
  rw [hr0] at hs
  have hz : s.2 = 0 := by
    by_cases e : s.2 = 0
    · exact e
    · rw [if_neg e] at hs; omega
  rw [if_pos hz] at hs
  have := hd.sum
  exact ⟨hd.len, hd.rng, by omega, by omega⟩

/-- No way has fewer coins. -/
theorem best_le (l : List Tub) (hr : ∀ t ∈ l, RightT t) (g : List Int) (hg : ∀ i, i < l.length → 0 ≤ g.getD i 0 ∧ g.getD i 0 ≤ (tubD l i).c) (j : Nat) (hj : j ≤ l.length) :
    0 ≤ worthOf l g j ∧ rowF l j (worthOf l g j).toNat ≤ sumTo g j := by
  induction j with
  | zero => exact ⟨Int.le_refl _, Int.le_refl _⟩
  | succ j ih =>
    obtain ⟨h0, h1⟩ := ih (by omega)
    have ht : l[j]? = some l[j] := List.getElem?_eq_getElem (by omega)
    obtain ⟨r1, r2, r3, r4, r5⟩ := hr _ (List.mem_of_getElem? ht)
    obtain ⟨g1, g2⟩ := hg j (by omega)
    rw [tubD_at ht] at g2
    have e1 : worthOf l g (j + 1) = worthOf l g j + g.getD j 0 * l[j].v := by
      have := tubD_at ht
      unfold tubD at this
      simp only [worthOf, this]
    rw [rowF_succ ht, e1]
    simp only [sumTo]
    generalize g.getD j 0 = k at *
    obtain ⟨k', rfl⟩ := Int.eq_ofNat_of_zero_le g1
    obtain ⟨v', hv'⟩ := Int.eq_ofNat_of_zero_le (show 0 ≤ l[j].v by omega)
    obtain ⟨x', hx'⟩ := Int.eq_ofNat_of_zero_le h0
    have e2 : (k' : Int) * l[j].v = ((k' * v' : Nat) : Int) := by rw [hv', Int.natCast_mul]
    rw [e2, hx']
    rw [hx'] at h1
    refine ⟨by omega, ?_⟩
    have hle := up_le (rowF l j) l[j].v.toNat l[j].c.toNat (((x' : Int) + ((k' * v' : Nat) : Int)).toNat) k' (by omega) (by rw [hv', Int.toNat_natCast]; omega)
    have e3 : ((x' : Int) + ((k' * v' : Nat) : Int)).toNat - k' * l[j].v.toNat = (x' : Int).toNat := by rw [hv', Int.toNat_natCast]; omega
    rw [e3] at hle
    omega

theorem greedy_down (l : List Tub) (x : Int) (h0 : 0 ≤ x) (hr : ∀ t ∈ l, RightT t) (m j : Nat) (hj : j + m = l.length) :
    Down l x j (gRun l.length x ((backAll l).take (l.length - j))).1 (gRun l.length x ((backAll l).take (l.length - j))).2 := by
  induction m generalizing j with
  | zero =>
    obtain rfl : j = l.length := by omega
    rw [Nat.sub_self, List.take_zero]
    exact Down.start l x h0 fun t ht => (hr t ht).2.2.1
  | succ m ih =>
    have hd := ih (j + 1) (by omega)
    obtain ⟨t, y, ht, hye, htk⟩ := back_step (show j < l.length by omega)
    rw [htk, gRun_snoc, hye]
    generalize gRun l.length x ((backAll l).take (l.length - (j + 1))) = s at *
    obtain ⟨r1, r2, r3, r4, r5⟩ := hr t (List.mem_of_getElem? ht)
    simp only [gStep]
    have hp := hd.pos
    have q0 : 0 ≤ s.2 / t.v := Int.ediv_nonneg hp (by omega)
    have q1 : s.2 / t.v * t.v ≤ s.2 := Int.ediv_mul_le _ (by omega)
    have q2 : min t.c (s.2 / t.v) * t.v ≤ s.2 / t.v * t.v := Int.mul_le_mul_of_nonneg_right (by omega) (by omega)
    exact hd.next ht _ (by omega) (by omega) (by omega)

theorem greedy_spec (l : List Tub) (x : Int) (h0 : 0 ≤ x) (hr : ∀ t ∈ l, RightT t) : Down l x 0 (gRun l.length x (backAll l)).1 (gRun l.length x (backAll l)).2 := by
  have h := greedy_down l x h0 hr l.length 0 (by omega)
  rwa [back_all] at h

end Go.Proofs.Ytoaeflegcfecaaa
