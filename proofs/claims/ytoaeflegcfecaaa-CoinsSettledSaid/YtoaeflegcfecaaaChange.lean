/- The walks of Change; of worth and total, which only read; of ContainsFunc over windows. -/
import Derived.Test.YtoaeflegcfecaaaPay
import Derived.Test.YtoaeflegcfecaaaReach
namespace Go.Proofs.Ytoaeflegcfecaaa
open Go.RowKit

set_option maxHeartbeats 400000 in
theorem change_bad (A : Option Addr) (n c : Nat) (l : List Tub) (x : Int) (w : World) (hr : Rd w 3 A n (tubFlat l)) (hf : amtFault l x ≠ 0) :
    Calls Try.prog 13 #[.slice A n c, .int .i64 x] w fun e w' => e = .returned (.tuple #[.slice none 0 0, .int .i64 (amtFault l x)]) ∧ w.grownBy w' none := by
  have hc := checkAmount_any A n c l x w hr
  have hb : (amtFault l x != 0) = true := by rw [bne_iff_ne]; exact hf
  generalize amtFault l x = f at *
  have HC := Lib.hid hc
  clear hc hf
  go_enter Try.func13, Try.ntmps13
  go_wp2_with fail
  refine HC.out.mono ?_
  rintro e w1 ⟨rfl, hg1⟩
  go_wp2_with fail
  go_ret2
  exact ⟨rfl, hg1⟩

theorem amt_parts {l : List Tub} {a : Nat} (hf : amtFault l (a : Int) = 0) : tubFault l = 0 ∧ a ≤ 20000 := by
  have h0 : tubFault l = 0 := by
    by_cases h : tubFault l = 0
    · exact h
    · simp [amtFault, h] at hf
  have h2 : btw (a : Int) 0 20000 = true := by
    by_cases h : btw (a : Int) 0 20000 = true
    · exact h
    · simp [amtFault, h0, h] at hf
  obtain ⟨hw0, hw1⟩ := btw_true.1 h2
  exact ⟨h0, by omega⟩

set_option maxHeartbeats 400000 in
theorem change_none (A : Option Addr) (n c : Nat) (l : List Tub) (a : Nat) (w : World) (hr : Rd w 3 A n (tubFlat l)) (hf : amtFault l (a : Int) = 0) (hp : paysB l a = false) :
    Calls Try.prog 13 #[.slice A n c, .int .i64 a] w fun e w' => e = .returned (.tuple #[.slice none 0 0, .int .i64 8]) ∧ w.grownBy w' none := by
  have hc := checkAmount_any A n c l a w hr
  obtain ⟨h0, h1⟩ := amt_parts hf
  rw [hf] at hc
  have HC := Lib.hid hc
  have HP := Lib.hid (And.intro h0 (And.intro h1 hp))
  clear hc hf hp h0 h1
  go_enter Try.func13, Try.ntmps13
  go_wp2_with fail
  refine HC.out.mono ?_
  rintro e w1 ⟨rfl, hg1⟩
  go_wp2_with fail
  refine (pay_none A n c l a _ (hr.grown hg1) HP.out.1 HP.out.2.1 HP.out.2.2).mono ?_
  rintro e w2 ⟨rfl, hg2⟩
  go_wp2_with fail
  go_ret2
  exact ⟨rfl, hg1.trans hg2⟩

set_option maxHeartbeats 400000 in
theorem change_some (A : Option Addr) (n c : Nat) (l : List Tub) (a : Nat) (w : World) (hr : Rd w 3 A n (tubFlat l)) (hf : amtFault l (a : Int) = 0) (hp : paysB l a = true) :
    Calls Try.prog 13 #[.slice A n c, .int .i64 a] w fun e w' => ∃ v, e = .returned (.tuple #[v, .int .i64 0]) ∧
      w'.ownsRow w.heap.size 3 1 v n (ints (payRun n a (backAll l)).1) ∧ w.grownBy w' none := by
  have hc := checkAmount_any A n c l a w hr
  obtain ⟨h0, h1⟩ := amt_parts hf
  rw [hf] at hc
  have HC := Lib.hid hc
  have HP := Lib.hid (And.intro h0 (And.intro h1 hp))
  clear hc hf hp h0 h1
  go_enter Try.func13, Try.ntmps13
  go_wp2_with fail
  refine HC.out.mono ?_
  rintro e w1 ⟨rfl, hg1⟩
  go_wp2_with fail
  refine (pay_some A n c l a _ (hr.grown hg1) HP.out.1 HP.out.2.1 HP.out.2.2).mono ?_
  rintro e w2 ⟨v, rfl, hown, hg2⟩
  go_wp2_with fail
  go_ret2
  exact ⟨v, rfl, own_mono hown hg1.size, hg1.trans hg2⟩

/-- Change's coins. -/
def chg (l : List Tub) (a : Nat) : List Int := if paysB l a then (payRun l.length a (backAll l)).1 else []
def chgE (l : List Tub) (a : Nat) : Int := if paysB l a then 0 else 8
theorem change_ok (A : Option Addr) (n c : Nat) (l : List Tub) (a : Nat) (w : World) (hr : Rd w 3 A n (tubFlat l)) (hf : amtFault l (a : Int) = 0) :
    Calls Try.prog 13 #[.slice A n c, .int .i64 a] w fun e w' => ∃ v, e = .returned (.tuple #[v, .int .i64 (chgE l a)]) ∧
      w'.ownsRow w.heap.size 3 1 v (chg l a).length (ints (chg l a)) ∧ w.grownBy w' none := by
  have hl : l.length = n := by have := hr.1; rw [tubFlat_len] at this; omega
  by_cases hp : paysB l a = true
  · refine (change_some A n c l a w hr hf hp).mono ?_
    rintro e w' ⟨v, rfl, ho, hg⟩
    have e1 : chg l a = (payRun n a (backAll l)).1 := by simp [chg, hp, hl]
    have e2 : chgE l a = 0 := by simp [chgE, hp]
    have e3 : (payRun n a (backAll l)).1.length = n := by have := ho.1; simpa [ints] using this
    exact ⟨v, by rw [e2], by rw [e1, e3]; exact ho, hg⟩
  · have hp' : paysB l a = false := by simpa using hp
    refine (change_none A n c l a w hr hf hp').mono ?_
    rintro e w' ⟨rfl, hg⟩
    have e1 : chg l a = [] := by simp [chg, hp']
    have e2 : chgE l a = 8 := by simp [chgE, hp']
    exact ⟨_, by rw [e2], by rw [e1]; exact World.ownsRow_nil _ _ _ _, hg⟩

set_option maxHeartbeats 400000 in
theorem worth_same (A B : Option Addr) (n c m d : Nat) (l : List Tub) (add : List Int) (w : World) (hr : Rd w 3 A n (tubFlat l)) (ha : Rd w 1 B m (ints add)) (hm : m ≤ n) (hn : n ≤ 100)
    (hright : ∀ t ∈ l, 0 ≤ t.v ∧ t.v ≤ 10000) (hadd : ∀ x ∈ add, -1000000 ≤ x ∧ x ≤ 1000000) :
    Calls Try.prog 42 #[.slice A n c, .slice B m d] w fun e w' => e = .returned (.int .i64 (worthOf l add m)) ∧ w' = w := by
  have HR := Lib.hid hright
  have HX := Lib.hid hadd
  clear hright hadd
  go_enter Try.func42, Try.ntmps42
  go_wp2_with fail
  go_loopg [5, 10] m (fun k s i wr => ∃ j : Nat, k + j = m ∧ i = .int .i64 j ∧ s = .int .i64 (worthOf l add j) ∧ wr = w ∧ (-(j : Int) * 10000000000 ≤ worthOf l add j ∧ worthOf l add j ≤ j * 10000000000))
  case atStart => exact ⟨0, by omega, rfl, rfl, rfl, by simp [worthOf]⟩
  case round =>
    obtain ⟨j, hj, rfl, rfl, rfl, hb1, hb2⟩ := hrel
    by_cases hlt : j < m
    · obtain ⟨b, off, rfl, hb, t, ht, c0, c1, c2⟩ := tub_cells hr (k := j) (by omega)
      obtain ⟨b', off', rfl, hb', x, hx, d0⟩ := int_cells ha hlt
      have hjn : (j : Int) < (n : Int) := by omega
      obtain ⟨t1, t2⟩ := HR.out t (List.mem_of_getElem? ht)
      obtain ⟨x1, x2⟩ := HX.out x (List.mem_of_getElem? hx)
      have hW : worthOf l add (j + 1) = worthOf l add j + x * t.v := by simp [worthOf, List.getD, ht, hx]
      have p1 : x * t.v ≤ 1000000 * 10000 := Int.le_trans (Int.mul_le_mul_of_nonneg_right x2 t1) (Int.mul_le_mul_of_nonneg_left t2 (by omega))
      have p0 : -(1000000 * 10000) ≤ x * t.v := by
        have h1 : -1000000 * t.v ≤ x * t.v := Int.mul_le_mul_of_nonneg_right x1 t1
        have h2 : -1000000 * t.v ≥ -(1000000 * 10000) := by omega
        omega
      generalize worthOf l add j = s at *
      have HW := Lib.hid hW
      have HJ := Lib.hid hj
      clear hW hj ht hx
      go_wp2_with fail
      have hj := HJ.out
      go_roundg (gk - 1)
      case measure => omega
      case rel => exact ⟨j + 1, by omega, by go_num, by rw [HW.out], rfl, by rw [HW.out]; omega⟩
    · obtain rfl : j = m := by omega
      go_wp2_with fail
      go_ret
      exact ⟨rfl, rfl⟩

set_option maxHeartbeats 400000 in
theorem total_same (B : Option Addr) (m d : Nat) (add : List Int) (w : World) (ha : Rd w 1 B m (ints add)) (hm : m ≤ 100) (hadd : ∀ x ∈ add, -1000000 ≤ x ∧ x ≤ 1000000) :
    Calls Try.prog 46 #[.slice B m d] w fun e w' => e = .returned (.int .i64 (sumTo add m)) ∧ w' = w := by
  have HX := Lib.hid hadd
  clear hadd
  go_enter Try.func46, Try.ntmps46
  go_wp2_with fail
  go_loopg [3, 8] m (fun k s i wr => ∃ j : Nat, k + j = m ∧ i = .int .i64 j ∧ s = .int .i64 (sumTo add j) ∧ wr = w ∧ (-(j : Int) * 1000000 ≤ sumTo add j ∧ sumTo add j ≤ j * 1000000))
  case atStart => exact ⟨0, by omega, rfl, rfl, rfl, by simp [sumTo]⟩
  case round =>
    obtain ⟨j, hj, rfl, rfl, rfl, hb1, hb2⟩ := hrel
    by_cases hlt : j < m
    · obtain ⟨b', off', rfl, hb', x, hx, d0⟩ := int_cells ha hlt
      obtain ⟨x1, x2⟩ := HX.out x (List.mem_of_getElem? hx)
      have hW : sumTo add (j + 1) = sumTo add j + x := by simp [sumTo, List.getD, hx]
      generalize sumTo add j = s at *
      have HW := Lib.hid hW
      have HJ := Lib.hid hj
      clear hW hj hx
      go_wp2_with fail
      have hj := HJ.out
      go_roundg (gk - 1)
      case measure => omega
      case rel => exact ⟨j + 1, by omega, by go_num, by rw [HW.out], rfl, by rw [HW.out]; omega⟩
    · obtain rfl : j = m := by omega
      go_wp2_with fail
      go_ret
      exact ⟨rfl, rfl⟩

/-- The window j of windows that are laid out as numbers holds x. -/
def inWin (l : List Int) (x : Int) (j : Nat) : Bool := decide (l.getD (2 * j) 0 ≤ x) && decide (x < l.getD (2 * j + 1) 0)

set_option maxHeartbeats 400000 in
theorem inWin_any (B : Nat) (f t x : Int) (w : World) (hb : w.cell? ⟨B, 0, none⟩ = some (.int .i64 x)) :
    Calls Try.prog 44 #[.agg #[.int .i64 f, .int .i64 t], .pointer (some ⟨B, 0, none⟩)] w fun e w' => e = .returned (.bool (decide (f ≤ x) && decide (x < t))) ∧ w.grownBy w' none := by
  have hlt := World.block_lt_of_cell? w _ hb
  by_cases h : f ≤ x
  · have hd : (decide (f ≤ x) && decide (x < t)) = decide (x < t) := by simp [h]
    rw [hd]
    clear hd
    go_enter Try.func44, Try.ntmps44
    go_wp2_with fail
    go_ret
    exact ⟨rfl, grown_alloc (grown_refl w) _⟩
  · have hd : (decide (f ≤ x) && decide (x < t)) = false := by simp [h]
    rw [hd]
    clear hd
    go_enter Try.func44, Try.ntmps44
    go_wp2_with fail
    go_ret
    exact ⟨rfl, grown_alloc (grown_refl w) _⟩

theorem win_cells {w : World} {A : Option Addr} {n : Nat} {l : List Int} (h : Rd w 2 A n (ints l)) {k : Nat} (hk : k < n) :
    ∃ b off, A = some ⟨b, off, none⟩ ∧ b < w.heap.size ∧ w.cell? ⟨b, off + k * 2, none⟩ = some (.int .i64 (l.getD (2 * k) 0)) ∧ w.cell? ⟨b, off + k * 2 + 1, none⟩ = some (.int .i64 (l.getD (2 * k + 1) 0)) := by
  obtain ⟨b, off, e, hb, hc⟩ := h.2 (by omega)
  have hl : l.length = n * 2 := by have := h.1; simpa [ints] using this
  have e1 : l[2 * k]? = some (l.getD (2 * k) 0) := by simp [List.getD, show 2 * k < l.length from by omega]
  have e2 : l[2 * k + 1]? = some (l.getD (2 * k + 1) 0) := by simp [List.getD, show 2 * k + 1 < l.length from by omega]
  have h1 := hc (2 * k) _ (by simp only [ints, List.getElem?_map, e1]; rfl)
  have h2 := hc (2 * k + 1) _ (by simp only [ints, List.getElem?_map, e2]; rfl)
  refine ⟨b, off, e, hb, ?_, ?_⟩
  · rw [show off + k * 2 = off + 2 * k from by omega]; exact h1
  · rw [show off + k * 2 + 1 = off + (2 * k + 1) from by omega]; exact h2

/-- Whether one of the first j windows holds x. -/
def anyWin (l : List Int) (x : Int) : Nat → Bool
  | 0 => false
  | j + 1 => anyWin l x j || inWin l x j

set_option maxHeartbeats 400000 in
theorem containsWin_any (B : Nat) (x : Int) (A : Option Addr) (n c : Nat) (l : List Int) (w : World) (hr : Rd w 2 A n (ints l)) (hn : n ≤ 1000000) (hb : w.cell? ⟨B, 0, none⟩ = some (.int .i64 x)) :
    Calls Try.prog 43 #[.slice A n c, .func (.func 44) #[] #[.pointer (some ⟨B, 0, none⟩)]] w fun e w' => e = .returned (.bool (anyWin l x n)) ∧ w.grownBy w' none := by
  have he' : ∀ (args : Array Value) (w : World), (callFunc 44 args).run Try.prog w = .ok (.enter 44 args) w := enters_of Try.func44 (by kernel_rfl) rfl
  have hI : Calls Try.prog 68 #[.slice A n c, .func (.func 44) #[] #[.pointer (some ⟨B, 0, none⟩)]] w
      fun e w' => (∃ k : Int, e = .returned (.int .i64 k) ∧ decide (0 ≤ k) = anyWin l x n) ∧ w.grownBy w' none := by
    go_enter Try.func68, Try.ntmps68
    go_wp2_with fail
    go_loopg [8] n (fun k i wr => ∃ j : Nat, k + j = n ∧ i = .int .i64 j ∧ w.grownBy wr none ∧ anyWin l x j = false)
    case atStart => exact ⟨0, by omega, rfl, grown_refl w, rfl⟩
    case round =>
      obtain ⟨j, hj, rfl, hg, H⟩ := hrel
      by_cases hlt : j < n
      · obtain ⟨b', off, rfl, hbl, c0, c1⟩ := win_cells (hr.grown hg) hlt
        have hcb : wr.cell? ⟨B, 0, none⟩ = some (.int .i64 x) := hg.cell hb (by simp)
        have hin : inWin l x j = (decide (l.getD (2 * j) 0 ≤ x) && decide (x < l.getD (2 * j + 1) 0)) := rfl
        have hany : anyWin l x (j + 1) = (anyWin l x j || inWin l x j) := rfl
        rw [H, Bool.false_or] at hany
        have hmono : ∀ m, anyWin l x (j + 1) = true → j + 1 ≤ m → anyWin l x m = true := by
          intro m h1 h2
          induction m with
          | zero => omega
          | succ m ih =>
            rcases Nat.lt_or_ge m (j + 1) with h | h
            · rw [show m + 1 = j + 1 from by omega]; exact h1
            · show (anyWin l x m || inWin l x m) = true
              rw [ih h]; rfl
        generalize l.getD (2 * j) 0 = f at *
        generalize l.getD (2 * j + 1) 0 = t at *
        rw [hin] at hany
        have HA := Lib.hid (And.intro hany (And.intro hmono (And.intro hj H)))
        clear hany hmono hj H hin
        go_wp2_with fail
        refine (inWin_any B f t x _ hcb).mono ?_
        rintro e w1 ⟨rfl, hg1⟩
        by_cases hp : (decide (f ≤ x) && decide (x < t)) = true
        · rw [hp]
          go_wp2_with fail
          go_ret
          obtain ⟨hany, hmono, hj, H⟩ := HA.out
          exact ⟨⟨_, rfl, by rw [hmono n (by rw [hany]; exact hp) (by omega)]; simp⟩, hg.trans hg1⟩
        · have hp' : (decide (f ≤ x) && decide (x < t)) = false := by simpa using hp
          rw [hp']
          clear hp
          have HP := Lib.hid hp'
          clear hp'
          go_wp2_with fail
          obtain ⟨hany, hmono, hj, H⟩ := HA.out
          go_roundg (gk - 1)
          case measure => omega
          case rel => exact ⟨j + 1, by omega, by go_num, hg.trans hg1, by rw [hany]; exact HP.out⟩
      · obtain rfl : j = n := by omega
        go_wp2_with fail
        go_ret
        exact ⟨⟨_, rfl, by rw [H]; rfl⟩, hg⟩
  have HC := Lib.hid hI
  clear hI
  go_enter Try.func43, Try.ntmps43
  go_wp2_with fail
  refine HC.out.mono ?_
  rintro e w1 ⟨⟨k, rfl, hk⟩, hg1⟩
  have HK := Lib.hid hk
  clear hk
  go_wp2_with fail
  go_ret
  exact ⟨retB HK.out, hg1⟩

theorem anyWin_iff (l : List Int) (x : Int) (m : Nat) : anyWin l x m = true ↔ ∃ j, j < m ∧ l.getD (2 * j) 0 ≤ x ∧ x < l.getD (2 * j + 1) 0 := by
  induction m with
  | zero => simp [anyWin]
  | succ m ih =>
    simp only [anyWin, Bool.or_eq_true, ih, inWin, Bool.and_eq_true, decide_eq_true_eq]
    constructor
    · rintro (⟨j, h1, h2⟩ | h)
      · exact ⟨j, by omega, h2⟩
      · exact ⟨m, by omega, h⟩
    · rintro ⟨j, h1, h2⟩
      by_cases e : j = m
      · subst e; exact .inr h2
      · exact .inl ⟨j, by omega, h2⟩

/-- The windows hold just the numbers for which it is so. -/
theorem win_spec (F : Nat → Bool) (k m : Nat) (hm : (winL F k).length = 2 * m) :
    (∀ j, j < m → 0 ≤ (winL F k).getD (2 * j) 0 ∧ (winL F k).getD (2 * j) 0 ≤ k ∧ (winL F k).getD (2 * j + 1) 0 ≤ k) ∧ (opnB F k = true → 1 ≤ m ∧ (winL F k).getD (2 * (m - 1) + 1) 0 = k) ∧
    (∀ x : Nat, x < k → (F x = true ↔ ∃ j, j < m ∧ (winL F k).getD (2 * j) 0 ≤ (x : Int) ∧ (x : Int) < (winL F k).getD (2 * j + 1) 0)) := by
  induction k generalizing m with
  | zero =>
    have : m = 0 := by simp [winL] at hm; omega
    subst this
    exact ⟨fun j h => absurd h (by omega), fun h => by simp [opnB] at h, fun x h => absurd h (by omega)⟩
  | succ k ih =>
    by_cases hF : F k = true
    · by_cases ho : opnB F k = true
      · rw [winL_on hF ho] at hm ⊢
        rw [List.length_set] at hm
        obtain ⟨ha, hb, hc⟩ := ih m hm
        obtain ⟨hm1, hlast⟩ := hb ho
        have g0 : ∀ j, ((winL F k).set ((winL F k).length - 1) ((k : Int) + 1)).getD (2 * j) 0 = (winL F k).getD (2 * j) 0 := by
          intro j
          simp only [List.getD]
          rw [List.getElem?_set_ne (by omega)]
        have g1 : ∀ j, j < m → ((winL F k).set ((winL F k).length - 1) ((k : Int) + 1)).getD (2 * j + 1) 0 = if j = m - 1 then (k : Int) + 1 else (winL F k).getD (2 * j + 1) 0 := by
          intro j hj
          simp only [List.getD]
          by_cases e : j = m - 1
          · rw [if_pos e, show (winL F k).length - 1 = 2 * j + 1 from by omega, List.getElem?_set_self (by omega)]; rfl
          · rw [if_neg e, List.getElem?_set_ne (by omega)]
        refine ⟨fun j hj => ?_, fun _ => ⟨hm1, ?_⟩, fun x hx => ?_⟩
        · obtain ⟨a1, a2, a3⟩ := ha j hj
          rw [g0, g1 j hj]
          refine ⟨a1, by omega, ?_⟩
          split <;> omega
        · rw [g1 _ (by omega), if_pos rfl]; rfl
        · by_cases hxk : x = k
          · subst hxk
            obtain ⟨a1, a2, a3⟩ := ha (m - 1) (by omega)
            exact ⟨fun _ => ⟨m - 1, by omega, by rw [g0]; omega, by rw [g1 _ (by omega), if_pos rfl]; omega⟩, fun _ => hF⟩
          · rw [hc x (by omega)]
            constructor
            · rintro ⟨j, h1, h2, h3⟩
              refine ⟨j, h1, by rw [g0]; exact h2, ?_⟩
              rw [g1 j h1]
              split <;> omega
            · rintro ⟨j, h1, h2, h3⟩
              rw [g0] at h2
              rw [g1 j h1] at h3
              refine ⟨j, h1, h2, ?_⟩
              split at h3
              · rename_i e; subst e; rw [hlast]; omega
              · exact h3
      · have ho' : opnB F k = false := by simpa using ho
        rw [winL_new hF ho'] at hm ⊢
        obtain ⟨m0, rfl⟩ : ∃ m0, m = m0 + 1 := ⟨m - 1, by simp at hm; omega⟩
        have hm0 : (winL F k).length = 2 * m0 := by simp at hm; omega
        obtain ⟨ha, hb, hc⟩ := ih m0 hm0
        have g0 : ∀ j, j < 2 * m0 → (winL F k ++ [(k : Int), (k : Int) + 1]).getD j 0 = (winL F k).getD j 0 := by
          intro j hj
          simp only [List.getD]
          rw [List.getElem?_append_left (by omega)]
        have g1 : (winL F k ++ [(k : Int), (k : Int) + 1]).getD (2 * m0) 0 = k := by
          simp only [List.getD]
          rw [List.getElem?_append_right (by omega), hm0, Nat.sub_self]; rfl
        have g2 : (winL F k ++ [(k : Int), (k : Int) + 1]).getD (2 * m0 + 1) 0 = (k : Int) + 1 := by
          simp only [List.getD]
          rw [List.getElem?_append_right (by omega), hm0, show 2 * m0 + 1 - 2 * m0 = 1 from by omega]; rfl
        refine ⟨fun j hj => ?_, fun _ => ⟨by omega, ?_⟩, fun x hx => ?_⟩
        · by_cases e : j = m0
          · subst e; rw [g1, g2]; omega
          · obtain ⟨a1, a2, a3⟩ := ha j (by omega)
            rw [g0 _ (by omega), g0 _ (by omega)]; omega
        · rw [show m0 + 1 - 1 = m0 from by omega, g2]; rfl
        · by_cases hxk : x = k
          · subst hxk
            exact ⟨fun _ => ⟨m0, by omega, by rw [g1]; omega, by rw [g2]; omega⟩, fun _ => hF⟩
          · rw [hc x (by omega)]
            constructor
            · rintro ⟨j, h1, h2, h3⟩
              exact ⟨j, by omega, by rw [g0 _ (by omega)]; exact h2, by rw [g0 _ (by omega)]; exact h3⟩
            · rintro ⟨j, h1, h2, h3⟩
              by_cases e : j = m0
              · subst e; rw [g1] at h2; omega
              · rw [g0 _ (by omega)] at h2 h3
                exact ⟨j, by omega, h2, h3⟩
    · have hF' : F k = false := by simpa using hF
      rw [winL_off hF'] at hm ⊢
      obtain ⟨ha, hb, hc⟩ := ih m hm
      refine ⟨fun j hj => ?_, fun h => by simp [opnB] at h; exact absurd h hF, fun x hx => ?_⟩
      · obtain ⟨a1, a2, a3⟩ := ha j hj
        exact ⟨a1, by omega, by omega⟩
      · by_cases hxk : x = k
        · subst hxk
          constructor
          · intro h; exact absurd h hF
          · rintro ⟨j, h1, h2, h3⟩
            obtain ⟨a1, a2, a3⟩ := ha j h1
            omega
        · exact hc x (by omega)

theorem anyWin_is (F : Nat → Bool) (k m x : Nat) (hm : (winL F k).length = 2 * m) (hx : x < k) : anyWin (winL F k) (x : Int) m = F x := by
  have h := (win_spec F k m hm).2.2 x hx
  rw [← anyWin_iff] at h
  rw [Bool.eq_iff_iff]
  exact h.symm

end Go.Proofs.Ytoaeflegcfecaaa
