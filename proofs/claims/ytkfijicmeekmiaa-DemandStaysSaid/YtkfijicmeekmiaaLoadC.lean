/- The walks of checkLoad, checkUnit, of the reference's MoneyFault and moreThan. -/
import Derived.Test.YtkfijicmeekmiaaLoad
import Derived.Test.YtkfijicmeekmiaaOrE
namespace Go.Proofs.Ytkfijicmeekmiaa
open Go.RowKit

/-- What is wrong with a load, a margin and a waste. -/
def moneyF (load m u : Int) : Int := if btw load 0 2001 && (btw m 0 10000 && btw u 0 10000) then 0 else 1
theorem money_ok {load m u : Int} (h : moneyF load m u = 0) : (0 ≤ load ∧ load ≤ 2001) ∧ (0 ≤ m ∧ m ≤ 10000) ∧ 0 ≤ u ∧ u ≤ 10000 := by
  unfold moneyF at h
  by_cases hb : (btw load 0 2001 && (btw m 0 10000 && btw u 0 10000)) = true
  · simp only [Bool.and_eq_true, btw_true] at hb
    omega
  · rw [if_neg hb] at h; omega
theorem orE_zero {x y : Int} (h : orE x y = 0) : x = 0 ∧ y = 0 := by
  unfold orE at h
  by_cases hx : x = 0
  · rw [if_pos hx] at h; exact ⟨hx, h⟩
  · rw [if_neg hx] at h; exact absurd h hx

set_option maxHeartbeats 1000000 in
theorem checkLoad_any (A : Option Addr) (n c : Nat) (l : List Int) (load : Int) (w : World) (hr : Rd w 1 A n (ints l)) (hn : n ≤ 100000) :
    Calls Try.prog 101 #[.slice A n c, .int .i64 load] w fun e w' => e = .returned (.int .i64 (orE (histF l) (if btw load 0 2001 then 0 else 1))) ∧ w.grownBy w' none := by
  have h1 := checkHist_any A n c l w hr hn
  have h2 := between_any load 0 2001
  generalize histF l = f at *
  generalize btw load 0 2001 = q at *
  by_cases hf : f = 0
  · subst hf
    obtain ⟨V, hV⟩ : ∃ V, V = orE 0 (if q then 0 else 1) := ⟨_, rfl⟩
    rw [← hV]
    have HC := Lib.hid (And.intro h1 (And.intro h2 hV))
    clear h1 h2 hV
    cases q
    all_goals
      go_enter Try.func101, Try.ntmps101
      go_wp2_with fail
      refine HC.out.1.mono ?_
      rintro e w1 ⟨rfl, hg1⟩
      go_wp2_with fail
      refine (HC.out.2.1 _).mono ?_
      rintro e w2 ⟨rfl, rfl⟩
      go_wp2_with fail
      go_ret
      exact ⟨by rw [HC.out.2.2]; rfl, hg1⟩
  · obtain ⟨V, hV⟩ : ∃ V, V = orE f (if q then 0 else 1) := ⟨_, rfl⟩
    rw [← hV]
    have hv : V = f := by rw [hV]; unfold orE; rw [if_neg hf]
    have hne : (f != 0) = true := by rw [bne_iff_ne]; exact hf
    have HC := Lib.hid (And.intro h1 hv)
    clear h1 h2 hV hv hf
    go_enter Try.func101, Try.ntmps101
    go_wp2_with fail
    refine HC.out.1.mono ?_
    rintro e w1 ⟨rfl, hg1⟩
    go_wp2_with fail
    go_ret
    exact ⟨by rw [HC.out.2]; rfl, hg1⟩

set_option maxHeartbeats 1000000 in
theorem checkUnit_any (A : Option Addr) (n c : Nat) (l : List Int) (load m u : Int) (w : World) (hr : Rd w 1 A n (ints l)) (hn : n ≤ 100000) :
    Calls Try.prog 103 #[.slice A n c, .int .i64 load, .int .i64 m, .int .i64 u] w fun e w' => e = .returned (.int .i64 (orE (histF l) (moneyF load m u))) ∧ w.grownBy w' none := by
  have h1 := checkLoad_any A n c l load w hr hn
  have h2 := between_any m 0 10000
  have h3 := between_any u 0 10000
  unfold moneyF
  generalize btw load 0 2001 = q at *
  generalize btw m 0 10000 = qm at *
  generalize btw u 0 10000 = qu at *
  generalize histF l = f at *
  obtain ⟨V, hV⟩ : ∃ V, V = orE f (if (q && (qm && qu)) = true then 0 else 1) := ⟨_, rfl⟩
  rw [← hV]
  by_cases hf : orE f (if q = true then 0 else 1) = 0
  · rw [hf] at h1
    obtain ⟨rfl, hq⟩ := orE_zero hf
    have hq' : q = true := by cases q <;> simp_all
    subst hq'
    have HC := Lib.hid (And.intro h1 (And.intro h2 (And.intro h3 hV)))
    clear h1 h2 h3 hV hf hq
    cases qm
    · go_enter Try.func103, Try.ntmps103
      go_wp2_with fail
      refine HC.out.1.mono ?_
      rintro e w1 ⟨rfl, hg1⟩
      go_wp2_with fail
      refine (HC.out.2.1 _).mono ?_
      rintro e w2 ⟨rfl, rfl⟩
      go_wp2_with fail
      go_ret
      exact ⟨by rw [HC.out.2.2.2]; cases qu <;> rfl, hg1⟩
    · cases qu
      all_goals
        go_enter Try.func103, Try.ntmps103
        go_wp2_with fail
        refine HC.out.1.mono ?_
        rintro e w1 ⟨rfl, hg1⟩
        go_wp2_with fail
        refine (HC.out.2.1 _).mono ?_
        rintro e w2 ⟨rfl, rfl⟩
        go_wp2_with fail
        refine (HC.out.2.2.1 _).mono ?_
        rintro e w2 ⟨rfl, rfl⟩
        go_wp2_with fail
        go_ret
        exact ⟨by rw [HC.out.2.2.2]; rfl, hg1⟩
  · have hv : V = orE f (if q = true then 0 else 1) := by
      rw [hV]
      unfold orE at *
      by_cases hf0 : f = 0
      · rw [if_pos hf0] at hf ⊢
        rw [if_pos hf0]
        cases q
        · rfl
        · simp at hf
      · rw [if_neg hf0, if_neg hf0]
    have hne : (orE f (if q = true then 0 else 1) != 0) = true := by rw [bne_iff_ne]; exact hf
    generalize orE f (if q = true then 0 else 1) = g at *
    have HC := Lib.hid (And.intro h1 hv)
    clear h1 h2 h3 hV hv hf
    go_enter Try.func103, Try.ntmps103
    go_wp2_with fail
    refine HC.out.1.mono ?_
    rintro e w1 ⟨rfl, hg1⟩
    go_wp2_with fail
    go_ret
    exact ⟨by rw [HC.out.2]; rfl, hg1⟩

set_option maxHeartbeats 1000000 in
theorem moneyFault_any (load m u : Int) (w : World) :
    Calls Try.prog 50 #[.int .i64 load, .int .i64 m, .int .i64 u] w fun e w' => e = .returned (.int .i64 (moneyF load m u)) ∧ w.grownBy w' none := by
  obtain ⟨V, hV⟩ : ∃ V, V = moneyF load m u := ⟨_, rfl⟩
  rw [← hV]
  by_cases h : (btw load 0 2001 && (btw m 0 10000 && btw u 0 10000)) = true
  · have hv : V = 0 := by rw [hV]; unfold moneyF; rw [if_pos h]
    simp only [Bool.and_eq_true, btw_true] at h
    obtain ⟨⟨h1, h2⟩, ⟨h3, h4⟩, h5, h6⟩ := h
    have e1 : decide (load < 0) = false := by simp; omega
    have e2 : decide (2001 < load) = false := by simp; omega
    have e3 : decide (m < 0) = false := by simp; omega
    have e4 : decide (10000 < m) = false := by simp; omega
    have e5 : decide (u < 0) = false := by simp; omega
    have e6 : decide (10000 < u) = false := by simp; omega
    have HV := Lib.hid hv
    clear hV hv
    go_enter Try.func50, Try.ntmps50
    go_wp2_with fail
    go_ret
    rw [HV.out]
    exact ⟨rfl, grown_refl w⟩
  · have hv : V = 1 := by rw [hV]; unfold moneyF; rw [if_neg h]
    have hc : load < 0 ∨ (0 ≤ load ∧ 2001 < load) ∨ (0 ≤ load ∧ load ≤ 2001 ∧ m < 0) ∨ (0 ≤ load ∧ load ≤ 2001 ∧ 0 ≤ m ∧ 10000 < m) ∨ (0 ≤ load ∧ load ≤ 2001 ∧ 0 ≤ m ∧ m ≤ 10000 ∧ u < 0) ∨ (0 ≤ load ∧ load ≤ 2001 ∧ 0 ≤ m ∧ m ≤ 10000 ∧ 0 ≤ u ∧ 10000 < u) := by
      simp only [Bool.and_eq_true, btw_true] at h
      omega
    have HV := Lib.hid hv
    clear hV hv h
    rcases hc with h1 | ⟨h1, h2⟩ | ⟨h1, h2, h3⟩ | ⟨h1, h2, h3, h4⟩ | ⟨h1, h2, h3, h4, h5⟩ | ⟨h1, h2, h3, h4, h5, h6⟩
    · have e1 : decide (load < 0) = true := by simp; omega
      go_enter Try.func50, Try.ntmps50
      go_wp2_with fail
      go_ret
      rw [HV.out]
      exact ⟨rfl, grown_refl w⟩
    · have e1 : decide (load < 0) = false := by simp; omega
      have e2 : decide (2001 < load) = true := by simp; omega
      go_enter Try.func50, Try.ntmps50
      go_wp2_with fail
      go_ret
      rw [HV.out]
      exact ⟨rfl, grown_refl w⟩
    · have e1 : decide (load < 0) = false := by simp; omega
      have e2 : decide (2001 < load) = false := by simp; omega
      have e3 : decide (m < 0) = true := by simp; omega
      go_enter Try.func50, Try.ntmps50
      go_wp2_with fail
      go_ret
      rw [HV.out]
      exact ⟨rfl, grown_refl w⟩
    · have e1 : decide (load < 0) = false := by simp; omega
      have e2 : decide (2001 < load) = false := by simp; omega
      have e3 : decide (m < 0) = false := by simp; omega
      have e4 : decide (10000 < m) = true := by simp; omega
      go_enter Try.func50, Try.ntmps50
      go_wp2_with fail
      go_ret
      rw [HV.out]
      exact ⟨rfl, grown_refl w⟩
    · have e1 : decide (load < 0) = false := by simp; omega
      have e2 : decide (2001 < load) = false := by simp; omega
      have e3 : decide (m < 0) = false := by simp; omega
      have e4 : decide (10000 < m) = false := by simp; omega
      have e5 : decide (u < 0) = true := by simp; omega
      go_enter Try.func50, Try.ntmps50
      go_wp2_with fail
      go_ret
      rw [HV.out]
      exact ⟨rfl, grown_refl w⟩
    · have e1 : decide (load < 0) = false := by simp; omega
      have e2 : decide (2001 < load) = false := by simp; omega
      have e3 : decide (m < 0) = false := by simp; omega
      have e4 : decide (10000 < m) = false := by simp; omega
      have e5 : decide (u < 0) = false := by simp; omega
      have e6 : decide (10000 < u) = true := by simp; omega
      go_enter Try.func50, Try.ntmps50
      go_wp2_with fail
      go_ret
      rw [HV.out]
      exact ⟨rfl, grown_refl w⟩

theorem Rd.drop {w : World} {A : Option Addr} {n : Nat} {l : List Int} (h : Rd w 1 A n (ints l)) {k : Nat} (hk : k ≤ n) :
    ∀ B : Option Addr, (k < n → ∀ a, A = some a → B = some (a.add k)) → Rd w 1 B (n - k) (ints (l.drop k)) := by
  intro B hB
  have hl := h.1
  refine ⟨by simp [ints] at *; omega, fun hn => ?_⟩
  obtain ⟨b, off, e, hb, hc⟩ := h.2 (by omega)
  refine ⟨b, off + k, ?_, hb, fun j u hu => ?_⟩
  · rw [hB (by omega) _ e, addp]
  · have := hc (k + j) u (by
      rw [← hu]
      simp [ints, List.getElem?_drop])
    rwa [show off + k + j = off + (k + j) from by omega]

set_option maxHeartbeats 1000000 in
theorem moreThan_any (A : Option Addr) (n c : Nat) (l : List Int) (k : Nat) (w : World) (hr : Rd w 1 A n (ints l)) (hn : n ≤ 1000000) (hnc : n ≤ c) (hb : ∀ x ∈ l, -1000000000 ≤ x ∧ x ≤ 1000000000) (hk : k ≤ n) :
    Calls Try.prog 100 #[.slice A n c, .int .i64 k] w fun e w' => e = .returned (.int .i64 (l.drop k).sum) ∧ w.grownBy w' none := by
  have hs := fun B c' hB => refSum_any B (n - k) c' (l.drop k) w (hr.drop hk B hB) (by omega) fun x hx => hb x (List.mem_of_mem_drop hx)
  generalize (l.drop k).sum = z at *
  have HC := Lib.hid (And.intro hs (And.intro hr hb))
  clear hs hr hb
  go_enter Try.func100, Try.ntmps100
  go_wp2_with fail
  · refine (HC.out.1 _ _ (fun hlt a ha => absurd hlt (by omega))).mono ?_
    rintro e w1 ⟨rfl, hg1⟩
    go_wp2_with fail
    go_ret
    exact ⟨rfl, hg1⟩
  · refine (HC.out.1 _ _ (fun _ a ha => by rw [ha]; rfl)).mono ?_
    rintro e w1 ⟨rfl, hg1⟩
    go_wp2_with fail
    go_ret
    exact ⟨rfl, hg1⟩

end Go.Proofs.Ytkfijicmeekmiaa
