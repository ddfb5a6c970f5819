/- The walks of Cents, the reference's SettleOf, slices.Equal over tubes. -/
import Derived.Test.YtoaeflegcfecaaaGen
import Derived.Test.YtoaeflegcfecaaaRefA
namespace Go.Proofs.Ytoaeflegcfecaaa
open Go.RowKit

def centVals : List Int := [5, 15, 35, 50, 80, 100, 200]
def centEnd : List Int := [0, 20000, 20001]
def centMid (L : List Int) (t n : Nat) : List Int := (List.range n).map fun i => pk L (t + i) centVals
def centsM (L : List Int) (t : Nat) : Nat × List Int :=
  if nx L (t + 1 + (nx L t 5).toNat) 15 == 0 then (t + 1 + (nx L t 5).toNat + 2, centMid L (t + 1) (nx L t 5).toNat ++ [pk L (t + 1 + (nx L t 5).toNat + 1) centEnd])
  else (t + 1 + (nx L t 5).toNat + 1, centMid L (t + 1) (nx L t 5).toNat)
theorem centMid_succ (L : List Int) (t n : Nat) : centMid L t (n + 1) = centMid L t n ++ [pk L (t + n) centVals] := by simp [centMid, List.range_succ]
theorem centMid_len (L : List Int) (t n : Nat) : (centMid L t n).length = n := by simp [centMid]
theorem centsM_bound (L : List Int) (t : Nat) : (centsM L t).1 ≤ t + 8 ∧ (centsM L t).2.length ≤ 5 := by
  obtain ⟨h0, h1⟩ := nx_in L t 5 (by omega)
  unfold centsM
  split <;> simp [centMid_len] <;> omega

set_option maxHeartbeats 400000 in
theorem cents_any (bs : Nat) (L : List Int) (t : Nat) (w : World) (hs : Str w bs L t) (ht : t ≤ 900000) :
    Calls Try.prog 29 #[.pointer (some ⟨bs, 0, none⟩)] w
      fun e w' => ∃ v, e = .returned v ∧ w'.ownsRow w.heap.size 3 1 v (centsM L t).2.length (ints (centsM L t).2) ∧ Str w' bs L (centsM L t).1 ∧ w.grownBy w' (some bs) := by
  have hbs := hs.lt
  obtain ⟨h0, h1⟩ := nx_in L t 5 (by omega)
  obtain ⟨n, hn⟩ := Int.eq_ofNat_of_zero_le h0
  have hM : centsM L t = if nx L (t + 1 + n) 15 == 0 then (t + 1 + n + 2, centMid L (t + 1) n ++ [pk L (t + 1 + n + 1) centEnd]) else (t + 1 + n + 1, centMid L (t + 1) n) := by
    unfold centsM; rw [hn]; rfl
  rw [hn] at h1
  have hN := next_any bs L t 5 w hs (by omega) (by omega)
  rw [hn] at hN
  generalize centsM L t = M at *
  have HM := Lib.hid (And.intro hM hN)
  clear hM hn hN h0
  go_enter Try.func29, Try.ntmps29
  go_wp2_with fail
  refine HM.out.2.mono ?_
  rintro e w1 ⟨rfl, hs1, hg1⟩
  go_wp2_with fail
  go_loopg [3, 6] n (fun k v i wr => ∃ j : Nat, k + j = n ∧ i = .int .i64 j ∧ wr.ownsRow w.heap.size 3 1 v (centMid L (t + 1) j).length (ints (centMid L (t + 1) j)) ∧ Str wr bs L (t + 1 + j) ∧ w.grownBy wr (some bs))
  case atStart => exact ⟨0, by omega, rfl, World.ownsRow_nil _ _ _ _, hs1, hg1⟩
  case round =>
    obtain ⟨j, hj, rfl, hown, hst, hg⟩ := hrel
    by_cases hlt : j < n
    · have hsucc := centMid_succ L (t + 1) j
      have hlenj := centMid_len L (t + 1) j
      have HS := Lib.hid (And.intro hsucc hj)
      clear hsucc hj
      go_wp2_with fail
      refine (pick_lit bs L _ centVals _ hst (by omega) (by decide) (by decide) 3).mono ?_
      rintro e w2 ⟨rfl, hs2, hg2⟩
      have hown2 := hown.kept hg2 (own_ne hown hbs)
      have hgg2 := hg.trans hg2
      have hlen2 : (centMid L (t + 1) j).length ≤ 1000000000 := by omega
      have hsz := hgg2.size
      generalize centMid L (t + 1) j = cm at *
      go_wp2_with (at_builtin; refine ap_int w2 (pk L (t + 1 + j) centVals) rfl _ _ rfl w.heap.size _ cm rfl hown2 rfl hlen2 hsz ?_; intro v4 w4 hown4 hg4)
      obtain ⟨hsucc, hj⟩ := HS.out
      have hgg4 := ap_grown hgg2 hown2 hg4 (Nat.le_refl _)
      have hs4 := ap_str hs2 hown2 hg4 hbs
      go_roundg (gk - 1)
      case measure => omega
      case rel => exact ⟨j + 1, by omega, by go_num, by rw [hsucc]; exact hown4, hs4, hgg4⟩
    · obtain rfl : j = n := by omega
      have hlenj := centMid_len L (t + 1) j
      generalize centMid L (t + 1) j = cm at *
      go_wp2_with fail
      refine (flip_any bs L _ 15 _ hst (by omega) (by omega)).mono ?_
      rintro e w2 ⟨rfl, hs2, hg2⟩
      have hown2 := hown.kept hg2 (own_ne hown hbs)
      have hgg2 := hg.trans hg2
      by_cases hf : (nx L (t + 1 + j) 15 == 0) = true
      · have hM := HM.out.1
        rw [if_pos hf] at hM
        rw [hf]
        have HM2 := Lib.hid hM
        clear hM hf
        go_wp2_with fail
        refine (pick_lit bs L _ centEnd _ hs2 (by omega) (by decide) (by decide) 3).mono ?_
        rintro e w3 ⟨rfl, hs3, hg3⟩
        have hown3 := hown2.kept hg3 (own_ne hown2 hbs)
        have hgg3 := hgg2.trans hg3
        have hlen2 : cm.length ≤ 1000000000 := by omega
        have hsz := hgg3.size
        go_wp2_with (at_builtin; refine ap_int w3 (pk L (t + 1 + j + 1) centEnd) rfl _ _ rfl w.heap.size _ cm rfl hown3 rfl hlen2 hsz ?_; intro v4 w4 hown4 hg4)
        go_ret
        rw [HM2.out]
        exact ⟨_, rfl, hown4, ap_str hs3 hown3 hg4 hbs, ap_grown hgg3 hown3 hg4 (Nat.le_refl _)⟩
      · have hf' : (nx L (t + 1 + j) 15 == 0) = false := by simpa using hf
        have hM := HM.out.1
        rw [if_neg hf] at hM
        rw [hf']
        have HM2 := Lib.hid hM
        clear hM hf hf'
        go_wp2_with fail
        go_ret
        rw [HM2.out]
        exact ⟨_, rfl, hown2, hs2, hgg2⟩

/-- slices.Equal of the same tubes. -/
theorem equalTub_any (A B : Option Addr) (n c d : Nat) (l : List Tub) (w : World) (hr : Rd w 3 A n (tubFlat l)) (hr2 : Rd w 3 B n (tubFlat l)) (hn : n ≤ 1000000) :
    Calls Try.prog 36 #[.slice A n c, .slice B n d] w fun e w' => e = .returned (.bool true) ∧ w.grownBy w' none := by
  go_enter Try.func36, Try.ntmps36
  go_wp2_with fail
  go_loopg [13] n (fun g i wr => ∃ j : Nat, g + j = n ∧ i = .int .i64 j ∧ w.grownBy wr none)
  case atStart => exact ⟨0, by omega, rfl, grown_refl w⟩
  case round =>
    obtain ⟨j, hj, rfl, hg⟩ := hrel
    by_cases hlt : j < n
    · obtain ⟨b, off, rfl, hb, t, ht, c0, c1, c2⟩ := tub_cells (hr.grown hg) hlt
      obtain ⟨b', off', rfl, hb', t', ht', d0, d1, d2⟩ := tub_cells (hr2.grown hg) hlt
      rw [ht] at ht'
      obtain rfl : t = t' := by simpa using ht'
      have hlt' : (j : Int) < (n : Int) := by omega
      have HJ := Lib.hid hj
      clear hj ht ht'
      go_wp2_with fail
      go_quiet (fail)
      go_wp2_with fail
      have hj := HJ.out
      go_roundg (gk - 1)
      case measure => omega
      case rel => exact ⟨j + 1, by omega, by go_num, grown_drewN hg _⟩
    · obtain rfl : j = n := by omega
      go_wp2_with fail
      go_ret
      exact ⟨rfl, hg⟩

/-- Coin by coin: u of them. -/
def setU (t : Tub) (u : Nat) : Tub := ⟨t.v, t.c + min (u : Int) (t.m - t.c), t.m⟩
def overU (t : Tub) (u : Nat) : Int := ((u : Int) - min (u : Int) (t.m - t.c)) * t.v
theorem set_at {α : Type} {l : List α} {j : Nat} {x : α} (h : l[j]? = some x) : l.set j x = l := by
  apply List.ext_getElem?
  intro i
  by_cases e : j = i
  · subst e
    obtain ⟨h1, h2⟩ := List.getElem?_eq_some_iff.1 h
    rw [List.getElem?_set_self h1, h]
  · rw [List.getElem?_set_ne e]

set_option maxHeartbeats 800000 in
theorem settleOf_any (A B : Option Addr) (n c d : Nat) (l : List Tub) (add : List Int) (w : World) (hr : Rd w 3 A n (tubFlat l)) (ha : Rd w 1 B n (ints add)) (hn : n ≤ 10)
    (hright : ∀ t ∈ l, RightT t) (hadd : ∀ x ∈ add, 0 ≤ x ∧ x ≤ 20000) :
    Calls Try.prog 35 #[.slice A n c, .slice B n d] w
      fun e w' => ∃ v, e = .returned (.tuple #[v, .int .i64 (overT l add n)]) ∧ w'.ownsRow w.heap.size 70 3 v n (tubFlat (setT l add n)) ∧ w.grownBy w' none := by
  have hl : l.length = n := by have := hr.1; rw [tubFlat_len] at this; omega
  have hla : add.length = n := by have := ha.1; simp [ints] at this; omega
  have HL := Lib.hid (And.intro hl (And.intro hla (And.intro hright hadd)))
  clear hl hla hright hadd
  go_enter Try.func35, Try.ntmps35
  go_wp2_with fail
  refine (cloneTubes_any A n c l w hr (by omega)).mono ?_
  rintro e w1 ⟨v, rfl, hown, hg1⟩
  obtain ⟨V, cap, rfl, hnc, hcm, hrv, hvb⟩ := Rd.of_own hown
  clear hrv hvb
  go_wp2_with fail
  go_loopg [7, 14] n (fun k s i wr => ∃ j : Nat, k + j = n ∧ i = .int .i64 j ∧ s = .int .i64 (overT l add j) ∧ wr.ownsRow w.heap.size 70 3 (.slice V n cap) n (tubFlat (setT l add j)) ∧ w.grownBy wr none)
  case atStart => exact ⟨0, by omega, rfl, rfl, hown, hg1⟩
  case round =>
    clear hown hg1
    obtain ⟨j, hj, rfl, rfl, hown2, hg⟩ := hrel
    generalize gk = ko at *
    by_cases hlt : j < n
    · obtain ⟨b', off', rfl, hb', x, hx, d0⟩ := int_cells (ha.grown hg) hlt
      obtain ⟨x1, x2⟩ := HL.out.2.2.2 x (List.mem_of_getElem? hx)
      obtain ⟨xn, rfl⟩ := Int.eq_ofNat_of_zero_le x1
      have hjl : j < l.length := by have := HL.out.1; omega
      obtain ⟨t, ht⟩ : ∃ t, l[j]? = some t := ⟨l[j], List.getElem?_eq_getElem hjl⟩
      clear hjl
      obtain ⟨g, cap', hv, hgb, hglt⟩ := hown2.form (by omega)
      obtain ⟨rfl, rfl⟩ : V = some ⟨g, 0, none⟩ ∧ cap = cap' := by simpa using hv
      obtain ⟨r1, r2, r3, r4, r5⟩ := HL.out.2.2.1 t (List.mem_of_getElem? ht)
      have hov := overT_bound l add HL.out.2.2.1 HL.out.2.2.2 j (by have := HL.out.1; omega) (by rw [HL.out.1, HL.out.2.1])
      have hst : (setT l add j)[j]? = some t := by rw [setT_at l add j j (Nat.le_refl _)]; exact ht
      have hT : setT l add (j + 1) = (setT l add j).set j (setU t xn) := by simp [setT, List.getD, ht, hx, setOne, setU]
      have hO : overT l add (j + 1) = overT l add j + overU t xn := by simp [overT, List.getD, ht, hx, overOne, overU]
      have hT0 : (setT l add j).set j (setU t 0) = setT l add j := set_at (by rw [hst]; unfold setU; congr 1; rw [show min ((0 : Nat) : Int) (t.m - t.c) = 0 from by omega]; simp)
      have hslen : (setT l add j).length = n := by rw [setT_len, HL.out.1]
      have hO0 : overU t 0 = 0 := by unfold overU; rw [show min ((0 : Nat) : Int) (t.m - t.c) = 0 from by omega]; simp
      have HO0 := Lib.hid hO0
      clear hO0
      generalize setT l add j = sT at *
      generalize overT l add j = ov at *
      have HT := Lib.hid (And.intro hT (And.intro hO (And.intro hj (And.intro hst hslen))))
      rw [← hT0] at hown2
      clear hT hO hj hst hslen hT0 ht hx hv
      have hlt' : (j : Int) < (n : Int) := by omega
      go_wp2_with fail
      go_loopg [7, 20] xn (fun k s i wr => ∃ u : Nat, k + u = xn ∧ i = .int .i64 u ∧ s = .int .i64 (ov + overU t u) ∧ wr.ownsRow w.heap.size 70 3 (.slice (some ⟨g, 0, none⟩) n cap) n (tubFlat (sT.set j (setU t u))) ∧ w.grownBy wr none)
      case atStart => exact ⟨0, by omega, rfl, by rw [HO0.out]; simp, hown2, hg⟩
      case round =>
        clear hown2 hg
        obtain ⟨u, hu, rfl, rfl, hown3, hg3⟩ := hrel
        by_cases hul : u < xn
        · have hself : (sT.set j (setU t u))[j]? = some (setU t u) := by rw [List.getElem?_set_self (by rw [HT.out.2.2.2.2]; exact hlt)]
          have hc1 := hown3.cellAt (j * 3 + 1) (by omega)
          have hc2 := hown3.cellAt (j * 3 + 2) (by omega)
          have hc0 := hown3.cellAt (j * 3) (by omega)
          have hlen : (sT.set j (setU t u)).length = n := by rw [List.length_set, HT.out.2.2.2.2]
          rw [tubFlat_at _ j 1 (by rw [hlen]; exact hlt) (by omega)] at hc1
          rw [tubFlat_at _ j 2 (by rw [hlen]; exact hlt) (by omega)] at hc2
          have e0 := tubFlat_at (sT.set j (setU t u)) j 0 (by rw [hlen]; exact hlt) (by omega)
          rw [Nat.add_zero] at e0
          rw [e0] at hc0
          have hget : (sT.set j (setU t u))[j]'(by rw [hlen]; exact hlt) = setU t u := (List.getElem?_eq_some_iff.1 hself).2
          have k0 : wr.cell? ⟨g, j * 3, none⟩ = some (.int .i64 t.v) := by rw [hc0, hget]; rfl
          have k1 : wr.cell? ⟨g, j * 3 + 1, none⟩ = some (.int .i64 (t.c + min (u : Int) (t.m - t.c))) := by rw [hc1, hget]; rfl
          have k2 : wr.cell? ⟨g, j * 3 + 2, none⟩ = some (.int .i64 t.m) := by rw [hc2, hget]; rfl
          have hfr := hown3.frozenAt (j * 3 + 1)
          have p0 : 0 ≤ overU t u := Int.mul_nonneg (by omega) (by omega)
          have p1 : overU t u ≤ 20000 * 10000 := Int.mul_le_mul (by omega) (by omega) (by omega) (by omega)
          have hxn : (xn : Int) ≤ 20000 := x2
          have HU := Lib.hid hu
          clear hc0 hc1 hc2 e0 hget hlen hu
          by_cases hroom : (u : Int) < t.m - t.c
          · have hm1 : min (u : Int) (t.m - t.c) = (u : Int) := by omega
            have hm2 : min ((u : Int) + 1) (t.m - t.c) = (u : Int) + 1 := by omega
            rw [hm1] at k1
            have hst2 := (hown3.stored (j * 3 + 1) (.int .i64 (t.c + (u : Int) + 1))).1
            have hset := tubFlat_set (sT.set j (setU t u)) j (setU t u) (t.c + (u : Int) + 1) hself
            rw [List.set_set] at hset
            have hE : setU t (u + 1) = ⟨(setU t u).v, t.c + (u : Int) + 1, (setU t u).m⟩ := by
              unfold setU
              rw [show (((u + 1 : Nat)) : Int) = (u : Int) + 1 from by omega, hm2]
              simp only [Tub.mk.injEq, true_and, and_true]; omega
            have hO2 : overU t (u + 1) = overU t u := by
              unfold overU
              rw [show (((u + 1 : Nat)) : Int) = (u : Int) + 1 from by omega, hm1, hm2]; simp
            have HS := Lib.hid (And.intro hst2 (And.intro hset (And.intro hE hO2)))
            have hlt2 : t.c + (u : Int) < t.m := by omega
            have w1 : IntKind.i64.wrap (t.c + (u : Int) + 1) = t.c + (u : Int) + 1 := IntWalk.i64_in _ (by omega)
            clear hst2 hset hE hO2 hself hm1 hm2
            go_wp2_with fail
            go_quiet (fail)
            go_wp2_with fail
            obtain ⟨hst2, hset, hE, hO2⟩ := HS.out
            have hu := HU.out
            go_roundg (gk - 1)
            case measure => omega
            case rel => exact ⟨u + 1, by omega, by go_num, by rw [hO2], by rw [hE, hset]; exact hst2, grown_set (p := ⟨g, j * 3 + 1, none⟩) (grown_drewN hg3 _) (.inl hgb) _⟩
          · have hm1 : min (u : Int) (t.m - t.c) = t.m - t.c := by omega
            have hm2 : min ((u : Int) + 1) (t.m - t.c) = t.m - t.c := by omega
            rw [hm1, show t.c + (t.m - t.c) = t.m from by omega] at k1
            have hE : setU t (u + 1) = setU t u := by
              unfold setU
              rw [show (((u + 1 : Nat)) : Int) = (u : Int) + 1 from by omega, hm1, hm2]
            have hO2 : overU t (u + 1) = overU t u + t.v := by
              unfold overU
              rw [show (((u + 1 : Nat)) : Int) = (u : Int) + 1 from by omega, hm1, hm2, show (u : Int) + 1 - (t.m - t.c) = ((u : Int) - (t.m - t.c)) + 1 from by omega, Int.add_mul, Int.one_mul]
            have HS := Lib.hid (And.intro hE hO2)
            have w1 : IntKind.i64.wrap (ov + overU t u + t.v) = ov + overU t u + t.v := IntWalk.i64_in _ (by omega)
            have hdm : decide (t.m < t.m) = false := by simp
            clear hE hO2 hself hm1 hm2
            generalize overU t u = ou at *
            go_wp2_with fail
            go_quiet (fail)
            go_wp2_with fail
            obtain ⟨hE, hO2⟩ := HS.out
            have hu := HU.out
            go_roundg (gk - 1)
            case measure => omega
            case rel => exact ⟨u + 1, by omega, by go_num, by rw [hO2]; congr 1; omega, by rw [hE]; exact hown3, grown_drewN hg3 _⟩
        · obtain rfl : u = xn := by omega
          go_wp2_with fail
          obtain ⟨hT, hO, hj, _⟩ := HT.out
          go_roundg (ko - 1)
          case measure => omega
          case rel => exact ⟨j + 1, by omega, by go_num, by rw [hO], by rw [hT]; exact hown3, hg3⟩
    · obtain rfl : j = n := by omega
      go_wp2_with fail
      go_ret2
      exact ⟨_, rfl, hown2, hg⟩

end Go.Proofs.Ytoaeflegcfecaaa
