/- The walk of the law CoinsSettled. -/
import Derived.Test.YtoaeflegcfecaaaCoinsStayW
import Derived.Test.YtoaeflegcfecaaaSettleOf
import Derived.Test.YtoaeflegcfecaaaFloatOf
import Derived.Test.YtoaeflegcfecaaaDbtOf
import Derived.Test.YtoaeflegcfecaaaDoubtsG
import Derived.Test.YtoaeflegcfecaaaRefB
namespace Go.Proofs.Ytoaeflegcfecaaa
open Go.RowKit

theorem coins_pos (L : List Int) (t n : Nat) : (coins L t n).1 ≤ t + n + 4 := by
  unfold coins; split <;> simp

theorem own_nil_cap {w : World} {base size n c : Nat} {e : TypeId} {A : Option Addr} {xs : List Value} (h : w.ownsRow base e size (.slice A n c) n xs) : A = none → c = 0 := by
  rintro rfl
  rcases h.2 with ⟨h0, _⟩ | ⟨g, cap, cur, hv, _⟩
  · cases h0; rfl
  · cases hv

theorem settle_all (A B : Option Addr) (n c m d : Nat) (l : List Tub) (add : List Int) (w : World) (hr : Rd w 3 A n (tubFlat l)) (ha : Rd w 1 B m (ints add)) (hm : m ≤ 100000) (h0 : tubFault l = 0) :
    Calls Try.prog 30 #[.slice A n c, .slice B m d] w
      fun e w' => ∃ v o, e = .returned (.tuple #[v, .int .i64 o, .int .i64 (refSettleFault l add)]) ∧ w.grownBy w' none ∧
        (refSettleFault l add = 0 → o = overT l add n ∧ ∃ A' c', v = .slice A' n c' ∧ Rd w' 3 A' n (tubFlat (setT l add n))) := by
  have e1 : settleFault l add = refSettleFault l add := by simp [settleFault, refSettleFault, h0]
  by_cases hf : settleFault l add = 0
  · refine (settle_ok A B n c m d l add w hr ha hf).mono ?_
    rintro e w' ⟨v, rfl, hown, hg⟩
    obtain ⟨A', c', rfl, _, _, hr', _⟩ := Rd.of_own hown
    exact ⟨_, _, by rw [← e1, hf], hg, fun _ => ⟨rfl, A', c', rfl, hr'⟩⟩
  · refine (settle_bad A B n c m d l add w hr ha hm hf).mono ?_
    rintro e w' ⟨rfl, hg⟩
    exact ⟨_, _, by rw [e1], hg, fun h => absurd (e1.trans h) hf⟩

theorem doubts_all (A B C : Option Addr) (n c np cp nt ct : Nat) (l : List Tub) (l1 l2 : List Int) (w : World) (hr : Rd w 3 A n (tubFlat l)) (hr1 : Rd w 1 B np (ints l1)) (hr2 : Rd w 1 C nt (ints l2)) (hf : tubFault l = 0) (hnp : np ≤ 60) (hnt : nt ≤ 20) :
    Calls Try.prog 31 #[.slice A n c, .slice B np cp, .slice C nt ct] w
      fun e w' => ∃ v, e = .returned (.tuple #[v, .int .i64 (dbtF l1 l2)]) ∧ w.grownBy w' none ∧ (dbtF l1 l2 = 0 → ∃ A' m c', v = .slice A' m c' ∧ m ≤ 1200 ∧ Rd w' 2 A' m (ints (dbtL l (dst l1) (dst l2)))) := by
  by_cases h : allB (l1 ++ l2) 1 20000 = true
  · have e1 : dbtF l1 l2 = 0 := by unfold dbtF; rw [if_pos h]
    rw [allB_app, Bool.and_eq_true] at h
    refine (doubts_ok A B C n c np cp nt ct l l1 l2 w hr hr1 hr2 hf hnp hnt (fun x hx => btw_true.1 (List.all_eq_true.1 h.1 x hx)) (fun x hx => btw_true.1 (List.all_eq_true.1 h.2 x hx))).mono ?_
    rintro e w' ⟨v, m, rfl, hlen, hm, hown, hg⟩
    obtain ⟨A', c', rfl, _, _, hr', _⟩ := Rd.of_own hown
    exact ⟨_, by rw [e1], hg, fun _ => ⟨A', m, c', rfl, hm, hr'⟩⟩
  · have e1 : dbtF l1 l2 = 1 := by unfold dbtF; rw [if_neg h]
    refine (doubts_num A B C n c np cp nt ct l l1 l2 w hr hf hr1 hr2 hnp hnt (by rw [e1]; decide)).mono ?_
    rintro e w' ⟨rfl, hg⟩
    exact ⟨_, by rw [e1], hg, fun h => absurd (e1.symm.trans h) (by decide)⟩

def fltF (want : Int) : Int := if btw want 0 1000000000 = false then 1 else 0
theorem float_all (A : Option Addr) (n c : Nat) (l : List Tub) (want : Int) (w : World) (hr : Rd w 3 A n (tubFlat l)) (h0 : tubFault l = 0) :
    Calls Try.prog 32 #[.slice A n c, .int .i64 want] w
      fun e w' => ∃ v, e = .returned (.tuple #[v, .int .i64 (fltF want)]) ∧ w.grownBy w' none ∧ (fltF want = 0 → ∃ A' c' k, FEnd l want k ∧ v = .slice A' n c' ∧ Rd w' 1 A' n (ints (fSub l (fIter l want k).g n))) := by
  have e1 : floatFault l want = fltF want := by simp [floatFault, fltF, h0]
  by_cases hf : floatFault l want = 0
  · refine (float_ok A n c l want w hr hf).mono ?_
    rintro e w' ⟨v, k, hE, rfl, hown, hg⟩
    obtain ⟨A', c', rfl, _, _, hr', _⟩ := Rd.of_own hown
    exact ⟨_, by rw [← e1, hf], hg, fun _ => ⟨A', c', k, hE, rfl, hr'⟩⟩
  · refine (float_bad A n c l want w hr hf).mono ?_
    rintro e w' ⟨rfl, hg⟩
    exact ⟨_, by rw [e1], hg, fun h => absurd (e1.trans h) hf⟩

theorem dbtF_mem {l1 l2 : List Int} (h : dbtF l1 l2 = 0) : (∀ x ∈ l1, 1 ≤ x ∧ x ≤ 20000) ∧ (∀ x ∈ l2, 1 ≤ x ∧ x ≤ 20000) := by
  have h' : allB (l1 ++ l2) 1 20000 = true := by
    by_cases h' : allB (l1 ++ l2) 1 20000 = true
    · exact h'
    · unfold dbtF at h; rw [if_neg h'] at h; cases h
  rw [allB_app, Bool.and_eq_true] at h'
  exact ⟨fun x hx => btw_true.1 (List.all_eq_true.1 h'.1 x hx), fun x hx => btw_true.1 (List.all_eq_true.1 h'.2 x hx)⟩
theorem dbtF_or (l1 l2 : List Int) : dbtF l1 l2 = 0 ∨ dbtF l1 l2 = 1 := by unfold dbtF; split <;> simp
theorem fltF_or (x : Int) : (x < 0 ∧ fltF x = 1) ∨ (¬ x < 0 ∧ 1000000000 < x ∧ fltF x = 1) ∨ (¬ x < 0 ∧ ¬ 1000000000 < x ∧ fltF x = 0) := by
  unfold fltF btw
  by_cases h1 : x < 0
  · exact .inl ⟨h1, by rw [if_pos]; simp; omega⟩
  · by_cases h2 : 1000000000 < x
    · exact .inr (.inl ⟨h1, h2, by rw [if_pos]; simp; omega⟩)
    · exact .inr (.inr ⟨h1, h2, by rw [if_neg]; simp; omega⟩)
theorem refSettle_ok {l : List Tub} {add : List Int} (h : refSettleFault l add = 0) : add.length = l.length ∧ ∀ x ∈ add, 0 ≤ x ∧ x ≤ 20000 := by
  unfold refSettleFault at h
  by_cases h1 : add.length = l.length
  · by_cases h2 : allB add 0 10000 = true
    · exact ⟨h1, fun x hx => by have := allB_mem h2 x hx; omega⟩
    · simp [h1, h2] at h
  · simp [h1] at h

def wantVals : List Int := [0, 5, 100, 1000, 1000000000, -1, 1000000001]

set_option maxRecDepth 100000 in
set_option maxHeartbeats 8000000 in
theorem coinsSettled_walk (a0 : Option Addr) (len0 cap0 : Nat) (z0 : List Int) (w : World) (w0 : InRow w a0 len0 cap0 z0) :
    Calls Try.prog 5 #[.slice a0 len0 cap0] w fun e w' => e = .returned (.bool true) ∧ w.grownBy w' none := by
  obtain ⟨hlen, hs0⟩ := str_start w0
  have hg0 : w.grownBy (w.alloc (.cells #[.slice a0 len0 cap0, .int .i64 0] 25)) none := grown_alloc (grown_refl w) _
  have hz0 : (w.alloc (.cells #[.slice a0 len0 cap0, .int .i64 0] 25)).heap.size = w.heap.size + 1 := by simp
  clear hlen w0
  generalize z0.take len0 = L at *
  go_enter Try.func5, Try.ntmps5
  go_wp2_with fail
  generalize w.alloc (.cells #[.slice a0 len0 cap0, .int .i64 0] 25) = wA at *
  have HZ := Lib.hid hz0
  clear hz0
  refine (tubes_any w.heap.size L 0 _ hs0 (by omega)).mono ?_
  rintro e w1 ⟨vT, rfl, hown1, hs1, hg1⟩
  obtain ⟨hT1, hT2⟩ := tubesM_bound L 0
  generalize (tubesM L 0).2 = T at *
  generalize (tubesM L 0).1 = t1 at *
  obtain ⟨AT, cT, rfl, hnc, hcm, hrT1, hbT⟩ := Rd.of_own hown1
  have HB := Lib.hid hbT
  clear hbT
  go_wp2_with fail
  refine (coins_any w.heap.size L _ T.length _ hs1 (by omega) (by omega)).mono ?_
  rintro e w2 ⟨vC, rfl, hown2, hs2, hg2⟩
  have hCl := coins_len L t1 T.length
  have hCp := coins_pos L t1 T.length
  generalize (coins L t1 T.length).2 = C at *
  generalize (coins L t1 T.length).1 = t2 at *
  obtain ⟨AC, cC, rfl, _, _, hrC2, hbC⟩ := Rd.of_own hown2
  have hrT2 : Rd w2 3 AT T.length (tubFlat T) := hrT1.grown_ hg2 (fun a ha => by have := HB.out a ha; have := HZ.out; simp; omega)
  have hz1 : w.heap.size + 1 ≤ w1.heap.size := by have := hg1.size; have := HZ.out; omega
  have HBC := Lib.hid hbC
  clear hbC
  go_wp2_with fail
  refine (cents_any w.heap.size L _ _ hs2 (by omega)).mono ?_
  rintro e w3 ⟨vP, rfl, hown3, hs3, hg3⟩
  obtain ⟨hP1, hP2⟩ := centsM_bound L t2
  generalize (centsM L t2).2 = P at *
  generalize (centsM L t2).1 = t3 at *
  obtain ⟨AP, cP, rfl, _, _, hrP3, hbP⟩ := Rd.of_own hown3
  have hnP := own_nil_cap hown3
  have hrT3 : Rd w3 3 AT T.length (tubFlat T) := hrT2.grown_ hg3 (fun a ha => by have := HB.out a ha; have := HZ.out; simp; omega)
  have hrC3 : Rd w3 1 AC C.length (ints C) := hrC2.grown_ hg3 (fun a ha => by have := HBC.out a ha; simp; omega)
  have hz2 : w.heap.size + 1 ≤ w2.heap.size := by have := hg2.size; omega
  have HBP := Lib.hid hbP
  clear hbP
  go_wp2_with fail
  refine (cents_any w.heap.size L _ _ hs3 (by omega)).mono ?_
  rintro e w4 ⟨vV, rfl, hown4, hs4, hg4⟩
  obtain ⟨hV1, hV2⟩ := centsM_bound L t3
  generalize (centsM L t3).2 = V at *
  generalize (centsM L t3).1 = t4 at *
  obtain ⟨AV, cV, rfl, _, _, hrV4, hbV⟩ := Rd.of_own hown4
  have hnV := own_nil_cap hown4
  have hrT4 : Rd w4 3 AT T.length (tubFlat T) := hrT3.grown_ hg4 (fun a ha => by have := HB.out a ha; have := HZ.out; simp; omega)
  have hrC4 : Rd w4 1 AC C.length (ints C) := hrC3.grown_ hg4 (fun a ha => by have := HBC.out a ha; simp; omega)
  have hrP4 : Rd w4 1 AP P.length (ints P) := hrP3.grown_ hg4 (fun a ha => by have := HBP.out a ha; simp; omega)
  have hz3 : w.heap.size + 1 ≤ w3.heap.size := by have := hg3.size; omega
  have HBV := Lib.hid hbV
  clear hbV
  go_wp2_with fail
  refine (pick_lit w.heap.size L _ wantVals _ hs4 (by omega) (by decide) (by decide) 3).mono ?_
  rintro e w5 ⟨rfl, hs5, hg5⟩
  generalize pk L t4 wantVals = want at *
  have hrT : Rd w5 3 AT T.length (tubFlat T) := hrT4.grown_ hg5 (fun a ha => by have := HB.out a ha; have := HZ.out; simp; omega)
  have hrC : Rd w5 1 AC C.length (ints C) := hrC4.grown_ hg5 (fun a ha => by have := HBC.out a ha; simp; omega)
  have hrP : Rd w5 1 AP P.length (ints P) := hrP4.grown_ hg5 (fun a ha => by have := HBP.out a ha; simp; omega)
  have hrV : Rd w5 1 AV V.length (ints V) := hrV4.grown_ hg5 (fun a ha => by have := HBV.out a ha; simp; omega)
  have hgA : w.grownBy w5 none := by
    have h1 := grown_below (r := none) hg0 hg1 (fun j hj => .inl (by cases hj; omega))
    have h2 := grown_below h1 hg2 (fun j hj => .inl (by cases hj; omega))
    have h3 := grown_below h2 hg3 (fun j hj => .inl (by cases hj; omega))
    have h4 := grown_below h3 hg4 (fun j hj => .inl (by cases hj; omega))
    exact grown_below h4 hg5 (fun j hj => .inl (by cases hj; omega))
  have hT6 : T.length ≤ 6 := hT2
  have hC7 : C.length ≤ 7 := by omega
  have HN := Lib.hid (And.intro hnP hnV)
  clear hnP hnV hs0 hs1 hs2 hs3 hs4 hs5 hg0 hg1 hg2 hg3 hg4 hg5 hown1 hown2 hown3 hown4 hrT1 hrT2 hrT3 hrT4 hrC2 hrC3 hrC4 hrP3 hrP4 hrV4 hnc hcm HB HZ HBC HBP HBV hz1 hz2 hz3 hT1 hT2 hCl hCp hP1 hV1
  by_cases hf : tubFault T = 0
  · go_wp2_with fail
    refine (settle_all AT AC T.length cT C.length cC T C _ hrT hrC (by omega) hf).mono ?_
    rintro e w6 ⟨vS, oS, rfl, hg6, hS⟩
    have hRS := fun w hr hc => refSettleFault_any AT AC T.length cT C.length cC T C w hr hc (by omega) (by omega)
    have hok := refSettle_ok (l := T) (add := C)
    generalize refSettleFault T C = S at *
    have HS := Lib.hid (And.intro hS (And.intro hRS hok))
    clear hS hRS hok
    go_wp2_with fail
    refine (doubts_all AT AP AV T.length cT P.length cP V.length cV T P V _ (hrT.grown hg6) (hrP.grown hg6) (hrV.grown hg6) hf (by omega) (by omega)).mono ?_
    rintro e w7 ⟨vD, rfl, hg7, hD⟩
    have hg67 := hg6.trans hg7
    have hRD := fun w hr hc => refDoubtsFault_any AP AV P.length cP V.length cV P V w hr hc HN.out.1 HN.out.2 (by omega) (by omega)
    have hdm := dbtF_mem (l1 := P) (l2 := V)
    have hdo := dbtF_or P V
    generalize dbtF P V = D at *
    have HD := Lib.hid (And.intro hD (And.intro hRD hdm))
    have HDO := Lib.hid hdo
    clear hD hRD hdm hdo
    go_wp2_with fail
    refine (float_all AT T.length cT T want _ (hrT.grown hg67) hf).mono ?_
    rintro e w8 ⟨vF, rfl, hg8, hF⟩
    have hg78 := hg7.trans hg8
    have hg68 := hg67.trans hg8
    have hfo := fltF_or want
    generalize fltF want = F at *
    have HF := Lib.hid hF
    have HFO := Lib.hid hfo
    clear hF hfo
    go_wp2_with fail
    refine (refTubesFault_any AT T.length cT T _ (hrT.grown hg68)).mono ?_
    rw [hf]
    rintro e w9 ⟨rfl, hg9⟩
    have hg69 := hg68.trans hg9
    have hg79 := hg78.trans hg9
    have hg89 := hg8.trans hg9
    have hright := (right_of hf).2.1
    have HR := Lib.hid (And.intro hf hright)
    clear hf hright
    go_wp2_with fail
    refine (HS.out.2.1 _ (hrT.grown hg69) (hrC.grown hg69)).mono ?_
    rintro e w10 ⟨rfl, hg10⟩
    go_wp2_with fail
    refine (HD.out.2.1 _ ((hrP.grown hg69).grown hg10) ((hrV.grown hg69).grown hg10)).mono ?_
    rintro e w11 ⟨rfl, hg11⟩
    have hgB := hg10.trans hg11
    have hg6B := hg69.trans hgB
    have hg7B := hg79.trans hgB
    have hg8B := hg89.trans hgB
    have hg9B := hg9.trans hgB
    have hrTB := hrT.grown hg6B
    have hrCB := hrC.grown hg6B
    have hrPB := hrP.grown hg6B
    have hrVB := hrV.grown hg6B
    have hgW := hgA.trans hg6B
    clear hg6 hg7 hg8 hg9 hg10 hg11 hg67 hg78 hg68 hg69 hg79 hg89 hgB hrT hrC hrP hrV hgA hg6B
    rcases HFO.out with ⟨hw1, rfl⟩ | ⟨hw1, hw2, rfl⟩ | ⟨hw1, hw2, rfl⟩
    · skip
      by_cases hs : S = 0
      · skip
        subst hs
        obtain ⟨hoS, AS, cS, rfl, hrS⟩ := HS.out.1 rfl
        obtain ⟨hCT, hC0⟩ := HS.out.2.2 rfl
        have hrCB' := hrCB
        rw [hCT] at hrCB'
        have HC0 := Lib.hid (And.intro hC0 hCT)
        obtain ⟨ov, hov⟩ : ∃ ov, ov = overT T C T.length := ⟨_, rfl⟩
        rw [← hov] at hoS
        subst hoS
        have HOV := Lib.hid hov
        have hCl2 : (C.length : Int) = (T.length : Int) := by omega
        clear hC0 hov
        have hd := HDO.out
        have hDD : (D != D) = false := by simp
        have hov2 : (oS != oS) = false := by simp
        clear hd
        rw [hCT]
        clear hCT hCl2
        go_wp2_with fail
        refine (settleOf_any AT AC T.length cT cC T C _ hrTB hrCB' (by omega) HR.out.2 HC0.out.1).mono ?_
        rw [← HOV.out]
        rintro e w12 ⟨vS2, rfl, hownS, hg12⟩
        obtain ⟨AS2, cS2, rfl, _, _, hrS2, _⟩ := Rd.of_own hownS
        clear hownS
        go_wp2_with fail
        refine (equalTub_any AS AS2 T.length cS cS2 _ _ ((hrS.grown hg7B).grown hg12) hrS2 (by omega)).mono ?_
        rintro e w13 ⟨rfl, hg13⟩
        have hgX := hg12.trans hg13
        go_wp2_with fail
        refine (lawVends_any _).mono ?_
        rintro e wY ⟨rfl, hgY⟩
        have hgZ := hgX.trans hgY
        rcases HDO.out with rfl | rfl
        · skip
          obtain ⟨AD, mD, cD, rfl, hmD, hrD⟩ := HD.out.1 rfl
          have hrDZ := ((hrD.grown hg8B).grown hgZ)
          obtain ⟨hm1, hm2⟩ := HD.out.2.2 rfl
          have HM := Lib.hid (And.intro hm1 hm2)
          clear hm1 hm2 hrD
          go_wp2_with fail
          refine (doubtsOf_any AT AP AV T.length cT P.length cP V.length cV T P V _ (hrTB.grown hgZ) (hrPB.grown hgZ) (hrVB.grown hgZ) HR.out.1 (by omega) (by omega) HM.out.1 HM.out.2).mono ?_
          rintro e wD ⟨vE, mE, rfl, hlenE, hmE, hownE, hgD⟩
          obtain ⟨AE, cE, rfl, _, _, hrE, _⟩ := Rd.of_own hownE
          have hmm : mE = mD := by have := hrDZ.1; simp [ints] at this; omega
          subst hmm
          clear hownE hlenE
          go_wp2_with fail
          refine (equalDbt_any AD AE mE cD cE _ _ (hrDZ.grown hgD) hrE (by omega)).mono ?_
          rintro e wE ⟨rfl, hgE⟩
          have hgL := (hgZ.trans hgD).trans hgE
          go_wp2_with fail
          go_ret
          exact ⟨rfl, hgW.trans hgL⟩
        · skip
          have hgL := hgZ
          go_wp2_with fail
          go_ret
          exact ⟨rfl, hgW.trans hgL⟩
      · skip
        have hsb : (S == 0) = false := by simpa using hs
        have hss : (S != S) = false := by simp
        have hDD : (D != D) = false := by simp
        have hgX := grown_refl w11
        clear hs
        go_wp2_with fail
        refine (lawVends_any _).mono ?_
        rintro e wY ⟨rfl, hgY⟩
        have hgZ := hgX.trans hgY
        rcases HDO.out with rfl | rfl
        · skip
          obtain ⟨AD, mD, cD, rfl, hmD, hrD⟩ := HD.out.1 rfl
          have hrDZ := ((hrD.grown hg8B).grown hgZ)
          obtain ⟨hm1, hm2⟩ := HD.out.2.2 rfl
          have HM := Lib.hid (And.intro hm1 hm2)
          clear hm1 hm2 hrD
          go_wp2_with fail
          refine (doubtsOf_any AT AP AV T.length cT P.length cP V.length cV T P V _ (hrTB.grown hgZ) (hrPB.grown hgZ) (hrVB.grown hgZ) HR.out.1 (by omega) (by omega) HM.out.1 HM.out.2).mono ?_
          rintro e wD ⟨vE, mE, rfl, hlenE, hmE, hownE, hgD⟩
          obtain ⟨AE, cE, rfl, _, _, hrE, _⟩ := Rd.of_own hownE
          have hmm : mE = mD := by have := hrDZ.1; simp [ints] at this; omega
          subst hmm
          clear hownE hlenE
          go_wp2_with fail
          refine (equalDbt_any AD AE mE cD cE _ _ (hrDZ.grown hgD) hrE (by omega)).mono ?_
          rintro e wE ⟨rfl, hgE⟩
          have hgL := (hgZ.trans hgD).trans hgE
          go_wp2_with fail
          go_ret
          exact ⟨rfl, hgW.trans hgL⟩
        · skip
          have hgL := hgZ
          go_wp2_with fail
          go_ret
          exact ⟨rfl, hgW.trans hgL⟩
    · skip
      by_cases hs : S = 0
      · skip
        subst hs
        obtain ⟨hoS, AS, cS, rfl, hrS⟩ := HS.out.1 rfl
        obtain ⟨hCT, hC0⟩ := HS.out.2.2 rfl
        have hrCB' := hrCB
        rw [hCT] at hrCB'
        have HC0 := Lib.hid (And.intro hC0 hCT)
        obtain ⟨ov, hov⟩ : ∃ ov, ov = overT T C T.length := ⟨_, rfl⟩
        rw [← hov] at hoS
        subst hoS
        have HOV := Lib.hid hov
        have hCl2 : (C.length : Int) = (T.length : Int) := by omega
        clear hC0 hov
        have hd := HDO.out
        have hDD : (D != D) = false := by simp
        have hov2 : (oS != oS) = false := by simp
        clear hd
        rw [hCT]
        clear hCT hCl2
        go_wp2_with fail
        refine (settleOf_any AT AC T.length cT cC T C _ hrTB hrCB' (by omega) HR.out.2 HC0.out.1).mono ?_
        rw [← HOV.out]
        rintro e w12 ⟨vS2, rfl, hownS, hg12⟩
        obtain ⟨AS2, cS2, rfl, _, _, hrS2, _⟩ := Rd.of_own hownS
        clear hownS
        go_wp2_with fail
        refine (equalTub_any AS AS2 T.length cS cS2 _ _ ((hrS.grown hg7B).grown hg12) hrS2 (by omega)).mono ?_
        rintro e w13 ⟨rfl, hg13⟩
        have hgX := hg12.trans hg13
        go_wp2_with fail
        refine (lawVends_any _).mono ?_
        rintro e wY ⟨rfl, hgY⟩
        have hgZ := hgX.trans hgY
        rcases HDO.out with rfl | rfl
        · skip
          obtain ⟨AD, mD, cD, rfl, hmD, hrD⟩ := HD.out.1 rfl
          have hrDZ := ((hrD.grown hg8B).grown hgZ)
          obtain ⟨hm1, hm2⟩ := HD.out.2.2 rfl
          have HM := Lib.hid (And.intro hm1 hm2)
          clear hm1 hm2 hrD
          go_wp2_with fail
          refine (doubtsOf_any AT AP AV T.length cT P.length cP V.length cV T P V _ (hrTB.grown hgZ) (hrPB.grown hgZ) (hrVB.grown hgZ) HR.out.1 (by omega) (by omega) HM.out.1 HM.out.2).mono ?_
          rintro e wD ⟨vE, mE, rfl, hlenE, hmE, hownE, hgD⟩
          obtain ⟨AE, cE, rfl, _, _, hrE, _⟩ := Rd.of_own hownE
          have hmm : mE = mD := by have := hrDZ.1; simp [ints] at this; omega
          subst hmm
          clear hownE hlenE
          go_wp2_with fail
          refine (equalDbt_any AD AE mE cD cE _ _ (hrDZ.grown hgD) hrE (by omega)).mono ?_
          rintro e wE ⟨rfl, hgE⟩
          have hgL := (hgZ.trans hgD).trans hgE
          go_wp2_with fail
          go_ret
          exact ⟨rfl, hgW.trans hgL⟩
        · skip
          have hgL := hgZ
          go_wp2_with fail
          go_ret
          exact ⟨rfl, hgW.trans hgL⟩
      · skip
        have hsb : (S == 0) = false := by simpa using hs
        have hss : (S != S) = false := by simp
        have hDD : (D != D) = false := by simp
        have hgX := grown_refl w11
        clear hs
        go_wp2_with fail
        refine (lawVends_any _).mono ?_
        rintro e wY ⟨rfl, hgY⟩
        have hgZ := hgX.trans hgY
        rcases HDO.out with rfl | rfl
        · skip
          obtain ⟨AD, mD, cD, rfl, hmD, hrD⟩ := HD.out.1 rfl
          have hrDZ := ((hrD.grown hg8B).grown hgZ)
          obtain ⟨hm1, hm2⟩ := HD.out.2.2 rfl
          have HM := Lib.hid (And.intro hm1 hm2)
          clear hm1 hm2 hrD
          go_wp2_with fail
          refine (doubtsOf_any AT AP AV T.length cT P.length cP V.length cV T P V _ (hrTB.grown hgZ) (hrPB.grown hgZ) (hrVB.grown hgZ) HR.out.1 (by omega) (by omega) HM.out.1 HM.out.2).mono ?_
          rintro e wD ⟨vE, mE, rfl, hlenE, hmE, hownE, hgD⟩
          obtain ⟨AE, cE, rfl, _, _, hrE, _⟩ := Rd.of_own hownE
          have hmm : mE = mD := by have := hrDZ.1; simp [ints] at this; omega
          subst hmm
          clear hownE hlenE
          go_wp2_with fail
          refine (equalDbt_any AD AE mE cD cE _ _ (hrDZ.grown hgD) hrE (by omega)).mono ?_
          rintro e wE ⟨rfl, hgE⟩
          have hgL := (hgZ.trans hgD).trans hgE
          go_wp2_with fail
          go_ret
          exact ⟨rfl, hgW.trans hgL⟩
        · skip
          have hgL := hgZ
          go_wp2_with fail
          go_ret
          exact ⟨rfl, hgW.trans hgL⟩
    · skip
      by_cases hs : S = 0
      · skip
        subst hs
        obtain ⟨hoS, AS, cS, rfl, hrS⟩ := HS.out.1 rfl
        obtain ⟨hCT, hC0⟩ := HS.out.2.2 rfl
        have hrCB' := hrCB
        rw [hCT] at hrCB'
        have HC0 := Lib.hid (And.intro hC0 hCT)
        obtain ⟨ov, hov⟩ : ∃ ov, ov = overT T C T.length := ⟨_, rfl⟩
        rw [← hov] at hoS
        subst hoS
        have HOV := Lib.hid hov
        have hCl2 : (C.length : Int) = (T.length : Int) := by omega
        clear hC0 hov
        have hd := HDO.out
        have hDD : (D != D) = false := by simp
        have hov2 : (oS != oS) = false := by simp
        clear hd
        rw [hCT]
        clear hCT hCl2
        go_wp2_with fail
        refine (settleOf_any AT AC T.length cT cC T C _ hrTB hrCB' (by omega) HR.out.2 HC0.out.1).mono ?_
        rw [← HOV.out]
        rintro e w12 ⟨vS2, rfl, hownS, hg12⟩
        obtain ⟨AS2, cS2, rfl, _, _, hrS2, _⟩ := Rd.of_own hownS
        clear hownS
        go_wp2_with fail
        refine (equalTub_any AS AS2 T.length cS cS2 _ _ ((hrS.grown hg7B).grown hg12) hrS2 (by omega)).mono ?_
        rintro e w13 ⟨rfl, hg13⟩
        have hgX := hg12.trans hg13
        go_wp2_with fail
        refine (lawVends_any _).mono ?_
        rintro e wY ⟨rfl, hgY⟩
        have hgZ := hgX.trans hgY
        rcases HDO.out with rfl | rfl
        · skip
          obtain ⟨AD, mD, cD, rfl, hmD, hrD⟩ := HD.out.1 rfl
          have hrDZ := ((hrD.grown hg8B).grown hgZ)
          obtain ⟨hm1, hm2⟩ := HD.out.2.2 rfl
          have HM := Lib.hid (And.intro hm1 hm2)
          clear hm1 hm2 hrD
          go_wp2_with fail
          refine (doubtsOf_any AT AP AV T.length cT P.length cP V.length cV T P V _ (hrTB.grown hgZ) (hrPB.grown hgZ) (hrVB.grown hgZ) HR.out.1 (by omega) (by omega) HM.out.1 HM.out.2).mono ?_
          rintro e wD ⟨vE, mE, rfl, hlenE, hmE, hownE, hgD⟩
          obtain ⟨AE, cE, rfl, _, _, hrE, _⟩ := Rd.of_own hownE
          have hmm : mE = mD := by have := hrDZ.1; simp [ints] at this; omega
          subst hmm
          clear hownE hlenE
          go_wp2_with fail
          refine (equalDbt_any AD AE mE cD cE _ _ (hrDZ.grown hgD) hrE (by omega)).mono ?_
          rintro e wE ⟨rfl, hgE⟩
          have hgL := (hgZ.trans hgD).trans hgE
          obtain ⟨AF, cF, k, hE, rfl, hrF⟩ := HF.out trivial
          have hrFX := (hrF.grown hg9B).grown hgL
          have HE := Lib.hid hE
          clear hE hrF
          go_wp2_with fail
          refine (floatOf_any AT T.length cT T want _ (hrTB.grown hgL) HR.out.1 (by omega) (by omega)).mono ?_
          rintro e wF ⟨vG, k2, hE2, rfl, hownG, hgF⟩
          obtain rfl := FEnd.unique HE.out hE2
          obtain ⟨AG, cG, rfl, _, _, hrG, _⟩ := Rd.of_own hownG
          clear hE2 hownG
          go_wp2_with fail
          refine (equalInts_any AF AG T.length cF T.length cG _ _ _ (hrFX.grown hgF) hrG (by omega) (by omega)).mono ?_
          rw [show ∀ x : List Int, decide (x = x) = true from fun x => by simp]
          rintro e wG ⟨rfl, hgG⟩
          go_wp2_with fail
          go_ret
          exact ⟨rfl, ((hgW.trans hgL).trans hgF).trans hgG⟩
        · skip
          have hgL := hgZ
          obtain ⟨AF, cF, k, hE, rfl, hrF⟩ := HF.out trivial
          have hrFX := (hrF.grown hg9B).grown hgL
          have HE := Lib.hid hE
          clear hE hrF
          go_wp2_with fail
          refine (floatOf_any AT T.length cT T want _ (hrTB.grown hgL) HR.out.1 (by omega) (by omega)).mono ?_
          rintro e wF ⟨vG, k2, hE2, rfl, hownG, hgF⟩
          obtain rfl := FEnd.unique HE.out hE2
          obtain ⟨AG, cG, rfl, _, _, hrG, _⟩ := Rd.of_own hownG
          clear hE2 hownG
          go_wp2_with fail
          refine (equalInts_any AF AG T.length cF T.length cG _ _ _ (hrFX.grown hgF) hrG (by omega) (by omega)).mono ?_
          rw [show ∀ x : List Int, decide (x = x) = true from fun x => by simp]
          rintro e wG ⟨rfl, hgG⟩
          go_wp2_with fail
          go_ret
          exact ⟨rfl, ((hgW.trans hgL).trans hgF).trans hgG⟩
      · skip
        have hsb : (S == 0) = false := by simpa using hs
        have hss : (S != S) = false := by simp
        have hDD : (D != D) = false := by simp
        have hgX := grown_refl w11
        clear hs
        go_wp2_with fail
        refine (lawVends_any _).mono ?_
        rintro e wY ⟨rfl, hgY⟩
        have hgZ := hgX.trans hgY
        rcases HDO.out with rfl | rfl
        · skip
          obtain ⟨AD, mD, cD, rfl, hmD, hrD⟩ := HD.out.1 rfl
          have hrDZ := ((hrD.grown hg8B).grown hgZ)
          obtain ⟨hm1, hm2⟩ := HD.out.2.2 rfl
          have HM := Lib.hid (And.intro hm1 hm2)
          clear hm1 hm2 hrD
          go_wp2_with fail
          refine (doubtsOf_any AT AP AV T.length cT P.length cP V.length cV T P V _ (hrTB.grown hgZ) (hrPB.grown hgZ) (hrVB.grown hgZ) HR.out.1 (by omega) (by omega) HM.out.1 HM.out.2).mono ?_
          rintro e wD ⟨vE, mE, rfl, hlenE, hmE, hownE, hgD⟩
          obtain ⟨AE, cE, rfl, _, _, hrE, _⟩ := Rd.of_own hownE
          have hmm : mE = mD := by have := hrDZ.1; simp [ints] at this; omega
          subst hmm
          clear hownE hlenE
          go_wp2_with fail
          refine (equalDbt_any AD AE mE cD cE _ _ (hrDZ.grown hgD) hrE (by omega)).mono ?_
          rintro e wE ⟨rfl, hgE⟩
          have hgL := (hgZ.trans hgD).trans hgE
          obtain ⟨AF, cF, k, hE, rfl, hrF⟩ := HF.out trivial
          have hrFX := (hrF.grown hg9B).grown hgL
          have HE := Lib.hid hE
          clear hE hrF
          go_wp2_with fail
          refine (floatOf_any AT T.length cT T want _ (hrTB.grown hgL) HR.out.1 (by omega) (by omega)).mono ?_
          rintro e wF ⟨vG, k2, hE2, rfl, hownG, hgF⟩
          obtain rfl := FEnd.unique HE.out hE2
          obtain ⟨AG, cG, rfl, _, _, hrG, _⟩ := Rd.of_own hownG
          clear hE2 hownG
          go_wp2_with fail
          refine (equalInts_any AF AG T.length cF T.length cG _ _ _ (hrFX.grown hgF) hrG (by omega) (by omega)).mono ?_
          rw [show ∀ x : List Int, decide (x = x) = true from fun x => by simp]
          rintro e wG ⟨rfl, hgG⟩
          go_wp2_with fail
          go_ret
          exact ⟨rfl, ((hgW.trans hgL).trans hgF).trans hgG⟩
        · skip
          have hgL := hgZ
          obtain ⟨AF, cF, k, hE, rfl, hrF⟩ := HF.out trivial
          have hrFX := (hrF.grown hg9B).grown hgL
          have HE := Lib.hid hE
          clear hE hrF
          go_wp2_with fail
          refine (floatOf_any AT T.length cT T want _ (hrTB.grown hgL) HR.out.1 (by omega) (by omega)).mono ?_
          rintro e wF ⟨vG, k2, hE2, rfl, hownG, hgF⟩
          obtain rfl := FEnd.unique HE.out hE2
          obtain ⟨AG, cG, rfl, _, _, hrG, _⟩ := Rd.of_own hownG
          clear hE2 hownG
          go_wp2_with fail
          refine (equalInts_any AF AG T.length cF T.length cG _ _ _ (hrFX.grown hgF) hrG (by omega) (by omega)).mono ?_
          rw [show ∀ x : List Int, decide (x = x) = true from fun x => by simp]
          rintro e wG ⟨rfl, hgG⟩
          go_wp2_with fail
          go_ret
          exact ⟨rfl, ((hgW.trans hgL).trans hgF).trans hgG⟩
  · have h1 := settle_bad AT AC T.length cT C.length cC T C
    have e1 : settleFault T C = tubFault T := by simp [settleFault, hf]
    rw [e1] at h1
    have h2 := doubts_tub AT AP AV T.length cT P.length cP V.length cV T
    have h3 := float_bad AT T.length cT T want
    have e3 : floatFault T want = tubFault T := by simp [floatFault, hf]
    rw [e3] at h3
    have h4 := refTubesFault_any AT T.length cT T
    clear e1 e3
    generalize tubFault T = f at *
    have hb : (f == 0) = false := by simpa using hf
    have hbn : (f != 0) = true := by simpa using hf
    have hbb : (f != f) = false := by simp
    have H := Lib.hid (And.intro h1 (And.intro h2 (And.intro h3 (And.intro h4 hf))))
    clear h1 h2 h3 h4 hf
    go_wp2_with fail
    refine (H.out.1 _ hrT hrC (by omega) H.out.2.2.2.2).mono ?_
    rintro e w6 ⟨rfl, hg6⟩
    go_wp2_with fail
    refine (H.out.2.1 _ (hrT.grown hg6) H.out.2.2.2.2).mono ?_
    rintro e w7 ⟨rfl, hg7⟩
    go_wp2_with fail
    refine (H.out.2.2.1 _ ((hrT.grown hg6).grown hg7) H.out.2.2.2.2).mono ?_
    rintro e w8 ⟨rfl, hg8⟩
    go_wp2_with fail
    refine (H.out.2.2.2.1 _ (((hrT.grown hg6).grown hg7).grown hg8)).mono ?_
    rintro e w9 ⟨rfl, hg9⟩
    go_wp2_with fail
    refine (lawVends_any _).mono ?_
    rintro e w10 ⟨rfl, hg10⟩
    go_wp2_with fail
    go_ret
    exact ⟨rfl, ((((hgA.trans hg6).trans hg7).trans hg8).trans hg9).trans hg10⟩

end Go.Proofs.Ytoaeflegcfecaaa
