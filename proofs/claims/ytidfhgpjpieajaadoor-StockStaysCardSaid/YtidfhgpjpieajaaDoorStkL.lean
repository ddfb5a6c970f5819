/- The walk of package stock's Spoil. -/
import Derived.Test.YtidfhgpjpieajaaDoorStkK
import Derived.OwnWalk
import Derived.Test.YtidfhgpjpieajaaDoorStkA
namespace Go.Proofs.YtidfhgpjpieajaaDoor
open Go.RowKit

theorem own_kinds {w : World} {b1 b2 e1 e2 s1 s2 n1 n2 : Nat} {v1 v2 : Value} {x1 x2 : List Value} (h1 : w.ownsRow b1 e1 s1 v1 n1 x1) (h2 : w.ownsRow b2 e2 s2 v2 n2 x2) (hne : e1 ≠ e2) :
    v1.ownBlock = none ∨ v1.ownBlock ≠ v2.ownBlock := by
  rcases h1.2 with ⟨rfl, _⟩ | ⟨g1, c1, u1, rfl, _, hg1, _⟩
  · exact .inl rfl
  · rcases h2.2 with ⟨rfl, _⟩ | ⟨g2, c2, u2, rfl, _, hg2, _⟩
    · exact .inr (by simp [Value.ownBlock])
    · refine .inr fun e => hne ?_
      have e' : g1 = g2 := by simpa [Value.ownBlock] using e
      subst e'
      rw [hg1] at hg2
      injection hg2 with h
      injection h
theorem lotFlat_set {l : List Lot} {k : Nat} {y : Lot} (hy : l[k]? = some y) (v : Int) : (lotFlat l).set (k * 4 + 3) (.int .i64 v) = lotFlat (l.set k { y with mn := v }) := by
  induction l generalizing k with
  | nil => simp at hy
  | cons a l ih =>
    cases k with
    | zero =>
      simp only [List.getElem?_cons_zero, Option.some.injEq] at hy
      subst hy
      simp [lotFlat, lotCells]
    | succ k =>
      have hy' : l[k]? = some y := by simpa using hy
      have := ih hy'
      simp only [lotFlat, lotCells, List.flatMap_cons, List.set_cons_succ, List.cons_append, List.nil_append] at this ⊢
      rw [show (k + 1) * 4 = k * 4 + 3 + 1 from by omega]
      simp only [List.set_cons_succ, this]

theorem own_lot3 {w : World} {base g n c j : Nat} {l : List Lot} {x : Lot} (h : w.ownsRow base 51 4 (.slice (some ⟨g, 0, none⟩) n c) n (lotFlat l)) (hx : l[j]? = some x) (hj : j < n) : w.cell? ⟨g, j * 4 + 3, none⟩ = some (.int .i64 x.mn) := by
  obtain ⟨A3, c3, hv, _, _, hrd, _⟩ := Rd.of_own h
  injection hv with hA _ hc
  subst hA hc
  obtain ⟨b', off', e', _, y, hy, _, _, _, d3⟩ := lot_cells hrd hj
  cases e'
  rw [hx] at hy
  injection hy with hy
  subst hy
  simpa using d3

/-- A lot behind Spoil; what is taken of it. -/
def splL (d : Int) (x : Lot) : Lot := if x.ex < d ∧ 0 < x.mn then { x with mn := 0 } else x
def splG (d : Int) (x : Lot) : Option Pc := if x.ex < d ∧ 0 < x.mn then some ⟨x.id, x.mn⟩ else none
def splR (d : Int) (l : List Lot) (j : Nat) : List Lot := (l.take j).map (splL d) ++ l.drop j
theorem splR_at {d : Int} {l : List Lot} {j : Nat} {x : Lot} (h : l[j]? = some x) : (splR d l j)[j]? = some x ∧ (splR d l j).length = l.length ∧ splR d l (j + 1) = (splR d l j).set j (splL d x) := by
  have hj := (List.getElem?_eq_some_iff.1 h).1
  have hx := (List.getElem?_eq_some_iff.1 h).2
  have hlen : ((l.take j).map (splL d)).length = j := by rw [List.length_map, List.length_take]; omega
  have hd : l.drop j = x :: l.drop (j + 1) := by rw [List.drop_eq_getElem_cons hj, hx]
  refine ⟨?_, ?_, ?_⟩
  · unfold splR
    rw [List.getElem?_append_right (by omega), hlen, Nat.sub_self, hd]
    rfl
  · unfold splR; rw [List.length_append, hlen, List.length_drop]; omega
  · unfold splR
    rw [take_at h, List.map_append, List.set_append_right _ _ (by omega), hlen, Nat.sub_self, hd]
    simp
theorem splR_end (d : Int) (l : List Lot) : splR d l l.length = l.map (splL d) := by simp [splR]

theorem set_same {α : Type} {l : List α} {j : Nat} {x : α} (h : l[j]? = some x) : l.set j x = l := by
  apply List.ext_getElem?
  intro i
  rw [List.getElem?_set]
  by_cases e : j = i
  · subst e; rw [if_pos rfl, h]; simp [(List.getElem?_eq_some_iff.1 h).1]
  · rw [if_neg e]

/-- What is wrong with spoiling. -/
def splF (l : List Lot) (d : Int) : Int := if lotsF l ≠ 0 then lotsF l else if btw d 0 4000 = false then 1 else 0

set_option maxRecDepth 100000 in
set_option maxHeartbeats 2000000 in
theorem spoil_ok (A : Option Addr) (n c : Nat) (l : List Lot) (d : Int) (w : World) (hr : Rd w 4 A n (lotFlat l)) (hF : splF l d = 0) :
    Calls Tryd.prog 17 #[.slice A n c, .int .i64 d] w fun e w' => ∃ v1 v2, e = .returned (.tuple #[v1, v2, .int .i64 0]) ∧
      w'.ownsRow w.heap.size 51 4 v1 n (lotFlat (l.map (splL d))) ∧ w'.ownsRow w.heap.size 54 2 v2 (l.filterMap (splG d)).length (pcFlat (l.filterMap (splG d))) ∧ w.grownBy w' none := by
  have h12 : lotsF l = 0 ∧ btw d 0 4000 = true := by
    unfold splF at hF
    by_cases h1 : lotsF l = 0
    · rw [if_neg (by omega)] at hF
      by_cases h2 : btw d 0 4000 = true
      · exact ⟨h1, h2⟩
      · rw [if_pos (by simpa using h2)] at hF; cases hF
    · rw [if_pos h1] at hF; exact absurd hF h1
  obtain ⟨h1, h2⟩ := h12
  have hl : l.length = n := by have := hr.1; rw [lotFlat_len] at this; omega
  have hn5 : n ≤ 500 := by have := (lots_ok h1).1; omega
  have hck := checkLots_any A n c l w hr
  rw [h1] at hck
  have hcl := fun w1 (h : w.grownBy w1 none) => cloneLot_any A n c l w1 (hr.grown h) (by omega)
  have hz : splR d l 0 = l := by simp [splR]
  have HC := Lib.hid (And.intro hck (And.intro hcl (And.intro hl hz)))
  clear hck hcl hl hF h1 hr hz
  go_enter Tryd.func17, Tryd.ntmps17
  go_wp2_with fail
  refine HC.out.1.mono ?_
  rintro e w1 ⟨rfl, hg1⟩
  go_wp2_with (go_at_call 69; refine (isDay_any _ _).mono ?_; rintro e w' ⟨rfl, rfl⟩)
  refine (HC.out.2.1 _ hg1).mono ?_
  rintro e w2 ⟨v, rfl, hown2, hg2⟩
  obtain ⟨A1, c1, rfl, _, _, _, _⟩ := Rd.of_own hown2
  have ho2 := own_mono2 hown2 hg1.size
  have hgg := hg1.trans hg2
  clear hown2 hg1 hg2
  go_wp2_with fail
  go_loopg [9, 24] n (fun k v i wr => ∃ j : Nat, k + j = n ∧ i = .int .i64 j ∧ wr.ownsRow w.heap.size 51 4 (.slice A1 n c1) n (lotFlat (splR d l j)) ∧ wr.ownsRow w.heap.size 54 2 v ((l.take j).filterMap (splG d)).length (pcFlat ((l.take j).filterMap (splG d))) ∧ w.grownBy wr none)
  case atStart => exact ⟨0, by omega, rfl, by rw [HC.out.2.2.2]; exact ho2, World.ownsRow_nil _ _ _ _, hgg⟩
  case round =>
    clear ho2 hgg
    obtain ⟨j, hj, rfl, hoL, hoP, hg⟩ := hrel
    by_cases hlt : j < n
    · obtain ⟨g, c2, hv, hgb, hgl⟩ := hoL.form (by omega)
      injection hv with hA _ hc
      subst hA hc
      obtain ⟨A3, c3, hv, _, _, hrd, _⟩ := Rd.of_own hoL
      injection hv with hA _ hc
      subst hA hc
      obtain ⟨b', off', e', hb', x, hx', d0, d1, d2, d3⟩ := lot_cells hrd hlt
      cases e'
      simp only [Nat.zero_add] at d0 d1 d2 d3
      have hx : l[j]? = some x := by
        have hjl : j < l.length := by have := HC.out.2.2.1; omega
        have := (splR_at (d := d) (List.getElem?_eq_getElem hjl)).1
        rw [hx'] at this
        rw [List.getElem?_eq_getElem hjl, ← this]
      obtain ⟨s1, s2, s3⟩ := splR_at (d := d) hx
      have hfm : (l.take (j + 1)).filterMap (splG d) = (l.take j).filterMap (splG d) ++ (splG d x).toList := by
        rw [take_at hx, List.filterMap_append]
        cases hs : splG d x <;> simp [hs]
      have hfl : ((l.take j).filterMap (splG d)).length ≤ j := by have := List.length_filterMap_le (splG d) (l.take j); rw [List.length_take] at this; omega
      generalize (l.take j).filterMap (splG d) = E at *
      obtain ⟨xi, xp, xe, xm⟩ := x
      simp only at d0 d1 d2 d3
      rw [show splL d ⟨xi, xp, xe, xm⟩ = if xe < d ∧ 0 < xm then ⟨xi, xp, xe, 0⟩ else ⟨xi, xp, xe, xm⟩ from rfl] at s3
      rw [show splG d ⟨xi, xp, xe, xm⟩ = if xe < d ∧ 0 < xm then some ⟨xi, xm⟩ else none from rfl] at hfm
      have fr := hoL.frozenAt (j * 4 + 3)
      have hsz := hg.size
      have HS := Lib.hid (And.intro hj (And.intro hoL (And.intro hoP (And.intro hg s1))))
      have hbX := Blk.new wr 51 #[.string xi, .string xp, .int .i64 xe, .int .i64 xm]
      clear hj hoL hoP hg hx hx' s1 s2 hrd
      by_cases h3 : xe < d
      · by_cases h4 : 0 < xm
        · rw [if_pos ⟨h3, h4⟩] at s3 hfm
          have HT := Lib.hid (And.intro s3 hfm)
          clear s3 hfm
          go_wp2_with (at_builtin; refine ap_pc_at (wr.alloc (.cells #[.string xi, .string xp, .int .i64 xe, .int .i64 xm] 51)) ⟨xi, xm⟩ rfl _ _ rfl w.heap.size _ E rfl (HS.out.2.2.1.alloc _) (wr.heap.size + 1) (by simp) rfl (by omega) (by simp; omega) ?_; intro v5 w5 ho5 hg5 _; have hoL5 := ((HS.out.2.1.alloc _).alloc _).kept hg5 (own_kinds HS.out.2.1 HS.out.2.2.1 (by decide)); have e5 := own_lot3 hoL5 HS.out.2.2.2.2 hlt; have f5 := hoL5.frozenAt (j * 4 + 3); have H5 := Lib.hid (And.intro ho5 (And.intro hg5 hoL5)))
          obtain ⟨hj, hoL, hoP, hg, s1⟩ := HS.out
          obtain ⟨s3, hfm⟩ := HT.out
          obtain ⟨ho5, hg5, hoL5⟩ := H5.out
          go_roundg (gk - 1)
          case measure => omega
          case rel =>
            obtain ⟨st1, st2⟩ := hoL5.stored (j * 4 + 3) (.int .i64 0)
            rw [lotFlat_set s1] at st1
            have hgw := grown_below (grown_alloc (grown_alloc hg (.cells #[.string xi, .string xp, .int .i64 xe, .int .i64 xm] 51)) (.cells #[.string xi, .int .i64 xm] 54)) hg5 (fun i hi => .inl (hoP.lt i hi).1)
            exact ⟨j + 1, by omega, by go_num, by rw [s3]; exact st1, by rw [hfm]; exact ho5.kept st2 (own_kinds ho5 hoL5 (by decide)), grown_below hgw st2 (fun i hi => .inl (by injection hi with hi; omega))⟩
        · rw [if_neg (by omega)] at s3 hfm
          have HT := Lib.hid (And.intro s3 hfm)
          clear s3 hfm hbX
          go_wp2_with fail
          obtain ⟨hj, hoL, hoP, hg, s1⟩ := HS.out
          obtain ⟨s3, hfm⟩ := HT.out
          go_roundg (gk - 1)
          case measure => omega
          case rel => exact ⟨j + 1, by omega, by go_num, by rw [s3, set_same s1]; exact hoL.alloc _, by rw [hfm]; simpa using hoP.alloc _, grown_alloc hg _⟩
      · rw [if_neg (by omega)] at s3 hfm
        have HT := Lib.hid (And.intro s3 hfm)
        clear s3 hfm hbX
        go_wp2_with fail
        obtain ⟨hj, hoL, hoP, hg, s1⟩ := HS.out
        obtain ⟨s3, hfm⟩ := HT.out
        go_roundg (gk - 1)
        case measure => omega
        case rel => exact ⟨j + 1, by omega, by go_num, by rw [s3, set_same s1]; exact hoL.alloc _, by rw [hfm]; simpa using hoP.alloc _, grown_alloc hg _⟩
    · obtain rfl : j = n := by omega
      rw [← HC.out.2.2.1, splR_end, HC.out.2.2.1] at hoL
      rw [List.take_of_length_le (by have := HC.out.2.2.1; omega)] at hoP
      have HO := Lib.hid (And.intro hoL (And.intro hoP hg))
      clear hoL hoP hg
      go_wp2_with fail
      refine bodyPost_ret (results_tmp3 rfl _ _ _) rfl ?_
      exact ⟨_, _, rfl, HO.out.1, HO.out.2.1, HO.out.2.2⟩

end Go.Proofs.YtidfhgpjpieajaaDoor
