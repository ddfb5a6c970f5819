/- The walk of the stream's Order: the first numbers in some order. -/
import Derived.Test.YtcipidfbclohoaaDoorTerms
import Derived.Test.YtcipidfbclohoaaDoorInv
namespace Go.Proofs.YtcipidfbclohoaaDoor
open Go.RowKit
variable {Q : Nat → Prop}

def upTo (n : Nat) : List Int := (List.range n).map Int.ofNat
theorem upTo_len (n : Nat) : (upTo n).length = n := by simp [upTo]
theorem upTo_succ (n : Nat) : upTo (n + 1) = upTo n ++ [(n : Int)] := by unfold upTo; rw [List.range_succ, List.map_append]; rfl
def swapL (l : List Int) (i k : Nat) : List Int := (l.set i (l.getD k 0)).set k (l.getD i 0)
theorem swapL_len (l : List Int) (i k : Nat) : (swapL l i k).length = l.length := by simp [swapL]
def shuf (L : List Int) (t n : Nat) : Nat → Nat × List Int
  | 0 => (t, upTo n)
  | r + 1 => ((shuf L t n r).1 + 1, swapL (shuf L t n r).2 (n - 1 - r) (nx L (shuf L t n r).1 ((n : Int) - 1 - r + 1)).toNat)
theorem shuf_b (L : List Int) (t n : Nat) : ∀ r, (shuf L t n r).1 = t + r ∧ (shuf L t n r).2.length = n
  | 0 => by simp [shuf, upTo_len]
  | r + 1 => by
    have ih := shuf_b L t n r
    rw [shuf]
    exact ⟨by show (shuf L t n r).1 + 1 = _; omega, by show (swapL _ _ _).length = n; rw [swapL_len]; exact ih.2⟩
def orderM (L : List Int) (t n : Nat) : Nat × List Int := shuf L t n (n - 1)

/-- What the operations of a swap yield. -/
def wF (g : Nat) (n c : Nat) (i k : Nat) (xi xk : Int) (q : Nat) (_ : World) (v : Value) : Prop :=
  match q with
  | 0 => v = .slice (some ⟨g, 0, none⟩) n c
  | 1 => v = .int .i64 i
  | 2 => v = .slice (some ⟨g, 0, none⟩) n c
  | 3 => v = .int .i64 k
  | 4 => v = .slice (some ⟨g, 0, none⟩) n c
  | 5 => v = .int .i64 k
  | 6 => v = .pointer (some ⟨g, k, none⟩)
  | 7 => v = .int .i64 xk
  | 8 => v = .slice (some ⟨g, 0, none⟩) n c
  | 9 => v = .int .i64 i
  | 10 => v = .pointer (some ⟨g, i, none⟩)
  | 11 => v = .int .i64 xi
  | 12 => v = .pointer (some ⟨g, i, none⟩)
  | _ => True
def wG (W : World) (g i : Nat) (xk : Int) (b7 b11 b13 : Bool) (w : World) : Prop :=
  w = (if b13 = true then W.setCell ⟨g, i, none⟩ (.int .i64 xk) else W) ∧ (b13 = true → b7 = true ∧ b11 = true)

set_option maxRecDepth 100000 in
set_option maxHeartbeats 4000000 in
theorem order_any (bs : Nat) (L : List Int) (t n : Nat) (w : World) (hs : StrQ Q w bs L t) (ht : t ≤ 900000) (hn : n ≤ 1000) :
    Calls Tryd.prog 43 #[.pointer (some ⟨bs, 0, none⟩), .int .i64 n] w
      fun e w' => ∃ v, e = .returned v ∧ w'.ownsRow w.heap.size 3 1 v n (ints (orderM L t n).2) ∧ StrQ Q w' bs L (orderM L t n).1 ∧ w.grownBy w' (some bs) := by
  have hbs := hs.lt
  go_enter Tryd.func43, Tryd.ntmps43
  go_wp2_with fail
  go_loopg [5, 10] n (fun k o i wr => ∃ j : Nat, k + j = n ∧ i = .int .i64 j ∧ wr.ownsRow w.heap.size 3 1 o (upTo j).length (ints (upTo j)) ∧ w.grownBy wr none)
  case atStart => exact ⟨0, by omega, rfl, World.ownsRow_nil _ _ _ _, grown_refl w⟩
  case round =>
    obtain ⟨j, hj, rfl, hown, hg⟩ := hrel
    by_cases hlt : j < n
    · have hltI : (j : Int) < (n : Int) := by omega
      have hl1 : (upTo j).length ≤ 1000000000 := by rw [upTo_len]; omega
      have hsz := hg.size
      have HJ := Lib.hid hj
      clear hj
      go_wp2_with (at_builtin; refine ap_int wr _ rfl _ _ rfl w.heap.size u5 (upTo j) rfl hown rfl hl1 hsz ?_; intro v7 w7 hown7 hg7)
      have hgg := ap_grown hg hown hg7 (Nat.le_refl _)
      rw [← upTo_succ] at hown7
      have hj := HJ.out
      go_roundg (gk - 1)
      case measure => omega
      case rel => exact ⟨j + 1, by omega, by go_num, hown7, hgg⟩
    · obtain rfl : j = n := by omega
      rw [upTo_len] at hown
      have hs1 := hs.grown hg (by simp)
      have hg1 := hg.but (some bs)
      clear hs hg
      obtain ⟨A5, c5, rfl, _, _, _, _⟩ := Rd.of_own hown
      go_wp2_with fail
      go_loopg [7] (j - 1) (fun k d wr => ∃ r : Nat, k + r = j - 1 ∧ d = .int .i64 ((j : Int) - 1 - r) ∧ wr.ownsRow w.heap.size 3 1 (.slice A5 j c5) j (ints (shuf L t j r).2) ∧ StrQ Q wr bs L (shuf L t j r).1 ∧ w.grownBy wr (some bs))
      case atStart => exact ⟨0, by omega, by simp, hown, hs1, hg1⟩
      case round =>
        clear hown hs1 hg1
        obtain ⟨r, hr, rfl, hown, hst, hg⟩ := hrel
        have hb := shuf_b L t j r
        have hsucc : shuf L t j (r + 1) = ((shuf L t j r).1 + 1, swapL (shuf L t j r).2 (j - 1 - r) (nx L (shuf L t j r).1 ((j : Int) - 1 - r + 1)).toNat) := rfl
        by_cases hlr : r < j - 1
        · obtain ⟨i, hi⟩ : ∃ i, j - 1 - r = i := ⟨_, rfl⟩
          have hiI : (j : Int) - 1 - r = i := by omega
          rw [hi, hiI] at hsucc
          rw [hiI]
          have hi1 : 0 < i := by omega
          have hij : i < j := by omega
          generalize shuf L t j r = S at *
          obtain ⟨T, l⟩ := S
          simp only at hown hst hb hsucc
          obtain ⟨k0, k1⟩ := nx_in L T ((i : Int) + 1) (by omega)
          obtain ⟨k, hk⟩ := Int.eq_ofNat_of_zero_le k0
          rw [hk] at k1
          rw [hk, Int.toNat_natCast] at hsucc
          have hkj : k < j := by omega
          have HS := Lib.hid (And.intro hsucc (And.intro hr (And.intro hk (And.intro hi hb.2))))
          have hT := hb.1
          have hiP : (0 : Int) < (i : Int) := by omega
          clear hsucc hr hk k0 hi hiI hb
          go_wp2_with fail
          refine (next_any bs L T ((i : Int) + 1) _ hst (by omega) (by omega)).mono ?_
          rw [HS.out.2.2.1]
          rintro e w2 ⟨rfl, hs2, hg2⟩
          obtain ⟨g, c, hv, hgb, hglt⟩ := hown.form (by omega)
          injection hv with hv1 hv2 hv3
          subst hv1 hv3
          clear hv2
          have hown2 := hown.kept hg2 (own_ne hown hbs)
          have hgg2 := hg.trans hg2
          obtain ⟨xk, hxk⟩ : ∃ xk, l.getD k 0 = xk := ⟨_, rfl⟩
          obtain ⟨xi, hxi⟩ : ∃ xi, l.getD i 0 = xi := ⟨_, rfl⟩
          have x0 : w2.drew.cell? ⟨g, k, none⟩ = some (.int .i64 xk) := by rw [← hxk]; exact own_int hown2 hkj
          have x1 : w2.drew.cell? ⟨g, i, none⟩ = some (.int .i64 xi) := by rw [← hxi]; exact own_int hown2 hij
          have f0 : w2.drew.frozen? ⟨g, k, none⟩ = false := hown2.frozenAt k
          have f1 : w2.drew.frozen? ⟨g, i, none⟩ = false := hown2.frozenAt i
          have hkI : (k : Int) < (j : Int) := by omega
          have hiJ : (i : Int) < (j : Int) := by omega
          have H2 := Lib.hid (And.intro hown2 (And.intro hs2 (And.intro hgg2 (And.intro hxk hxi))))
          clear hown hst hg hg2 hown2 hs2 hgg2 hxk hxi
          go_wp2_with fail
          generalize hWd : w2.drew = W at x0 x1 f0 f1 ⊢
          refine region_split_at 15 _ _ rfl rfl (by kernel_rfl) (by kernel_rfl) (by kernel_rfl) (by kernel_rfl) (by kernel_rfl) ?_
          simp only [List.take_succ_cons, List.take_zero, List.size_toArray, List.length_cons, List.length_nil, Nat.reduceAdd]
          refine any_split_at 14 _ _ rfl rfl (by kernel_rfl) (by kernel_rfl) (by kernel_rfl) (by kernel_rfl) ?_
          simp only [List.take_succ_cons, List.take_zero, List.size_toArray, List.length_cons, List.length_nil, Nat.reduceAdd]
          rw [hWd]
          refine wpAny_facts (frame := ?fr) ?hfr (fun q => [u28, u29, u30, u31, u32, u33, u34, u35, u36, u37, u38, u39, u40].getD q undef) ?h0 (wF g j c5 i k xi xk)
            (fun listed _ w => wG W g i xk (listed.getD 7 false) (listed.getD 11 false) (listed.getD 13 false) w) (fun _ _ => True) (fun _ _ _ _ _ h => h) ?hG (by kernel_rfl) ?hput ?hs ?hd
          case hfr =>
            intro f
            simp only [putsF, List.zipIdx_cons, List.zipIdx_nil, List.foldl_cons, List.foldl_nil, Nat.reduceAdd, Act.put, List.setIfInBounds_toArray, List.set_cons_zero, List.set_cons_succ]
            rfl
          case h0 => rfl
          case hG => exact ⟨rfl, by simp⟩
          case hput =>
            intro q o ho f v
            match q, ho with
            | 0, ho => simp only [List.getElem?_toArray, List.getElem?_cons_zero, Option.some.injEq] at ho; subst ho; rfl
            | 1, ho => simp only [List.getElem?_toArray, List.getElem?_cons_zero, List.getElem?_cons_succ, Option.some.injEq] at ho; subst ho; rfl
            | 2, ho => simp only [List.getElem?_toArray, List.getElem?_cons_zero, List.getElem?_cons_succ, Option.some.injEq] at ho; subst ho; rfl
            | 3, ho => simp only [List.getElem?_toArray, List.getElem?_cons_zero, List.getElem?_cons_succ, Option.some.injEq] at ho; subst ho; rfl
            | 4, ho => simp only [List.getElem?_toArray, List.getElem?_cons_zero, List.getElem?_cons_succ, Option.some.injEq] at ho; subst ho; rfl
            | 5, ho => simp only [List.getElem?_toArray, List.getElem?_cons_zero, List.getElem?_cons_succ, Option.some.injEq] at ho; subst ho; rfl
            | 6, ho => simp only [List.getElem?_toArray, List.getElem?_cons_zero, List.getElem?_cons_succ, Option.some.injEq] at ho; subst ho; rfl
            | 7, ho => simp only [List.getElem?_toArray, List.getElem?_cons_zero, List.getElem?_cons_succ, Option.some.injEq] at ho; subst ho; rfl
            | 8, ho => simp only [List.getElem?_toArray, List.getElem?_cons_zero, List.getElem?_cons_succ, Option.some.injEq] at ho; subst ho; rfl
            | 9, ho => simp only [List.getElem?_toArray, List.getElem?_cons_zero, List.getElem?_cons_succ, Option.some.injEq] at ho; subst ho; rfl
            | 10, ho => simp only [List.getElem?_toArray, List.getElem?_cons_zero, List.getElem?_cons_succ, Option.some.injEq] at ho; subst ho; rfl
            | 11, ho => simp only [List.getElem?_toArray, List.getElem?_cons_zero, List.getElem?_cons_succ, Option.some.injEq] at ho; subst ho; rfl
            | 12, ho => simp only [List.getElem?_toArray, List.getElem?_cons_zero, List.getElem?_cons_succ, Option.some.injEq] at ho; subst ho; rfl
            | 13, ho => simp only [List.getElem?_toArray, List.getElem?_cons_zero, List.getElem?_cons_succ, Option.some.injEq] at ho; subst ho; rfl
            | n + 14, ho => simp at ho
          case hs =>
            intro q o ho listed f wz hsz hun hG hpre K hK
            have hsz' : listed.size = 14 := by simpa using hsz
            dsimp only at hK ⊢
            match q, ho with
            | 0, ho =>
              simp only [List.getElem?_toArray, List.getElem?_cons_zero, Option.some.injEq] at ho
              subst ho
              go_simp
              exact hK (.slice (some ⟨g, 0, none⟩) j c5) _ trivial (by rw [getD_setT (by omega), getD_setT (by omega), getD_setT (by omega), if_neg (by decide), if_neg (by decide), if_neg (by decide)]; exact hG) rfl
            | 1, ho =>
              simp only [List.getElem?_toArray, List.getElem?_cons_zero, List.getElem?_cons_succ, Option.some.injEq] at ho
              subst ho
              go_simp
              exact hK (.int .i64 i) _ trivial (by rw [getD_setT (by omega), getD_setT (by omega), getD_setT (by omega), if_neg (by decide), if_neg (by decide), if_neg (by decide)]; exact hG) rfl
            | 2, ho =>
              simp only [List.getElem?_toArray, List.getElem?_cons_zero, List.getElem?_cons_succ, Option.some.injEq] at ho
              subst ho
              go_simp
              exact hK (.slice (some ⟨g, 0, none⟩) j c5) _ trivial (by rw [getD_setT (by omega), getD_setT (by omega), getD_setT (by omega), if_neg (by decide), if_neg (by decide), if_neg (by decide)]; exact hG) rfl
            | 3, ho =>
              simp only [List.getElem?_toArray, List.getElem?_cons_zero, List.getElem?_cons_succ, Option.some.injEq] at ho
              subst ho
              go_simp
              exact hK (.int .i64 k) _ trivial (by rw [getD_setT (by omega), getD_setT (by omega), getD_setT (by omega), if_neg (by decide), if_neg (by decide), if_neg (by decide)]; exact hG) rfl
            | 4, ho =>
              simp only [List.getElem?_toArray, List.getElem?_cons_zero, List.getElem?_cons_succ, Option.some.injEq] at ho
              subst ho
              go_simp
              exact hK (.slice (some ⟨g, 0, none⟩) j c5) _ trivial (by rw [getD_setT (by omega), getD_setT (by omega), getD_setT (by omega), if_neg (by decide), if_neg (by decide), if_neg (by decide)]; exact hG) rfl
            | 5, ho =>
              simp only [List.getElem?_toArray, List.getElem?_cons_zero, List.getElem?_cons_succ, Option.some.injEq] at ho
              subst ho
              go_simp
              exact hK (.int .i64 k) _ trivial (by rw [getD_setT (by omega), getD_setT (by omega), getD_setT (by omega), if_neg (by decide), if_neg (by decide), if_neg (by decide)]; exact hG) rfl
            | 6, ho =>
              simp only [List.getElem?_toArray, List.getElem?_cons_zero, List.getElem?_cons_succ, Option.some.injEq] at ho
              subst ho
              have p4 := (hpre ⟨4, .data⟩ (by simp) rfl).2
              have p5 := (hpre ⟨5, .data⟩ (by simp) rfl).2
              have e1 : f 4 = .slice (some ⟨g, 0, none⟩) j c5 := p4
              have e2 : f 5 = .int .i64 k := p5
              rw [e1, e2] at hK ⊢
              go_simp
              exact hK (.pointer (some ⟨g, k, none⟩)) _ trivial (by rw [getD_setT (by omega), getD_setT (by omega), getD_setT (by omega), if_neg (by decide), if_neg (by decide), if_neg (by decide)]; exact hG) rfl
            | 7, ho =>
              simp only [List.getElem?_toArray, List.getElem?_cons_zero, List.getElem?_cons_succ, Option.some.injEq] at ho
              subst ho
              have p6 := (hpre ⟨6, .data⟩ (by simp) rfl).2
              have e1 : f 6 = .pointer (some ⟨g, k, none⟩) := p6
              have fq := getD_ff hun
              have f13 : listed.getD 13 false = false := by
                cases h : listed.getD 13 false with
                | false => rfl
                | true => have := (hG.2 h).1; rw [fq] at this; cases this
              have hw := hG.1
              rw [f13, if_neg (by decide)] at hw
              subst hw
              rw [e1] at hK ⊢
              go_simp
              exact hK (.int .i64 xk) _ trivial (by rw [getD_setT (by omega), getD_setT (by omega), getD_setT (by omega), if_pos rfl, if_neg (by decide), if_neg (by decide), f13]; exact ⟨by rw [if_neg (by decide)], by simp⟩) rfl
            | 8, ho =>
              simp only [List.getElem?_toArray, List.getElem?_cons_zero, List.getElem?_cons_succ, Option.some.injEq] at ho
              subst ho
              go_simp
              exact hK (.slice (some ⟨g, 0, none⟩) j c5) _ trivial (by rw [getD_setT (by omega), getD_setT (by omega), getD_setT (by omega), if_neg (by decide), if_neg (by decide), if_neg (by decide)]; exact hG) rfl
            | 9, ho =>
              simp only [List.getElem?_toArray, List.getElem?_cons_zero, List.getElem?_cons_succ, Option.some.injEq] at ho
              subst ho
              go_simp
              exact hK (.int .i64 i) _ trivial (by rw [getD_setT (by omega), getD_setT (by omega), getD_setT (by omega), if_neg (by decide), if_neg (by decide), if_neg (by decide)]; exact hG) rfl
            | 10, ho =>
              simp only [List.getElem?_toArray, List.getElem?_cons_zero, List.getElem?_cons_succ, Option.some.injEq] at ho
              subst ho
              have p8 := (hpre ⟨8, .data⟩ (by simp) rfl).2
              have p9 := (hpre ⟨9, .data⟩ (by simp) rfl).2
              have e1 : f 8 = .slice (some ⟨g, 0, none⟩) j c5 := p8
              have e2 : f 9 = .int .i64 i := p9
              rw [e1, e2] at hK ⊢
              go_simp
              exact hK (.pointer (some ⟨g, i, none⟩)) _ trivial (by rw [getD_setT (by omega), getD_setT (by omega), getD_setT (by omega), if_neg (by decide), if_neg (by decide), if_neg (by decide)]; exact hG) rfl
            | 11, ho =>
              simp only [List.getElem?_toArray, List.getElem?_cons_zero, List.getElem?_cons_succ, Option.some.injEq] at ho
              subst ho
              have p10 := (hpre ⟨10, .data⟩ (by simp) rfl).2
              have e1 : f 10 = .pointer (some ⟨g, i, none⟩) := p10
              have fq := getD_ff hun
              have f13 : listed.getD 13 false = false := by
                cases h : listed.getD 13 false with
                | false => rfl
                | true => have := (hG.2 h).2; rw [fq] at this; cases this
              have hw := hG.1
              rw [f13, if_neg (by decide)] at hw
              subst hw
              rw [e1] at hK ⊢
              go_simp
              exact hK (.int .i64 xi) _ trivial (by rw [getD_setT (by omega), getD_setT (by omega), getD_setT (by omega), if_neg (by decide), if_pos rfl, if_neg (by decide), f13]; exact ⟨by rw [if_neg (by decide)], by simp⟩) rfl
            | 12, ho =>
              simp only [List.getElem?_toArray, List.getElem?_cons_zero, List.getElem?_cons_succ, Option.some.injEq] at ho
              subst ho
              have p0 := (hpre ⟨0, .data⟩ (by simp) rfl).2
              have p1 := (hpre ⟨1, .data⟩ (by simp) rfl).2
              have e1 : f 0 = .slice (some ⟨g, 0, none⟩) j c5 := p0
              have e2 : f 1 = .int .i64 i := p1
              rw [e1, e2] at hK ⊢
              go_simp
              exact hK (.pointer (some ⟨g, i, none⟩)) _ trivial (by rw [getD_setT (by omega), getD_setT (by omega), getD_setT (by omega), if_neg (by decide), if_neg (by decide), if_neg (by decide)]; exact hG) rfl
            | 13, ho =>
              simp only [List.getElem?_toArray, List.getElem?_cons_zero, List.getElem?_cons_succ, Option.some.injEq] at ho
              subst ho
              have p12 := (hpre ⟨12, .data⟩ (by simp) rfl).2
              have p7 := (hpre ⟨7, .data⟩ (by simp) rfl).2
              have e1 : f 12 = .pointer (some ⟨g, i, none⟩) := p12
              have e2 : f 7 = .int .i64 xk := p7
              have b7 := (hpre ⟨7, .data⟩ (by simp) rfl).1
              have b11 := (hpre ⟨11, .phase⟩ (by simp) rfl).1
              have f13 := getD_ff hun
              have hw := hG.1
              rw [f13, if_neg (by decide)] at hw
              subst hw
              rw [e1, e2] at hK ⊢
              go_simp
              exact hK undef _ trivial (by rw [getD_setT (by omega), getD_setT (by omega), getD_setT (by omega), if_neg (by decide), if_neg (by decide), if_pos rfl, b7, b11]; exact ⟨by rw [if_pos rfl], by simp⟩) trivial
            | n + 14, ho => simp at ho
          case hd =>
            intro listed f wz hall hG hF
            have f13 := hall 13 (by simp)
            have hw := hG.1
            rw [f13, if_pos rfl] at hw
            subst hw
            have e2 : f 2 = .slice (some ⟨g, 0, none⟩) j c5 := hF 2 (by simp)
            have e3 : f 3 = .int .i64 k := hF 3 (by simp)
            have e11 : f 11 = .int .i64 xi := hF 11 (by simp)
            rw [e2, e3, e11]
            have hownd : W.ownsRow w.heap.size 3 1 (.slice (some ⟨g, 0, none⟩) j c5) j (ints l) := by rw [← hWd]; exact H2.out.1
            have hsd : StrQ Q W bs L (T + 1) := by rw [← hWd]; exact H2.out.2.1
            have hgd : w.grownBy W (some bs) := by rw [← hWd]; exact grown_drew H2.out.2.2.1
            have hown3 := own_int_set hownd i xk
            have z0 := own_int hown3 hkj
            have z1 := hown3.frozenAt k
            have hown4 := own_int_set hown3 k xi
            have H4 := Lib.hid (And.intro hown4 (And.intro ((hsd.far g (by omega) i (.int .i64 xk)).far g (by omega) k (.int .i64 xi)) (grown_set (grown_set hgd (p := ⟨g, i, none⟩) (.inl (by simp; omega)) (.int .i64 xk)) (p := ⟨g, k, none⟩) (.inl (by simp; omega)) (.int .i64 xi))))
            clear hownd hsd hgd hown3 hown4 hall hF hG
            show wpList _ _ _ _ _ _
            go_wp2_with fail
            show wpList _ _ _ _ _ _
            go_wp2_with fail
            have hr := HS.out.2.1
            have hi := HS.out.2.2.2.1
            go_roundg (gk - 1)
            case measure => omega
            case rel =>
              refine ⟨r + 1, by omega, ?_, ?_, ?_, H4.out.2.2⟩
              · have : (i : Int) - 1 = (j : Int) - 1 - ((r + 1 : Nat) : Int) := by omega
                rw [this]
              · rw [HS.out.1]; show World.ownsRow _ _ _ _ _ _ (ints (swapL l i k)); unfold swapL; rw [H2.out.2.2.2.1, H2.out.2.2.2.2]; exact H4.out.1
              · rw [HS.out.1]; exact H4.out.2.1
        · have hrj : r = j - 1 := by omega
          have hiI : ¬ (0 : Int) < (j : Int) - 1 - r := by omega
          go_wp2_with fail
          go_ret
          unfold orderM
          rw [← hrj]
          exact ⟨_, rfl, hown, hst, hg⟩

end Go.Proofs.YtcipidfbclohoaaDoor
