/- The walk of the reference's DoubtsOf. -/
import Derived.Test.YtoaeflegcfecaaaDbtC
import Derived.Test.YtoaeflegcfecaaaDbtK
import Derived.Test.YtoaeflegcfecaaaPayable
namespace Go.Proofs.Ytoaeflegcfecaaa
open Go.RowKit Go.Sort

/-- The test of a doubt. -/
def dbtT (l : List Tub) (p v : Int) : Bool := decide (p < v) && !paysB l (v - p).toNat

theorem flatP_dbt (l : List Tub) (P V : List Int) : flatP (prL (dbtT l) P V) = dbtL l P V := by
  have h1 : ∀ (p : Int) (V : List Int), flatP (V.flatMap fun v => if dbtT l p v then [(p, v)] else []) = dbtV l p V := by
    intro p V
    induction V with
    | nil => rfl
    | cons v V ih =>
      have e : ∀ a b : List (Int × Int), flatP (a ++ b) = flatP a ++ flatP b := by intro a b; simp [flatP]
      rw [List.flatMap_cons, e, ih, show dbtV l p (v :: V) = (if decide (p < v) && !paysB l (v - p).toNat then [p, v] else []) ++ dbtV l p V from rfl]
      congr 1
      unfold dbtT
      split <;> rfl
  induction P with
  | nil => rfl
  | cons p P ih =>
    have e : ∀ a b : List (Int × Int), flatP (a ++ b) = flatP a ++ flatP b := by intro a b; simp [flatP]
    rw [show prL (dbtT l) (p :: P) V = (V.flatMap fun v => if dbtT l p v then [(p, v)] else []) ++ prL (dbtT l) P V from rfl, e, h1, ih]
    rfl

set_option maxRecDepth 100000 in
set_option maxHeartbeats 1600000 in
theorem doubtsOf_any (A B C : Option Addr) (n c np cp nt ct : Nat) (l : List Tub) (P V : List Int) (w : World) (hr : Rd w 3 A n (tubFlat l)) (hrp : Rd w 1 B np (ints P)) (hrt : Rd w 1 C nt (ints V))
    (hf : tubFault l = 0) (hnp : np ≤ 60) (hnt : nt ≤ 20) (hp : ∀ x ∈ P, 1 ≤ x ∧ x ≤ 20000) (ht : ∀ x ∈ V, 1 ≤ x ∧ x ≤ 20000) :
    Calls Try.prog 38 #[.slice A n c, .slice B np cp, .slice C nt ct] w
      fun e w' => ∃ v m, e = .returned v ∧ (dbtL l (dst P) (dst V)).length = 2 * m ∧ m ≤ 1200 ∧ w'.ownsRow w.heap.size 73 2 v m (ints (dbtL l (dst P) (dst V))) ∧ w.grownBy w' none := by
  have hlp : P.length = np := by have := hrp.1; simpa [ints] using this
  have hlt' : V.length = nt := by have := hrt.1; simpa [ints] using this
  have hres : flatP (Go.Lib.compact ((prL (dbtT l) P V).mergeSort fun x y => !decide (lx y x))) = dbtL l (dst P) (dst V) := by
    rw [pr_compact (dbtT l) P V (dst P) (dst V) (dst_spec P).1 (dst_spec V).1 (dst_spec P).2 (dst_spec V).2, flatP_dbt]
  have hclen : (Go.Lib.compact ((prL (dbtT l) P V).mergeSort fun x y => !decide (lx y x))).length ≤ (prL (dbtT l) P V).length := by
    unfold Go.Lib.compact Go.Lib.compactUpTo
    rw [List.length_map]
    refine Nat.le_trans (List.length_filter_le _ _) ?_
    simp
  have HC := Lib.hid (And.intro (payable_any A n c l 20000 w hr hf (by omega)) (And.intro hp (And.intro ht (And.intro hlp (And.intro hlt' (And.intro hres hclen))))))
  clear hp ht hlp hlt' hres hclen hf
  go_enter Try.func38, Try.ntmps38
  go_wp2_with fail
  refine HC.out.1.mono ?_
  rintro e w1 ⟨g, cap, rfl, hownB, hg1⟩
  have hrp1 := hrp.grown hg1
  have hrt1 := hrt.grown hg1
  have hgl : g < w1.heap.size := (hownB.lt g rfl).2
  go_wp2_with fail
  go_loopg [8, 17] np (fun k v i wr => ∃ j m : Nat, k + j = np ∧ i = .int .i64 j ∧ (dbtL l (P.take j) V).length = 2 * m ∧ wr.ownsRow w1.heap.size 73 2 v m (ints (dbtL l (P.take j) V)) ∧ w1.grownBy wr none)
  case atStart => exact ⟨0, 0, by omega, rfl, rfl, World.ownsRow_nil _ _ _ _, grown_refl _⟩
  case round =>
    obtain ⟨j, m, hj, rfl, hlen, hown, hg⟩ := hrel
    generalize gk = ko at *
    by_cases hlt : j < np
    · obtain ⟨b, off, rfl, hb, p, hp, c0⟩ := int_cells (hrp1.grown hg) hlt
      have hsucc := dbtL_succ (l := l) (V := V) hp
      obtain ⟨p1, p2⟩ := HC.out.2.1 p (List.mem_of_getElem? hp)
      obtain ⟨mb, hmb1, hmb2⟩ := dbtL_len l (P.take j) V
      have hmb : m ≤ 1200 := by
        have h1 : (P.take j).length ≤ 60 := by rw [List.length_take]; omega
        have h2 : (P.take j).length * V.length ≤ 60 * 20 := Nat.mul_le_mul h1 (by have := HC.out.2.2.2.2.1; omega)
        omega
      have HJ := Lib.hid (And.intro hj (And.intro hsucc hlen))
      clear hj hsucc hp hmb1 hmb2
      generalize dbtL l (P.take j) V = D at *
      go_wp2_with fail
      go_loopg [8, 23] nt (fun k v i wr => ∃ i' m' : Nat, k + i' = nt ∧ i = .int .i64 i' ∧ (D ++ dbtV l p (V.take i')).length = 2 * m' ∧ wr.ownsRow w1.heap.size 73 2 v m' (ints (D ++ dbtV l p (V.take i'))) ∧ w1.grownBy wr none)
      case atStart => exact ⟨0, m, by omega, rfl, by have := HJ.out.2.2; simpa [dbtV] using this, by simpa [dbtV] using hown, hg⟩
      case round =>
        clear hown hg c0
        obtain ⟨i, m', hi, rfl, hlen2, hown2, hg2⟩ := hrel
        by_cases hlt2 : i < nt
        · obtain ⟨b2, off2, rfl, hb2, v, hv, d0⟩ := int_cells (hrt1.grown hg2) hlt2
          have hsv := dbtV_succ (l := l) (p := p) hv
          obtain ⟨v1, v2⟩ := HC.out.2.2.1 v (List.mem_of_getElem? hv)
          obtain ⟨mb, hmb1, hmb2⟩ := dbtV_len l p (V.take i)
          have hm'b : m' ≤ 1300 := by
            rw [List.length_take] at hmb2
            rw [List.length_append, hmb1, HJ.out.2.2] at hlen2
            omega
          have hownB2 := hownB.kept hg2 (.inr (by intro h; cases h))
          have hsz7 := hg2.size
          by_cases hpv : p < v
          · obtain ⟨a, ha⟩ : ∃ a, a = (v - p).toNat := ⟨_, rfl⟩
            have wa : IntKind.i64.wrap (v - p) = (a : Int) := by rw [IntWalk.i64_in _ (by omega)]; omega
            rw [← ha] at hsv
            have ha2 : a < 20001 := by omega
            have ha3 : (a : Int) < 20001 := by omega
            have cb := own_bool hownB2 ha2
            have hpt : decide (p < v) = true := by simpa using hpv
            rw [hpt, Bool.true_and] at hsv
            have HS := Lib.hid (And.intro hsv hi)
            clear ha hpt hsv hi hv hmb1 hmb2
            by_cases hF : paysB l a = true
            · rw [hF] at cb
              have HFF := Lib.hid hF
              clear hF
              go_wp2_with fail
              obtain ⟨hsv, hi⟩ := HS.out
              rw [HFF.out] at hsv
              simp only [Bool.not_true, Bool.false_eq_true, if_false, List.append_nil] at hsv
              go_roundg (gk - 1)
              case measure => omega
              case rel => exact ⟨i + 1, m', by omega, by go_num, by rw [hsv]; exact hlen2, by rw [hsv]; exact hown2, hg2⟩
            · have hF' : paysB l a = false := by simpa using hF
              rw [hF'] at cb
              have HFF := Lib.hid hF'
              clear hF hF'
              have hm'c : m' ≤ 1000000000 := by omega
              go_wp2_with (at_builtin; refine ap_dbt wr p v rfl _ _ rfl w1.heap.size _ m' (D ++ dbtV l p (V.take i)) hlen2 rfl hown2 rfl hm'c hsz7 ?_; intro v4 w4' hown4 hg4')
              obtain ⟨hsv, hi⟩ := HS.out
              rw [HFF.out] at hsv
              simp only [Bool.not_false, if_true] at hsv
              go_roundg (gk - 1)
              case measure => omega
              case rel => exact ⟨i + 1, m' + 1, by omega, by go_num, by rw [hsv, ← List.append_assoc, List.length_append, hlen2]; simp; omega, by rw [hsv, ← List.append_assoc]; exact hown4, ap_grown hg2 hown2 hg4' (Nat.le_refl _)⟩
          · have hpf : decide (p < v) = false := by simpa using hpv
            rw [hpf, Bool.false_and] at hsv
            have HS := Lib.hid (And.intro hsv hi)
            clear hsv hi hv hmb1 hmb2
            go_wp2_with fail
            obtain ⟨hsv, hi⟩ := HS.out
            simp only [Bool.false_eq_true, if_false, List.append_nil] at hsv
            go_roundg (gk - 1)
            case measure => omega
            case rel => exact ⟨i + 1, m', by omega, by go_num, by rw [hsv]; exact hlen2, by rw [hsv]; exact hown2, hg2⟩
        · obtain rfl : i = nt := by omega
          have hVt : V.take i = V := List.take_of_length_le (by have := HC.out.2.2.2.2.1; omega)
          rw [hVt] at hlen2 hown2
          go_wp2_with fail
          obtain ⟨hj, hsucc, _⟩ := HJ.out
          go_roundg (ko - 1)
          case measure => omega
          case rel => exact ⟨j + 1, m', by omega, by go_num, by rw [hsucc]; exact hlen2, by rw [hsucc]; exact hown2, hg2⟩
    · obtain rfl : j = np := by omega
      have hPt : P.take j = P := List.take_of_length_le (by have := HC.out.2.2.2.1; omega)
      rw [hPt] at hlen hown
      obtain ⟨mb, hmb1, hmb2⟩ := dbtL_len l P V
      have hmb : m ≤ 1200 := by
        have h2 : P.length * V.length ≤ 60 * 20 := Nat.mul_le_mul (by have := HC.out.2.2.2.1; omega) (by have := HC.out.2.2.2.2.1; omega)
        omega
      clear hmb1 hmb2
      have hlenP : (prL (dbtT l) P V).length = m := by have := flatP_len (prL (dbtT l) P V); rw [flatP_dbt, hlen] at this; omega
      obtain ⟨hres, hclen⟩ := HC.out.2.2.2.2.2
      rw [← flatP_dbt] at hown
      generalize prL (dbtT l) P V = Z at *
      have hgw := hg1.trans hg
      have hsz := hg1.size
      rcases Nat.eq_zero_or_pos m with h0 | h0
      · subst h0
        have hZ : Z = [] := List.eq_nil_of_length_eq_zero hlenP
        subst hZ
        have hR : dbtL l (dst P) (dst V) = [] := by rw [← hres, List.mergeSort_nil]; rfl
        obtain ⟨A', c', rfl, _, _, _, _⟩ := Rd.of_own hown
        have HN := Lib.hid (And.intro hR (And.intro hown (Try.slices_SortFunc_pair_none A' c' (.func (.func 63) #[] #[]) wr)))
        clear hR hres hclen hlen hlenP hown
        go_wp2_with fail
        refine HN.out.2.2.mono ?_
        rintro e w3 ⟨rfl, rfl⟩
        go_wp2_with fail
        refine (compactD_none A' c' _).mono ?_
        rintro e w4 ⟨rfl, rfl⟩
        go_wp2_with fail
        go_ret
        exact ⟨_, 0, rfl, by rw [HN.out.1]; rfl, by omega, by rw [HN.out.1]; exact own_mono HN.out.2.1 hsz, hgw⟩
      · obtain ⟨g2, cap2, rfl, hgb2, hglt2⟩ := hown.form h0
        have hS := sortD_any w1.heap.size g2 cap2 m Z wr hown (by omega)
        generalize (Z.mergeSort fun x y => !decide (lx y x)) = Y at *
        have hcl : (Go.Lib.compact Y).length ≤ m := by omega
        have hRl : (dbtL l (dst P) (dst V)).length = 2 * (Go.Lib.compact Y).length := by rw [← hres, flatP_len]
        have HN := Lib.hid (And.intro hS (And.intro hres (And.intro hcl hRl)))
        clear hS hres hclen hlen hlenP hown hcl hRl
        go_wp2_with fail
        refine HN.out.1.mono ?_
        rintro e w3 ⟨rfl, hown3, hg3⟩
        go_wp2_with fail
        refine (compactD_any w1.heap.size g2 cap2 m Y _ hown3 (by omega)).mono ?_
        rintro e w4 ⟨m2, hm2, rfl, hown4, hg4⟩
        obtain ⟨_, hres, hcl, hRl⟩ := HN.out
        rw [hres] at hown4
        rw [← hm2] at hcl hRl
        have HM := Lib.hid (And.intro hcl hRl)
        clear hm2 hres hcl hRl
        go_wp2_with fail
        go_ret
        refine ⟨_, m2, rfl, HM.out.2, by have := HM.out.1; omega, own_mono hown4 hsz, ?_⟩
        have hlow : w.heap.size ≤ g2 := by omega
        exact grown_below (grown_below hgw hg3 (fun i e => .inl (by cases e; exact hlow))) hg4 (fun i e => .inl (by cases e; exact hlow))

end Go.Proofs.Ytoaeflegcfecaaa
