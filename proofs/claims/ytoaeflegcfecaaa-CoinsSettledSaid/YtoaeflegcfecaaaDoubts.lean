/- The walk of Doubts. -/
import Derived.Test.YtoaeflegcfecaaaSorted
import Derived.Test.YtoaeflegcfecaaaPayer
namespace Go.Proofs.Ytoaeflegcfecaaa
open Go.RowKit

theorem Try.infoDbt : (Try.prog.info? 73).map (fun i => (i.zero, i.size, i.bytes)) = some (some (.agg #[.int .i64 0, .int .i64 0]), 2, 16) := by kernel_rfl

/-- append(doubts, Doubt{..}). -/
theorem ap_dbt {ops : Array Oper} {rest : List Oper} {o : Oper} {a : Act} {Q : Exit → Act → World → Prop} (w : World) (x y : Int) (hgd : o.guard = none) (s z : Operand)
    (ho : o.op = .call { callee := .builtin .append, args := #[s, z], argTypes := #[61, 61] }) (base : Nat) (v : Value) (m : Nat) (l : List Int) (hl : l.length = 2 * m)
    (hs : a.eval s = v) (hown : w.ownsRow base 73 2 v m (ints l)) (hx : a.eval z = .slice (some ⟨w.heap.size, 0, none⟩) 1 1) (hlen : m ≤ 1000000000) (hbase : base ≤ w.heap.size)
    (h : ∀ v' w', w'.ownsRow base 73 2 v' (m + 1) (ints (l ++ [x, y])) → (w.alloc (.cells #[.int .i64 x, .int .i64 y] 73)).grownBy w' v.ownBlock → wpList Try.prog ops Q rest (a.put o.dst v') w') :
    wpList Try.prog ops Q (o :: rest) a (w.alloc (.cells #[.int .i64 x, .int .i64 y] 73)) := by
  obtain ⟨i0, hi, hz0, hz1, hz2⟩ := info_parts Try.infoDbt
  refine wpList_append_own _ hgd s z 61 ho base 73 i0 (.agg #[.int .i64 0, .int .i64 0]) 2 16 Try.underlying61 hi hz0 hz1 hz2 rfl (by decide) v m (ints l) hs (hown.alloc _) ⟨w.heap.size, 0, none⟩ 1 1 (ints [x, y]) hx rfl
    (cells_new w #[.int .i64 x, .int .i64 y] _) (by simp [ints, Value.oneCell']) (by unfold maxLen; omega) (by omega) (by simp; omega) ?_
  intro v' w' h1 h2 _
  exact h v' w' (by simpa [ints] using h1) h2

/-- The doubts of one price, of prices; as numbers. -/
def dbtV (l : List Tub) (p : Int) (V : List Int) : List Int := V.flatMap fun v => if decide (p < v) && !paysB l (v - p).toNat then [p, v] else []
def dbtL (l : List Tub) (P V : List Int) : List Int := P.flatMap fun p => dbtV l p V
theorem dbtV_len (l : List Tub) (p : Int) (V : List Int) : ∃ m, (dbtV l p V).length = 2 * m ∧ m ≤ V.length := by
  induction V with
  | nil => exact ⟨0, rfl, Nat.le_refl _⟩
  | cons v V ih =>
    obtain ⟨m, h1, h2⟩ := ih
    have e : dbtV l p (v :: V) = (if decide (p < v) && !paysB l (v - p).toNat then [p, v] else []) ++ dbtV l p V := rfl
    rw [e, List.length_append, h1]
    split
    · exact ⟨m + 1, by simp; omega, by simp; omega⟩
    · exact ⟨m, by simp, by simp; omega⟩
theorem dbtL_len (l : List Tub) (P V : List Int) : ∃ m, (dbtL l P V).length = 2 * m ∧ m ≤ P.length * V.length := by
  induction P with
  | nil => exact ⟨0, rfl, by simp⟩
  | cons p P ih =>
    obtain ⟨m, h1, h2⟩ := ih
    obtain ⟨m', h3, h4⟩ := dbtV_len l p V
    have e : dbtL l (p :: P) V = dbtV l p V ++ dbtL l P V := rfl
    rw [e, List.length_append, h1, h3]
    exact ⟨m' + m, by omega, by rw [List.length_cons, Nat.add_mul]; omega⟩
theorem dbtV_succ {l : List Tub} {p : Int} {V : List Int} {i : Nat} {v : Int} (h : V[i]? = some v) : dbtV l p (V.take (i + 1)) = dbtV l p (V.take i) ++ (if decide (p < v) && !paysB l (v - p).toNat then [p, v] else []) := by
  rw [take_at h]; simp [dbtV]
theorem dbtL_succ {l : List Tub} {P V : List Int} {j : Nat} {p : Int} (h : P[j]? = some p) : dbtL l (P.take (j + 1)) V = dbtL l (P.take j) V ++ dbtV l p V := by
  rw [take_at h]; simp [dbtL]

theorem dst_mem (l : List Int) : ∀ x ∈ dst l, x ∈ l := by
  intro x hx
  unfold dst Go.Lib.compact Go.Lib.compactUpTo at hx
  obtain ⟨j, hj, rfl⟩ := List.mem_map.1 hx
  have hj2 := (List.mem_filter.1 hj).1
  rw [List.mem_range] at hj2
  have h2 : ((l.mergeSort fun x y => decide (x ≤ y)).toArray)[j]! ∈ l.mergeSort fun x y => decide (x ≤ y) := by
    rw [getElem!_pos _ j (by simpa using hj2)]
    simp
  exact (List.mergeSort_perm _ _).mem_iff.1 h2

theorem cmp_sorted (zs : List Int) (hs : zs.Pairwise (· ≤ ·)) (m : Nat) (hm : m ≤ zs.length) :
    (Go.Lib.compactUpTo zs.toArray m).Pairwise (· < ·) ∧ ∀ x, x ∈ Go.Lib.compactUpTo zs.toArray m ↔ ∃ j, j < m ∧ zs.getD j 0 = x := by
  have hget : ∀ j, j < zs.length → (zs.toArray)[j]! = zs.getD j 0 := by
    intro j hj
    rw [getElem!_pos _ j (by simpa using hj)]
    simp [List.getD, hj]
  have hle : ∀ i j, i ≤ j → j < zs.length → zs.getD i 0 ≤ zs.getD j 0 := by
    intro i j hij hj
    by_cases e : i = j
    · subst e; exact Int.le_refl _
    · have h := List.pairwise_iff_getElem.1 hs i j (by omega) hj (by omega)
      simpa [List.getD, hj, show i < zs.length from by omega] using h
  induction m with
  | zero => exact ⟨by simp [Go.Lib.compactUpTo], fun x => by simp [Go.Lib.compactUpTo]⟩
  | succ m ih =>
    obtain ⟨h1, h2⟩ := ih (by omega)
    rw [Go.Lib.compactUpTo_succ, hget m (by omega)]
    by_cases hk : Go.Lib.keeps zs.toArray m = true
    · rw [if_pos hk]
      have hkk : m = 0 ∨ zs.getD m 0 ≠ zs.getD (m - 1) 0 := by
        unfold Go.Lib.keeps at hk
        have := of_decide_eq_true hk
        rcases this with h | h
        · exact .inl h
        · by_cases h0 : m = 0
          · exact .inl h0
          · rw [hget m (by omega), hget (m - 1) (by omega)] at h; exact .inr h
      refine ⟨List.pairwise_append.2 ⟨h1, by simp, fun a ha b hb => ?_⟩, fun x => ?_⟩
      · rw [List.mem_singleton] at hb
        subst hb
        obtain ⟨j, hj, rfl⟩ := (h2 a).1 ha
        rcases hkk with h | h
        · omega
        · have a1 := hle j (m - 1) (by omega) (by omega)
          have a2 := hle (m - 1) m (by omega) (by omega)
          omega
      · rw [List.mem_append, h2, List.mem_singleton]
        constructor
        · rintro (⟨j, h3, h4⟩ | h3)
          · exact ⟨j, by omega, h4⟩
          · exact ⟨m, by omega, h3.symm⟩
        · rintro ⟨j, h3, h4⟩
          by_cases e : j = m
          · subst e; exact .inr h4.symm
          · exact .inl ⟨j, by omega, h4⟩
    · rw [if_neg hk, List.append_nil]
      have hkk : 0 < m ∧ zs.getD m 0 = zs.getD (m - 1) 0 := by
        unfold Go.Lib.keeps at hk
        have h : ¬ (m = 0 ∨ _) := fun h => hk (decide_eq_true h)
        have h0 : m ≠ 0 := fun e => h (.inl e)
        refine ⟨by omega, ?_⟩
        by_cases e : zs.getD m 0 = zs.getD (m - 1) 0
        · exact e
        · exact absurd (.inr (by rw [hget m (by omega), hget (m - 1) (by omega)]; exact e)) h
      refine ⟨h1, fun x => ?_⟩
      rw [h2]
      constructor
      · rintro ⟨j, h3, h4⟩; exact ⟨j, by omega, h4⟩
      · rintro ⟨j, h3, h4⟩
        by_cases e : j = m
        · subst e; exact ⟨j - 1, by omega, by rw [← hkk.2]; exact h4⟩
        · exact ⟨j, by omega, h4⟩

theorem dst_spec (l : List Int) : (dst l).Pairwise (· < ·) ∧ ∀ x, x ∈ dst l ↔ x ∈ l := by
  have hs : (l.mergeSort fun x y => decide (x ≤ y)).Pairwise (· ≤ ·) := by
    have h := List.pairwise_mergeSort (le := fun x y : Int => decide (x ≤ y)) (fun a b c h1 h2 => by simp at *; omega) (fun a b => by simp; omega) l
    exact h.imp fun h => by simpa using h
  obtain ⟨h1, h2⟩ := cmp_sorted _ hs _ (Nat.le_refl _)
  refine ⟨h1, fun x => ?_⟩
  have hperm := (List.mergeSort_perm l (fun x y => decide (x ≤ y))).mem_iff (a := x)
  rw [show dst l = Go.Lib.compactUpTo (l.mergeSort fun x y => decide (x ≤ y)).toArray (l.mergeSort fun x y => decide (x ≤ y)).length from rfl, h2, ← hperm]
  generalize (l.mergeSort fun x y => decide (x ≤ y)) = zs at *
  constructor
  · rintro ⟨j, h3, h4⟩
    rw [← h4, show zs.getD j 0 = zs[j] from by simp [List.getD, h3]]
    exact List.getElem_mem _
  · intro h
    obtain ⟨j, h3, h4⟩ := List.getElem_of_mem h
    exact ⟨j, h3, by rw [show zs.getD j 0 = zs[j] from by simp [List.getD, h3]]; exact h4⟩
theorem dst_last (l : List Int) (k : Nat) (hk : (dst l).length = k + 1) : ∀ x ∈ dst l, x ≤ (dst l).getD k 0 := by
  intro x hx
  obtain ⟨j, h3, h4⟩ := List.getElem_of_mem hx
  by_cases e : j = k
  · subst e; simp [List.getD, h3, h4]
  · have h := List.pairwise_iff_getElem.1 (dst_spec l).1 j k h3 (by omega) (by omega)
    rw [h4] at h
    simp [List.getD, show k < (dst l).length from by omega]; omega

set_option maxRecDepth 100000 in
set_option maxHeartbeats 1600000 in
theorem doubts_ok (A B C : Option Addr) (n c np cp nt ct : Nat) (l : List Tub) (prices takes : List Int) (w : World) (hr : Rd w 3 A n (tubFlat l)) (hrp : Rd w 1 B np (ints prices)) (hrt : Rd w 1 C nt (ints takes))
    (hf : tubFault l = 0) (hnp : np ≤ 60) (hnt : nt ≤ 20) (hp : ∀ x ∈ prices, 1 ≤ x ∧ x ≤ 20000) (ht : ∀ x ∈ takes, 1 ≤ x ∧ x ≤ 20000) :
    Calls Try.prog 31 #[.slice A n c, .slice B np cp, .slice C nt ct] w
      fun e w' => ∃ v m, e = .returned (.tuple #[v, .int .i64 0]) ∧ (dbtL l (dst prices) (dst takes)).length = 2 * m ∧ m ≤ 1200 ∧ w'.ownsRow w.heap.size 73 2 v m (ints (dbtL l (dst prices) (dst takes))) ∧ w.grownBy w' none := by
  have hlp : prices.length = np := by have := hrp.1; simpa [ints] using this
  have hlt : takes.length = nt := by have := hrt.1; simpa [ints] using this
  have hc := checkTubes_any A n c l w hr
  rw [hf] at hc
  have ap : allB prices 1 20000 = true := List.all_eq_true.2 fun x hx => btw_true.2 (hp x hx)
  have at' : allB takes 1 20000 = true := List.all_eq_true.2 fun x hx => btw_true.2 (ht x hx)
  have hdl1 : (dst prices).length ≤ np := by have h := compact_len_le (prices.mergeSort fun x y => decide (x ≤ y)); rw [List.length_mergeSort] at h; unfold dst; omega
  have hdl2 : (dst takes).length ≤ nt := by have h := compact_len_le (takes.mergeSort fun x y => decide (x ≤ y)); rw [List.length_mergeSort] at h; unfold dst; omega
  have hm1 : ∀ x ∈ dst prices, 1 ≤ x ∧ x ≤ 20000 := fun x hx => hp x (dst_mem _ x hx)
  have hm2 : ∀ x ∈ dst takes, 1 ≤ x ∧ x ≤ 20000 := fun x hx => ht x (dst_mem _ x hx)
  have dV := fun w (h : Rd w 1 C nt (ints takes)) => distinct_any C nt ct takes w h (by omega)
  have dP := fun w (h : Rd w 1 B np (ints prices)) => distinct_any B np cp prices w h (by omega)
  have hlast := dst_last takes
  have HC := Lib.hid (And.intro hc (And.intro ap (And.intro at' (And.intro hf (And.intro hm1 (And.intro hm2 hlast))))))
  have HV := Lib.hid dV
  have HP := Lib.hid dP
  have he : ∀ (args : Array Value) (w : World), (callFunc 71 args).run Try.prog w = .ok (.enter 71 args) w := enters_of Try.func71 (by kernel_rfl) rfl
  have HLB := Lib.hid (dbtL_len l (dst prices) (dst takes))
  generalize dst prices = P at *
  generalize dst takes = V at *
  clear hc ap at' hf hm1 hm2 dV dP hp ht hlp hlt hlast
  have d1 : decide ((60 : Int) < (np : Int)) = false := by simp; omega
  have d2 : decide ((20 : Int) < (nt : Int)) = false := by simp; omega
  go_enter Try.func31, Try.ntmps31
  go_wp2_with fail
  refine HC.out.1.mono ?_
  rintro e w1 ⟨rfl, hg1⟩
  go_wp2_with fail
  refine (allBetween_any B np cp prices 1 20000 _ (hrp.grown hg1) (by omega)).mono ?_
  rw [HC.out.2.1]
  rintro e w2 ⟨rfl, hg2⟩
  go_wp2_with fail
  refine (allBetween_any C nt ct takes 1 20000 _ ((hrt.grown hg1).grown hg2) (by omega)).mono ?_
  rw [HC.out.2.2.1]
  rintro e w3 ⟨rfl, hg3⟩
  have hg13 := (hg1.trans hg2).trans hg3
  go_wp2_with fail
  refine (HV.out _ (hrt.grown hg13)).mono ?_
  rintro e w4 ⟨vV, rfl, hownV, hg4⟩
  have hg14 := hg13.trans hg4
  rcases Nat.eq_zero_or_pos V.length with hz | hz
  · have hV0 : V = [] := List.eq_nil_of_length_eq_zero hz
    subst hV0
    obtain ⟨AV, cV, rfl, _, _, _, _⟩ := Rd.of_own hownV
    have hd0 : dbtL l P [] = [] := by simp [dbtL, dbtV]
    have HD := Lib.hid hd0
    clear hd0 hz
    simp only [List.length_nil] at *
    go_wp2_with fail
    go_ret2
    exact ⟨.slice none 0 0, 0, rfl, by rw [HD.out]; rfl, by omega, by rw [HD.out]; exact World.ownsRow_nil _ _ _ _, hg14⟩
  · obtain ⟨gV, cV, rfl, hgV1, hgV2⟩ := hownV.form hz
    have hrV := own_rd hownV
    obtain ⟨k, hk⟩ : ∃ k, V.length = k + 1 := ⟨V.length - 1, by omega⟩
    have cl := own_int hownV (j := k) (by omega)
    have hmem : V.getD k 0 ∈ V := by rw [show V.getD k 0 = V[k]'(by omega) from by simp [List.getD, show k < V.length from by omega]]; exact List.getElem_mem _
    obtain ⟨l1, l2⟩ := HC.out.2.2.2.2.2.1 _ hmem
    have hlast := HC.out.2.2.2.2.2.2 k hk
    obtain ⟨most, hmost⟩ := Int.eq_ofNat_of_zero_le (show 0 ≤ V.getD k 0 by omega)
    rw [hmost] at cl l1 l2 hlast
    have hk20 : k ≤ 20 := by omega
    obtain ⟨nV, hnV⟩ : ∃ nV, nV = V.length := ⟨_, rfl⟩
    rw [← hnV] at hk hz hdl2 hownV hrV ⊢
    have wk : IntKind.i64.wrap ((nV : Int) - 1) = (k : Int) := by rw [IntWalk.i64_in _ (by omega)]; omega
    have hkn : (k : Int) < (nV : Int) := by omega
    have HL := Lib.hid (And.intro hlast (And.intro hnV hk))
    clear hmost hmem hlast hnV hk
    have hzz : ((nV : Int) == 0) = false := by rw [beq_eq_false_iff_ne]; omega
    go_wp2_with fail
    refine (payer_any A n c l most _ (hr.grown hg14) HC.out.2.2.2.1 (by omega)).mono ?_
    rintro e w5 ⟨Bp, rfl, hpay, hg5⟩
    have hg15 := hg14.trans hg5
    have hrV5 := hrV.grown hg5
    go_wp2_with fail
    refine (HP.out _ (hrp.grown hg15)).mono ?_
    rintro e w6 ⟨vP, rfl, hownP, hg6⟩
    have hg16 := hg15.trans hg6
    have hrV6 := hrV5.grown hg6
    have hpay6 := hpay.grown hg6
    obtain ⟨AP, cP, rfl, _, _, hrP, _⟩ := Rd.of_own hownP
    obtain ⟨nP, hnP⟩ : ∃ nP, nP = P.length := ⟨_, rfl⟩
    rw [← hnP] at hdl1 hrP ⊢
    have HNP := Lib.hid hnP
    clear hnP hownP cl hownV hpay hrV hrV5 wk
    go_wp2_with fail
    go_loopg [11, 53] nP (fun k v i wr => ∃ j m : Nat, k + j = nP ∧ i = .int .i64 j ∧ (dbtL l (P.take j) V).length = 2 * m ∧ wr.ownsRow w6.heap.size 73 2 v m (ints (dbtL l (P.take j) V)) ∧ w6.grownBy wr none)
    case atStart => exact ⟨0, 0, by omega, rfl, rfl, World.ownsRow_nil _ _ _ _, grown_refl _⟩
    case round =>
      obtain ⟨j, m, hj, rfl, hlen, hown, hg⟩ := hrel
      generalize gk = ko at *
      by_cases hlt : j < nP
      · obtain ⟨b, off, rfl, hb, p, hp, c0⟩ := int_cells (hrP.grown hg) hlt
        have hsucc := dbtL_succ (l := l) (V := V) hp
        obtain ⟨p1, p2⟩ := HC.out.2.2.2.2.1 p (List.mem_of_getElem? hp)
        obtain ⟨mb, hmb1, hmb2⟩ := dbtL_len l (P.take j) V
        have hmb : m ≤ 1200 := by
          have h1 : (P.take j).length ≤ 60 := by rw [List.length_take]; omega
          have h2 : (P.take j).length * V.length ≤ 60 * 20 := Nat.mul_le_mul h1 (by have := HL.out.2.1; omega)
          omega
        have HJ := Lib.hid (And.intro hj (And.intro hsucc hlen))
        clear hj hsucc hp hmb1 hmb2
        generalize dbtL l (P.take j) V = D at *
        go_wp2_with fail
        go_loopg [11, 59] nV (fun k v i wr => ∃ i' m' : Nat, k + i' = nV ∧ i = .int .i64 i' ∧ (D ++ dbtV l p (V.take i')).length = 2 * m' ∧ wr.ownsRow w6.heap.size 73 2 v m' (ints (D ++ dbtV l p (V.take i'))) ∧ w6.grownBy wr none)
        case atStart => exact ⟨0, m, by omega, rfl, by have := HJ.out.2.2; simpa [dbtV] using this, by simpa [dbtV] using hown, hg⟩
        case round =>
          clear hown hg c0
          obtain ⟨i, m', hi, rfl, hlen2, hown2, hg2⟩ := hrel
          by_cases hlt2 : i < nV
          · obtain ⟨b2, off2, e2, hb2, v, hv, d0⟩ := int_cells (hrV6.grown hg2) hlt2
            cases e2
            rw [Nat.zero_add] at d0
            have hsv := dbtV_succ (l := l) (p := p) hv
            obtain ⟨v1, v2⟩ := HC.out.2.2.2.2.2.1 v (List.mem_of_getElem? hv)
            have v3 := HL.out.1 v (List.mem_of_getElem? hv)
            obtain ⟨mb, hmb1, hmb2⟩ := dbtV_len l p (V.take i)
            have hm'b : m' ≤ 1300 := by
              rw [List.length_take] at hmb2
              rw [List.length_append, hmb1, HJ.out.2.2] at hlen2
              omega
            have hpay7 := hpay6.grown hg2
            have hsz7 := hg2.size
            by_cases hpv : p < v
            · obtain ⟨a, ha⟩ : ∃ a, a = (v - p).toNat := ⟨_, rfl⟩
              have wa : IntKind.i64.wrap (v - p) = (a : Int) := by rw [IntWalk.i64_in _ (by omega)]; omega
              rw [← ha] at hsv
              have hcall := payer1_any l (most + 1) Bp w4.heap.size a wr hpay7 (by omega)
              have HCA := Lib.hid hcall
              have hpt : decide (p < v) = true := by simpa using hpv
              rw [hpt, Bool.true_and] at hsv
              have HS := Lib.hid (And.intro hsv hi)
              clear hcall ha hpt hsv hi hv hmb1 hmb2
              go_wp2_with fail
              refine HCA.out.mono ?_
              rintro e w8 ⟨rfl, rfl⟩
              by_cases hF : paysB l a = true
              · rw [hF]
                have HFF := Lib.hid hF
                clear hF
                go_wp2_with fail
                obtain ⟨hsv, hi⟩ := HS.out
                rw [HFF.out] at hsv
                simp only [Bool.not_true, Bool.false_eq_true, if_false, List.append_nil] at hsv
                go_roundg (gk - 1)
                case measure => omega
                case rel => exact ⟨i + 1, m', by omega, by go_num, by rw [hsv]; exact hlen2, by rw [hsv]; exact hown2, hg2⟩
              · have hF' : paysB l a = false := by simpa using hF
                rw [hF']
                have HFF := Lib.hid hF'
                clear hF hF'
                have hm'c : m' ≤ 1000000000 := by omega
                go_wp2_with (at_builtin; refine ap_dbt wr p v rfl _ _ rfl w6.heap.size _ m' (D ++ dbtV l p (V.take i)) hlen2 rfl hown2 rfl hm'c hsz7 ?_; intro v4 w4' hown4 hg4')
                obtain ⟨hsv, hi⟩ := HS.out
                rw [HFF.out] at hsv
                simp only [Bool.not_false, if_true] at hsv
                go_roundg (gk - 1)
                case measure => omega
                case rel => exact ⟨i + 1, m' + 1, by omega, by go_num, by rw [hsv, ← List.append_assoc, List.length_append, hlen2]; simp; omega, by rw [hsv, ← List.append_assoc]; exact hown4, ap_grown hg2 hown2 hg4' (Nat.le_refl _)⟩
            · have hpf : decide (p < v) = false := by simpa using hpv
              rw [hpf, Bool.false_and] at hsv
              have HS := Lib.hid (And.intro hsv hi)
              clear hsv hi hv hmb1 hmb2
              go_wp2_with fail
              obtain ⟨hsv, hi⟩ := HS.out
              simp only [Bool.false_eq_true, if_false, List.append_nil] at hsv
              go_roundg (gk - 1)
              case measure => omega
              case rel => exact ⟨i + 1, m', by omega, by go_num, by rw [hsv]; exact hlen2, by rw [hsv]; exact hown2, hg2⟩
          · obtain rfl : i = nV := by omega
            have hVt : V.take i = V := List.take_of_length_le (by have := HL.out.2.1; omega)
            rw [hVt] at hlen2 hown2
            go_wp2_with fail
            obtain ⟨hj, hsucc, _⟩ := HJ.out
            go_roundg (ko - 1)
            case measure => omega
            case rel => exact ⟨j + 1, m', by omega, by go_num, by rw [hsucc]; exact hlen2, by rw [hsucc]; exact hown2, hg2⟩
      · obtain rfl : j = nP := by omega
        have hPt : P.take j = P := List.take_of_length_le (by have := HNP.out; omega)
        rw [hPt] at hlen hown
        obtain ⟨mb, hmb1, hmb2⟩ := HLB.out
        have hmb : m ≤ 1200 := by
          have h2 : P.length * V.length ≤ 60 * 20 := Nat.mul_le_mul (by have := HNP.out; omega) (by have := HL.out.2.1; omega)
          omega
        clear hmb1 hmb2
        go_wp2_with fail
        go_ret2
        exact ⟨_, m, rfl, hlen, hmb, own_mono hown hg16.size, hg16.trans hg⟩

end Go.Proofs.Ytoaeflegcfecaaa
