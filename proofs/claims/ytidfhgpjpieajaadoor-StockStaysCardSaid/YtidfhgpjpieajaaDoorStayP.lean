/- What the stream's RightLots are: right ones; coilkeep.stocks. -/
import Derived.Test.YtidfhgpjpieajaaDoorCount
import Derived.Test.YtidfhgpjpieajaaDoorMkA
import Derived.Test.YtidfhgpjpieajaaDoorStkP
namespace Go.Proofs.YtidfhgpjpieajaaDoor
open Go.RowKit

theorem lotFrom_of : ∀ (l : List Lot) (prev : Option ByteArray), (∀ t ∈ l, LotOk t) → l.Pairwise (fun a b => sLe b.id a.id = false) → (∀ p, prev = some p → ∀ t ∈ l, sLe t.id p = false) → lotFrom prev l = 0
  | [], _, _, _, _ => rfl
  | a :: l, prev, h, hp, hv => by
    have h1 := h a (by simp)
    obtain ⟨k1, k2, k3, k4⟩ := h1
    have hb1 : btw a.ex 0 4000 = true := by unfold btw; simp [k3]
    have hb2 : btw a.mn 0 100000 = true := by unfold btw; simp [k4]
    have hpv : (prev.any fun p => sLe a.id p) = false := by
      cases prev with
      | none => rfl
      | some p => exact hv p rfl a (by simp)
    have ih := lotFrom_of l (some a.id) (fun t ht => h t (by simp [ht])) (List.pairwise_cons.1 hp).2 (fun p e t ht => by cases e; exact (List.pairwise_cons.1 hp).1 t ht)
    simp [lotFrom, k1, k2, hb1, hb2, hpv, ih]
theorem lotsF_of {l : List Lot} (hn : l.length ≤ 500) (h : ∀ t ∈ l, LotOk t) (hp : l.Pairwise (fun a b => sLe b.id a.id = false)) : lotsF l = 0 := by
  unfold lotsF
  rw [if_neg (by omega)]
  exact lotFrom_of l none h hp (fun p e => by cases e)

theorem rl_lt : rlIds.Pairwise (fun a b => a.data.toList < b.data.toList) := by decide
theorem rl_ids : rlIds.Pairwise (fun a b => sLe b a = false) := rl_lt.imp fun h => sLe_false.2 h
theorem rl_key : ∀ s ∈ rlIds, keyB s = true := by decide
theorem rlState_ids (L : List Int) (t j : Nat) (h : j ≤ 5) : ((rlState L t j).2.map (·.id)).Sublist (rlIds.take j) ∧ ∀ x ∈ (rlState L t j).2, LotOk x := by
  induction j with
  | zero => simp [rlState]
  | succ j ih =>
    have ih := ih (by omega)
    have h5 : j < rlIds.length := h
    have hid : rlIds.getD j ByteArray.empty = rlIds[j] := by simp [List.getD, h5]
    rw [rlState_succ L t j (by omega), hid, List.take_succ_eq_append_getElem h5]
    unfold rlStep
    split
    · exact ⟨ih.1.trans (List.sublist_append_left _ _), ih.2⟩
    · refine ⟨?_, ?_⟩
      · rw [List.map_append]
        exact List.Sublist.append ih.1 (List.Sublist.refl _)
      · intro x hx
        rcases List.mem_append.1 hx with hx | hx
        · exact ih.2 x hx
        · rw [List.mem_singleton.1 hx]
          generalize (rlState L t j).1 = u
          have e1 := pkS_mem L (u + 1) [sCan, sCan, sBar] (by simp)
          have e2 := pk_mem L (u + 1 + 1) [3, 5, 5, 7, 9, 20] (by simp)
          have e3 := pk_mem L (u + 1 + 1 + 1) [0, 1, 3, 5, 8] (by simp)
          have hk : ∀ s ∈ [sCan, sCan, sBar], keyB s = true := by decide
          refine ⟨rl_key _ (List.getElem_mem h5), hk _ e1, ?_⟩
          simp only [List.mem_cons, List.not_mem_nil, or_false] at e2 e3
          simp only [rlNew]
          omega
theorem rightLots_ok (L : List Int) (t : Nat) : lotsF (rightLots L t).2 = 0 ∧ (rightLots L t).2.length ≤ 5 ∧ (rightLots L t).1 ≤ t + 20 := by
  have h1 := rlState_ids L t 5 (by omega)
  have h2 := rlState_bound L t 5 (by omega)
  unfold rightLots
  refine ⟨lotsF_of (by omega) h1.2 ?_, h2.2, by omega⟩
  have := List.Pairwise.sublist h1.1 (show (rlIds.take 5).Pairwise _ from rl_ids)
  exact List.pairwise_map.1 this

theorem stocksKeep_any (w : World) : Calls Tryd.prog 44 #[] w fun e w' => e = .returned (.bool true) ∧ w.grownBy w' none := by
  have hr := lot_rd_new w [kLot] #[.string ⟨#[97]⟩, .string ⟨#[99, 97, 110]⟩, .int .i64 0, .int .i64 3] 51 rfl
  have hg0 := grown_alloc (grown_refl w) (.cells #[.string ⟨#[97]⟩, .string ⟨#[99, 97, 110]⟩, .int .i64 0, .int .i64 3] 51)
  have hc := count_ok (some ⟨w.heap.size, 0, none⟩) 1 1 [kLot] ⟨#[99, 97, 110]⟩ _ hr kLot_ok.1 kLot_ok.2.1
  rw [kLot_ok.2.2] at hc
  have HC := Lib.hid (And.intro hc hg0)
  clear hc hr hg0
  go_enter Tryd.func44, Tryd.ntmps44
  go_wp2_with fail
  refine HC.out.1.mono ?_
  rintro e w1 ⟨rfl, hg1⟩
  go_wp2_with fail
  go_ret
  exact ⟨rfl, HC.out.2.trans hg1⟩

/-- What Take asks of the next of right lots. -/
theorem take_facts {X : List Lot} (h : lotsF X = 0) {j : Nat} {t : Lot} (ht : X[j]? = some t) :
    lotsF [t] = 0 ∧ (X.take j).Pairwise (fun a b => sLe b.id a.id = false) ∧ (∀ x ∈ X.take j, x.id.data.toList < t.id.data.toList) ∧ (X.take j).length < 500 ∧ X.take (j + 1) = X.take j ++ [t] := by
  obtain ⟨h5, hok, hp⟩ := lots_ok h
  have hj := (List.getElem?_eq_some_iff.1 ht).1
  refine ⟨lotsF_of (by simp) (fun x hx => by rw [List.mem_singleton.1 hx]; exact hok t (List.mem_of_getElem? ht)) (by simp), hp.sublist (List.take_sublist _ _), fun x hx => ?_, by rw [List.length_take]; omega, take_at ht⟩
  obtain ⟨k, hk, rfl⟩ := List.mem_iff_getElem.1 hx
  rw [List.length_take] at hk
  rw [List.getElem_take]
  have h1 := List.pairwise_iff_getElem.1 hp k j (by omega) hj (by omega)
  rw [(List.getElem?_eq_some_iff.1 ht).2] at h1
  exact sLe_false.1 h1

end Go.Proofs.YtidfhgpjpieajaaDoor
