/- A region that draws its order, whose last operation waits for all others: the others first, in their order; then the last one. -/
import Derived.Test.YtcipidfbclohoaaDoorMem
import Derived.StillTail
namespace Go.Proofs.YtcipidfbclohoaaDoor
open Go.RowKit

section
variable {P : Program} {md : Region.Mode} {Q : Exit → Act → World → Prop}

/-- Each operation waits for earlier ones alone. -/
def topoB (md : Region.Mode) (ops : Array Oper) : Bool :=
  (List.range ops.size).all fun j => match ops[j]? with | some oj => oj.after.all fun e => !Region.binds md e || decide (e.on < j) | none => true
theorem topo_spec {ops : Array Oper} (h : topoB md ops = true) {j : Nat} {oj : Oper} (hj : ops[j]? = some oj) : ∀ e ∈ oj.after, Region.binds md e = true → e.on < j := by
  have hlt : j < ops.size := (Array.getElem?_eq_some_iff.1 hj).1
  have h1 := List.all_eq_true.1 h j (List.mem_range.2 hlt)
  rw [hj] at h1
  intro e he hb
  have h2 := (Array.all_eq_true_iff_forall_mem.1 h1) e he
  simpa [hb] using h2
theorem ready_some {ops : Array Oper} (ht : topoB md ops = true) {listed : Array Bool} (hs : listed.size = ops.size) : ∀ i, i < ops.size → listed.getD i true = false → ∃ j, j ∈ Region.ready md ops listed := by
  intro i
  induction i using Nat.strongRecOn with
  | _ i ih =>
    intro hi hun
    by_cases h : ∀ e ∈ ops[i].after, Region.binds md e = true → listed.getD e.on false = true
    · exact ⟨i, mem_ready.2 ⟨hun, ops[i], Array.getElem?_eq_getElem hi, h⟩⟩
    · simp only [Classical.not_forall] at h
      obtain ⟨e, he, hb, hn⟩ := h
      have hlt := topo_spec ht (Array.getElem?_eq_getElem hi) e he hb
      have hf : listed.getD e.on false = false := by simpa using hn
      exact ih e.on hlt (by omega) (getD_in (by omega) hf)

/-- Only the ordinary way out. -/
def NrmQ (R : Act → World → Prop) : Exit → Act → World → Prop
  | .normal, a, w => R a w
  | _, _, _ => False
theorem not_out (R : Act → World → Prop) : ¬ LetsOut (NrmQ R) := fun ⟨_, _, h⟩ => h
theorem oper_exit {R : Act → World → Prop} {o : Oper} {a : Act} {w : World} {K K' : Act → World → Prop} (hK : ∀ a w, K a w → K' a w) (h : o.wp P a w K (NrmQ R)) : o.wp P a w K' Q := by
  unfold Oper.wp at *
  generalize (execOp a.eval o).run P w = r at *
  cases r with
  | ok x w' =>
    cases x with
    | value v => exact hK _ _ h
    | skip => exact hK _ _ h
    | defer d => exact hK _ _ h
    | enter f args =>
      refine Calls.mono h ?_
      intro e w'' he
      cases e with
      | returned v => exact hK _ _ he
      | panicked ch => exact he.elim
      | outgrown => exact (not_out R he).elim
    | row row args =>
      intro c cs
      obtain ⟨v, w2, hr, hs⟩ := h c cs
      exact ⟨v, w2, hK _ _ hr, hs⟩
    | round => exact h.elim
    | _ => exact h.elim
  | halt hh w' =>
    cases hh with
    | panic v => exact h.elim
    | _ => exact h.elim

theorem ready_last {l : List Oper} {o : Oper} {listed : Array Bool} (hs : listed.size = l.length) {i : Nat} (hi : i < l.length) :
    i ∈ Region.ready md (l ++ [o]).toArray (listed.push false) ↔ (listed.getD i true = false ∧ ∃ oi, l[i]? = some oi ∧ ∀ e ∈ oi.after, Region.binds md e = true → (listed.push false).getD e.on false = true) := by
  rw [mem_ready]
  have h1 : (listed.push false).getD i true = listed.getD i true := by
    simp [Array.getElem?_push, hs, show i ≠ l.length from by omega]
  have h2 : (l ++ [o]).toArray[i]? = l[i]? := by simp [List.getElem?_append_left hi]
  rw [h1, h2]
theorem push_getD {listed : Array Bool} (k : Nat) : (listed.push false).getD k false = listed.getD k false := by
  by_cases h : k < listed.size
  · simp [Array.getElem?_push, show k ≠ listed.size from by omega]
  · by_cases e : k = listed.size
    · subst e; simp
    · simp [Array.getElem?_push, e]

theorem any_split {l : List Oper} {o : Oper} (hg : ∀ x ∈ l ++ [o], x.guard = none) (ht : topoB md (l ++ [o]).toArray = true) (hsink : Region.sinkB md (l ++ [o]).toArray l.length = true) (hchain : Region.chainB md (l ++ [o]).toArray l.length = true) :
    ∀ (fuel : Nat) (listed : Array Bool) (a : Act) (w : World), listed.size = l.length → HeadInv md (l ++ [o]).toArray l.length (listed.push false) →
      wpAny P md l.toArray (NrmQ (wpList P (l ++ [o]).toArray Q [o])) fuel listed a w → wpAny P md (l ++ [o]).toArray Q (fuel + 1) (listed.push false) a w := by
  have hwant : ∀ (x : Oper) (ops : Array Oper) (a : Act), x ∈ l ++ [o] → Region.wanted x (yielded ops a.tmps) = true := fun x ops a hx => by simp [Region.wanted, hg x hx]
  have hsz : (l ++ [o]).toArray.size = l.length + 1 := by simp
  have hlastget : (l ++ [o]).toArray[l.length]? = some o := by simp
  -- the ready ones
  have hsub : ∀ (listed : Array Bool), listed.size = l.length → ∀ i, i < l.length → i ∈ Region.ready md (l ++ [o]).toArray (listed.push false) → i ∈ Region.ready md l.toArray listed := fun listed hs i hi h => by
    obtain ⟨h1, oi, h2, h3⟩ := (ready_last hs hi).1 h
    exact mem_ready.2 ⟨h1, oi, by simpa using h2, fun e he hb => by rw [← push_getD]; exact h3 e he hb⟩
  have hsup : ∀ (listed : Array Bool), listed.size = l.length → ∀ i, i ∈ Region.ready md l.toArray listed → i ∈ Region.ready md (l ++ [o]).toArray (listed.push false) := fun listed hs i h => by
    obtain ⟨h1, oi, h2, h3⟩ := mem_ready.1 h
    have hi : i < l.length := by have := (Array.getElem?_eq_some_iff.1 h2).1; simpa using this
    exact (ready_last hs hi).2 ⟨h1, oi, by simpa using h2, fun e he hb => by rw [push_getD]; exact h3 e he hb⟩
  have hne : ∀ (listed : Array Bool), listed.size = l.length → Region.ready md (l ++ [o]).toArray (listed.push false) ≠ [] := fun listed hs e => by
    obtain ⟨j, hj⟩ := ready_some ht (listed := listed.push false) (by simp [hs]) l.length (by rw [hsz]; omega) (by rw [← hs]; simp)
    rw [e] at hj; cases hj
  -- the last one
  have hfin : ∀ (fuel : Nat) (listed : Array Bool) (a : Act) (w : World), listed.size = l.length → HeadInv md (l ++ [o]).toArray l.length (listed.push false) → l.length ∈ Region.ready md (l ++ [o]).toArray (listed.push false) →
      (Region.ready md l.toArray listed = [] → wpList P (l ++ [o]).toArray Q [o] a w) → wpOp P (l ++ [o]).toArray Q l.length (wpAny P md (l ++ [o]).toArray Q fuel ((listed.push false).setIfInBounds l.length true)) a w := by
    intro fuel listed a w hs inv hr hq
    have hall : ∀ i, i < l.length → listed.getD i true = true := fun i hi => by
      cases hb : listed.getD i true with
      | true => rfl
      | false => exact absurd hr (tail_waits hsink hchain (by rw [hsz]; omega) inv _ i rfl hi (by simp only [Array.getD_eq_getD_getElem?] at hb ⊢; rw [Array.getElem?_push, if_neg (by omega)]; exact hb) _ (Nat.le_refl _))
    have hemp : Region.ready md l.toArray listed = [] := by
      rw [List.eq_nil_iff_forall_not_mem]
      intro i hi
      obtain ⟨h1, oi, h2, _⟩ := mem_ready.1 hi
      have hlt : i < l.length := by have := (Array.getElem?_eq_some_iff.1 h2).1; simpa using this
      rw [hall i hlt] at h1; cases h1
    have hemp2 : Region.ready md (l ++ [o]).toArray ((listed.push false).setIfInBounds l.length true) = [] := by
      rw [List.eq_nil_iff_forall_not_mem]
      intro i hi
      obtain ⟨h1, oi, h2, _⟩ := mem_ready.1 hi
      have hlt : i < l.length + 1 := by have := (Array.getElem?_eq_some_iff.1 h2).1; simpa using this
      by_cases e : i = l.length
      · subst e
        have h4 : ((listed.push false).setIfInBounds l.length true).getD l.length true = true := by
          simp only [Array.getD_eq_getD_getElem?, Array.getElem?_setIfInBounds, Array.size_push, hs]
          simp
        rw [h4] at h1
        cases h1
      · rw [getD_set_ne true (by omega)] at h1
        have h3 := hall i (by omega)
        simp only [Array.getD_eq_getD_getElem?] at h1 h3
        rw [Array.getElem?_push, if_neg (by omega), h3] at h1
        cases h1
    have hqq := hq hemp
    simp only [wpOp, hlastget]
    simp only [wpList] at hqq
    have hK : ∀ a w, Q .normal a w → wpAny P md (l ++ [o]).toArray Q fuel ((listed.push false).setIfInBounds l.length true) a w := fun a w h => by
      cases fuel with
      | zero => exact ⟨hemp2, h⟩
      | succ f => exact ⟨fun _ => h, fun i hi => by rw [hemp2] at hi; cases hi⟩
    rw [if_pos (hwant o _ _ (by simp))] at hqq ⊢
    rcases hqq with h | h
    · exact .inl (Oper.wp_mono hK h)
    · exact .inr h
  intro fuel
  induction fuel with
  | zero =>
    intro listed a w hs inv h
    refine ⟨fun e => absurd e (hne listed hs), fun i hi => ?_⟩
    have hlt : i < l.length + 1 := by obtain ⟨_, _, h2, _⟩ := mem_ready.1 hi; have := (Array.getElem?_eq_some_iff.1 h2).1; simpa using this
    by_cases e : i = l.length
    · subst e; exact hfin 0 listed a w hs inv hi (fun _ => h.2)
    · have := hsub listed hs i (by omega) hi
      rw [h.1] at this; cases this
  | succ f ih =>
    intro listed a w hs inv h
    refine ⟨fun e => absurd e (hne listed hs), fun i hi => ?_⟩
    have hlt : i < l.length + 1 := by obtain ⟨_, _, h2, _⟩ := mem_ready.1 hi; have := (Array.getElem?_eq_some_iff.1 h2).1; simpa using this
    by_cases e : i = l.length
    · subst e; exact hfin (f + 1) listed a w hs inv hi h.1
    · have hil : i < l.length := by omega
      have h1 := h.2 i (hsub listed hs i hil hi)
      have hset : (listed.push false).setIfInBounds i true = (listed.setIfInBounds i true).push false := by
        apply Array.ext_getElem?
        intro k
        simp only [Array.getElem?_setIfInBounds, Array.getElem?_push, Array.size_setIfInBounds, Array.size_push]
        by_cases hki : i = k
        · subst hki
          rw [if_pos rfl, if_pos (by omega), if_neg (by omega), if_pos rfl, if_pos (by omega)]
        · rw [if_neg hki, if_neg hki]
      unfold wpOp at h1 ⊢
      have hgi : (l ++ [o]).toArray[i]? = some l[i] := by simp [List.getElem?_append_left hil]
      have hgi2 : l.toArray[i]? = some l[i] := by simp
      rw [hgi2] at h1
      rw [hgi]
      have hm : l[i] ∈ l ++ [o] := by simp
      simp only [hwant l[i] _ _ hm, if_true] at h1 ⊢
      rcases h1 with h1 | ⟨_, h1⟩
      · refine .inl (oper_exit (fun a' w' h2 => ?_) h1)
        rw [hset]
        exact ih _ _ _ (by simp [hs]) (by rw [← hset]; exact inv.set hi hil) h2
      · exact (not_out _ h1).elim

/-- The region, without its last operation; then that one. -/
theorem region_split {id : Nat} {a : Act} {w : World} {l : List Oper} {o : Oper} (hm : P.follows .mixedOrders = true) (hg : ((l ++ [o]).all fun x => x.guard.isNone) = true) (ht : topoB .any (l ++ [o]).toArray = true) (hsink : Region.sinkB .any (l ++ [o]).toArray l.length = true) (hchain : Region.chainB .any (l ++ [o]).toArray l.length = true)
    (h : wpAny P .any l.toArray (NrmQ (wpList P (l ++ [o]).toArray Q [o])) l.toArray.size (Array.replicate l.toArray.size false) a { w with drawn := w.drawn + 1 }) : (Code.region id (l ++ [o]).toArray true).wp P Q a w := by
  refine wp_region_any hm ?_
  have hr : Array.replicate (l ++ [o]).toArray.size false = (Array.replicate l.toArray.size false).push false := by
    apply Array.ext_getElem?
    intro k
    simp only [Array.getElem?_replicate, Array.getElem?_push, Array.size_replicate]
    simp only [List.size_toArray, List.length_append, List.length_cons, List.length_nil]
    by_cases h1 : k = l.length
    · rw [if_pos h1, if_pos (by omega)]
    · rw [if_neg h1]
      by_cases h2 : k < l.length
      · rw [if_pos h2, if_pos (by omega)]
      · rw [if_neg h2, if_neg (by omega)]
  rw [hr, show (l ++ [o]).toArray.size = l.toArray.size + 1 from by simp]
  refine any_split (fun x hx => by simpa using (List.all_eq_true.1 hg) x hx) ht hsink hchain _ _ _ _ (by simp) ⟨by simp, fun j oj _ hl => ?_, fun t h1 h2 => ?_⟩ h
  · rw [push_getD, getD_replicate_false] at hl; cases hl
  · rw [← hr]; exact getD_in (by simpa using h2) (getD_replicate_false _ _)
/-- The same, by the number of the last operation. -/
theorem region_split_at {id : Nat} {a : Act} {w : World} {ops : Array Oper} (n : Nat) (l : List Oper) (o : Oper) (hl : ops.toList.take n = l) (ho : ops.toList.drop n = [o]) (hm : P.follows .mixedOrders = true) (hg : ((l ++ [o]).all fun x => x.guard.isNone) = true) (ht : topoB .any (l ++ [o]).toArray = true) (hsink : Region.sinkB .any (l ++ [o]).toArray l.length = true) (hchain : Region.chainB .any (l ++ [o]).toArray l.length = true)
    (h : wpAny P .any l.toArray (NrmQ (wpList P (l ++ [o]).toArray Q [o])) l.toArray.size (Array.replicate l.toArray.size false) a w.drew) : (Code.region id ops true).wp P Q a w := by
  have e : ops = (l ++ [o]).toArray := by
    rw [← hl, ← ho, List.take_append_drop]
  rw [e]
  exact region_split hm hg ht hsink hchain h
end

end Go.Proofs.YtcipidfbclohoaaDoor
