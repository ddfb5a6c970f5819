/- A region that draws its order, by facts of each operation: every operation is looked at once, whatever came up before it. -/
import Derived.Test.YtcipidfbclohoaaDoorSplit
namespace Go.Proofs.YtcipidfbclohoaaDoor
open Go.RowKit

section
variable {P : Program} {ops : Array Oper} {Q : Exit → Act → World → Prop} {md : Region.Mode}

/-- The region, without its last operation, where something was split off before. -/
theorem any_split_at {a : Act} {w : World} {ops : Array Oper} (n : Nat) (l : List Oper) (o : Oper) (hl : ops.toList.take n = l) (ho : ops.toList.drop n = [o]) (hg : ((l ++ [o]).all fun x => x.guard.isNone) = true) (ht : topoB md (l ++ [o]).toArray = true) (hsink : Region.sinkB md (l ++ [o]).toArray l.length = true) (hchain : Region.chainB md (l ++ [o]).toArray l.length = true)
    (h : wpAny P md l.toArray (NrmQ (wpList P (l ++ [o]).toArray Q [o])) l.toArray.size (Array.replicate l.toArray.size false) a w) : wpAny P md ops Q ops.size (Array.replicate ops.size false) a w := by
  have e : ops = (l ++ [o]).toArray := by rw [← hl, ← ho, List.take_append_drop]
  rw [e]
  have hr : Array.replicate (l ++ [o]).toArray.size false = (Array.replicate l.toArray.size false).push false := by
    apply Array.ext_getElem?
    intro k
    simp only [Array.getElem?_replicate, Array.getElem?_push, Array.size_replicate]
    simp only [List.size_toArray, List.length_append, List.length_cons, List.length_nil]
    by_cases h1 : k = l.length
    · subst h1; simp
    · rw [if_neg h1]
      by_cases h2 : k < l.length
      · rw [if_pos h2, if_pos (by omega)]
      · rw [if_neg h2, if_neg (by omega)]
  have hsz : (l ++ [o]).toArray.size = l.toArray.size + 1 := by simp
  rw [hr, hsz]
  refine any_split (fun x hx => by have := List.all_eq_true.1 hg x hx; simpa using this) ht hsink hchain _ _ a w (by simp) ?_ h
  refine ⟨by simp, fun j oj hj hlj => ?_, fun t h1 h2 => ?_⟩
  · rw [push_getD, getD_replicate_false] at hlj; cases hlj
  · rw [← hr]; exact getD_in (by simpa using h2) (getD_replicate_false _ _)

def unl (listed : Array Bool) : Nat := listed.toList.count false
theorem unl_set {listed : Array Bool} {i : Nat} (h : listed.getD i true = false) : unl (listed.setIfInBounds i true) + 1 = unl listed := by
  have hi : i < listed.size := by
    rcases Nat.lt_or_ge i listed.size with h1 | h1
    · exact h1
    · simp [Array.getElem?_eq_none h1] at h
  have hv : listed.toList[i]'(by simpa using hi) = false := by simpa [Array.getD_eq_getD_getElem?, Array.getElem?_eq_getElem hi] using h
  have hmem : false ∈ listed.toList := hv ▸ List.getElem_mem _
  have hpos : 0 < listed.toList.count false := List.count_pos_iff.2 hmem
  have hc := List.count_set (a := true) (b := false) (l := listed.toList) (i := i) (by simpa using hi)
  rw [hv] at hc
  have e1 : ((false == false) = true) := rfl
  have e2 : ¬ ((true == false) = true) := by decide
  rw [if_pos e1, if_neg e2] at hc
  unfold unl
  rw [Array.toList_setIfInBounds, hc]
  omega

theorem wpAny_inv (I : Array Bool → Act → World → Prop) (ht : topoB md ops = true)
    (hs : ∀ i o, ops[i]? = some o → ∀ listed a w, listed.size = ops.size → listed.getD i true = false → (∀ e ∈ o.after, Region.binds md e = true → listed.getD e.on false = true) → I listed a w →
      ∀ K : Act → World → Prop, (∀ a' w', I (listed.setIfInBounds i true) a' w' → K a' w') → if Region.wanted o (yielded ops a.tmps) = true then Oper.wp P o a w K Q else K (a.put o.dst undef) w)
    (hd : ∀ listed a w, (∀ i, i < ops.size → listed.getD i false = true) → I listed a w → Q .normal a w) :
    ∀ (fuel : Nat) (listed : Array Bool) (a : Act) (w : World), listed.size = ops.size → unl listed ≤ fuel → I listed a w → wpAny P md ops Q fuel listed a w := by
  have hall : ∀ listed : Array Bool, listed.size = ops.size → Region.ready md ops listed = [] → ∀ i, i < ops.size → listed.getD i false = true := by
    intro listed hsz hr i hi
    by_cases h : listed.getD i true = false
    · obtain ⟨j, hj⟩ := ready_some ht hsz i hi h
      rw [hr] at hj
      cases hj
    · have hi' : i < listed.size := by omega
      simp only [Array.getD_eq_getD_getElem?, Array.getElem?_eq_getElem hi', Option.getD_some] at h ⊢
      simpa using h
  intro fuel
  induction fuel with
  | zero =>
    intro listed a w hsz hu hI
    have hr : Region.ready md ops listed = [] := by
      rw [List.eq_nil_iff_forall_not_mem]
      intro j hj
      have := unl_set (mem_ready.1 hj).1
      omega
    exact ⟨hr, hd listed a w (hall listed hsz hr) hI⟩
  | succ fuel ih =>
    intro listed a w hsz hu hI
    refine ⟨fun hr => hd listed a w (hall listed hsz hr) hI, fun i hi => ?_⟩
    obtain ⟨h1, o, ho, h2⟩ := mem_ready.1 hi
    exact wpOp_step ho (fun K' hK => hs i o ho listed a w hsz h1 h2 hI K' (fun a' w' hI' => hK a' w' (ih _ a' w' (by simpa using hsz) (by have := unl_set h1; omega) hI')))

def updF (f : Nat → Value) (i : Nat) (v : Value) : Nat → Value := fun j => if j = i then v else f j
/-- What each operation has yielded, in the frame. -/
def putsF (a0 : Act) (ops : List Oper) (f : Nat → Value) : Act := ops.zipIdx.foldl (fun a p => a.put p.1.dst (f p.2)) a0

theorem getD_ff {listed : Array Bool} {i : Nat} (h : listed.getD i true = false) : listed.getD i false = false := by
  rw [Array.getD_eq_getD_getElem?] at h ⊢
  cases hx : listed[i]? with
  | none => rfl
  | some b => rw [hx] at h; exact h
theorem getD_setT {listed : Array Bool} {i j : Nat} (hi : i < listed.size) : (listed.setIfInBounds i true).getD j false = if j = i then true else listed.getD j false := by
  by_cases h : j = i
  · subst h; simp [hi]
  · rw [if_neg h, Array.getD_eq_getD_getElem?, Array.getD_eq_getD_getElem?, Array.getElem?_setIfInBounds, if_neg (Ne.symm h)]

theorem wpAny_facts {a0 : Act} {w0 : World} (frame : (Nat → Value) → Act) (_hfr : ∀ f, putsF a0 ops.toList f = frame f) (f0 : Nat → Value) (h0 : a0 = frame f0) (Fct : Nat → World → Value → Prop) (G : Array Bool → (Nat → Value) → World → Prop) (Grow : World → World → Prop)
    (stab : ∀ i w w' v, Grow w w' → Fct i w v → Fct i w' v) (hG : G (Array.replicate ops.size false) f0 w0) (ht : topoB md ops = true)
    (hput : ∀ i o, ops[i]? = some o → ∀ f v, (frame f).put o.dst v = frame (updF f i v))
    (hs : ∀ i o, ops[i]? = some o → ∀ listed f w, listed.size = ops.size → listed.getD i true = false → G listed f w → (∀ e ∈ o.after, Region.binds md e = true → listed.getD e.on false = true ∧ Fct e.on w (f e.on)) →
      ∀ K : Act → World → Prop, (∀ v w', Grow w w' → G (listed.setIfInBounds i true) (updF f i v) w' → Fct i w' v → K ((frame f).put o.dst v) w') → if Region.wanted o (yielded ops (frame f).tmps) = true then Oper.wp P o (frame f) w K Q else K ((frame f).put o.dst undef) w)
    (hd : ∀ listed f w, (∀ i, i < ops.size → listed.getD i false = true) → G listed f w → (∀ i, i < ops.size → Fct i w (f i)) → Q .normal (frame f) w) :
    wpAny P md ops Q ops.size (Array.replicate ops.size false) a0 w0 := by
  refine wpAny_inv (fun listed a w => listed.size = ops.size ∧ ∃ f, a = frame f ∧ G listed f w ∧ ∀ j, j < ops.size → listed.getD j false = true → Fct j w (f j)) ht ?_ ?_ ops.size _ a0 w0 (by simp) (by unfold unl; exact Nat.le_trans List.count_le_length (by simp)) ?_
  · rintro i o ho listed a w hsz h1 h2 ⟨_, f, rfl, hg, hf⟩ K hK
    have hi : i < ops.size := (Array.getElem?_eq_some_iff.1 ho).1
    have htp : ∀ e ∈ o.after, Region.binds md e = true → e.on < ops.size := fun e he hb => Nat.lt_trans (topo_spec ht ho e he hb) hi
    refine hs i o ho listed f w hsz h1 hg (fun e he hb => ⟨h2 e he hb, hf _ (htp e he hb) (h2 e he hb)⟩) K (fun v w' hgr hg' hv => hK _ _ ⟨by simpa using hsz, updF f i v, hput i o ho f v, hg', fun j hj hlj => ?_⟩)
    rw [getD_setT (by omega)] at hlj
    unfold updF
    by_cases h : j = i
    · subst h; rw [if_pos rfl]; exact hv
    · rw [if_neg h] at hlj ⊢; exact stab j w w' _ hgr (hf j hj hlj)
  · rintro listed a w hl ⟨_, f, rfl, hg, hf⟩
    exact hd listed f w hl hg (fun i hi => hf i hi (hl i hi))
  · refine ⟨by simp, f0, h0, hG, fun j hj hl => ?_⟩
    rw [Array.getD_eq_getD_getElem?, Array.getElem?_replicate, if_pos hj] at hl
    simp at hl
end

/-- What changes lies before S0. -/
def GrowS (S0 : Nat) (w w' : World) : Prop := ∃ row, w.grownBy w' row ∧ ∀ j, row = some j → j < S0
theorem GrowS.none_ {S0 : Nat} {w w' : World} (h : w.grownBy w' none) : GrowS S0 w w' := ⟨none, h, by simp⟩
theorem GrowS.some_ {S0 j : Nat} {w w' : World} (h : w.grownBy w' (some j)) (hj : j < S0) : GrowS S0 w w' := ⟨some j, h, fun k hk => by injection hk with hk; omega⟩
/-- A slice that lies behind S0 and reads as xs. -/
def Lit (S0 : Nat) (w : World) (v : Value) (xs : List Value) : Prop := ∃ N, v = .slice (some ⟨N, 0, none⟩) xs.length xs.length ∧ Rd w 1 (some ⟨N, 0, none⟩) xs.length xs ∧ S0 ≤ N
theorem Lit.stab {S0 : Nat} {w w' : World} {v : Value} {xs : List Value} (h : Lit S0 w v xs) (hg : GrowS S0 w w') : Lit S0 w' v xs := by
  obtain ⟨N, e, hr, hN⟩ := h
  obtain ⟨row, hg, hj⟩ := hg
  exact ⟨N, e, hr.grown_ hg (fun a ha e => by cases ha; have := hj N e.symm; omega), hN⟩
theorem Lit.new {S0 : Nat} (w : World) (cs : Array Value) (T : TypeId) (h : S0 ≤ w.heap.size) : Lit S0 (w.alloc (.cells cs T)) (.slice (some ⟨w.heap.size, 0, none⟩) cs.size cs.size) cs.toList :=
  ⟨w.heap.size, by simp, ⟨by simp, fun _ => ⟨w.heap.size, 0, rfl, by simp, fun j u hu => by rw [Nat.zero_add, World.cell?_alloc_new]; simpa using hu⟩⟩, h⟩
end Go.Proofs.YtcipidfbclohoaaDoor
