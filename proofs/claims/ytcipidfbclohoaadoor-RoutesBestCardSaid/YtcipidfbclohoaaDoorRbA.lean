/- The shortest route of all stops, in plain words: all orders, the least list first; and the same with a bound. The nearest stop. The walk of best's closure: all orders, with a bound. The walk of best: the shortest route of all stops. The walk of Best. -/
import Derived.Test.YtcipidfbclohoaaDoorDrive
import Derived.Test.YtcipidfbclohoaaDoorCont
import Derived.Test.YtcipidfbclohoaaDoorClone
import Derived.Test.YtcipidfbclohoaaDoorInsO
import Derived.Deep.RegionHeld3
import Derived.Test.YtcipidfbclohoaaDoorTrip
namespace Go.Proofs.YtcipidfbclohoaaDoor
open Go.RowKit

theorem farN_tri (a b c d e f : Int) : farN a b e f ≤ farN a b c d + farN c d e f := by unfold farN; omega
theorem farN_pos (a b c d : Int) : 0 ≤ farN a b c d := by unfold farN; omega

/-- The best route found, and its way. -/
abbrev BestS := List Int × Int
def bigM : Int := 9223372036854775807
def homeW (hx hy : Int) (c : Cr) : Int := c.way + farN c.x c.y hx hy
def hasN (o : List Int) (i : Nat) : Bool := hasI o (i : Int)
/-- One further stop. -/
def tryS (V : List St) (F : Cr → List Int → BestS → BestS) (c : Cr) (o : List Int) (s : BestS) (i : Nat) : BestS :=
  if hasN o i = true then s else if crGo c (stAt V i) = true then F (crNext c (stAt V i)) (o ++ [(i : Int)]) s else s
def tryL (V : List St) (F : Cr → List Int → BestS → BestS) (c : Cr) (o : List Int) (s : BestS) (j : Nat) : BestS := (List.range j).foldl (tryS V F c o) s
/-- All orders. -/
def tryP (hx hy : Int) (V : List St) : Nat → Cr → List Int → BestS → BestS
  | 0, _, _, s => s
  | k + 1, c, o, s => if o.length = V.length then (if homeW hx hy c < s.2 then (o, homeW hx hy c) else s) else tryL V (tryP hx hy V k) c o s V.length
/-- Those that can still be shorter. -/
def extP (hx hy : Int) (V : List St) : Nat → Cr → List Int → BestS → BestS
  | 0, _, _, s => s
  | k + 1, c, o, s => if s.2 ≤ homeW hx hy c then s else if o.length = V.length then (o, homeW hx hy c) else tryL V (extP hx hy V k) c o s V.length

theorem tryL_zero (V : List St) (F : Cr → List Int → BestS → BestS) (c : Cr) (o : List Int) (s : BestS) : tryL V F c o s 0 = s := rfl
theorem tryL_succ (V : List St) (F : Cr → List Int → BestS → BestS) (c : Cr) (o : List Int) (s : BestS) (j : Nat) : tryL V F c o s (j + 1) = tryS V F c o (tryL V F c o s j) j := by
  unfold tryL
  rw [List.range_succ, List.foldl_append]
  rfl
theorem tryP_prune (hx hy : Int) (V : List St) : ∀ (k : Nat) (c : Cr) (o : List Int) (s : BestS), s.2 ≤ homeW hx hy c → tryP hx hy V k c o s = s
  | 0, _, _, _, _ => rfl
  | k + 1, c, o, s, h => by
    unfold tryP
    split
    · rw [if_neg (by omega)]
    · have H : ∀ j, tryL V (tryP hx hy V k) c o s j = s := by
        intro j
        induction j with
        | zero => rfl
        | succ j ih =>
          rw [tryL_succ, ih]
          unfold tryS
          split
          · rfl
          · split
            · apply tryP_prune hx hy V k
              have := farN_tri c.x c.y (stAt V j).x (stAt V j).y hx hy
              unfold homeW at h ⊢
              unfold crNext
              simp only
              omega
            · rfl
      exact H _
theorem ext_try (hx hy : Int) (V : List St) : ∀ (k : Nat) (c : Cr) (o : List Int) (s : BestS), extP hx hy V k c o s = tryP hx hy V k c o s
  | 0, _, _, _ => rfl
  | k + 1, c, o, s => by
    have hF : extP hx hy V k = tryP hx hy V k := by funext c o s; exact ext_try hx hy V k c o s
    by_cases h : s.2 ≤ homeW hx hy c
    · rw [tryP_prune hx hy V _ _ _ _ h]
      unfold extP
      rw [if_pos h]
    · unfold extP tryP
      rw [if_neg h, hF]
      split
      · rw [if_pos (by omega)]
      · rfl

/-- A route: stops that are there, each at most once. -/
structure RtO (m : Nat) (o : List Int) : Prop where
  mem : ∀ k ∈ o, 0 ≤ k ∧ k < m
  fault : orderF m o = 0

theorem ordFrom_app {m : Int} : ∀ (l pv : List Int) (x : Int), ordFrom m pv l = 0 → 0 ≤ x → x < m → hasI pv x = false → hasI l x = false → ordFrom m pv (l ++ [x]) = 0
  | [], pv, x, _, h0, h1, hp, _ => by
    have hb : btw x 0 (m - 1) = true := by simp [btw]; omega
    simp [ordFrom, hb, hp]
  | y :: l, pv, x, h, h0, h1, hp, hl => by
    have hy : ¬ x = y ∧ hasI l x = false := by simpa [hasI] using hl
    rw [List.cons_append]
    unfold ordFrom at h ⊢
    split
    · rename_i hb
      rw [if_pos hb] at h
      omega
    · rename_i hb
      rw [if_neg hb] at h
      split
      · rename_i hc
        rw [if_pos hc] at h
        omega
      · rename_i hc
        rw [if_neg hc] at h
        refine ordFrom_app l (pv ++ [y]) x h h0 h1 ?_ hy.2
        have : hasI pv x = false := hp
        simp [hasI] at this ⊢
        exact ⟨this, hy.1⟩
theorem RtO.nil (m : Nat) : RtO m [] := ⟨(fun _ h => nomatch h), rfl⟩
theorem RtO.app {m : Nat} {o : List Int} (h : RtO m o) {i : Nat} (hi : i < m) (hn : hasN o i = false) : RtO m (o ++ [(i : Int)]) := by
  refine ⟨?_, ?_⟩
  · intro k hk
    rw [List.mem_append] at hk
    rcases hk with hk | hk
    · exact h.mem k hk
    · simp at hk
      subst hk
      constructor <;> omega
  · exact ordFrom_app o [] _ h.fault (by omega) (by exact_mod_cast hi) (by simp [hasI]) hn

theorem drvF_app (V : List St) : ∀ (o : List Int) (c : Cr) (bg : List Int) (x : Int), drvF V c bg (o ++ [x]) = (drvF V c bg o).bind fun p => if crGo p.1 (stAt V x) = true then some (crNext p.1 (stAt V x), p.2 ++ [crBeg p.1 (stAt V x)]) else none
  | [], c, bg, x => by simp [drvF]
  | n :: r, c, bg, x => by
    rw [List.cons_append]
    unfold drvF
    split
    · exact drvF_app V r _ _ x
    · rfl

/-- The car is where it is behind a route. -/
def AtO (hx hy st : Int) (V : List St) (o : List Int) (c : Cr) : Prop := ∃ bg, drvF V ⟨hx, hy, 0, st, 0, 0⟩ [] o = some (c, bg)
theorem AtO.start (hx hy st : Int) (V : List St) : AtO hx hy st V [] ⟨hx, hy, 0, st, 0, 0⟩ := ⟨[], rfl⟩
theorem AtO.next {hx hy st : Int} {V : List St} {o : List Int} {c : Cr} (h : AtO hx hy st V o c) {i : Nat} (hi : crGo c (stAt V i) = true) : AtO hx hy st V (o ++ [(i : Int)]) (crNext c (stAt V i)) := by
  obtain ⟨bg, h⟩ := h
  refine ⟨bg ++ [crBeg c (stAt V i)], ?_⟩
  rw [drvF_app, h]
  simp [hi]
theorem AtO.late {hx hy st : Int} {V : List St} {o : List Int} {c : Cr} (h : AtO hx hy st V o c) {i : Nat} (hi : crGo c (stAt V i) = false) : drvF V ⟨hx, hy, 0, st, 0, 0⟩ [] (o ++ [(i : Int)]) = none := by
  obtain ⟨bg, h⟩ := h
  rw [drvF_app, h]
  simp [hi]

/-- What the reference keeps of the way: -1 is none. -/
def lf (m : Int) : Int := if m = bigM then -1 else m

/-- The nearest stop: its number, and the car there. -/
def nearS (V : List St) (c : Cr) (o : List Int) (s : Option (Nat × Cr)) (i : Nat) : Option (Nat × Cr) :=
  if hasN o i = true then s else if crGo c (stAt V i) = true then (match s with | none => some (i, crNext c (stAt V i)) | some p => if (crNext c (stAt V i)).way < p.2.way then some (i, crNext c (stAt V i)) else some p) else s
def nearL (V : List St) (c : Cr) (o : List Int) (j : Nat) : Option (Nat × Cr) := (List.range j).foldl (nearS V c o) none
theorem nearL_succ (V : List St) (c : Cr) (o : List Int) (j : Nat) : nearL V c o (j + 1) = nearS V c o (nearL V c o j) j := by
  unfold nearL
  rw [List.range_succ, List.foldl_append]
  rfl
theorem nearL_ok (V : List St) (c : Cr) (o : List Int) : ∀ (j : Nat) (i : Nat) (c' : Cr), nearL V c o j = some (i, c') → i < j ∧ hasN o i = false ∧ crGo c (stAt V i) = true ∧ c' = crNext c (stAt V i)
  | 0, i, c', h => by cases h
  | j + 1, i, c', h => by
    rw [nearL_succ] at h
    have ih := nearL_ok V c o j
    unfold nearS at h
    split at h
    · have := ih i c' h
      exact ⟨by omega, this.2⟩
    · rename_i hn
      have hn' : hasN o j = false := by simpa using hn
      split at h
      · rename_i hg
        split at h
        · injection h with h
          injection h with h1 h2
          subst h1 h2
          exact ⟨by omega, hn', hg, rfl⟩
        · rename_i p hp
          split at h
          · injection h with h
            injection h with h1 h2
            subst h1 h2
            exact ⟨by omega, hn', hg, rfl⟩
          · injection h with h
            subst h
            have := ih i c' hp
            exact ⟨by omega, this.2⟩
      · have := ih i c' h
        exact ⟨by omega, this.2⟩
/-- How many stops are not in a route. -/
def outN (m : Nat) (o : List Int) : Nat := ((List.range m).filter fun i => !hasN o i).length
theorem filter_less {l : List Nat} {p q : Nat → Bool} (h : ∀ i ∈ l, q i = true → p i = true) : (l.filter q).length ≤ (l.filter p).length := by
  induction l with
  | nil => simp
  | cons a l ih =>
    have ih := ih (fun i hi => h i (List.mem_cons_of_mem _ hi))
    have ha := h a (by simp)
    by_cases hq : q a = true
    · simp [hq, ha hq, ih]
    · by_cases hp : p a = true
      · simp [hq, hp]; omega
      · simp [hq, hp]; exact ih
theorem filter_lt {l : List Nat} {p q : Nat → Bool} (h : ∀ i ∈ l, q i = true → p i = true) {j : Nat} (hj : j ∈ l) (h1 : p j = true) (h2 : q j = false) : (l.filter q).length < (l.filter p).length := by
  induction l with
  | nil => cases hj
  | cons a l ih =>
    have hl := filter_less (l := l) (p := p) (q := q) (fun i hi => h i (List.mem_cons_of_mem _ hi))
    have ha := h a (by simp)
    rw [List.mem_cons] at hj
    by_cases e : j = a
    · subst e
      simp [h1, h2]
      omega
    · have ih := ih (fun i hi => h i (List.mem_cons_of_mem _ hi)) (hj.resolve_left e)
      by_cases hq : q a = true
      · simp [hq, ha hq]; omega
      · by_cases hp : p a = true
        · simp [hq, hp]; omega
        · simp [hq, hp]; omega
theorem outN_app {m : Nat} {o : List Int} {i : Nat} (hi : i < m) (hn : hasN o i = false) : outN m (o ++ [(i : Int)]) < outN m o := by
  unfold outN
  refine filter_lt (j := i) ?_ (List.mem_range.mpr hi) (by simp [hn]) ?_
  · intro k _ hk
    simp [hasN, hasI] at hk ⊢
    exact hk.1
  · simp [hasN, hasI]
theorem outN_le (m : Nat) (o : List Int) : outN m o ≤ m := by
  unfold outN
  have := List.length_filter_le (fun i => !hasN o i) (List.range m)
  rw [List.length_range] at this
  exact this
/-- Always to the nearest stop. -/
def nearM (V : List St) : Nat → Cr → List Int → List Int
  | 0, _, o => o
  | k + 1, c, o => match nearL V c o V.length with | none => o | some p => nearM V k p.2 (o ++ [(p.1 : Int)])
def bestM (hx hy st : Int) (V : List St) : BestS := tryP hx hy V (V.length + 1) ⟨hx, hy, 0, st, 0, 0⟩ [] ([], bigM)
def nearR (hx hy st : Int) (V : List St) : List Int := nearM V (V.length + 1) ⟨hx, hy, 0, st, 0, 0⟩ []

def capE (g : Nat) : Array Value := #[.pointer (some ⟨g, 0, none⟩), .pointer (some ⟨g + 1, 0, none⟩), .pointer (some ⟨g + 3, 0, none⟩), .pointer (some ⟨g + 2, 0, none⟩), .pointer (some ⟨g + 4, 0, none⟩)]
/-- The boxes of best: the trip, the least way, the best route, the route so far, the closure. -/
structure BxS (a w : World) (g : Nat) (tr : Array Value) (vb vo : Value) (o : List Int) (s : BestS) : Prop where
  trip : Blk w g 61 tr
  least : Blk w (g + 1) 3 #[.int .i64 s.2]
  best : Blk w (g + 2) 22 #[vb]
  order : Blk w (g + 3) 22 #[vo]
  ext : Blk w (g + 4) 90 #[.func (.func 59) #[] (capE g)]
  ob : w.ownsRow (g + 5) 3 1 vb s.1.length (ints s.1)
  oo : w.ownsRow (g + 5) 3 1 vo o.length (ints o)
  ap : Apart vb vo
  gr : a.grownBy w none
  lo : a.heap.size ≤ g
/-- Blocks of other types than numbers stay, but for two boxes. -/
def KeepT (g : Nat) (w w' : World) : Prop := w.heap.size ≤ w'.heap.size ∧ ∀ b T cs, T ≠ 3 → b ≠ g + 2 → b ≠ g + 3 → Blk w b T cs → Blk w' b T cs
theorem KeepT.refl (g : Nat) (w : World) : KeepT g w w := ⟨Nat.le_refl _, fun _ _ _ _ _ _ h => h⟩
theorem KeepT.trans {g : Nat} {a b c : World} (h : KeepT g a b) (k : KeepT g b c) : KeepT g a c := ⟨Nat.le_trans h.1 k.1, fun x T cs h1 h2 h3 hb => k.2 x T cs h1 h2 h3 (h.2 x T cs h1 h2 h3 hb)⟩
theorem KeepT.grown {g : Nat} {a b c : World} (h : KeepT g a b) (k : b.grownBy c none) : KeepT g a c := h.trans ⟨k.size, fun _ _ _ _ _ _ hb => hb.grown k (by simp)⟩
theorem BxS.grown {a w w' : World} {g : Nat} {tr : Array Value} {vb vo : Value} {o : List Int} {s : BestS} (h : BxS a w g tr vb vo o s) (k : w.grownBy w' none) : BxS a w' g tr vb vo o s :=
  ⟨h.trip.grown k (by simp), h.least.grown k (by simp), h.best.grown k (by simp), h.order.grown k (by simp), h.ext.grown k (by simp), h.ob.kept k (by cases vb.ownBlock with | none => exact .inl rfl | some _ => exact .inr (by simp)), h.oo.kept k (by cases vo.ownBlock with | none => exact .inl rfl | some _ => exact .inr (by simp)), h.ap, h.gr.trans k, h.lo⟩
theorem own_cut {w : World} {base g cap n m : Nat} {e : TypeId} {xs : List Value} (hown : w.ownsRow base e 1 (.slice (some ⟨g, 0, none⟩) n cap) n xs) (hm : m ≤ n) : w.ownsRow base e 1 (.slice (some ⟨g, 0, none⟩) m cap) m (xs.take m) := by
  have hls := hown.1
  rcases hown.2 with ⟨h0, _⟩ | ⟨g', cap', cur, hv, hg, hb, hn, hcap, hcs, ht⟩
  · cases h0
  cases hv
  refine ⟨by rw [List.length_take]; omega, .inr ⟨g, cap, cur, rfl, hg, hb, by omega, hcap, hcs, ?_⟩⟩
  rw [← ht, List.take_take]
  congr 1
  omega
theorem own_rdI {w : World} {base size n c : Nat} {e : TypeId} {A : Option Addr} {xs : List Value} (h : w.ownsRow base e size (.slice A n c) n xs) : Rd w size A n xs := by
  obtain ⟨A', c', hv, _, _, hr, _⟩ := Rd.of_own h
  cases hv; exact hr
theorem own_slice {w : World} {base e size n : Nat} {v : Value} {xs : List Value} (h : w.ownsRow base e size v n xs) : ∃ A c, v = .slice A n c ∧ n ≤ c := by
  rcases h.2 with ⟨rfl, rfl⟩ | ⟨g, cap, cur, rfl, _, _, hc, _⟩
  · exact ⟨none, 0, rfl, Nat.le_refl _⟩
  · exact ⟨some ⟨g, 0, none⟩, cap, rfl, hc⟩
theorem own_setN {w : World} {base e size n : Nat} {v : Value} {xs : List Value} (h : w.ownsRow base e size v n xs) {p : Addr} (hp : p.block < base) (u : Value) : (w.setCell p u).ownsRow base e size v n xs :=
  h.kept (grown_set (r := some p.block) ⟨rfl, rfl, rfl, Nat.le_refl _, fun _ _ _ => rfl⟩ (p := p) (.inr rfl) u) (own_ne h hp)
/-- The best route and its way are put anew. -/
theorem BxS.put {a w : World} {g : Nat} {tr : Array Value} {vb vo v : Value} {o p : List Int} {s : BestS} {N : Nat} (h : BxS a w g tr vb vo o s) {w' : World} (hg : w.grownBy w' none) (hv : w'.ownsRow N 3 1 v p.length (ints p)) (hN : w.heap.size ≤ N) (x : Int) :
    BxS a ((w'.setCell ⟨g + 2, 0, none⟩ v).setCell ⟨g + 1, 0, none⟩ (.int .i64 x)) g tr v vo o (p, x) ∧ KeepT g w ((w'.setCell ⟨g + 2, 0, none⟩ v).setCell ⟨g + 1, 0, none⟩ (.int .i64 x)) := by
  have k := h.grown hg
  have hlt := h.ext.lt
  have hap : Apart v vo := fun b hb hb' => by
    have h1 := hv.lt b hb
    have h2 := h.oo.lt b hb'
    omega
  refine ⟨⟨((k.trip.far (p := ⟨g + 2, 0, none⟩) (by simp) _).far (p := ⟨g + 1, 0, none⟩) (by simp) _), ?_, ?_, ((k.order.far (p := ⟨g + 2, 0, none⟩) (by simp) _).far (p := ⟨g + 1, 0, none⟩) (by simp) _), ((k.ext.far (p := ⟨g + 2, 0, none⟩) (by simp) _).far (p := ⟨g + 1, 0, none⟩) (by simp) _), ?_, ?_, hap, ?_, h.lo⟩, ?_⟩
  · exact (k.least.far (p := ⟨g + 2, 0, none⟩) (by simp) _).set_ 0 (.int .i64 x)
  · exact (k.best.set_ 0 v).far (p := ⟨g + 1, 0, none⟩) (by simp) _
  · exact own_setN (own_setN (own_mono hv (by omega)) (by simp) _) (by simp) _
  · exact own_setN (own_setN k.oo (by simp) _) (by simp) _
  · have := h.lo
    exact grown_set (p := ⟨g + 1, 0, none⟩) (grown_set (p := ⟨g + 2, 0, none⟩) k.gr (.inl (by simp; omega)) _) (.inl (by simp; omega)) _
  · refine (KeepT.refl g w).grown hg |>.trans ⟨by simp, ?_⟩
    intro b T cs h1 h2 h3 hb
    refine (hb.far (p := ⟨g + 2, 0, none⟩) (by simpa using h2) _).far (p := ⟨g + 1, 0, none⟩) ?_ _
    intro e
    simp only at e
    subst e
    have := k.least
    unfold Blk at hb this
    rw [this] at hb
    injection hb with hb
    injection hb with _ hb
    exact h1 hb.symm
theorem own_bxT {w : World} {g : Nat} {t : TypeId} {cs : Array Value} {base : Nat} {e : TypeId} {size n : Nat} {v : Value} {xs : List Value} (h : w.ownsRow base e size v n xs) (hg : Blk w g t cs) (hne : e ≠ t) : some g ≠ v.ownBlock := by
  rcases h.2 with ⟨rfl, _⟩ | ⟨g', cap, cur, rfl, _, hh, _⟩
  · simp [Value.ownBlock]
  · intro he
    have : g' = g := by simpa [Value.ownBlock] using he.symm
    subst this
    unfold Blk at hg
    rw [hg] at hh
    cases hh
    exact hne rfl
/-- A stop more in the route so far. -/
theorem BxS.push {a w w5 : World} {g : Nat} {tr : Array Value} {vb vo v5 : Value} {o : List Int} {s : BestS} {y : Int} (h : BxS a w g tr vb vo o s) (o5 : w5.ownsRow (g + 5) 3 1 v5 (o.length + 1) (ints (o ++ [y]))) (g5 : (w.alloc (.cells #[.int .i64 y] 3)).grownBy w5 vo.ownBlock) (k5 : v5.ownBlock = vo.ownBlock ∨ v5.ownBlock = some (w.heap.size + 1)) :
    BxS a (w5.setCell ⟨g + 3, 0, none⟩ v5) g tr vb v5 (o ++ [y]) s ∧ KeepT g w (w5.setCell ⟨g + 3, 0, none⟩ v5) ∧ KeepT g w w5 ∧ w5.cell? ⟨g + 3, 0, none⟩ = some vo ∧ w5.frozen? ⟨g + 3, 0, none⟩ = false ∧ w5.cell? ⟨g + 4, 0, none⟩ = some (.func (.func 59) #[] (capE g)) := by
  have hA := grown_alloc (grown_refl w) (.cells #[.int .i64 y] 3)
  have k := h.grown hA
  have hlt := h.ext.lt
  have hap : Apart v5 vb := h.ap.symm.next h.ob (by omega) k5
  have nb : ∀ {b : Nat}, b < g + 5 → some b ≠ vo.ownBlock := fun {b} hb e => by
    have := (h.oo.lt b e.symm).1
    omega
  refine ⟨⟨(k.trip.grown g5 (nb (by omega))).far (p := ⟨g + 3, 0, none⟩) (by simp) _, (k.least.grown g5 (nb (by omega))).far (p := ⟨g + 3, 0, none⟩) (by simp) _, (k.best.grown g5 (nb (by omega))).far (p := ⟨g + 3, 0, none⟩) (by simp) _,
    (k.order.grown g5 (nb (by omega))).set_ 0 v5, (k.ext.grown g5 (nb (by omega))).far (p := ⟨g + 3, 0, none⟩) (by simp) _, own_setN (k.ob.kept g5 h.ap.keep) (by simp) _, ?_, hap.symm, ?_, h.lo⟩, ?_, ?_, (k.order.grown g5 (nb (by omega))).cell 0, (k.order.grown g5 (nb (by omega))).frozen 0, (k.ext.grown g5 (nb (by omega))).cell 0⟩
  · have := own_setN o5 (p := ⟨g + 3, 0, none⟩) (by simp) v5
    simpa using this
  · have hl := h.lo
    refine grown_set (p := ⟨g + 3, 0, none⟩) ?_ (.inl (by simp; omega)) _
    refine ⟨g5.os.trans k.gr.os, g5.tape.trans k.gr.tape, g5.output.trans k.gr.output, Nat.le_trans k.gr.size g5.size, fun b hb hne => ?_⟩
    have hb' : b < g + 5 := by omega
    exact (g5.block b (by have := k.gr.size; omega) (nb hb')).trans (k.gr.block b hb hne)
  · refine ⟨by have := g5.size; simp at this ⊢; omega, ?_⟩
    intro b T cs h1 h2 h3 hb
    have hb1 := hb.grown hA (by simp)
    exact (hb1.grown g5 (own_bxT k.oo hb1 (Ne.symm h1))).far (p := ⟨g + 3, 0, none⟩) (by simpa using h3) _
  · refine ⟨by have := g5.size; simp at this ⊢; omega, ?_⟩
    intro b T cs h1 h2 h3 hb
    have hb1 := hb.grown hA (by simp)
    exact hb1.grown g5 (own_bxT k.oo hb1 (Ne.symm h1))
/-- The last stop goes. -/
theorem BxS.pop {a w : World} {g n c : Nat} {A : Option Addr} {tr : Array Value} {vb : Value} {o : List Int} {s : BestS} {y : Int} (h : BxS a w g tr vb (.slice A n c) (o ++ [y]) s) :
    BxS a (w.setCell ⟨g + 3, 0, none⟩ (.slice A o.length c)) g tr vb (.slice A o.length c) o s ∧ KeepT g w (w.setCell ⟨g + 3, 0, none⟩ (.slice A o.length c)) ∧ n = o.length + 1 := by
  have hoo := h.oo
  obtain ⟨A', c', hv, hc⟩ := own_slice hoo
  injection hv with h1 h2 h3
  subst h1 h2 h3
  simp only [List.length_append, List.length_cons, List.length_nil] at hoo
  have ho : w.ownsRow (g + 5) 3 1 (.slice A o.length c) o.length (ints o) := by
    rcases hoo.2 with ⟨h0, h0'⟩ | ⟨q, cap, cur, hv, hg, hb, hn, hcap, hcs, ht⟩
    · omega
    injection hv with h1 _ h3
    subst h1 h3
    have := own_cut (m := o.length) hoo (by omega)
    have e : (ints (o ++ [y])).take o.length = ints o := by simp [ints]
    rw [e] at this
    exact this
  have hap : Apart vb (.slice A o.length c) := fun b hb hb' => h.ap b hb (by cases A <;> exact hb')
  refine ⟨⟨h.trip.far (p := ⟨g + 3, 0, none⟩) (by simp) _, h.least.far (p := ⟨g + 3, 0, none⟩) (by simp) _, h.best.far (p := ⟨g + 3, 0, none⟩) (by simp) _, h.order.set_ 0 _, h.ext.far (p := ⟨g + 3, 0, none⟩) (by simp) _, own_setN h.ob (by simp) _, own_setN ho (by simp) _, hap, ?_, h.lo⟩, ?_, by simp⟩
  · have hl := h.lo
    exact grown_set (p := ⟨g + 3, 0, none⟩) h.gr (.inl (by simp; omega)) _
  · exact ⟨by simp, fun b T cs h1 h2 h3 hb => hb.far (p := ⟨g + 3, 0, none⟩) (by simpa using h3) _⟩
theorem crEta (c : Cr) : (⟨c.x, c.y, c.b, c.d, c.way, c.wt⟩ : Cr) = c := rfl

set_option maxRecDepth 100000 in
set_option maxHeartbeats 8000000 in
theorem ext_any (a : World) (g : Nat) (hx hy : Int) (A : Option Addr) (m cp : Nat) (V : List St) (st : Int) (hr : Rd a 6 A m (stFlat V)) (hmc : m ≤ cp) (hV : V.length ≤ 60 ∧ ∀ t ∈ V, spB t.x t.y = true ∧ (0 ≤ t.f ∧ t.f ≤ t.t) ∧ t.t ≤ 1440 ∧ (0 ≤ t.l ∧ t.l ≤ 1440)) (hh : spB hx hy = true) :
    ∀ (k : Nat) (c : Cr) (o : List Int) (s : BestS) (vb vo : Value) (w : World), BxS a w g #[.int .i64 hx, .int .i64 hy, .slice A m cp, .int .i64 st] vb vo o s → RtO m o → CrB o.length c → o.length + k = m →
      Calls Tryd.prog 59 #[.agg (crCells c).toArray, .pointer (some ⟨g, 0, none⟩), .pointer (some ⟨g + 1, 0, none⟩), .pointer (some ⟨g + 3, 0, none⟩), .pointer (some ⟨g + 2, 0, none⟩), .pointer (some ⟨g + 4, 0, none⟩)] w
        fun e w' => e = .returned (.tuple #[]) ∧ ∃ vb' vo', BxS a w' g #[.int .i64 hx, .int .i64 hy, .slice A m cp, .int .i64 st] vb' vo' o (extP hx hy V (k + 1) c o s) ∧ KeepT g w w' := by
  have hlV : V.length = m := by have := hr.1; rw [stFlat_len] at this; omega
  intro k
  induction k using Nat.strongRecOn with
  | _ k ih =>
  intro c o s vb vo w hB hO hC hk
  obtain ⟨q, hq⟩ : ∃ q, w.heap.size = q := ⟨_, rfl⟩
  have hC1 := Blk.new w 66 (crCells c).toArray
  have hg1 := grown_alloc (grown_refl w) (.cells (crCells c).toArray 66)
  rw [hq] at hC1
  obtain ⟨W1, hW1⟩ : ∃ W1, w.alloc (.cells (crCells c).toArray 66) = W1 := ⟨_, rfl⟩
  rw [hW1] at hC1 hg1
  have hB1 := hB.grown hg1
  have hlt : g + 4 < q := by have := hB.ext.lt; omega
  have hX := Lib.hid (And.intro hB (And.intro hg1 (And.intro hW1 hq)))
  have hfar := fun wx => far_any c.x c.y hx hy wx hC.1 hh
  have hfi := farN_in hC.1 hh
  obtain ⟨hcx, hcy, hcb, hcd⟩ : True ∧ True ∧ True ∧ True := ⟨trivial, trivial, trivial, trivial⟩
  have c0 : W1.cell? ⟨q, 0, none⟩ = some (.int .i64 c.x) := hC1.cell 0
  have c1 : W1.cell? ⟨q, 1, none⟩ = some (.int .i64 c.y) := hC1.cell 1
  have c4 : W1.cell? ⟨q, 4, none⟩ = some (.int .i64 c.way) := hC1.cell 4
  have t0 : W1.cell? ⟨g, 0, none⟩ = some (.int .i64 hx) := hB1.trip.cell 0
  have t1 : W1.cell? ⟨g, 1, none⟩ = some (.int .i64 hy) := hB1.trip.cell 1
  obtain ⟨H, hH⟩ : ∃ H, homeW hx hy c = H := ⟨_, rfl⟩
  obtain ⟨F, hF⟩ : ∃ F, farN c.x c.y hx hy = F := ⟨_, rfl⟩
  have hHF : c.way + F = H := by rw [← hH, ← hF]; rfl
  rw [hF] at hfar hfi
  have hway := hC.2.2.1
  have hol : o.length ≤ 60 := by have := hV.1; omega
  have hHb : 0 ≤ H ∧ H ≤ 4000000 := by have : (o.length : Int) ≤ 60 := by exact_mod_cast hol
                                       omega
  have hwr : IntKind.i64.wrap H = H := IntWalk.i64_in _ (by omega)
  have HF := Lib.hid (And.intro hfar (And.intro hH (And.intro hF (And.intro hway hfi))))
  have HB1 := Lib.hid hB1
  have HC1 := Lib.hid hC1
  have Hih := Lib.hid ih
  have HO := Lib.hid (And.intro hO (And.intro hC (And.intro hk (And.intro hol (And.intro hV hlV)))))
  clear hfar hH hF hway hfi hB1 hB ih hg1 hC hO hk hW1 hq hcx hcy hcb hcd hol hV hlV
  go_enter Tryd.func59, Tryd.ntmps59
  go_wp2_with fail
  rw [hX.out.2.2.1, hX.out.2.2.2]
  go_region_held3 (fun w' => w'.cell? ⟨q, 0, none⟩ = some (.int .i64 c.x) ∧ w'.cell? ⟨q, 1, none⟩ = some (.int .i64 c.y) ∧ w'.cell? ⟨q, 4, none⟩ = some (.int .i64 c.way) ∧ w'.cell? ⟨g, 0, none⟩ = some (.int .i64 hx) ∧ w'.cell? ⟨g, 1, none⟩ = some (.int .i64 hy)) (go_keep)
    (first | ((go_at_call 60; refine (HF.out.1 _).mono ?_; rintro e w2 ⟨rfl, hg2⟩; have z0 := hg2.cell (a := ⟨q, 0, none⟩) c0 (by simp); have z1 := hg2.cell (a := ⟨q, 1, none⟩) c1 (by simp); have z2 := hg2.cell (a := ⟨q, 4, none⟩) c4 (by simp); have z3 := hg2.cell (a := ⟨g, 0, none⟩) t0 (by simp); have z4 := hg2.cell (a := ⟨g, 1, none⟩) t1 (by simp))))
  have hg2' := grown_drew (grown_refl W1) |>.trans hg2
  have hB2 := HB1.out.grown hg2'
  have hC2 := HC1.out.grown hg2' (by simp)
  have hK2 : KeepT g w w2 := (KeepT.refl g w).grown (hX.out.2.1.trans hg2')
  clear z0 z1 z2 z3 z4 c0 c1 c4 t0 t1 hg2 hg2' hC1
  obtain ⟨B, cb, rfl, hncb⟩ := own_slice hB2.oo
  have l0 : w2.cell? ⟨g + 1, 0, none⟩ = some (.int .i64 s.2) := hB2.least.cell 0
  have o0 : w2.cell? ⟨g + 3, 0, none⟩ = some (.slice B o.length cb) := hB2.order.cell 0
  have t2 : w2.cell? ⟨g, 2, none⟩ = some (.slice A m cp) := hB2.trip.cell 2
  by_cases h1 : s.2 ≤ H
  · have HX : extP hx hy V (k + 1) c o s = s := by unfold extP; rw [HF.out.2.1, if_pos h1]
    have HX' := Lib.hid (And.intro HX (And.intro hB2 hK2))
    clear HX hB2 hK2 hC2
    go_wp2_with fail
    refine bodyPost_ret (results_none rfl _ _ _) rfl ?_
    refine ⟨rfl, vb, .slice B o.length cb, ?_, HX'.out.2.2⟩
    rw [HX'.out.1]
    exact HX'.out.2.1
  · by_cases h2 : o.length = m
    · have HX : extP hx hy V (k + 1) c o s = (o, H) := by unfold extP; rw [HF.out.2.1, if_neg h1, if_pos (by rw [HO.out.2.2.2.2.2]; exact h2)]
      have hcl := cloneInts_any B o.length cb o w2 (own_rdI hB2.oo) (by have := HO.out.2.2.2.1; omega)
      have hfb := fun (w' : World) (h : w2.grownBy w' none) => (hB2.best.grown h (by simp)).frozen 0
      have hfl := fun (w' : World) (h : w2.grownBy w' none) => (hB2.least.grown h (by simp)).frozen 0
      have hcb := fun (w' : World) (h : w2.grownBy w' none) => (hB2.best.grown h (by simp)).cell 0
      have hclst := fun (w' : World) (h : w2.grownBy w' none) => (hB2.least.grown h (by simp)).cell 0
      have HX' := Lib.hid (And.intro HX (And.intro hB2 (And.intro hK2 (And.intro hcl (And.intro hfb (And.intro hfl (And.intro hcb hclst)))))))
      clear HX hB2 hK2 hC2 hcl hfb hfl hcb hclst
      have h2' : ((o.length : Int) == (m : Int)) = true := by rw [h2]; simp
      have H2 := Lib.hid h2
      clear h2
      go_wp2_with fail
      refine HX'.out.2.2.2.1.mono ?_
      rintro e w3 ⟨v, rfl, hv, hg3⟩
      obtain ⟨Av, cv, rfl, _⟩ := own_slice hv
      have f1 : w3.frozen? ⟨g + 2, 0, none⟩ = false := HX'.out.2.2.2.2.1 w3 hg3
      have f2 : w3.frozen? ⟨g + 1, 0, none⟩ = false := HX'.out.2.2.2.2.2.1 w3 hg3
      have f3 : w3.cell? ⟨g + 2, 0, none⟩ = some vb := HX'.out.2.2.2.2.2.2.1 w3 hg3
      have f4 : w3.cell? ⟨g + 1, 0, none⟩ = some (.int .i64 s.2) := HX'.out.2.2.2.2.2.2.2 w3 hg3
      have hfin := BxS.put HX'.out.2.1 hg3 hv (Nat.le_refl _) H
      have HY := Lib.hid (And.intro hfin hg3)
      clear hfin hv hg3
      go_wp2_with fail
      refine bodyPost_ret (results_none rfl _ _ _) rfl ?_
      rw [HX'.out.1]
      exact ⟨rfl, .slice Av o.length cv, .slice B o.length cb, HY.out.1.1, HX'.out.2.2.1.trans HY.out.1.2⟩
    · have HX : extP hx hy V (k + 1) c o s = tryL V (extP hx hy V k) c o s m := by unfold extP; rw [HF.out.2.1, if_neg h1, if_neg (by rw [HO.out.2.2.2.2.2]; exact h2), HO.out.2.2.2.2.2]
      obtain ⟨k', hk'⟩ : ∃ k', k = k' + 1 := ⟨k - 1, by have := HO.out.2.2.1; omega⟩
      have h2' : ((o.length : Int) == (m : Int)) = false := by simp; omega
      have HX' := Lib.hid (And.intro HX (And.intro hB2 (And.intro hC2 (And.intro hK2 (And.intro h2 (And.intro hk' hncb))))))
      clear HX hB2 hC2 hK2 h2 hk' hncb
      go_wp2_with fail
      clear l0 o0 t2
      have hm60 : m ≤ 60 := by have := HO.out.2.2.2.2; omega
      go_loopg [35] m (fun κ i wr => ∃ (j : Nat) (vb' vo' : Value), κ + j = m ∧ i = .int .i64 j ∧ BxS a wr g #[.int .i64 hx, .int .i64 hy, .slice A m cp, .int .i64 st] vb' vo' o (tryL V (extP hx hy V k) c o s j) ∧ Blk wr q 66 (crCells c).toArray ∧ KeepT g w wr)
      case atStart => exact ⟨0, vb, .slice B o.length cb, by omega, rfl, HX'.out.2.1, HX'.out.2.2.1, HX'.out.2.2.2.1⟩
      case round =>
        obtain ⟨j, vb1, vo1, hj, rfl, hB, hC, hK⟩ := hrel
        by_cases hlt2 : j < m
        · obtain ⟨b2, off2, rfl, hb2, r, hr2, y0, y1, y2, y3, y4, y5⟩ := st_cells (hr.grown hB.gr) hlt2
          have hr3 : stAt V j = r := by unfold stAt; rw [List.getD_eq_getElem?_getD, Int.toNat_natCast, hr2]; rfl
          have hro := HO.out.2.2.2.2.1.2 r (List.mem_of_getElem? hr2)
          obtain ⟨B1, cb1, rfl, hncb1⟩ := own_slice hB.oo
          have hA3 := grown_alloc (grown_refl wr) (.cells #[.string r.k, .int .i64 r.x, .int .i64 r.y, .int .i64 r.f, .int .i64 r.t, .int .i64 r.l] 57)
          have hS3 := Blk.new wr 57 #[.string r.k, .int .i64 r.x, .int .i64 r.y, .int .i64 r.f, .int .i64 r.t, .int .i64 r.l]
          have hB3 := hB.grown hA3
          have hC3 := hC.grown hA3 (by simp)
          have hK3 := hK.grown hA3
          have o3 : (wr.alloc (.cells #[.string r.k, .int .i64 r.x, .int .i64 r.y, .int .i64 r.f, .int .i64 r.t, .int .i64 r.l] 57)).cell? ⟨g + 3, 0, none⟩ = some (.slice B1 o.length cb1) := hB3.order.cell 0
          obtain ⟨p, hp⟩ : ∃ p, wr.heap.size = p := ⟨_, rfl⟩
          rw [hp] at hS3
          obtain ⟨W3, hW3⟩ : ∃ W3, wr.alloc (.cells #[.string r.k, .int .i64 r.x, .int .i64 r.y, .int .i64 r.f, .int .i64 r.t, .int .i64 r.l] 57) = W3 := ⟨_, rfl⟩
          rw [hW3] at hS3 hB3 hC3 hK3
          have HZ := Lib.hid (And.intro hW3 (And.intro hp (And.intro hS3 (And.intro hB3 (And.intro hC3 (And.intro hK3 (And.intro hro (And.intro hr3 hj))))))))
          clear hW3 hp hS3 hB3 hC3 hK3 hA3 hB hC hK hro hr3 hr2 hb2 hj
          have hcon := contains_any B1 o.length cb1 o j W3 (own_rdI HZ.out.2.2.2.1.oo) (by have := HO.out.2.2.2.1; omega)
          obtain ⟨N, hN⟩ : ∃ N, hasN o j = N := ⟨_, rfl⟩
          rw [show decide ((j : Int) ∈ o) = N from hN] at hcon
          have HN := Lib.hid (And.intro hN hcon)
          clear hN hcon
          go_wp2_with fail
          rw [HZ.out.1, HZ.out.2.1]
          clear y0 y1 y2 y3 y4 y5 o3
          refine HN.out.2.mono ?_
          rintro e w4 ⟨rfl, hg4⟩
          have hB4 := HZ.out.2.2.2.1.grown hg4
          have hS4 := HZ.out.2.2.1.grown hg4 (by simp)
          have hC4 := HZ.out.2.2.2.2.1.grown hg4 (by simp)
          have hK4 := HZ.out.2.2.2.2.2.1.grown hg4
          cases N
          · have q0 : w4.cell? ⟨q, 0, none⟩ = some (.int .i64 c.x) := hC4.cell 0
            have q1 : w4.cell? ⟨q, 1, none⟩ = some (.int .i64 c.y) := hC4.cell 1
            have q2 : w4.cell? ⟨q, 2, none⟩ = some (.int .i64 c.b) := hC4.cell 2
            have q3 : w4.cell? ⟨q, 3, none⟩ = some (.int .i64 c.d) := hC4.cell 3
            have q4 : w4.cell? ⟨q, 4, none⟩ = some (.int .i64 c.way) := hC4.cell 4
            have q5 : w4.cell? ⟨q, 5, none⟩ = some (.int .i64 c.wt) := hC4.cell 5
            have y0 : w4.cell? ⟨p, 0, none⟩ = some (.string r.k) := hS4.cell 0
            have y1 : w4.cell? ⟨p, 1, none⟩ = some (.int .i64 r.x) := hS4.cell 1
            have y2 : w4.cell? ⟨p, 2, none⟩ = some (.int .i64 r.y) := hS4.cell 2
            have y3 : w4.cell? ⟨p, 3, none⟩ = some (.int .i64 r.f) := hS4.cell 3
            have y4 : w4.cell? ⟨p, 4, none⟩ = some (.int .i64 r.t) := hS4.cell 4
            have y5 : w4.cell? ⟨p, 5, none⟩ = some (.int .i64 r.l) := hS4.cell 5
            have hHC := HO.out.2.1
            have hl60 : (o.length : Int) ≤ 60 := by exact_mod_cast HO.out.2.2.2.1
            obtain ⟨hc1, hc2, hc3, hc4⟩ := hHC
            have hro := HZ.out.2.2.2.2.2.2.1
            have hvis := visit_any c r w4 hc1 hro.1 (by omega) (by omega) (by omega) (by omega) (by omega)
            simp only [crCells] at hvis
            have H4 := Lib.hid (And.intro hB4 (And.intro hS4 (And.intro hC4 (And.intro hK4 hvis))))
            clear hB4 hS4 hC4 hK4 hg4 hc1 hc2 hc3 hc4 hl60 hro hvis
            go_wp2_with fail
            refine H4.out.2.2.2.2.mono ?_
            rintro e w5 ⟨rfl, hg5⟩
            clear q0 q1 q2 q3 q4 q5 y0 y1 y2 y3 y4 y5
            have hB5 := H4.out.1.grown hg5
            have hC5 := H4.out.2.2.1.grown hg5 (by simp)
            have hK5 := H4.out.2.2.2.1.grown hg5
            have HB5lt := hB5.ext.lt
            obtain ⟨G, hG⟩ : ∃ G, crGo c r = G := ⟨_, rfl⟩
            rw [hG]
            obtain ⟨R, hR⟩ : ∃ R, crRes c r = R := ⟨_, rfl⟩
            simp only [hR]
            obtain ⟨p1, hp1⟩ : ∃ p1, w5.heap.size = p1 := ⟨_, rfl⟩
            have hA6 := grown_alloc (grown_refl w5) (.cells #[.int .i64 R.x, .int .i64 R.y, .int .i64 R.b, .int .i64 R.d, .int .i64 R.way, .int .i64 R.wt] 66)
            have hR6 := Blk.new w5 66 #[.int .i64 R.x, .int .i64 R.y, .int .i64 R.b, .int .i64 R.d, .int .i64 R.way, .int .i64 R.wt]
            have hB6 := hB5.grown hA6
            have hC6 := hC5.grown hA6 (by simp)
            have hK6 := hK5.grown hA6
            have o6 : (w5.alloc (.cells #[.int .i64 R.x, .int .i64 R.y, .int .i64 R.b, .int .i64 R.d, .int .i64 R.way, .int .i64 R.wt] 66)).cell? ⟨g + 3, 0, none⟩ = some (.slice B1 o.length cb1) := hB6.order.cell 0
            have hz6 : (w5.alloc (.cells #[.int .i64 R.x, .int .i64 R.y, .int .i64 R.b, .int .i64 R.d, .int .i64 R.way, .int .i64 R.wt] 66)).heap.size = p1 + 1 := by simp [hp1]
            rw [hp1] at hR6
            obtain ⟨W6, hW6⟩ : ∃ W6, w5.alloc (.cells #[.int .i64 R.x, .int .i64 R.y, .int .i64 R.b, .int .i64 R.d, .int .i64 R.way, .int .i64 R.wt] 66) = W6 := ⟨_, rfl⟩
            rw [hW6] at hB6 hC6 hK6 hR6 hz6
            have H6 := Lib.hid (And.intro hW6 (And.intro hp1 (And.intro hB6 (And.intro hC6 (And.intro hK6 (And.intro hR6 (And.intro hG (And.intro hR hz6))))))))
            clear hB5 hC5 hK5 hA6 hR6 hB6 hC6 hK6 hW6 hG hR hz6
            have hj := HZ.out.2.2.2.2.2.2.2.2
            cases G
            · clear o6
              go_wp2_with fail
              rw [H6.out.1]
              have hsame : tryL V (extP hx hy V k) c o s (j + 1) = tryL V (extP hx hy V k) c o s j := by
                rw [tryL_succ]
                unfold tryS
                rw [if_neg (by rw [HN.out.1]; simp), if_neg (by rw [HZ.out.2.2.2.2.2.2.2.1, H6.out.2.2.2.2.2.2.1]; simp)]
              have HS := Lib.hid hsame
              clear hsame
              go_roundg (gk - 1)
              case measure => omega
              case rel => exact ⟨j + 1, vb1, .slice B1 o.length cb1, by omega, by go_num, by rw [HS.out]; exact H6.out.2.2.1, H6.out.2.2.2.1, H6.out.2.2.2.2.1⟩
            · have hol60 := HO.out.2.2.2.1
              have hgW : g + 5 ≤ W6.heap.size := by have := H6.out.2.2.1.ext.lt; omega
              have hgp : g + 4 < p1 := by have := HZ.out.2.2.2.1.ext.lt; have h2 := H6.out.2.2.2.2.2.1.lt; have h3 := H6.out.2.2.1.ext.lt; have := H6.out.2.1; have := HB5lt; omega
              have hRn : R = crNext c r := by
                have h1 := H6.out.2.2.2.2.2.2.2.1
                have h2 := H6.out.2.2.2.2.2.2.1
                unfold crGo at h2
                unfold crRes at h1
                rw [if_pos (by simpa using h2)] at h1
                exact h1.symm
              have HRn := Lib.hid hRn
              clear hRn
              go_wp2_with (at_builtin; (try rw [H6.out.1]); refine ap_int_at W6 j rfl _ _ rfl (g + 5) (.slice B1 o.length cb1) o.length o rfl H6.out.2.2.1.oo (p1 + 1) H6.out.2.2.2.2.2.2.2.2 rfl (by omega) hgW ?_; intro v7 w7 o7 g7 k7; obtain ⟨A7, c7, rfl, hc7⟩ := own_slice o7; have HP := Lib.hid (BxS.push H6.out.2.2.1 o7 g7 k7); obtain ⟨_, _, _, f0, f1, f2⟩ := HP.out; simp only [capE] at f2; have e7 := HP.out.2.2.1.2 p1 _ _ (by decide) (by omega) (by omega) H6.out.2.2.2.2.2.1; have r0 : w7.cell? ⟨p1, 0, none⟩ = some (.int .i64 R.x) := e7.cell 0; have r1 : w7.cell? ⟨p1, 1, none⟩ = some (.int .i64 R.y) := e7.cell 1; have r2 : w7.cell? ⟨p1, 2, none⟩ = some (.int .i64 R.b) := e7.cell 2; have r3 : w7.cell? ⟨p1, 3, none⟩ = some (.int .i64 R.d) := e7.cell 3; have r4 : w7.cell? ⟨p1, 4, none⟩ = some (.int .i64 R.way) := e7.cell 4; have r5 : w7.cell? ⟨p1, 5, none⟩ = some (.int .i64 R.wt) := e7.cell 5; have HO7 := Lib.hid (And.intro o7 (And.intro g7 (And.intro k7 hc7))); clear o7 g7 k7 hc7)
              have hO7 := HO.out.1.app hlt2 HN.out.1
              have hC7 : CrB (o ++ [(j : Int)]).length (crNext c r) := by
                have := HO.out.2.1.next (r := r) HZ.out.2.2.2.2.2.2.1.1 (by have := HZ.out.2.2.2.2.2.2.1; omega) (by have := HZ.out.2.2.2.2.2.2.1; omega)
                simpa using this
              have hk7 : (o ++ [(j : Int)]).length + k' = m := by
                have h1 := HX'.out.2.2.2.2.2.1
                have h2 := HO.out.2.2.1
                simp
                omega
              have hrec := Hih.out k' (by have h1 := HX'.out.2.2.2.2.2.1; omega) (crNext c r) (o ++ [(j : Int)]) (tryL V (extP hx hy V k) c o s j) vb1 (.slice A7 (o.length + 1) c7) _ HP.out.1 hO7 hC7 hk7
              rw [← HRn.out] at hrec
              simp only [crCells] at hrec
              refine hrec.mono ?_
              clear hrec hO7 hC7 hk7
              rintro e w8 ⟨rfl, vb8, vo8, hB8, hK8⟩
              clear f0 f1 f2 e7 r0 r1 r2 r3 r4 r5
              have hl1 : (o ++ [(j : Int)]).length = o.length + 1 := by simp
              obtain ⟨A8, c8, rfl, hc8⟩ := own_slice hB8.oo
              rw [hl1] at hB8 hc8
              have hpop := hB8.pop
              have o8 : w8.cell? ⟨g + 3, 0, none⟩ = some (.slice A8 (o.length + 1) c8) := hB8.order.cell 0
              have f8 := hB8.order.frozen 0
              have hC8 := hK8.2 q _ _ (by decide) (by omega) (by omega) (HP.out.2.1.2 q _ _ (by decide) (by omega) (by omega) H6.out.2.2.2.1)
              have hC9 := hpop.2.1.2 q _ _ (by decide) (by omega) (by omega) hC8
              have hK9 := ((H6.out.2.2.2.2.1.trans HP.out.2.1).trans hK8).trans hpop.2.1
              have hstep : tryL V (extP hx hy V k) c o s (j + 1) = extP hx hy V (k' + 1) R (o ++ [(j : Int)]) (tryL V (extP hx hy V k) c o s j) := by
                rw [tryL_succ]
                unfold tryS
                rw [if_neg (by rw [HN.out.1]; simp), HZ.out.2.2.2.2.2.2.2.1, if_pos H6.out.2.2.2.2.2.2.1, HRn.out, HX'.out.2.2.2.2.2.1]
              have H9 := Lib.hid (And.intro hpop.1 (And.intro hC9 (And.intro hK9 hstep)))
              clear hpop hC8 hC9 hK9 hstep hB8 hK8 hl1
              go_wp2_with fail
              go_roundg (gk - 1)
              case measure => omega
              case rel => exact ⟨j + 1, vb8, .slice A8 o.length c8, by omega, by go_num, by rw [H9.out.2.2.2]; exact H9.out.1, H9.out.2.1, H9.out.2.2.1⟩
          · have hj := HZ.out.2.2.2.2.2.2.2.2
            have hsame : tryL V (extP hx hy V k) c o s (j + 1) = tryL V (extP hx hy V k) c o s j := by
              rw [tryL_succ]
              unfold tryS
              rw [if_pos HN.out.1]
            have HS := Lib.hid (And.intro hsame (And.intro hB4 (And.intro hC4 hK4)))
            clear hsame hB4 hS4 hC4 hK4
            go_wp2_with fail
            go_roundg (gk - 1)
            case measure => omega
            case rel => exact ⟨j + 1, vb1, .slice B1 o.length cb1, by omega, by go_num, by rw [HS.out.1]; exact HS.out.2.1, HS.out.2.2.1, HS.out.2.2.2⟩
        · obtain rfl : j = m := by omega
          have HE := Lib.hid (And.intro hB hK)
          clear hB hC hK
          go_wp2_with fail
          go_end0
          exact ⟨rfl, vb1, vo1, by rw [HX'.out.1]; exact HE.out.1, HE.out.2⟩

/-- The boxes of best, as they are made. -/
def bx4 (w : World) (tr : Array Value) : World := (((w.alloc (.cells tr 61)).alloc (.cells #[.int .i64 9223372036854775807] 3)).alloc (.cells #[.slice none 0 0] 22)).alloc (.cells #[.slice none 0 0] 22)
theorem store_newB {P : Program} (w : World) (u v : Value) (T : TypeId) (hv : v.oneCell' = true) : (store ⟨w.heap.size, 0, none⟩ v).run P (w.alloc (.cells #[u] T)) = .ok () (w.alloc (.cells #[v] T)) := by
  rw [run_store P _ _ v _ hv]
  have hc : (w.alloc (.cells #[u] T)).cell? ⟨w.heap.size, 0, none⟩ = some u := by rw [World.cell?_alloc_new]; rfl
  have hf : (w.alloc (.cells #[u] T)).frozen? ⟨w.heap.size, 0, none⟩ = false := (Blk.new w T #[u]).frozen 0
  rw [hc, hf]
  simp only [Bool.false_eq_true, if_false]
  rw [World.setCell_alloc_at _ _ _ _ _ rfl]
  rfl
theorem bx_start (w : World) (g : Nat) (hg : w.heap.size = g) (tr : Array Value) :
    BxS w ((bx4 w tr).alloc (.cells #[.func (.func 59) #[] (capE g)] 90)) g tr (.slice none 0 0) (.slice none 0 0) [] ([], bigM)
    ∧ (bx4 w tr).heap.size = g + 4 := by
  subst hg
  obtain ⟨g, hg⟩ : ∃ g, w.heap.size = g := ⟨_, rfl⟩
  unfold bx4
  have k1 := Blk.new w 61 tr
  have g1 := grown_alloc (grown_refl w) (.cells tr 61)
  have z1 : (w.alloc (.cells tr 61)).heap.size = g + 1 := by simp [hg]
  rw [hg] at k1 ⊢
  generalize w.alloc (.cells tr 61) = w1 at *
  have k2 := Blk.new w1 3 #[.int .i64 9223372036854775807]
  have k1 := k1.alloc (.cells #[.int .i64 9223372036854775807] 3)
  have g1 := grown_alloc g1 (.cells #[.int .i64 9223372036854775807] 3)
  have z2 : (w1.alloc (.cells #[.int .i64 9223372036854775807] 3)).heap.size = g + 2 := by simp [z1]
  rw [z1] at k2
  generalize w1.alloc (.cells #[.int .i64 9223372036854775807] 3) = w2 at *
  have k3 := Blk.new w2 22 #[.slice none 0 0]
  have k1 := k1.alloc (.cells #[.slice none 0 0] 22)
  have k2 := k2.alloc (.cells #[.slice none 0 0] 22)
  have g1 := grown_alloc g1 (.cells #[.slice none 0 0] 22)
  have z3 : (w2.alloc (.cells #[.slice none 0 0] 22)).heap.size = g + 3 := by simp [z2]
  rw [z2] at k3
  generalize w2.alloc (.cells #[.slice none 0 0] 22) = w3 at *
  have k4 := Blk.new w3 22 #[.slice none 0 0]
  have k1 := k1.alloc (.cells #[.slice none 0 0] 22)
  have k2 := k2.alloc (.cells #[.slice none 0 0] 22)
  have k3 := k3.alloc (.cells #[.slice none 0 0] 22)
  have g1 := grown_alloc g1 (.cells #[.slice none 0 0] 22)
  have z4 : (w3.alloc (.cells #[.slice none 0 0] 22)).heap.size = g + 4 := by simp [z3]
  rw [z3] at k4
  generalize w3.alloc (.cells #[.slice none 0 0] 22) = w4 at *
  have k5 := Blk.new w4 90 #[.func (.func 59) #[] (capE g)]
  have k1 := k1.alloc (.cells #[.func (.func 59) #[] (capE g)] 90)
  have k2 := k2.alloc (.cells #[.func (.func 59) #[] (capE g)] 90)
  have k3 := k3.alloc (.cells #[.func (.func 59) #[] (capE g)] 90)
  have k4 := k4.alloc (.cells #[.func (.func 59) #[] (capE g)] 90)
  have g1 := grown_alloc g1 (.cells #[.func (.func 59) #[] (capE g)] 90)
  rw [z4] at k5
  clear z1 z2 z3
  generalize w4.alloc (.cells #[.func (.func 59) #[] (capE g)] 90) = w5 at *
  exact ⟨⟨k1, k2, k3, k4, k5, World.ownsRow_nil _ _ _ _, World.ownsRow_nil _ _ _ _, (fun b h => by cases h), g1, by omega⟩, z4⟩

set_option maxRecDepth 100000 in
set_option maxHeartbeats 4000000 in
theorem tripBest_any (hx hy : Int) (A : Option Addr) (m cp : Nat) (V : List St) (st : Int) (w : World) (hr : Rd w 6 A m (stFlat V)) (hmc : m ≤ cp) (hrf : routeF hx hy V st = 0) :
    Calls Tryd.prog 33 #[.agg #[.int .i64 hx, .int .i64 hy, .slice A m cp, .int .i64 st]] w
      fun e w' => (∃ v, e = .returned (.tuple #[v, .int .i64 (bestM hx hy st V).2, .bool (decide ((bestM hx hy st V).2 < bigM))]) ∧ w'.ownsRow w.heap.size 3 1 v (bestM hx hy st V).1.length (ints (bestM hx hy st V).1)) ∧ w.grownBy w' none := by
  have hlV : V.length = m := by have := hr.1; rw [stFlat_len] at this; omega
  obtain ⟨hsf, hh, h0, h1⟩ := routeF_ok hrf
  have hV := stopsF_ok hsf
  obtain ⟨g, hg⟩ : ∃ g, w.heap.size = g := ⟨_, rfl⟩
  obtain ⟨hB, hz⟩ := bx_start w g hg #[.int .i64 hx, .int .i64 hy, .slice A m cp, .int .i64 st]
  have hE := ext_any w g hx hy A m cp V st hr hmc hV hh m ⟨hx, hy, 0, st, 0, 0⟩ [] ([], bigM)
  have hM : extP hx hy V (m + 1) ⟨hx, hy, 0, st, 0, 0⟩ [] ([], bigM) = bestM hx hy st V := by rw [ext_try, ← hlV]; rfl
  rw [hM] at hE
  generalize bestM hx hy st V = M at *
  have HW := Lib.hid (And.intro hg (And.intro hB (And.intro hE (And.intro h0 (And.intro h1 (And.intro hh hlV))))))
  have hst := store_newB (P := Tryd.prog) (bx4 w #[.int .i64 hx, .int .i64 hy, .slice A m cp, .int .i64 st]) .nilFunc (.func (.func 59) #[] #[.pointer (some ⟨g, 0, none⟩), .pointer (some ⟨g + 1, 0, none⟩), .pointer (some ⟨g + 1 + 1 + 1, 0, none⟩), .pointer (some ⟨g + 1 + 1, 0, none⟩), .pointer (some ⟨g + 1 + 1 + 1 + 1, 0, none⟩)]) 90 rfl
  rw [hz, show g + 4 = g + 1 + 1 + 1 + 1 from rfl] at hst
  unfold bx4 at hst
  clear hz hB hM hE h0 h1 hh hV hlV hrf hsf hr
  go_enter Tryd.func33, Tryd.ntmps33
  go_wp2_with fail
  clear hst
  have HB1 := HW.out.2.1
  unfold bx4 capE at HB1
  change BxS w (World.alloc _ (.cells #[.func (.func 59) #[] #[.pointer (some ⟨g, 0, none⟩), .pointer (some ⟨g + 1, 0, none⟩), .pointer (some ⟨g + 1 + 1 + 1, 0, none⟩), .pointer (some ⟨g + 1 + 1, 0, none⟩), .pointer (some ⟨g + 1 + 1 + 1 + 1, 0, none⟩)]] _)) g _ _ _ _ _ at HB1
  generalize World.alloc _ (.cells #[.func (.func 59) #[] #[.pointer (some ⟨g, 0, none⟩), .pointer (some ⟨g + 1, 0, none⟩), .pointer (some ⟨g + 1 + 1 + 1, 0, none⟩), .pointer (some ⟨g + 1 + 1, 0, none⟩), .pointer (some ⟨g + 1 + 1 + 1 + 1, 0, none⟩)]] _) = W5 at *
  have c0 : W5.cell? ⟨g, 0, none⟩ = some (.int .i64 hx) := HB1.trip.cell 0
  have c1 : W5.cell? ⟨g, 1, none⟩ = some (.int .i64 hy) := HB1.trip.cell 1
  have c2 : W5.cell? ⟨g, 2, none⟩ = some (.slice A m cp) := HB1.trip.cell 2
  have c3 : W5.cell? ⟨g, 3, none⟩ = some (.int .i64 st) := HB1.trip.cell 3
  have c4 : W5.cell? ⟨g + 1 + 1 + 1 + 1, 0, none⟩ = some (.func (.func 59) #[] #[.pointer (some ⟨g, 0, none⟩), .pointer (some ⟨g + 1, 0, none⟩), .pointer (some ⟨g + 1 + 1 + 1, 0, none⟩), .pointer (some ⟨g + 1 + 1, 0, none⟩), .pointer (some ⟨g + 1 + 1 + 1 + 1, 0, none⟩)]) := HB1.ext.cell 0
  have H1 := Lib.hid HB1
  clear HB1
  go_region_held3 (fun w' => w'.cell? ⟨g, 0, none⟩ = some (.int .i64 hx) ∧ w'.cell? ⟨g, 1, none⟩ = some (.int .i64 hy) ∧ w'.cell? ⟨g, 2, none⟩ = some (.slice A m cp) ∧ w'.cell? ⟨g, 3, none⟩ = some (.int .i64 st) ∧ w'.cell? ⟨g + 1 + 1 + 1 + 1, 0, none⟩ = some (.func (.func 59) #[] #[.pointer (some ⟨g, 0, none⟩), .pointer (some ⟨g + 1, 0, none⟩), .pointer (some ⟨g + 1 + 1 + 1, 0, none⟩), .pointer (some ⟨g + 1 + 1, 0, none⟩), .pointer (some ⟨g + 1 + 1 + 1 + 1, 0, none⟩)])) (go_keep)
    (first
      | ((go_at_call 34; refine (leave_any hx hy A m cp st _).mono ?_; rintro e w6 ⟨rfl, hg6⟩; have z0 := hg6.cell (a := ⟨g, 0, none⟩) c0 (by simp); have z1 := hg6.cell (a := ⟨g, 1, none⟩) c1 (by simp); have z2 := hg6.cell (a := ⟨g, 2, none⟩) c2 (by simp); have z3 := hg6.cell (a := ⟨g, 3, none⟩) c3 (by simp); have z4 := hg6.cell (a := ⟨g + 1 + 1 + 1 + 1, 0, none⟩) c4 (by simp)))
      | ((go_at_call 59; refine (HW.out.2.2.1 (.slice none 0 0) (.slice none 0 0) _ (H1.out.grown (((grown_drew (grown_refl _))).trans hg6)) (RtO.nil m) (CrB.start HW.out.2.2.2.2.2.1 HW.out.2.2.2.1 HW.out.2.2.2.2.1) (by simp)).mono ?_; rintro e w7 ⟨rfl, vb7, vo7, hB7, hK7⟩; have y0 : w7.cell? ⟨g, 0, none⟩ = some (.int .i64 hx) := hB7.trip.cell 0; have y1 : w7.cell? ⟨g, 1, none⟩ = some (.int .i64 hy) := hB7.trip.cell 1; have y2 : w7.cell? ⟨g, 2, none⟩ = some (.slice A m cp) := hB7.trip.cell 2; have y3 : w7.cell? ⟨g, 3, none⟩ = some (.int .i64 st) := hB7.trip.cell 3; have y4 : w7.cell? ⟨g + 1 + 1 + 1 + 1, 0, none⟩ = some (.func (.func 59) #[] #[.pointer (some ⟨g, 0, none⟩), .pointer (some ⟨g + 1, 0, none⟩), .pointer (some ⟨g + 1 + 1 + 1, 0, none⟩), .pointer (some ⟨g + 1 + 1, 0, none⟩), .pointer (some ⟨g + 1 + 1 + 1 + 1, 0, none⟩)]) := hB7.ext.cell 0)))
  obtain ⟨A7, c7, rfl, hc7⟩ := own_slice hB7.ob
  have b0 : w7.cell? ⟨g + 1 + 1, 0, none⟩ = some (.slice A7 M.1.length c7) := hB7.best.cell 0
  have l0 : w7.cell? ⟨g + 1, 0, none⟩ = some (.int .i64 M.2) := hB7.least.cell 0
  obtain ⟨Q, hQ⟩ : ∃ Q, decide (M.2 < 9223372036854775807) = Q := ⟨_, rfl⟩
  have hQ2 : decide (M.2 < bigM) = Q := hQ
  have H7 := Lib.hid (And.intro hB7.ob (And.intro hB7.gr hQ2))
  clear hB7 hQ2 y0 y1 y2 y3 y4 z0 z1 z2 z3 z4 c0 c1 c2 c3 c4 hK7 hg6
  go_wp2_with fail
  go_region
  go_wp2_with fail
  go_ret3
  rw [H7.out.2.2]
  exact ⟨⟨_, rfl, own_mono H7.out.1 (by have := HW.out.1; omega)⟩, grown_drew H7.out.2.1⟩

/-- Best's error, and its route. -/
def bsE (hx hy st : Int) (V : List St) : Int := if routeF hx hy V st ≠ 0 then routeF hx hy V st else if 8 < V.length then 2 else if (bestM hx hy st V).2 < bigM then 0 else 8
def bsO (hx hy st : Int) (V : List St) : BestS := if bsE hx hy st V ≠ 0 then ([], 0) else bestM hx hy st V

set_option maxRecDepth 100000 in
set_option maxHeartbeats 4000000 in
theorem best_any (hx hy : Int) (A : Option Addr) (m cp : Nat) (V : List St) (st : Int) (w : World) (hr : Rd w 6 A m (stFlat V)) (hmc : m ≤ cp) (hm : m ≤ 1000) :
    Calls Tryd.prog 9 #[.agg #[.int .i64 hx, .int .i64 hy], .slice A m cp, .int .i64 st] w
      fun e w' => (∃ v, e = .returned (.tuple #[v, .int .i64 (bsO hx hy st V).2, .int .i64 (bsE hx hy st V)]) ∧ w'.ownsRow w.heap.size 3 1 v (bsO hx hy st V).1.length (ints (bsO hx hy st V).1)) ∧ w.grownBy w' none := by
  have hlV : V.length = m := by have := hr.1; rw [stFlat_len] at this; omega
  obtain ⟨E, hE⟩ : ∃ E, bsE hx hy st V = E := ⟨_, rfl⟩
  obtain ⟨O, hO⟩ : ∃ O, bsO hx hy st V = O := ⟨_, rfl⟩
  rw [hE, hO]
  unfold bsO at hO
  rw [hE] at hO
  unfold bsE at hE
  rw [hlV] at hE
  obtain ⟨g, hg⟩ : ∃ g, w.heap.size = g := ⟨_, rfl⟩
  have hH := Blk.new w 30 #[.int .i64 hx, .int .i64 hy]
  have hg1 := grown_alloc (grown_refl w) (.cells #[.int .i64 hx, .int .i64 hy] 30)
  rw [hg] at hH
  obtain ⟨W1, hW1⟩ : ∃ W1, w.alloc (.cells #[.int .i64 hx, .int .i64 hy] 30) = W1 := ⟨_, rfl⟩
  have hz1 : W1.heap.size = g + 1 := by rw [← hW1]; simp [hg]
  rw [hW1] at hH hg1
  have hT := Blk.new W1 61 #[.int .i64 hx, .int .i64 hy, .slice A m cp, .int .i64 st]
  have hg2 := grown_alloc hg1 (.cells #[.int .i64 hx, .int .i64 hy, .slice A m cp, .int .i64 st] 61)
  rw [hz1] at hT
  obtain ⟨W2, hW2⟩ : ∃ W2, W1.alloc (.cells #[.int .i64 hx, .int .i64 hy, .slice A m cp, .int .i64 st] 61) = W2 := ⟨_, rfl⟩
  rw [hW2] at hT hg2
  have h0 : W1.cell? ⟨g, 0, none⟩ = some (.int .i64 hx) := hH.cell 0
  have h1 : W1.cell? ⟨g, 1, none⟩ = some (.int .i64 hy) := hH.cell 1
  have t0 : W2.cell? ⟨g + 1, 0, none⟩ = some (.int .i64 hx) := hT.cell 0
  have t1 : W2.cell? ⟨g + 1, 1, none⟩ = some (.int .i64 hy) := hT.cell 1
  have t2 : W2.cell? ⟨g + 1, 2, none⟩ = some (.slice A m cp) := hT.cell 2
  have t3 : W2.cell? ⟨g + 1, 3, none⟩ = some (.int .i64 st) := hT.cell 3
  have hck := tripCheck_any hx hy A m cp V st W2 (hr.grown hg2) hmc
  have hbs := fun wx (h : w.grownBy wx none) (e1 : routeF hx hy V st = 0) => tripBest_any hx hy A m cp V st wx (hr.grown h) hmc e1
  obtain ⟨F, hF⟩ : ∃ F, routeF hx hy V st = F := ⟨_, rfl⟩
  obtain ⟨M, hM⟩ : ∃ M, bestM hx hy st V = M := ⟨_, rfl⟩
  rw [hF] at hck hbs hE
  rw [hM] at hbs hE hO
  have HW := Lib.hid (And.intro hW1 (And.intro hW2 (And.intro hg (And.intro hck (And.intro hbs (And.intro hE (And.intro hO (And.intro hg2 hT))))))))
  clear hW1 hW2 hg hck hbs hE hO hg1 hg2 hT hH hr hF hM hz1 hlV
  go_enter Tryd.func9, Tryd.ntmps9
  go_wp2_with fail
  rw [HW.out.1, HW.out.2.1, HW.out.2.2.1]
  clear h0 h1 t0 t1 t2 t3
  refine HW.out.2.2.2.1.mono ?_
  rintro e w3 ⟨rfl, hg3⟩
  have hT3 := HW.out.2.2.2.2.2.2.2.2.grown hg3 (by simp)
  have hgw3 := HW.out.2.2.2.2.2.2.2.1.trans hg3
  by_cases hF : F = 0
  · subst hF
    have t0 : w3.cell? ⟨g + 1, 0, none⟩ = some (.int .i64 hx) := hT3.cell 0
    have t1 : w3.cell? ⟨g + 1, 1, none⟩ = some (.int .i64 hy) := hT3.cell 1
    have t2 : w3.cell? ⟨g + 1, 2, none⟩ = some (.slice A m cp) := hT3.cell 2
    have t3 : w3.cell? ⟨g + 1, 3, none⟩ = some (.int .i64 st) := hT3.cell 3
    have H3 := Lib.hid hgw3
    clear hg3 hT3 hgw3
    by_cases hm8 : 8 < m
    · have hE2 : E = 2 := by have := HW.out.2.2.2.2.2.1; rw [if_neg (by simp), if_pos hm8] at this; exact this.symm
      have hO2 : O = ([], 0) := by have := HW.out.2.2.2.2.2.2.1; rw [if_pos (by rw [hE2]; decide)] at this; exact this.symm
      subst hE2 hO2
      have hm8' : (8 : Int) < (m : Int) := by omega
      clear hm8
      go_wp2_with fail
      go_ret3
      exact ⟨⟨_, rfl, World.ownsRow_nil _ _ _ _⟩, H3.out⟩
    · have hm8' : (m : Int) ≤ 8 := by omega
      have Hm := Lib.hid hm8
      clear hm8
      go_wp2_with fail
      refine (HW.out.2.2.2.2.1 w3 H3.out (by trivial)).mono ?_
      rintro e w4 ⟨⟨v, rfl, hv⟩, hg4⟩
      have H4 := Lib.hid (And.intro hv (H3.out.trans hg4))
      clear hv hg4 t0 t1 t2 t3
      by_cases hM : M.2 < bigM
      · have hE2 : E = 0 := by have := HW.out.2.2.2.2.2.1; rw [if_neg (by simp), if_neg Hm.out, if_pos hM] at this; exact this.symm
        have hO2 : O = M := by have := HW.out.2.2.2.2.2.2.1; rw [if_neg (by rw [hE2]; decide)] at this; exact this.symm
        subst hE2 hO2
        have hd : decide (O.2 < bigM) = true := decide_eq_true hM
        rw [hd]
        clear hM hd
        go_wp2_with fail
        go_ret3
        exact ⟨⟨_, rfl, own_mono H4.out.1 H3.out.size⟩, H4.out.2⟩
      · have hE2 : E = 8 := by have := HW.out.2.2.2.2.2.1; rw [if_neg (by simp), if_neg Hm.out, if_neg hM] at this; exact this.symm
        have hO2 : O = ([], 0) := by have := HW.out.2.2.2.2.2.2.1; rw [if_pos (by rw [hE2]; decide)] at this; exact this.symm
        subst hE2 hO2
        have hd : decide (M.2 < bigM) = false := decide_eq_false hM
        rw [hd]
        clear hM hd
        go_wp2_with fail
        go_ret3
        exact ⟨⟨_, rfl, World.ownsRow_nil _ _ _ _⟩, H4.out.2⟩
  · have hE2 : E = F := by have := HW.out.2.2.2.2.2.1; rw [if_pos hF] at this; exact this.symm
    have hO2 : O = ([], 0) := by have := HW.out.2.2.2.2.2.2.1; rw [if_pos (by rw [hE2]; exact hF)] at this; exact this.symm
    subst hE2 hO2
    have H3 := Lib.hid hgw3
    clear hg3 hT3 hgw3
    go_wp2_with fail
    go_ret3
    exact ⟨⟨_, rfl, World.ownsRow_nil _ _ _ _⟩, H3.out⟩

end Go.Proofs.YtcipidfbclohoaaDoor
