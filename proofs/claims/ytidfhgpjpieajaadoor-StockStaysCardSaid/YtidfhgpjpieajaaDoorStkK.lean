/- The walk of package stock's Sell. -/
import Derived.Test.YtidfhgpjpieajaaDoorStkJ
import Derived.Maps.AppendAt
namespace Go.Proofs.YtidfhgpjpieajaaDoor
open Go.RowKit

theorem results_cell_tmp2 {fn : Func} {p u v : Tmp} {ty : TypeId} (h : fn.results = #[.cell p ty, .tmp u, .tmp v]) (tmps : Array Value) (P : Program) (w : World) :
    (results fn tmps).run P w =
      ((asAddr (tmps.getD p undef)).run P w).andThen fun a w₁ => ((loadVar ty a).run P w₁).andThen fun x w₂ => .ok (.tuple #[x, tmps.getD u undef, tmps.getD v undef]) w₂ := by
  simp only [results, h]
  simp [Sem.run_bind, Result.andThen]
theorem results_row_tmp2 {P : Program} {fn : Func} {p u v : Tmp} {ty : TypeId} (h : fn.results = #[.cell p ty, .tmp u, .tmp v]) (tmps : Array Value) (w : World) (g : Nat) (t : TypeId) (cs : Array Value) (fr : Nat × Nat) (d : TypeDesc)
    (hp : tmps.getD p undef = .pointer (some ⟨g, 0, none⟩)) (hg : w.heap[g]? = some (.cells cs t fr))
    (hu : P.underlying ty = some d) (hd : (match d with | .struct _ | .array _ _ => true | _ => false) = true) (hi : (P.info? ty).map (·.size) = some cs.size) :
    (results fn tmps).run P w = .ok (.tuple #[.agg cs, tmps.getD u undef, tmps.getD v undef]) w := by
  have hp' : tmps[p]?.getD undef = .pointer (some ⟨g, 0, none⟩) := by simpa using hp
  rw [results_cell_tmp2 h]
  simp [hp', asAddr, run_loadVar_row w g t ty cs fr d hg hu hd hi, Result.andThen]

/-- append(out, one): where the new slice lies. -/
theorem ap_pc_at {ops : Array Oper} {rest : List Oper} {o : Oper} {a : Act} {Q : Exit → Act → World → Prop} (w : World) (y : Pc) (hgd : o.guard = none) (s x : Operand)
    (ho : o.op = .call { callee := .builtin .append, args := #[s, x], argTypes := #[36, 36] }) (base : Nat) (v : Value) (l : List Pc)
    (hs : a.eval s = v) (hown : w.ownsRow base 54 2 v l.length (pcFlat l)) (N : Nat) (hN : w.heap.size = N) (hx : a.eval x = .slice (some ⟨N, 0, none⟩) 1 1) (hlen : l.length ≤ 1000000000) (hbase : base ≤ w.heap.size)
    (h : ∀ v' w', w'.ownsRow base 54 2 v' (l ++ [y]).length (pcFlat (l ++ [y])) → (w.alloc (.cells #[.string y.lot, .int .i64 y.mn] 54)).grownBy w' v.ownBlock → (v'.ownBlock = v.ownBlock ∨ v'.ownBlock = some (w.heap.size + 1)) → wpList Tryd.prog ops Q rest (a.put o.dst v') w') :
    wpList Tryd.prog ops Q (o :: rest) a (w.alloc (.cells #[.string y.lot, .int .i64 y.mn] 54)) := by
  subst hN
  obtain ⟨i0, hi, hz0, hz1, hz2⟩ := info_parts Tryd.infoPc
  refine wpList_append_own_at _ hgd s x 36 ho base 54 i0 (.agg #[.string ByteArray.empty, .int .i64 0]) 2 24 Tryd.underlying36 hi hz0 hz1 hz2 rfl (by decide) v l.length (pcFlat l) hs (hown.alloc _) ⟨w.heap.size, 0, none⟩ 1 1 (pcCells y) hx rfl
    (cells_new w #[.string y.lot, .int .i64 y.mn] _) (pc_one y) (by unfold maxLen; omega) (by omega) (by simp; omega) ?_
  intro v' w' h1 h2 _ h4
  exact h v' w' (by simpa [pcFlat] using h1) h2 (by simpa using h4)

/-- Two slices do not share a block. -/
def Apart (v u : Value) : Prop := ∀ g, v.ownBlock = some g → u.ownBlock ≠ some g
theorem Apart.symm {v u : Value} (h : Apart v u) : Apart u v := fun g hu hv => h g hv hu
theorem Apart.keep {v u : Value} (h : Apart v u) : v.ownBlock = none ∨ v.ownBlock ≠ u.ownBlock := by
  cases hv : v.ownBlock with
  | none => exact .inl rfl
  | some g => exact .inr fun e => h g hv e.symm
theorem Apart.next {w : World} {base e size n : Nat} {v v' u : Value} {xs : List Value} {k : Nat} (h : Apart v u) (hu : w.ownsRow base e size u n xs) (hk : w.heap.size ≤ k) (hv : v'.ownBlock = v.ownBlock ∨ v'.ownBlock = some k) : Apart v' u := by
  intro g hg hug
  rcases hv with hv | hv
  · exact h g (by rw [← hv]; exact hg) hug
  · rw [hv] at hg
    injection hg with hg
    have := (hu.lt g hug).2
    omega

/-- Selling under way: how many units are still to be sold, what is sold, what is left. -/
structure SlS where
  m : Int
  sold : List Pc
  rest : List Pc
def sellStep (s : SlS) (x : Pc) : SlS :=
  ⟨s.m - min s.m x.mn, if 0 < min s.m x.mn then s.sold ++ [⟨x.lot, min s.m x.mn⟩] else s.sold, if min s.m x.mn < x.mn then s.rest ++ [⟨x.lot, x.mn - min s.m x.mn⟩] else s.rest⟩
def sellRun (m : Int) (l : List Pc) : SlS := l.foldl sellStep ⟨m, [], []⟩
theorem sellRun_take {m : Int} {l : List Pc} {j : Nat} {x : Pc} (ht : l[j]? = some x) : sellRun m (l.take (j + 1)) = sellStep (sellRun m (l.take j)) x := by
  rw [take_at ht]; simp [sellRun, List.foldl_append]
def SOk (s : SlS) (b : Nat) : Prop := (0 ≤ s.m ∧ s.m ≤ 1000) ∧ s.sold.length ≤ b ∧ s.rest.length ≤ b ∧ (∀ t ∈ s.sold, 1 ≤ t.mn ∧ t.mn ≤ 1000) ∧ ∀ t ∈ s.rest, 1 ≤ t.mn ∧ t.mn ≤ 1000
theorem SOk.next {s : SlS} {b : Nat} {x : Pc} (h : SOk s b) (hx : 1 ≤ x.mn ∧ x.mn ≤ 1000) : SOk (sellStep s x) (b + 1) := by
  obtain ⟨h1, h2, h3, h4, h5⟩ := h
  unfold sellStep
  obtain ⟨q, hq⟩ : ∃ q, min s.m x.mn = q := ⟨_, rfl⟩
  rw [hq]
  have hqb : 0 ≤ q ∧ q ≤ s.m ∧ q ≤ x.mn := by omega
  refine ⟨by simp only; omega, ?_, ?_, ?_, ?_⟩
  · simp only; split <;> (try simp) <;> omega
  · simp only; split <;> (try simp) <;> omega
  · simp only
    split
    · intro t ht
      rcases List.mem_append.1 ht with ht | ht
      · exact h4 t ht
      · rw [List.mem_singleton.1 ht]; simp only; omega
    · exact h4
  · simp only
    split
    · intro t ht
      rcases List.mem_append.1 ht with ht | ht
      · exact h5 t ht
      · rw [List.mem_singleton.1 ht]; simp only; omega
    · exact h5
theorem SOk.run {m : Int} {l : List Pc} (hm : 0 ≤ m ∧ m ≤ 1000) (h : ∀ t ∈ l, PcOk t) (j : Nat) (hj : j ≤ l.length) : SOk (sellRun m (l.take j)) j := by
  induction j with
  | zero => exact ⟨hm, by simp [sellRun], by simp [sellRun], by simp [sellRun], by simp [sellRun]⟩
  | succ j ih =>
    have ht : l[j]? = some l[j] := List.getElem?_eq_getElem (by omega)
    rw [sellRun_take ht]
    exact (ih (by omega)).next (h _ (List.getElem_mem _)).2

/-- What is wrong with selling. -/
def sellF (C : Coil) (m : Int) : Int := if coilF C ≠ 0 then coilF C else if btw m 0 1000 = false then 1 else if numP C.ps < m then 8 else 0

set_option maxRecDepth 100000 in
set_option maxHeartbeats 2000000 in
theorem sell_bad (C : Coil) (m : Int) (A : Option Addr) (c : Nat) (w : World) (hr : Rd w 2 A C.ps.length (pcFlat C.ps)) (hlen : C.ps.length ≤ 1000000) (hF : sellF C m ≠ 0) :
    Calls Tryd.prog 53 #[.agg #[.string C.pr, .int .i64 C.most, .slice A C.ps.length c], .int .i64 m] w
      fun e w' => e = .returned (.tuple #[.agg #[.string ByteArray.empty, .int .i64 0, .slice none 0 0], .slice none 0 0, .int .i64 (sellF C m)]) ∧ w.grownBy w' none := by
  have hg0 := grown_alloc (grown_refl w) (.cells #[.string C.pr, .int .i64 C.most, .slice A C.ps.length c] 58)
  have hB := Blk.new w 58 #[.string C.pr, .int .i64 C.most, .slice A C.ps.length c]
  have hR := Blk.new (w.alloc (.cells #[.string C.pr, .int .i64 C.most, .slice A C.ps.length c] 58)) 58 #[.string ByteArray.empty, .int .i64 0, .slice none 0 0]
  rw [show (w.alloc (.cells #[.string C.pr, .int .i64 C.most, .slice A C.ps.length c] 58)).heap.size = w.heap.size + 1 from by simp] at hR
  have hB1 := hB.alloc (.cells #[.string ByteArray.empty, .int .i64 0, .slice none 0 0] 58)
  have hg1 := grown_alloc hg0 (.cells #[.string ByteArray.empty, .int .i64 0, .slice none 0 0] 58)
  have hck := checkCoil_any C A c _ (hr.grown hg1) hlen
  have k0 := hB1.three
  have hfin : ∀ wz, w.grownBy wz none → Blk wz (w.heap.size + 1) 58 #[.string ByteArray.empty, .int .i64 0, .slice none 0 0] →
      Blk (((wz.setCell ⟨w.heap.size + 1, 0, none⟩ (.string ByteArray.empty)).setCell ⟨w.heap.size + 1, 1, none⟩ (.int .i64 0)).setCell ⟨w.heap.size + 1, 2, none⟩ (.slice none 0 0)) (w.heap.size + 1) 58 #[.string ByteArray.empty, .int .i64 0, .slice none 0 0] ∧
      w.grownBy (((wz.setCell ⟨w.heap.size + 1, 0, none⟩ (.string ByteArray.empty)).setCell ⟨w.heap.size + 1, 1, none⟩ (.int .i64 0)).setCell ⟨w.heap.size + 1, 2, none⟩ (.slice none 0 0)) none :=
    fun wz hgz hbz => ⟨(res_coil hbz _ _ _).1, grown_set (grown_set (grown_set hgz (p := ⟨w.heap.size + 1, 0, none⟩) (.inl (by simp)) (.string ByteArray.empty)) (p := ⟨w.heap.size + 1, 1, none⟩) (.inl (by simp)) (.int .i64 0)) (p := ⟨w.heap.size + 1, 2, none⟩) (.inl (by simp)) (.slice none 0 0)⟩
  obtain ⟨V, hV⟩ : ∃ V, sellF C m = V := ⟨_, rfl⟩
  rw [hV] at hF ⊢
  unfold sellF at hV
  by_cases h1 : coilF C = 0
  · rw [if_neg (by omega)] at hV
    rw [h1] at hck
    by_cases h2 : btw m 0 1000 = true
    · rw [if_neg (by simp [h2])] at hV
      by_cases h3 : numP C.ps < m
      · rw [if_pos h3] at hV
        subst hV
        have hpok := (coil_ok h1).2.2.2.2.1
        have hnn := fun w1 (h : w.grownBy w1 none) => number_any A C.ps.length c C.ps w1 (hr.grown h) (by omega) hpok
        obtain ⟨pr, most, ps⟩ := C
        simp only at *
        generalize numP ps = S at *
        generalize ps.length = n at *
        have HC := Lib.hid (And.intro hck (And.intro hR (And.intro hg1 (And.intro hB1 (And.intro hfin hnn)))))
        clear hck hR hg1 hB hB1 hg0 hr hfin hnn h1 hpok hF
        go_enter Tryd.func53, Tryd.ntmps53
        go_wp2_with fail
        refine HC.out.1.mono ?_
        rintro e w1 ⟨rfl, hg2⟩
        have hR1 := HC.out.2.1.grown hg2 (by simp)
        have hB1 := HC.out.2.2.2.1.grown hg2 (by simp)
        have hgA := HC.out.2.2.1.trans hg2
        have k1 := hB1.three
        clear hg2 hB1
        go_wp2_with (go_at_call 70; refine (between_any _ _ _ _).mono ?_; rintro e w' ⟨rfl, rfl⟩)
        refine (HC.out.2.2.2.2.2 _ hgA).mono ?_
        rintro e w2 ⟨rfl, hg2⟩
        have hR2 := hR1.grown hg2 (by simp)
        have r2 := hR2.three
        have HF := Lib.hid (HC.out.2.2.2.2.1 w2 (hgA.trans hg2) hR2)
        clear hR1 hR2 hgA hg2
        go_wp2_with fail
        refine bodyPost_ret (results_row_tmp2 rfl _ _ (w.heap.size + 1) _ _ _ _ rfl HF.out.1 Tryd.underlying58 rfl (by kernel_rfl)) rfl ?_
        exact ⟨rfl, HF.out.2⟩
      · rw [if_neg h3] at hV; exact absurd hV.symm hF
    · have h2' : btw m 0 1000 = false := by simpa using h2
      rw [if_pos h2'] at hV
      subst hV
      have HC := Lib.hid (And.intro hck (And.intro hR (And.intro hg1 (And.intro hB1 hfin))))
      clear hck hR hg1 hB hB1 hg0 hr hfin h1 hF h2
      go_enter Tryd.func53, Tryd.ntmps53
      go_wp2_with fail
      refine HC.out.1.mono ?_
      rintro e w1 ⟨rfl, hg2⟩
      have hR1 := HC.out.2.1.grown hg2 (by simp)
      have r1 := hR1.three
      have HF := Lib.hid (HC.out.2.2.2.2 w1 (HC.out.2.2.1.trans hg2) hR1)
      clear hg2 hR1
      go_wp2_with (go_at_call 70; refine (between_any _ _ _ _).mono ?_; rintro e w' ⟨rfl, rfl⟩)
      refine bodyPost_ret (results_row_tmp2 rfl _ _ (w.heap.size + 1) _ _ _ _ rfl HF.out.1 Tryd.underlying58 rfl (by kernel_rfl)) rfl ?_
      exact ⟨rfl, HF.out.2⟩
  · rw [if_pos h1] at hV
    rw [hV] at hck
    have hV' : (V != 0) = true := by rw [bne_iff_ne]; exact hF
    have HC := Lib.hid (And.intro hck (And.intro hR (And.intro hg1 (And.intro hB1 hfin))))
    clear hck hR hg1 hB hB1 hg0 hr hfin h1 hF hV
    go_enter Tryd.func53, Tryd.ntmps53
    go_wp2_with fail
    refine HC.out.1.mono ?_
    rintro e w1 ⟨rfl, hg2⟩
    have hR1 := HC.out.2.1.grown hg2 (by simp)
    have r1 := hR1.three
    have HF := Lib.hid (HC.out.2.2.2.2 w1 (HC.out.2.2.1.trans hg2) hR1)
    clear hg2 hR1
    go_wp2_with fail
    refine bodyPost_ret (results_row_tmp2 rfl _ _ (w.heap.size + 1) _ _ _ _ rfl HF.out.1 Tryd.underlying58 rfl (by kernel_rfl)) rfl ?_
    exact ⟨rfl, HF.out.2⟩

theorem sellF_ok {C : Coil} {m : Int} (h : sellF C m = 0) : coilF C = 0 ∧ btw m 0 1000 = true ∧ m ≤ numP C.ps := by
  unfold sellF at h
  by_cases h1 : coilF C = 0
  · rw [if_neg (by omega)] at h
    by_cases h2 : btw m 0 1000 = true
    · rw [if_neg (by simp [h2])] at h
      by_cases h3 : numP C.ps < m
      · rw [if_pos h3] at h; cases h
      · exact ⟨h1, h2, by omega⟩
    · rw [if_pos (by simpa using h2)] at h; cases h
  · rw [if_pos h1] at h; exact absurd h h1
theorem btw_in {n a b : Int} (h : btw n a b = true) : a ≤ n ∧ n ≤ b := by
  unfold btw at h
  simpa using h

/-- Selling under way, in memory. -/
structure SlI (w wr : World) (pr : ByteArray) (most : Int) (A : Option Addr) (n c : Nat) (vS vR : Value) (sold rest : List Pc) : Prop where
  so : wr.ownsRow w.heap.size 54 2 vS sold.length (pcFlat sold)
  re : wr.ownsRow w.heap.size 54 2 vR rest.length (pcFlat rest)
  ap : Apart vS vR
  bx : Blk wr w.heap.size 58 #[.string pr, .int .i64 most, .slice A n c]
  rs : Blk wr (w.heap.size + 1) 58 #[.string ByteArray.empty, .int .i64 0, .slice none 0 0]
  gr : w.grownBy wr none
section
variable {w wr wz : World} {pr : ByteArray} {most : Int} {A : Option Addr} {n c : Nat} {vS vR v5 : Value} {sold rest : List Pc} {y : Pc}
theorem SlI.alloc (h : SlI w wr pr most A n c vS vR sold rest) (o : Obj) : SlI w (wr.alloc o) pr most A n c vS vR sold rest :=
  ⟨h.so.alloc o, h.re.alloc o, h.ap, h.bx.alloc o, h.rs.alloc o, grown_alloc h.gr o⟩
theorem SlI.far (h : SlI w wr pr most A n c vS vR sold rest) : some wr.heap.size ≠ vS.ownBlock ∧ some wr.heap.size ≠ vR.ownBlock :=
  ⟨fun e => by have := (h.so.lt _ e.symm).2; omega, fun e => by have := (h.re.lt _ e.symm).2; omega⟩
theorem SlI.sell (h : SlI w wr pr most A n c vS vR sold rest) (ho : wz.ownsRow w.heap.size 54 2 v5 (sold ++ [y]).length (pcFlat (sold ++ [y]))) (hg : (wr.alloc (.cells #[.string y.lot, .int .i64 y.mn] 54)).grownBy wz vS.ownBlock)
    (hb : v5.ownBlock = vS.ownBlock ∨ v5.ownBlock = some (wr.heap.size + 1)) : SlI w wz pr most A n c v5 vR (sold ++ [y]) rest := by
  have h1 := h.alloc (.cells #[.string y.lot, .int .i64 y.mn] 54)
  exact ⟨ho, h1.re.kept hg h.ap.symm.keep, h.ap.next h.re (by omega) hb, h1.bx.grown hg (own_bx0 h1.so h1.bx (by decide)), h1.rs.grown hg (own_bx0 h1.so h1.rs (by decide)), grown_below h1.gr hg (fun i hi => .inl (h1.so.lt i hi).1)⟩
theorem SlI.left (h : SlI w wr pr most A n c vS vR sold rest) (ho : wz.ownsRow w.heap.size 54 2 v5 (rest ++ [y]).length (pcFlat (rest ++ [y]))) (hg : (wr.alloc (.cells #[.string y.lot, .int .i64 y.mn] 54)).grownBy wz vR.ownBlock)
    (hb : v5.ownBlock = vR.ownBlock ∨ v5.ownBlock = some (wr.heap.size + 1)) : SlI w wz pr most A n c vS v5 sold (rest ++ [y]) := by
  have h1 := h.alloc (.cells #[.string y.lot, .int .i64 y.mn] 54)
  exact ⟨h1.so.kept hg h.ap.keep, ho, (h.ap.symm.next h.so (by omega) hb).symm, h1.bx.grown hg (own_bx0 h1.re h1.bx (by decide)), h1.rs.grown hg (own_bx0 h1.re h1.rs (by decide)), grown_below h1.gr hg (fun i hi => .inl (h1.re.lt i hi).1)⟩
end

set_option maxRecDepth 100000 in
set_option maxHeartbeats 4000000 in
theorem sell_ok (C : Coil) (m : Int) (A : Option Addr) (c : Nat) (w : World) (hr : Rd w 2 A C.ps.length (pcFlat C.ps)) (hF : sellF C m = 0) :
    Calls Tryd.prog 53 #[.agg #[.string C.pr, .int .i64 C.most, .slice A C.ps.length c], .int .i64 m] w
      fun e w' => ∃ A' c' vS, e = .returned (.tuple #[.agg #[.string C.pr, .int .i64 C.most, .slice A' (refillP (sellRun m C.ps).rest).length c'], vS, .int .i64 0]) ∧
        w'.ownsRow w.heap.size 54 2 (.slice A' (refillP (sellRun m C.ps).rest).length c') (refillP (sellRun m C.ps).rest).length (pcFlat (refillP (sellRun m C.ps).rest)) ∧
        w'.ownsRow w.heap.size 54 2 vS (sellRun m C.ps).sold.length (pcFlat (sellRun m C.ps).sold) ∧ w.grownBy w' none := by
  obtain ⟨h1, h2, h3⟩ := sellF_ok hF
  obtain ⟨_, hmost, hlen, _, hpok, hsum⟩ := coil_ok h1
  have hm := btw_in h2
  have hrun := fun j (h : j ≤ C.ps.length) => SOk.run hm hpok j h
  have hnn := fun w1 (h : w.grownBy w1 none) => number_any A C.ps.length c C.ps w1 (hr.grown h) (by omega) hpok
  have hg0 := grown_alloc (grown_refl w) (.cells #[.string C.pr, .int .i64 C.most, .slice A C.ps.length c] 58)
  have hB := Blk.new w 58 #[.string C.pr, .int .i64 C.most, .slice A C.ps.length c]
  have hR := Blk.new (w.alloc (.cells #[.string C.pr, .int .i64 C.most, .slice A C.ps.length c] 58)) 58 #[.string ByteArray.empty, .int .i64 0, .slice none 0 0]
  rw [show (w.alloc (.cells #[.string C.pr, .int .i64 C.most, .slice A C.ps.length c] 58)).heap.size = w.heap.size + 1 from by simp] at hR
  have hB1 := hB.alloc (.cells #[.string ByteArray.empty, .int .i64 0, .slice none 0 0] 58)
  have hg1 := grown_alloc hg0 (.cells #[.string ByteArray.empty, .int .i64 0, .slice none 0 0] 58)
  have hck := checkCoil_any C A c _ (hr.grown hg1) (by omega)
  have k0 := hB1.three
  rw [h1] at hck
  have href : ∀ w1 A' c' (_ : Rd w1 2 A' (sellRun m C.ps).rest.length (pcFlat (sellRun m C.ps).rest)), Calls Tryd.prog 95 #[.agg #[.string C.pr, .int .i64 C.most, .slice A C.ps.length c], .slice A' (sellRun m C.ps).rest.length c'] w1
      fun e w' => ∃ A'' c'', e = .returned (.agg #[.string C.pr, .int .i64 C.most, .slice A'' (refillP (sellRun m C.ps).rest).length c'']) ∧ w'.ownsRow w1.heap.size 54 2 (.slice A'' (refillP (sellRun m C.ps).rest).length c'') (refillP (sellRun m C.ps).rest).length (pcFlat (refillP (sellRun m C.ps).rest)) ∧ w1.grownBy w' none := by
    have := hrun C.ps.length (Nat.le_refl _)
    rw [List.take_length] at this
    exact fun w1 A' c' h => refill_any C.pr C.most A C.ps.length c A' (sellRun m C.ps).rest.length c' (sellRun m C.ps).rest w1 h (by have := this.2.2.1; omega) (fun t ht => by have := this.2.2.2.2 t ht; omega)
  have hap0 : Apart (.slice none 0 0) (.slice none 0 0) := fun g h => by cases h
  have hz : sellRun m (C.ps.take 0) = ⟨m, [], []⟩ := rfl
  obtain ⟨pr, most, ps⟩ := C
  simp only at *
  generalize hS1 : numP ps = S1 at *
  generalize hn : ps.length = n at *
  have HC := Lib.hid (And.intro hck (And.intro hR (And.intro hg1 (And.intro hB1 (And.intro hnn (And.intro href (And.intro hrun (And.intro hpok (And.intro hn (And.intro hap0 hz))))))))))
  have hS1m : m ≤ S1 := h3
  clear hck hR hg1 hB hB1 hg0 hF hnn href hrun hpok hn hap0 hz h1 h3 hS1
  go_enter Tryd.func53, Tryd.ntmps53
  go_wp2_with fail
  refine HC.out.1.mono ?_
  rintro e w1 ⟨rfl, hg2⟩
  have hR1 := HC.out.2.1.grown hg2 (by simp)
  have hB1 := HC.out.2.2.2.1.grown hg2 (by simp)
  have hgA := HC.out.2.2.1.trans hg2
  have k1 := hB1.three
  clear hg2
  go_wp2_with (go_at_call 70; refine (between_any _ _ _ _).mono ?_; rintro e w' ⟨rfl, rfl⟩)
  refine (HC.out.2.2.2.2.1 _ hgA).mono ?_
  rintro e w2 ⟨rfl, hg2⟩
  have hR2 := hR1.grown hg2 (by simp)
  have hB2 := hB1.grown hg2 (by simp)
  have hgB := hgA.trans hg2
  have k2 := hB2.three
  clear hR1 hB1 hgA hg2 k1
  go_wp2_with fail
  go_loopg [1, 8, 9, 32] n (fun k mv vS vR i wr => ∃ j : Nat, k + j = n ∧ i = .int .i64 j ∧ mv = .int .i64 (sellRun m (ps.take j)).m ∧ SlI w wr pr most A n c vS vR (sellRun m (ps.take j)).sold (sellRun m (ps.take j)).rest)
  case atStart =>
    refine ⟨0, by omega, rfl, by rw [HC.out.2.2.2.2.2.2.2.2.2.2], ?_⟩
    rw [HC.out.2.2.2.2.2.2.2.2.2.2]
    exact ⟨World.ownsRow_nil _ _ _ _, World.ownsRow_nil _ _ _ _, HC.out.2.2.2.2.2.2.2.2.2.1, hB2, hR2, hgB⟩
  case round =>
    clear hB2 hR2 hgB k2
    obtain ⟨j, hj, rfl, rfl, H⟩ := hrel
    by_cases hlt : j < n
    · obtain ⟨b, off, rfl, hb, x, hx, c0, c1⟩ := pc_cells (hr.grown H.gr) hlt
      have hsucc := sellRun_take (m := m) hx
      have hso := HC.out.2.2.2.2.2.2.1 j (by omega)
      have hxm := (HC.out.2.2.2.2.2.2.2.1 x (List.mem_of_getElem? hx)).2
      obtain ⟨xl, xm⟩ := x
      simp only at c0 c1 hxm
      generalize sellRun m (ps.take j) = s at *
      obtain ⟨sm, sold, rest⟩ := s
      unfold SOk at hso
      unfold sellStep at hsucc
      simp only at hsucc hso H ⊢
      obtain ⟨q, hq⟩ : ∃ q, min sm xm = q := ⟨_, rfl⟩
      rw [hq] at hsucc
      obtain ⟨⟨hs0, hs1⟩, hl1, hl2, _, _⟩ := hso
      have hqb : 0 ≤ q ∧ q ≤ sm ∧ q ≤ xm := by omega
      have hH := Lib.hid H
      have hsz := H.gr.size
      have hHx := H.alloc (.cells #[.string xl, .int .i64 xm] 54)
      have hbX := Blk.new wr 54 #[.string xl, .int .i64 xm]
      obtain ⟨hnS, hnR⟩ := H.far
      have HX := Lib.hid (And.intro hHx (And.intro hbX (And.intro hnS hnR)))
      have HJ := Lib.hid hj
      clear hHx H hj hx hbX hnS hnR k0
      have hw1 : IntKind.i64.wrap (sm - q) = sm - q := IntWalk.i64_in _ (by omega)
      have hw2 : IntKind.i64.wrap (xm - q) = xm - q := IntWalk.i64_in _ (by omega)
      by_cases h0 : 0 < q
      · rw [if_pos h0] at hsucc
        by_cases h3 : q < xm
        · rw [if_pos h3] at hsucc
          have HS := Lib.hid (And.intro hsucc HJ.out)
          clear hsucc HJ
          go_wp2_with (first
            | (at_builtin; refine ap_pc_at w5 ⟨xl, xm - q⟩ rfl _ _ rfl w.heap.size _ rest rfl H5.out.re w5.heap.size rfl rfl (by omega) H5.out.gr.size ?_; intro v6 w6 ho6 hg6 hb6; have H6 := Lib.hid (H5.out.left ho6 hg6 hb6))
            | (at_builtin; refine ap_pc_at (wr.alloc (.cells #[.string xl, .int .i64 xm] 54)) ⟨xl, q⟩ rfl _ _ rfl w.heap.size _ sold rfl HX.out.1.so (wr.heap.size + 1) (by simp) rfl (by omega) HX.out.1.gr.size ?_; intro v5 w5 ho5 hg5 hb5; have H5 := Lib.hid (HX.out.1.sell ho5 hg5 hb5); have kx5 := ((HX.out.2.1.alloc _).grown hg5 (HX.out.2.2.1)).two))
          obtain ⟨hsucc, hj⟩ := HS.out
          go_roundg (gk - 1)
          case measure => omega
          case rel => exact ⟨j + 1, by omega, by go_num, by rw [hsucc], by rw [hsucc]; exact H6.out⟩
        · rw [if_neg h3] at hsucc
          have h3' : xm ≤ q := by omega
          have HS := Lib.hid (And.intro hsucc HJ.out)
          clear hsucc HJ
          go_wp2_with (at_builtin; refine ap_pc_at (wr.alloc (.cells #[.string xl, .int .i64 xm] 54)) ⟨xl, q⟩ rfl _ _ rfl w.heap.size _ sold rfl HX.out.1.so (wr.heap.size + 1) (by simp) rfl (by omega) HX.out.1.gr.size ?_; intro v5 w5 ho5 hg5 hb5; have H5 := Lib.hid (HX.out.1.sell ho5 hg5 hb5); have kx5 := ((HX.out.2.1.alloc _).grown hg5 (HX.out.2.2.1)).two)
          obtain ⟨hsucc, hj⟩ := HS.out
          go_roundg (gk - 1)
          case measure => omega
          case rel => exact ⟨j + 1, by omega, by go_num, by rw [hsucc], by rw [hsucc]; exact H5.out⟩
      · rw [if_neg h0] at hsucc
        have h0' : q ≤ 0 := by omega
        by_cases h3 : q < xm
        · rw [if_pos h3] at hsucc
          have HS := Lib.hid (And.intro hsucc HJ.out)
          clear hsucc HJ
          go_wp2_with (at_builtin; refine ap_pc_at (wr.alloc (.cells #[.string xl, .int .i64 xm] 54)) ⟨xl, xm - q⟩ rfl _ _ rfl w.heap.size _ rest rfl HX.out.1.re (wr.heap.size + 1) (by simp) rfl (by omega) HX.out.1.gr.size ?_; intro v6 w6 ho6 hg6 hb6; have H6 := Lib.hid (HX.out.1.left ho6 hg6 hb6))
          obtain ⟨hsucc, hj⟩ := HS.out
          go_roundg (gk - 1)
          case measure => omega
          case rel => exact ⟨j + 1, by omega, by go_num, by rw [hsucc], by rw [hsucc]; exact H6.out⟩
        · exact absurd h0' (by omega)
    · obtain rfl : j = n := by omega
      rw [List.take_of_length_le (by have := HC.out.2.2.2.2.2.2.2.2.1; omega)] at H ⊢
      have hl := HC.out.2.2.2.2.2.2.1 j (Nat.le_refl _)
      rw [List.take_of_length_le (by have := HC.out.2.2.2.2.2.2.2.2.1; omega)] at hl
      obtain ⟨AR, cR, rfl, _, _, hrd, _⟩ := Rd.of_own H.re
      have hrf := HC.out.2.2.2.2.2.1 wr AR cR hrd
      generalize hZ : refillP (sellRun m ps).rest = Z at *
      generalize hs : (sellRun m ps).sold = sold at *
      have HR := Lib.hid (And.intro hrf H)
      have kb := H.bx.three
      clear hrf H hrd hl
      go_wp2_with fail
      refine HR.out.1.mono ?_
      rintro e w5 ⟨A5, c5, rfl, ho5, hg5⟩
      have H := HR.out.2
      have hR5 := H.rs.grown hg5 (by simp)
      have hS5 := H.so.kept hg5 (Classical.em _)
      have hfin := res_coil hR5 (.string pr) (.int .i64 most) (.slice A5 Z.length c5)
      have hof := own_mono2 (ho5.kept hfin.2 (.inr (own_bx0 ho5 hR5 (by decide)).symm)) H.gr.size
      have hos := hS5.kept hfin.2 (.inr (own_bx0 hS5 hR5 (by decide)).symm)
      have hgf := grown_set (grown_set (grown_set (H.gr.trans hg5) (p := ⟨w.heap.size + 1, 0, none⟩) (.inl (by simp)) (.string pr)) (p := ⟨w.heap.size + 1, 1, none⟩) (.inl (by simp)) (.int .i64 most)) (p := ⟨w.heap.size + 1, 2, none⟩) (.inl (by simp)) (.slice A5 Z.length c5)
      have r5 := hR5.three
      have HF := Lib.hid (And.intro hfin.1 (And.intro hof (And.intro hos hgf)))
      clear hfin hof hos hgf ho5 hg5 hR5 hS5 H kb
      go_wp2_with fail
      refine bodyPost_ret (results_row_tmp2 rfl _ _ (w.heap.size + 1) _ _ _ _ rfl HF.out.1 Tryd.underlying58 rfl (by kernel_rfl)) rfl ?_
      subst hZ hs
      exact ⟨_, _, _, rfl, HF.out.2.1, HF.out.2.2.1, HF.out.2.2.2⟩

end Go.Proofs.YtidfhgpjpieajaaDoor
