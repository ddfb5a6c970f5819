/- The walk of At of package shelf. -/
import Derived.Test.YtcaeochiippdgaaDoorBackV
import Derived.Test.YtcaeochiippdgaaDoorVerW
import Derived.Test.YtcaeochiippdgaaDoorRound
namespace Go.Proofs.YtcaeochiippdgaaDoor
open Go.RowKit Go.Shelf

attribute [local go_sem] Oper.semAt_some

def aE (V : List Ver) (d : Int) : Int := if versF V ≠ 0 then versF V else if btw d 0 4000 = false then 1 else atE V d
def aL (V : List Ver) (d : Int) : List ByteArray := if aE V d = 0 then atL V d else []

/-- The boxes of At: the day, the results. -/
structure AtBx (W : World) (g : Nat) (d : Int) (v : Value) (e : Int) : Prop where
  b0 : Boxed W g 3 (.int .i64 d)
  b1 : Boxed W (g + 1) 34 v
  b2 : Boxed W (g + 1 + 1) 28 (.int .i64 e)
theorem AtBx.new (w : World) (d : Int) : AtBx (((w.alloc (.cells #[.int .i64 d] 3)).alloc (.cells #[.slice none 0 0] 34)).alloc (.cells #[.int .i64 0] 28)) w.heap.size d (.slice none 0 0) 0 := by
  have h1 := Boxed.new (w.alloc (.cells #[.int .i64 d] 3)) 34 (.slice none 0 0)
  have h2 := Boxed.new ((w.alloc (.cells #[.int .i64 d] 3)).alloc (.cells #[.slice none 0 0] 34)) 28 (.int .i64 0)
  simp only [World.size_alloc] at h1 h2
  exact ⟨((Boxed.new w _ _).alloc _).alloc _, h1.alloc _, h2⟩
theorem AtBx.grown {W W' : World} {g : Nat} {d e : Int} {v : Value} (h : AtBx W g d v e) (hg : W.grownBy W' none) : AtBx W' g d v e := ⟨h.b0.kept hg (by simp), h.b1.kept hg (by simp), h.b2.kept hg (by simp)⟩
theorem AtBx.set {W : World} {g : Nat} {d e : Int} {v : Value} (h : AtBx W g d v e) (v' : Value) (e' : Int) : AtBx ((W.setCell ⟨g + 1, 0, none⟩ v').setCell ⟨g + 1 + 1, 0, none⟩ (.int .i64 e')) g d v' e' :=
  ⟨(h.b0.other (by omega) v').other (by omega) _, (h.b1.set v').other (by omega) _, (h.b2.other (by omega) v').set _⟩
theorem AtBx.cells {W : World} {g : Nat} {d e : Int} {v : Value} (h : AtBx W g d v e) : W.cell? ⟨g, 0, none⟩ = some (.int .i64 d) ∧ W.cell? ⟨g + 1, 0, none⟩ = some v ∧ W.cell? ⟨g + 1 + 1, 0, none⟩ = some (.int .i64 e) ∧ W.frozen? ⟨g + 1, 0, none⟩ = false ∧ W.frozen? ⟨g + 1 + 1, 0, none⟩ = false :=
  ⟨h.b0.cell, h.b1.cell, h.b2.cell, h.b1.frozen, h.b2.frozen⟩
theorem grown_set2 {w W : World} (h : w.grownBy W none) {g : Nat} (hg : w.heap.size ≤ g) (u v : Value) : w.grownBy ((W.setCell ⟨g + 1, 0, none⟩ u).setCell ⟨g + 1 + 1, 0, none⟩ v) none :=
  grown_set (grown_set h (.inl (by simp; omega)) _) (.inl (by simp; omega)) _

set_option maxRecDepth 100000 in
set_option maxHeartbeats 1000000 in
theorem at_bad (B : Nat) (A : Option Addr) (c : Nat) (V : List Ver) (d : Int) (w : World) (hr : RdV w B A V) (h : versF V ≠ 0 ∨ btw d 0 4000 = false) :
    Calls Tryd.prog 9 #[.slice A V.length c, .int .i64 d] w fun e w' => e = .returned (.tuple #[.slice none 0 0, .int .i64 (aE V d)]) ∧ w.grownBy w' none := by
  have hg3 : w.grownBy (((w.alloc (.cells #[.int .i64 d] 3)).alloc (.cells #[.slice none 0 0] 34)).alloc (.cells #[.int .i64 0] 28)) none := grown_alloc (grown_alloc (grown_alloc (grown_refl w) _) _) _
  have hc := checkVersions_any B A c V _ (hr.grown hg3)
  have hbx := AtBx.new w d
  obtain ⟨n, hn⟩ : ∃ n, V.length = n := ⟨_, rfl⟩
  rw [hn] at hc ⊢
  by_cases hv : versF V = 0
  · have hb : btw d 0 4000 = false := h.resolve_left (by simp [hv])
    have e : aE V d = 1 := by unfold aE; rw [if_neg (by simp [hv]), if_pos hb]
    rw [e]
    rw [hv] at hc
    have HC := Lib.hid (And.intro hc (And.intro hg3 hbx))
    clear hc e h hv hn hr hg3 hbx
    go_enter Tryd.func9, Tryd.ntmps9
    go_wp2_with fail
    refine HC.out.1.mono ?_
    rintro e w1 ⟨rfl, hg1⟩
    obtain ⟨k0, k1, k2, k3, k4⟩ := (HC.out.2.2.grown hg1).cells
    go_wp2_with fail
    refine (between_any _ _ _ _).mono ?_
    rw [hb]
    rintro e w2 ⟨rfl, rfl⟩
    have hx := ((HC.out.2.2.grown hg1).set (.slice none 0 0) 1).cells
    clear hb
    go_wp2_with fail
    refine bodyPost_ret (v := .tuple #[.slice none 0 0, .int .i64 1]) (by simp [results, Tryd.results9, go_sem, hx.2.1, hx.2.2.1]) rfl ?_
    exact ⟨rfl, grown_set2 (HC.out.2.1.trans hg1) (Nat.le_refl _) _ _⟩
  · have e : aE V d = versF V := by unfold aE; rw [if_pos hv]
    rw [e]
    have hb : (versF V != 0) = true := by rw [bne_iff_ne]; exact hv
    clear e h hn hr
    generalize versF V = f at *
    have HC := Lib.hid (And.intro hc (And.intro hg3 hbx))
    clear hc hv hg3 hbx
    go_enter Tryd.func9, Tryd.ntmps9
    go_wp2_with fail
    refine HC.out.1.mono ?_
    rintro e w1 ⟨rfl, hg1⟩
    obtain ⟨k0, k1, k2, k3, k4⟩ := (HC.out.2.2.grown hg1).cells
    have hx := ((HC.out.2.2.grown hg1).set (.slice none 0 0) f).cells
    go_wp2_with fail
    refine bodyPost_ret (v := .tuple #[.slice none 0 0, .int .i64 f]) (by simp [results, Tryd.results9, go_sem, hx.2.1, hx.2.2.1]) rfl ?_
    exact ⟨rfl, grown_set2 (HC.out.2.1.trans hg1) (Nat.le_refl _) _ _⟩

theorem boxed_keep {X Y : World} {row : Option Nat} {B B0 : Nat} {t : TypeId} {v : Value} (h : Boxed X B t v) (hg : X.grownBy Y row) (hr : ∀ r, row = some r → B0 ≤ r ∧ ∃ o : Obj, X.heap[r]? = some o ∧ o.isCells = false) : Boxed Y B t v :=
  h.kept hg (fun e => by obtain ⟨_, o, ho, hc⟩ := hr _ e.symm; rw [show X.heap[B]? = _ from h] at ho; cases ho; cases hc)
theorem row_keep {X Y : World} {row : Option Nat} {B0 base e size n : Nat} {v : Value} {xs : List Value} (h : X.ownsRow base e size v n xs) (hg : X.grownBy Y row) (hr : ∀ r, row = some r → B0 ≤ r ∧ ∃ o : Obj, X.heap[r]? = some o ∧ o.isCells = false) : Y.ownsRow base e size v n xs := by
  refine h.kept hg ?_
  rcases h.2 with ⟨rfl, _⟩ | ⟨g, cap, cur, rfl, _, hgb, _⟩
  · exact .inl rfl
  · refine .inr fun e' => ?_
    obtain ⟨_, o, ho, hc⟩ := hr g (by simpa [Value.ownBlock] using e'.symm)
    rw [hgb] at ho; cases ho; cases hc
/-- Between two rounds of At. -/
def AtI (w : World) (d : Int) {l : List Vr} (m : Nat) (pre : List (BackV l)) (W : World) : Prop :=
  AtBx W w.heap.size d (.slice none 0 0) 0 ∧ (∀ z ∈ pre, d < z.1.2.f) ∧ Below w.heap.size w W ∧ m ≤ W.heap.size
/-- A round has returned. -/
def AtX (w : World) (d : Int) {l : List Vr} (c : Code) (pre : List (BackV l)) (W : World) : Prop :=
  c = .ret ∧ ∃ pre' y v, pre = pre' ++ [y] ∧ (∀ z ∈ pre', d < z.1.2.f) ∧ y.1.2.f ≤ d ∧ AtBx W w.heap.size d v 0 ∧ W.ownsRow w.heap.size 9 1 v y.1.2.n (strs y.1.2.ks) ∧ Below w.heap.size w W
theorem AtBx.keep {X Y : World} {row : Option Nat} {g B0 : Nat} {d e : Int} {v : Value} (h : AtBx X g d v e) (hg : X.grownBy Y row) (hr : ∀ r, row = some r → B0 ≤ r ∧ ∃ o : Obj, X.heap[r]? = some o ∧ o.isCells = false) : AtBx Y g d v e :=
  ⟨boxed_keep h.b0 hg hr, boxed_keep h.b1 hg hr, boxed_keep h.b2 hg hr⟩
theorem below_keep {w X Y : World} {row : Option Nat} {B0 : Nat} (h : Below w.heap.size w X) (hb : w.heap.size ≤ B0) (hg : X.grownBy Y row) (hr : ∀ r, row = some r → B0 ≤ r ∧ ∃ o : Obj, X.heap[r]? = some o ∧ o.isCells = false) : Below w.heap.size w Y :=
  h.grown hg h.size (fun k e => Nat.le_trans hb (hr k e).1)
theorem atI_own (w : World) (d : Int) (l : List Vr) (m B0 : Nat) (hb : w.heap.size ≤ B0) : OwnFrom B0 (AtI w d (l := l) m) := by
  rintro s X Y row ⟨h1, h2, h3, h4⟩ hg hr
  exact ⟨h1.keep hg hr, h2, below_keep h3 hb hg hr, Nat.le_trans h4 hg.size⟩
theorem atX_own (w : World) (d : Int) (l : List Vr) (c : Code) (B0 : Nat) (hb : w.heap.size ≤ B0) : OwnFrom B0 (AtX w d (l := l) c) := by
  rintro s X Y row ⟨h0, pre', y, v, h1, h2, h3, h4, h5, h6⟩ hg hr
  exact ⟨h0, pre', y, v, h1, h2, h3, h4.keep hg hr, row_keep h5 hg hr, below_keep h6 hb hg hr⟩
theorem AtBx.alloc {W : World} {g : Nat} {d e : Int} {v : Value} (h : AtBx W g d v e) (o : Obj) : AtBx (W.alloc o) g d v e := ⟨h.b0.alloc o, h.b1.alloc o, h.b2.alloc o⟩

set_option maxRecDepth 100000 in
set_option maxHeartbeats 2000000 in
theorem at_ok (B : Nat) (A : Option Addr) (c : Nat) (V : List Ver) (d : Int) (w : World) (hr : RdV w B A V) (hv : versF V = 0) (hb : btw d 0 4000 = true) :
    Calls Tryd.prog 9 #[.slice A V.length c, .int .i64 d] w fun e w' => ∃ v, e = .returned (.tuple #[v, .int .i64 (atE V d)]) ∧
      w'.ownsRow w.heap.size 9 1 v (atL V d).length (strs (atL V d)) ∧ w.grownBy w' none := by
  have hg3 : w.grownBy (((w.alloc (.cells #[.int .i64 d] 3)).alloc (.cells #[.slice none 0 0] 34)).alloc (.cells #[.int .i64 0] 28)) none := grown_alloc (grown_alloc (grown_alloc (grown_refl w) _) _) _
  have hc := checkVersions_any B A c V _ (hr.grown hg3)
  have hbx := AtBx.new w d
  have hall := (vers_ok hv).2.1
  obtain ⟨n, hn⟩ : ∃ n, V.length = n := ⟨_, rfl⟩
  rw [hv] at hc
  have h200 := (vers_ok hv).1
  rw [hn] at hc h200 ⊢
  have HC := Lib.hid (And.intro hc (And.intro hg3 (And.intro hbx (And.intro hr (And.intro hall hn)))))
  clear hc hg3 hbx hr hall hn hv
  refine (callsIn_wide (n := 3)).1 ?_
  refine callsIn_of_wp_marks Tryd.func9 rfl trivial ?_ rfl
  simp only [Tryd.ntmps9, List.size_toArray, List.length_cons, List.length_nil, Nat.reduceAdd, Nat.reduceSub, Array.replicate_succ, Array.replicate_zero, List.push_toArray, List.append_toArray, List.nil_append, List.cons_append]
  refine wpIn_wide.2 ?_
  go_wp2_with fail
  refine HC.out.1.mono ?_
  rintro e w1 ⟨rfl, hg1⟩
  obtain ⟨k0, k1, k2, k3, k4⟩ := (HC.out.2.2.1.grown hg1).cells
  go_wp2_with fail
  refine (between_any _ _ _ _).mono ?_
  rw [hb]
  rintro e w2 ⟨rfl, rfl⟩
  clear hb
  go_wp2_with fail
  refine (backV_any _ _ _ _).mono ?_
  rintro e w' ⟨rfl, rfl⟩
  go_wp2_with fail
  have hz1 := HC.out.2.1.size
  have hz2 := hg1.size
  simp only [World.size_alloc] at hz1 hz2
  have hgW : w.grownBy w1 none := HC.out.2.1.trans hg1
  have hbW := (HC.out.2.2.1.grown hg1).alloc (.cells #[.slice A n c] 26)
  have hgL : w.grownBy (w1.alloc (.cells #[.slice A n c] 26)) none := grown_alloc hgW _
  have bS := Boxed.new w1 26 (.slice A n c)
  obtain ⟨Bs, hBs⟩ : ∃ Bs, w1.heap.size = Bs := ⟨_, rfl⟩
  rw [hBs] at bS hz2 ⊢
  have hsz : (w1.alloc (.cells #[.slice A n c] 26)).heap.size = Bs + 1 := by rw [World.size_alloc, hBs]
  generalize w1.alloc (.cells #[.slice A n c] 26) = WL at *
  clear hBs k0 k1 k2 k3 k4 hg1 hgW
  have hBL : Below w.heap.size w WL := (Below.refl _ _).grown hgL (Nat.le_refl _) (fun k hk => by cases hk)
  obtain ⟨_, l, hl1, hl2, hl3⟩ := HC.out.2.2.2.1
  rw [HC.out.2.2.2.2.2] at hl2
  have hln : l.length = n := by have := congrArg List.length hl1; rw [List.length_map, HC.out.2.2.2.2.2] at this; exact this
  have HL := Lib.hid (And.intro hl1 (And.intro hl3 hln))
  clear hl1 hl3
  refine (wpIn_wide (n := 3)).1 ?_
  refine wpIn_rangeFunc_ownH rfl (by omega) (gf := 29) (lb := #[.pointer (some ⟨Bs, 0, none⟩)]) rfl trivial (enters_of Tryd.func29 (by kernel_rfl) rfl)
    (backV_stops 2 Bs n c A l w WL hln hl2 (by omega) hBL bS.cell (by omega) (by omega)) BackKp.trans (BackKp.put (by omega)) (Below.refl _ _) (fun _ => rfl)
    (AtI w d (Bs + 1)) (AtX w d) (atI_own w d l (Bs + 1) _ (by omega)) (fun cc => atX_own w d l cc _ (by omega))
    ⟨hbW, by simp, hBL, by omega⟩
    (fun y a' W => ∃ Bx, Bs + 1 ≤ Bx ∧ (W.heap[Bx]? = some (.cells #[.int .i64 y.1.2.f, .slice y.1.2.A y.1.2.n y.1.2.c] 43 (0, 0))) ∧
      a' = { tmps := #[.slice A n c, .int .i64 d, undef, .pointer (some ⟨w.heap.size, 0, none⟩), .pointer (some ⟨w.heap.size + 1, 0, none⟩), .pointer (some ⟨w.heap.size + 1 + 1, 0, none⟩), .int .i64 0, undef, .pointer (some ⟨Bx, 0, none⟩),
        .slice A n c, .int .i64 0, .int .i64 0, .bool false, undef, .int .i64 d, .bool true, .bool false, .slice A n c, .func (.func 29) #[] #[.pointer (some ⟨Bs, 0, none⟩)],
        .int .i64 (y.1.1 : Int), .agg #[.int .i64 y.1.2.f, .slice y.1.2.A y.1.2.n y.1.2.c], undef, undef, undef, undef, undef, undef, undef], defers := [] })
    ?hAx ?assign ?body ?done ?stop
  case hAx =>
    rintro y a' _ X Y row ⟨Bx, h1, h2, h3⟩ hg' hr
    exact ⟨Bx, h1, (hg'.block Bx (Array.getElem?_eq_some_iff.1 h2).1 (fun e => by obtain ⟨_, o, ho, hc⟩ := hr Bx e.symm; rw [h2] at ho; cases ho; cases hc)).trans h2, h3⟩
  case assign =>
    rintro lp pre y W K hi hK
    simp only [backArgsV]
    gi_wp2
    obtain ⟨h1, h2, h4, h5⟩ := hi
    refine hK _ _ ((KeepsOthers.alloc _ _).from _) ⟨(Below.refl _ W).alloc h4.size _, fun v hv => (World.cell?_alloc_lt _ _ _ (World.block_lt_of_cell? W _ hv)).trans hv⟩ ⟨h1.alloc _, h2, h4.alloc h4.size _, by simp; omega⟩ ⟨W.heap.size, h5, heap_alloc_new W _, rfl⟩
  case body =>
    rintro lp pre y a' W hl ⟨r, hr'⟩ ⟨h1, h2, h4, h5⟩ ⟨Bx, hBx, bX, rfl⟩ hlt
    obtain ⟨k0, k1, k2, k3, k4⟩ := h1.cells
    have x0 : W.cell? ⟨Bx, 0, none⟩ = some (.int .i64 y.1.2.f) := by simp [World.cell?, bX]
    have x1 : W.cell? ⟨Bx, 1, none⟩ = some (.slice y.1.2.A y.1.2.n y.1.2.c) := by simp [World.cell?, bX]
    have hy := y.2
    have hok : VrOk w B y.1.2 := HL.out.2.1 _ (List.mem_of_getElem? hy)
    have hks : y.1.2.n ≤ 1000000 := by
      have hm : verK y.1.2 ∈ V := by rw [← HL.out.1]; exact List.mem_map.2 ⟨_, List.mem_of_getElem? hy, rfl⟩
      have := (HC.out.2.2.2.2.1 _ hm).2.2.1
      have h3 : (verK y.1.2).ks.length = y.1.2.n := hok.len
      omega
    have HY := Lib.hid (And.intro hy (And.intro hok hks))
    clear hy hok hks
    by_cases hle : y.1.2.f ≤ d
    · have hrd : Rd W 1 y.1.2.A y.1.2.n (strs y.1.2.ks) := HY.out.2.1.1.grown (below_grown h4)
      have HR := Lib.hid (And.intro hrd h1)
      clear hrd h1
      gi_wp2_with (refine ⟨trivial, ?_⟩; gi_at_call 14; refine (CallsIn.inRound lp (callsIn_wide.2 (cloneStr_any _ _ _ y.1.2.ks W HR.out.1 HY.out.2.2))).mono ?_; rintro e w3 ⟨v, rfl, hown, hg3⟩; obtain ⟨Av, cv, hve, _, _, _, _⟩ := Rd.of_own hown; subst hve; obtain ⟨q0, q1, q2, q3, q4⟩ := (HR.out.2.grown hg3).cells)
      have hz4 := h4.size
      have hs1 := grown_set (World.grownBy.refl w3 (some (w.heap.size + 1))) (p := ⟨w.heap.size + 1, 0, none⟩) (.inr rfl) (.slice Av y.1.2.n cv)
      have ho1 := hown.kept hs1 (own_ne hown (by omega))
      have hs2 := grown_set (World.grownBy.refl (w3.setCell ⟨w.heap.size + 1, 0, none⟩ (.slice Av y.1.2.n cv)) (some (w.heap.size + 1 + 1))) (p := ⟨w.heap.size + 1 + 1, 0, none⟩) (.inr rfl) (.int .i64 0)
      have ho2 := ho1.kept hs2 (own_ne ho1 (by omega))
      exact ⟨(((KeepsOthers.of_grownBy hg3 (fun _ _ e _ => by cases e)).trans (KeepsOthers.setCell _ _ _)).trans (KeepsOthers.setCell _ _ _)).from _, rfl, pre, y, _, rfl, h2, hle, (HR.out.2.grown hg3).set _ 0, own_mono ho2 (by omega),
        ((h4.grown hg3 h4.size (fun k e => by cases e)).setCell (p := ⟨w.heap.size + 1, 0, none⟩) (by simp) _).setCell (p := ⟨w.heap.size + 1 + 1, 0, none⟩) (by simp; omega) _⟩
    · have hle' : d < y.1.2.f := by omega
      gi_wp2
      exact ⟨(KeepsOthers.refl _).from _, BackKp.refl _ _ _, h1, fun z hz => (List.mem_append.1 hz).elim (h2 z) (fun e => by simp at e; subst e; exact hle'), h4, h5⟩
  case done =>
    rintro D ys W hD rfl ⟨h1, h2, h4, h5⟩ hK
    have h0 := back_miss h2
    obtain ⟨k0, k1, k2, k3, k4⟩ := h1.cells
    have hs := h1.set (.slice none 0 0) 8
    have hKo : KeepsOthers W ((W.setCell ⟨w.heap.size + 1, 0, none⟩ (.slice none 0 0)).setCell ⟨w.heap.size + 1 + 1, 0, none⟩ (.int .i64 8)) := (KeepsOthers.setCell _ _ _).trans (KeepsOthers.setCell _ _ _)
    have hK' := hKo.same D _ hK rfl
    have hbl : Below w.heap.size w ((W.setCell ⟨w.heap.size + 1, 0, none⟩ (.slice none 0 0)).setCell ⟨w.heap.size + 1 + 1, 0, none⟩ (.int .i64 8)) := (h4.setCell (p := ⟨w.heap.size + 1, 0, none⟩) (by simp) _).setCell (p := ⟨w.heap.size + 1 + 1, 0, none⟩) (by simp; omega) _
    have hf := (hs.keep (B0 := 0) (grownBy_putObj' _ D (.deferred none)) (fun r e => by cases e; exact ⟨Nat.zero_le _, _, hK', rfl⟩)).cells
    have HV : lastV V d V.length = 0 := by rw [← HL.out.1, List.length_map]; exact h0
    have hE : atE V d = 8 := by unfold atE; rw [if_pos HV]
    have hL : atL V d = [] := by unfold atL; rw [if_pos HV]
    have HE := Lib.hid (And.intro hE hL)
    clear hE hL HV h0
    go_wp2_with fail
    refine ⟨by simp, .inl ⟨_, _, rfl, run_takeDeferred hK', ?_⟩⟩
    refine ⟨.tuple #[.slice none 0 0, .int .i64 8], ?_, .slice none 0 0, by rw [HE.out.1], by rw [HE.out.2]; exact World.ownsRow_nil _ _ _ _, below_grown (hbl.trans (belowK_b (w := w) (Nat.le_refl _) _ D _ _ (by omega) hK' rfl rfl))⟩
    simp [results, Tryd.f9, go_sem, hf.2.1, hf.2.2.1]
  case stop =>
    rintro D cc pre W hD ⟨k, hk⟩ ⟨rfl, pre', y, v, hp, h2, hle, h1, hown, h4⟩ hK
    rw [hp] at hk
    have h0 := back_hit hk h2 hle
    have hf := (h1.keep (B0 := 0) (grownBy_putObj' _ D (.deferred none)) (fun r e => by cases e; exact ⟨Nat.zero_le _, _, hK, rfl⟩)).cells
    have ho := ownsRow_putObj (W := W) hown (.deferred none) hK rfl
    have HV : lastV V d V.length = y.1.1 + 1 := by rw [← HL.out.1, List.length_map]; exact h0
    have hgd : V.getD y.1.1 default = verK y.1.2 := by rw [← HL.out.1]; simp [List.getD, y.2]
    have hE : atE V d = 0 := by unfold atE; rw [if_neg (by omega)]
    have hL : atL V d = y.1.2.ks := by unfold atL atK; rw [if_neg (by omega), HV, Nat.add_sub_cancel, hgd]; rfl
    have hlk : y.1.2.ks.length = y.1.2.n := (HL.out.2.1 _ (List.mem_of_getElem? y.2)).len
    have HE := Lib.hid (And.intro hE (And.intro hL hlk))
    clear hE hL HV h0 hgd hlk
    gi_wp2
    refine ⟨by simp, .inl ⟨_, _, rfl, run_takeDeferred hK, ?_⟩⟩
    refine ⟨.tuple #[v, .int .i64 0], ?_, v, by rw [HE.out.1], by rw [HE.out.2.1, HE.out.2.2]; exact ho, below_grown (h4.trans (belowK_b (w := w) (Nat.le_refl _) W D _ _ (by omega) hK rfl rfl))⟩
    simp [results, Tryd.f9, go_sem, hf.2.1, hf.2.2.1]

end Go.Proofs.YtcaeochiippdgaaDoor
