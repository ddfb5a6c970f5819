/- The walk of the reference's payable. -/
import Derived.Test.YtoaeflegcfecaaaPayer
import Derived.Test.YtoaeflegcfecaaaChangeOf
namespace Go.Proofs.Ytoaeflegcfecaaa
open Go.RowKit

/-- A slice of truth values. -/
def bls (N : Nat) (f : Nat → Bool) : List Value := (List.range N).map fun a => Value.bool (f a)
theorem bls_len (N : Nat) (f : Nat → Bool) : (bls N f).length = N := by simp [bls]
theorem bls_at {N a : Nat} (f : Nat → Bool) (h : a < N) : (bls N f)[a]? = some (.bool (f a)) := by simp [bls, h]
theorem bls_congr {N : Nat} {f g : Nat → Bool} (h : ∀ a, a < N → f a = g a) : bls N f = bls N g := by
  unfold bls; exact List.map_congr_left fun a ha => by rw [h a (List.mem_range.1 ha)]
theorem bls_set (N : Nat) (f : Nat → Bool) (j : Nat) (x : Bool) : (bls N f).set j (.bool x) = bls N (fun a => if a = j then x else f a) := by
  apply List.ext_getElem?
  intro i
  by_cases hi : i < N
  · rw [bls_at _ hi]
    by_cases hij : j = i
    · subst hij; rw [List.getElem?_set_self (by rw [bls_len]; exact hi)]; simp
    · rw [List.getElem?_set_ne hij, bls_at _ hi, if_neg (fun e => hij e.symm)]
  · rw [List.getElem?_eq_none (by simp [bls_len]; omega), List.getElem?_eq_none (by rw [bls_len]; omega)]

/-- What can be paid with up to u further coins. -/
def canU (base : Nat → Bool) (v : Nat) : Nat → Nat → Bool
  | 0, a => base a
  | u + 1, a => canU base v u a || (decide (v ≤ a) && canU base v u (a - v))
theorem canU_iff (base : Nat → Bool) (v u a : Nat) : canU base v u a = true ↔ ∃ k, k ≤ u ∧ k * v ≤ a ∧ base (a - k * v) = true := by
  induction u generalizing a with
  | zero =>
    constructor
    · intro h; exact ⟨0, Nat.le_refl _, by omega, by simpa [canU] using h⟩
    · rintro ⟨k, h1, h2, h3⟩
      obtain rfl : k = 0 := by omega
      simpa [canU] using h3
  | succ u ih =>
    simp only [canU, Bool.or_eq_true, Bool.and_eq_true, decide_eq_true_eq, ih]
    constructor
    · rintro (⟨k, h1, h2, h3⟩ | ⟨h0, k, h1, h2, h3⟩)
      · exact ⟨k, by omega, h2, h3⟩
      · exact ⟨k + 1, by omega, by rw [Nat.add_mul]; omega, by rw [show a - (k + 1) * v = a - v - k * v from by rw [Nat.add_mul]; omega]; exact h3⟩
    · rintro ⟨k, h1, h2, h3⟩
      by_cases hk : k ≤ u
      · exact .inl ⟨k, hk, h2, h3⟩
      · obtain rfl : k = u + 1 := by omega
        rw [Nat.add_mul] at h2
        exact .inr ⟨by omega, u, Nat.le_refl _, by omega, by rw [show a - v - u * v = a - (u + 1) * v from by rw [Nat.add_mul]; omega]; exact h3⟩
/-- Nothing new: nothing new any more. -/
theorem canU_stop (base : Nat → Bool) (v u most : Nat) (h : ∀ b, b ≤ most → canU base v (u + 1) b = canU base v u b) (d a : Nat) (ha : a ≤ most) : canU base v (u + d) a = canU base v u a := by
  induction d generalizing a with
  | zero => rfl
  | succ d ih =>
    show (canU base v (u + d) a || (decide (v ≤ a) && canU base v (u + d) (a - v))) = _
    rw [ih a ha, ih (a - v) (by omega)]
    exact h a ha

/-- Whether the first i tubes can pay an amount. -/
def okF (l : List Tub) (i a : Nat) : Bool := rowF l i a != 20001
theorem okF_zero (l : List Tub) (a : Nat) : okF l 0 a = decide (a = 0) := by
  show ((if a = 0 then (0 : Int) else 20001) != 20001) = _
  by_cases h : a = 0
  · subst h; rfl
  · rw [if_neg h]; simp [h]
theorem okF_succ {l : List Tub} (hr : ∀ t ∈ l, RightT t) {i : Nat} {t : Tub} (ht : l[i]? = some t) (a : Nat) (ha : a ≤ 20000) : okF l (i + 1) a = canU (okF l i) t.v.toNat t.c.toNat a := by
  obtain ⟨r1, r2, r3, r4, r5⟩ := hr t (List.mem_of_getElem? ht)
  rw [Bool.eq_iff_iff, canU_iff]
  unfold okF
  rw [rowF_succ ht]
  simp only [bne_iff_ne, ne_eq]
  constructor
  · intro h
    obtain ⟨k, h1, h2, h3⟩ := up_ex (rowF l i) t.v.toNat t.c.toNat a
    refine ⟨k, h1, h2, fun e => h ?_⟩
    have h4 := up_bound (rowF l i) t.v.toNat t.c.toNat a (fun b => rowF_bound l i b)
    omega
  · rintro ⟨k, h1, h2, h3⟩ e
    have h4 := up_le (rowF l i) t.v.toNat t.c.toNat a k h1 h2
    have h5 := rowF_le l hr i _ h3
    have h6 : k ≤ k * t.v.toNat := Nat.le_mul_of_pos_right k (by omega)
    omega

theorem Try.infoBool : (Try.prog.info? 4).map (fun i => (i.zero, i.size, i.bytes)) = some (some (.bool false), 1, 1) := by kernel_rfl

theorem own_bool {w : World} {base g n cap : Nat} {f : Nat → Bool} (h : w.ownsRow base 4 1 (.slice (some ⟨g, 0, none⟩) n cap) n (bls n f)) {j : Nat} (hj : j < n) : w.cell? ⟨g, j, none⟩ = some (.bool (f j)) := by
  have h1 := h.cellAt j (by omega)
  rw [bls_at _ hj] at h1
  exact h1
theorem own_bool_set {w : World} {base g n cap : Nat} {f : Nat → Bool} (h : w.ownsRow base 4 1 (.slice (some ⟨g, 0, none⟩) n cap) n (bls n f)) (j : Nat) (x : Bool) :
    (w.setCell ⟨g, j, none⟩ (.bool x)).ownsRow base 4 1 (.slice (some ⟨g, 0, none⟩) n cap) n (bls n (fun a => if a = j then x else f a)) := by
  have := (h.stored j (.bool x)).1
  rw [bls_set] at this
  exact this

/-- A pass, done above a. -/
def passF (base : Nat → Bool) (v u a b : Nat) : Bool := if a ≤ b then canU base v (u + 1) b else canU base v u b

set_option maxRecDepth 100000 in
set_option maxHeartbeats 2000000 in
theorem payable_any (A : Option Addr) (n c : Nat) (l : List Tub) (most : Nat) (w : World) (hr : Rd w 3 A n (tubFlat l)) (hf : tubFault l = 0) (hm : most ≤ 20000) :
    Calls Try.prog 54 #[.slice A n c, .int .i64 most] w
      fun e w' => ∃ g cap, e = .returned (.slice (some ⟨g, 0, none⟩) (most + 1) cap) ∧ w'.ownsRow w.heap.size 4 1 (.slice (some ⟨g, 0, none⟩) (most + 1) cap) (most + 1) (bls (most + 1) (paysB l)) ∧ w.grownBy w' none := by
  have hl : l.length = n := by have := hr.1; rw [tubFlat_len] at this; omega
  obtain ⟨hlen, hright, _⟩ := right_of hf
  have hn10 : n ≤ 10 := by omega
  have HH := Lib.hid (And.intro hl hright)
  have hmk := fun w => run_make_row' (P := Try.prog) 93 4 (.bool false) 1 Try.underlying93 Try.infoBool rfl .i64 .i64 (most + 1) (by omega) (by omega) w
  rw [show ((most + 1 : Nat) : Int) = (most : Int) + 1 from by omega] at hmk
  have hz0 : (madeCells #[Value.bool false] (most + 1))[0]? = some (.bool false) := by
    rw [← Array.getElem?_toList, toList_madeCells_one]; simp
  have hcells : ((madeCells #[Value.bool false] (most + 1)).setIfInBounds 0 (.bool true)).toList = bls (most + 1) (okF l 0) := by
    rw [Array.toList_setIfInBounds, toList_madeCells_one]
    have h1 : List.replicate (most + 1) (Value.bool false) = bls (most + 1) (fun _ => false) := by
      apply List.ext_getElem?
      intro i
      by_cases hi : i < most + 1
      · rw [bls_at _ hi]; simp [hi]
      · rw [List.getElem?_eq_none (by simp; omega), List.getElem?_eq_none (by rw [bls_len]; omega)]
    rw [h1, bls_set]
    refine bls_congr fun b _ => ?_
    rw [okF_zero]
    by_cases hb : b = 0 <;> simp [hb]
  have HCL := Lib.hid hcells
  clear hf hl hlen hright hcells
  go_enter Try.func54, Try.ntmps54
  go_wp2_with fail
  have hown0 : (w.alloc (.cells ((madeCells #[Value.bool false] (most + 1)).setIfInBounds 0 (.bool true)) 4)).ownsRow w.heap.size 4 1 (.slice (some ⟨w.heap.size, 0, none⟩) (most + 1) (most + 1)) (most + 1) (bls (most + 1) (okF l 0)) := by
    have h := World.ownsRow_lit (base := w.heap.size) (size := 1) (e := 4) w ((madeCells #[Value.bool false] (most + 1)).setIfInBounds 0 (.bool true)) (most + 1) (Nat.le_refl _) (by unfold maxLen; omega) (by simp [size_madeCells])
    rw [HCL.out] at h
    exact h
  have hg0 : w.grownBy (w.alloc (.cells ((madeCells #[Value.bool false] (most + 1)).setIfInBounds 0 (.bool true)) 4)) none := grown_alloc (grown_refl w) _
  generalize w.alloc (.cells ((madeCells #[Value.bool false] (most + 1)).setIfInBounds 0 (.bool true)) 4) = w0 at *
  clear hmk hz0 HCL
  obtain ⟨g, hg⟩ : ∃ g, g = w.heap.size := ⟨_, rfl⟩
  have hgw : w.heap.size ≤ g := by omega
  have hgw2 : g ≤ w.heap.size := by omega
  rw [← hg] at hown0 ⊢
  clear hg
  go_loopg [17] n (fun k iv wr => ∃ i : Nat, k + i = n ∧ iv = .int .i64 i ∧ wr.ownsRow g 4 1 (.slice (some ⟨g, 0, none⟩) (most + 1) (most + 1)) (most + 1) (bls (most + 1) (okF l i)) ∧ w.grownBy wr none)
  case atStart => exact ⟨0, by omega, rfl, hown0, hg0⟩
  case round =>
    clear hown0 hg0
    obtain ⟨i, hi, rfl, hown, hgr⟩ := hrel
    generalize gk = ko at *
    by_cases hlt : i < n
    · obtain ⟨b, off, rfl, hb, t, ht, c0, c1, c2⟩ := tub_cells (hr.grown hgr) hlt
      obtain ⟨r1, r2, r3, r4, r5⟩ := HH.out.2 t (List.mem_of_getElem? ht)
      have hsucc : ∀ a, a ≤ 20000 → okF l (i + 1) a = canU (okF l i) t.v.toNat t.c.toNat a := fun a ha => okF_succ HH.out.2 ht a ha
      obtain ⟨tv, htv⟩ := Int.eq_ofNat_of_zero_le (show 0 ≤ t.v by omega)
      obtain ⟨tc, htc⟩ := Int.eq_ofNat_of_zero_le r3
      rw [htv] at c0
      rw [htc] at c1
      rw [htv, htc, Int.toNat_natCast, Int.toNat_natCast] at hsucc
      have htv1 : 1 ≤ tv := by omega
      have htv2 : tv ≤ 10000 := by omega
      have htc2 : tc ≤ 1000 := by omega
      have HT := Lib.hid (And.intro hsucc hi)
      clear hsucc ht htv htc hi
      go_wp2_with fail
      have hownT := hown.alloc (.cells #[.int .i64 tv, .int .i64 tc, .int .i64 t.m] 70)
      have hgT := grown_alloc hgr (.cells #[.int .i64 tv, .int .i64 tc, .int .i64 t.m] 70)
      have x0 : (wr.alloc (.cells #[.int .i64 tv, .int .i64 tc, .int .i64 t.m] 70)).cell? ⟨wr.heap.size, 0, none⟩ = some (.int .i64 tv) := by rw [World.cell?_alloc_new]; rfl
      have hlt3 := (hown.lt g rfl).2
      generalize wr.alloc (.cells #[.int .i64 tv, .int .i64 tc, .int .i64 t.m] 70) = wT at *
      generalize wr.heap.size = gT at *
      clear hown hgr c0 c1 c2
      go_loopg [23] tc (fun k uv wr => ∃ u : Nat, k + u = tc ∧ uv = .int .i64 u ∧ wr.ownsRow g 4 1 (.slice (some ⟨g, 0, none⟩) (most + 1) (most + 1)) (most + 1) (bls (most + 1) (canU (okF l i) tv u)) ∧ wT.grownBy wr (some g))
      case atStart => exact ⟨0, by omega, rfl, hownT, World.grownBy.refl _ _⟩
      case round =>
        clear hownT
        obtain ⟨u, hu, rfl, hownU, hgU⟩ := hrel
        generalize gk = ku at *
        by_cases hul : u < tc
        · have HU := Lib.hid hu
          clear hu
          have hstart : wr.ownsRow g 4 1 (.slice (some ⟨g, 0, none⟩) (most + 1) (most + 1)) (most + 1) (bls (most + 1) (passF (okF l i) tv u (most + 1))) := by
            rw [bls_congr (g := canU (okF l i) tv u) (fun b hb => by unfold passF; rw [if_neg (by omega)])]; exact hownU
          clear hownU
          go_wp2_with fail
          go_loopg [8, 9] (most + 2) (fun k cv av wr => ∃ (ch : Bool) (a : Nat), a ≤ most + 1 ∧ a < k ∧ cv = .bool ch ∧ av = .int .i64 ((a : Int) - 1) ∧ wr.ownsRow g 4 1 (.slice (some ⟨g, 0, none⟩) (most + 1) (most + 1)) (most + 1) (bls (most + 1) (passF (okF l i) tv u a)) ∧ (ch = false → ∀ b, a ≤ b → b ≤ most → canU (okF l i) tv (u + 1) b = canU (okF l i) tv u b) ∧ wT.grownBy wr (some g))
          case atStart => exact ⟨false, most + 1, Nat.le_refl _, by omega, rfl, by go_num, hstart, fun _ b h1 h2 => by omega, hgU⟩
          case round =>
            clear hstart
            obtain ⟨ch, a, ham, hak, rfl, rfl, hownA, hch, hgA⟩ := hrel
            have y0 : wr.cell? ⟨gT, 0, none⟩ = some (.int .i64 tv) := hgA.cell x0 (by simp; omega)
            by_cases hav : a ≤ tv
            · have hd : decide ((tv : Int) ≤ (a : Int) - 1) = false := by simp; omega
              have hrow : wr.ownsRow g 4 1 (.slice (some ⟨g, 0, none⟩) (most + 1) (most + 1)) (most + 1) (bls (most + 1) (canU (okF l i) tv (u + 1))) := by
                rw [bls_congr (g := passF (okF l i) tv u a) (fun b hb => by
                  unfold passF
                  by_cases h : a ≤ b
                  · rw [if_pos h]
                  · rw [if_neg h]; simp only [canU]; rw [decide_eq_false (by omega)]; simp)]
                exact hownA
              clear hownA
              cases ch
              · have hst : ∀ b, b ≤ most → canU (okF l i) tv (u + 1) b = canU (okF l i) tv u b := by
                  intro b hb
                  by_cases h : a ≤ b
                  · exact hch rfl b h hb
                  · simp only [canU]; rw [decide_eq_false (by omega)]; simp
                have HST := Lib.hid hst
                clear hst hch
                go_wp2_with fail
                obtain ⟨hsucc, hi⟩ := HT.out
                have hu := HU.out
                have hfin : wr.ownsRow g 4 1 (.slice (some ⟨g, 0, none⟩) (most + 1) (most + 1)) (most + 1) (bls (most + 1) (okF l (i + 1))) := by
                  rw [bls_congr (g := canU (okF l i) tv (u + 1)) (fun b hb => by
                    rw [hsucc b (by omega), show tc = u + (tc - u) from by omega, canU_stop _ _ _ most HST.out _ b (by omega), HST.out b (by omega)])]
                  exact hrow
                go_roundg (ko - 1)
                case measure => omega
                case rel => exact ⟨i + 1, by omega, by go_num, hfin, grown_below hgT hgA fun j e => .inl (by injection e with e; omega)⟩
              · clear hch
                go_wp2_with fail
                have hu := HU.out
                go_roundg (ku - 1)
                case measure => omega
                case rel => exact ⟨u + 1, by omega, by go_num, hrow, hgA⟩
            · obtain ⟨q, rfl⟩ : ∃ q, a = q + 1 := ⟨a - 1, by omega⟩
              rw [show ((q + 1 : Nat) : Int) - 1 = (q : Int) from by omega]
              have hqv : (tv : Int) ≤ (q : Int) := by omega
              have hqm : (q : Int) < (most : Int) + 1 := by omega
              obtain ⟨m, hm⟩ : ∃ m, m = q - tv := ⟨_, rfl⟩
              have wm : IntKind.i64.wrap ((q : Int) - (tv : Int)) = (m : Int) := by rw [IntWalk.i64_in _ (by omega)]; omega
              have hmm : (m : Int) < (most : Int) + 1 := by omega
              have cm := own_bool hownA (j := m) (by omega)
              have cq := own_bool hownA (j := q) (by omega)
              have fq := hownA.frozenAt q
              have em : passF (okF l i) tv u (q + 1) m = canU (okF l i) tv u m := by unfold passF; rw [if_neg (by omega)]
              have eq : passF (okF l i) tv u (q + 1) q = canU (okF l i) tv u q := by unfold passF; rw [if_neg (by omega)]
              rw [em] at cm
              rw [eq] at cq
              have hnew : canU (okF l i) tv (u + 1) q = (canU (okF l i) tv u q || canU (okF l i) tv u m) := by
                simp only [canU]; rw [decide_eq_true (by omega), ← hm]; simp
              have hsetT := own_bool_set hownA q true
              have HN := Lib.hid (And.intro hm (And.intro hnew (And.intro hch hak)))
              clear em eq hm hnew hch hak
              obtain ⟨x, hx⟩ : ∃ x, canU (okF l i) tv u m = x := ⟨_, rfl⟩
              obtain ⟨y, hy⟩ : ∃ y, canU (okF l i) tv u q = y := ⟨_, rfl⟩
              rw [hx] at cm
              rw [hy] at cq
              have HXY := Lib.hid (And.intro hx hy)
              clear hx hy
              have hsame : (y || x) = y → wr.ownsRow g 4 1 (.slice (some ⟨g, 0, none⟩) (most + 1) (most + 1)) (most + 1) (bls (most + 1) (passF (okF l i) tv u q)) ∧
                  (ch = false → ∀ b, q ≤ b → b ≤ most → canU (okF l i) tv (u + 1) b = canU (okF l i) tv u b) := by
                intro hxy
                have hq : canU (okF l i) tv (u + 1) q = canU (okF l i) tv u q := by rw [HN.out.2.1, HXY.out.1, HXY.out.2]; exact hxy
                refine ⟨?_, fun hc b h1 h2 => ?_⟩
                · rw [bls_congr (g := passF (okF l i) tv u (q + 1)) (fun b hb => by
                    unfold passF
                    by_cases h : q + 1 ≤ b
                    · rw [if_pos h, if_pos (by omega)]
                    · by_cases e : b = q
                      · subst e; rw [if_pos (Nat.le_refl _), if_neg h, hq]
                      · rw [if_neg h, if_neg (by omega)])]
                  exact hownA
                · by_cases e : b = q
                  · subst e; exact hq
                  · exact HN.out.2.2.1 hc b (by omega) h2
              have HSM := Lib.hid hsame
              clear hsame
              have hqm2 : q ≤ most + 1 := by omega
              cases x
              · clear hsetT
                go_wp2_with fail
                have hs := HSM.out (by simp)
                have hak := HN.out.2.2.2
                go_roundg (gk - 1)
                case measure => omega
                case rel => exact ⟨ch, q, hqm2, by omega, rfl, by go_num, hs.1, hs.2, hgA⟩
              · cases y
                · have HST := Lib.hid hsetT
                  clear hsetT
                  go_wp2_with fail
                  have hak := HN.out.2.2.2
                  go_roundg (gk - 1)
                  case measure => omega
                  case rel =>
                    refine ⟨true, q, hqm2, by omega, rfl, by go_num, ?_, fun h => by simp at h, grown_set (p := ⟨g, q, none⟩) hgA (.inr rfl) _⟩
                    rw [bls_congr (g := fun b => if b = q then true else passF (okF l i) tv u (q + 1) b) (fun b hb => by
                      unfold passF
                      by_cases e : b = q
                      · subst e; rw [if_pos (Nat.le_refl _), if_pos rfl, HN.out.2.1, HXY.out.1]; simp
                      · rw [if_neg e]
                        by_cases h : q + 1 ≤ b
                        · rw [if_pos h, if_pos (by omega)]
                        · rw [if_neg h, if_neg (by omega)])]
                    exact HST.out
                · clear hsetT
                  go_wp2_with fail
                  have hs := HSM.out (by simp)
                  have hak := HN.out.2.2.2
                  go_roundg (gk - 1)
                  case measure => omega
                  case rel => exact ⟨ch, q, hqm2, by omega, rfl, by go_num, hs.1, hs.2, hgA⟩
        · obtain rfl : u = tc := by omega
          go_wp2_with fail
          obtain ⟨hsucc, hi⟩ := HT.out
          go_roundg (ko - 1)
          case measure => omega
          case rel =>
            refine ⟨i + 1, by omega, by go_num, ?_, grown_below hgT hgU fun j e => .inl (by injection e with e; omega)⟩
            rw [bls_congr (g := canU (okF l i) tv u) (fun b hb => hsucc b (by omega))]
            exact hownU
    · obtain rfl : i = n := by omega
      go_wp2_with fail
      go_ret
      exact ⟨g, most + 1, rfl, by rw [bls_congr (g := okF l i) (fun b _ => by unfold paysB okF; rw [HH.out.1])]; exact own_mono hown hgw, hgr⟩

end Go.Proofs.Ytoaeflegcfecaaa
