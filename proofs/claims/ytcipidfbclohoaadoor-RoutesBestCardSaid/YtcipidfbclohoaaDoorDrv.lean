/- The walk of a trip's drive. -/
import Derived.Test.YtcipidfbclohoaaDoorDrvP
import Derived.Test.YtcipidfbclohoaaDoorStpP
import Derived.Test.YtcipidfbclohoaaDoorMade
import Derived.Test.YtcipidfbclohoaaDoorInv
import Derived.Test.YtcipidfbclohoaaDoorRes
namespace Go.Proofs.YtcipidfbclohoaaDoor
open Go.RowKit

/-- What the operations of a visit yield. -/
def dvF (gT : Nat) (A : Option Addr) (m cp : Nat) (c : Cr) (k : Int) (p : Addr) (r : St) (i : Nat) (_ : World) (v : Value) : Prop :=
  match i with
  | 0 => v = .agg (crCells c).toArray
  | 1 => v = .pointer (some ⟨gT, 2, none⟩)
  | 2 => v = .slice A m cp
  | 3 => v = .int .i64 k
  | 4 => v = .pointer (some p)
  | 5 => v = .agg (stCells r).toArray
  | 6 => v = .tuple #[.agg (crCells (crRes c r)).toArray, .bool (crGo c r)]
  | 7 => v = .tuple #[.agg (crCells (crRes c r)).toArray, .bool (crGo c r)]
  | 8 => v = .agg (crCells (crRes c r)).toArray
  | 9 => v = .bool (crGo c r)
  | _ => True
theorem dvF_stab {gT : Nat} {A : Option Addr} {m cp : Nat} {c : Cr} {k : Int} {p : Addr} {r : St} : ∀ (i : Nat) (w w' : World) (v : Value), True → dvF gT A m cp c k p r i w v → dvF gT A m cp c k p r i w' v := fun _ _ _ _ _ h => h
def crZs : Array Value := #[.int .i64 0, .int .i64 0, .int .i64 0, .int .i64 0, .int .i64 0, .int .i64 0]
/-- Where the car that comes next lies, and what it holds. -/
def dvG (wr : World) (cs : Array Value) (b10 b11 : Bool) (v10 : Value) (w : World) : Prop :=
  wr.grownBy w none ∧ (b11 = true → b10 = true) ∧ (b10 = true → ∃ N, v10 = .pointer (some ⟨N, 0, none⟩) ∧ wr.heap.size ≤ N ∧ Blk w N 66 (if b11 = true then cs else crZs))
theorem dvG.quiet {wr : World} {cs : Array Value} {b10 b11 : Bool} {v10 : Value} {w w' : World} (h : dvG wr cs b10 b11 v10 w) (hg : w.grownBy w' none) : dvG wr cs b10 b11 v10 w' :=
  ⟨h.1.trans hg, h.2.1, fun hb => by obtain ⟨N, h1, h2, h3⟩ := h.2.2 hb; exact ⟨N, h1, h2, h3.grown hg (by simp)⟩⟩

theorem pad_set {bg : List Int} {n j : Nat} {x : Int} (h : bg.length = j) (hj : j < n) : (bg ++ List.replicate (n - j) 0).set j x = (bg ++ [x]) ++ List.replicate (n - (j + 1)) 0 := by
  rw [show n - j = (n - (j + 1)) + 1 from by omega, List.replicate_succ]
  generalize List.replicate (n - (j + 1)) (0 : Int) = Z
  subst h
  simp
theorem pad_at {bg : List Int} {n j : Nat} (h : bg.length = j) (hj : j < n) : (bg ++ List.replicate (n - j) 0).getD j 0 = 0 := by
  rw [show n - j = (n - (j + 1)) + 1 from by omega, List.replicate_succ]
  subst h
  simp
theorem set6_row {w : World} {g : Nat} (b0 b1 b2 b3 b4 b5 : Value) : w.grownBy (set6 w g b0 b1 b2 b3 b4 b5) (some g) :=
  grown_set (grown_set (grown_set (grown_set (grown_set (grown_set (World.grownBy.refl w (some g)) (p := ⟨g, 0, none⟩) (.inr rfl) _) (p := ⟨g, 1, none⟩) (.inr rfl) _) (p := ⟨g, 2, none⟩) (.inr rfl) _) (p := ⟨g, 3, none⟩) (.inr rfl) _) (p := ⟨g, 4, none⟩) (.inr rfl) _) (p := ⟨g, 5, none⟩) (.inr rfl) _
theorem set6_far {w : World} {g q T : Nat} {cs : Array Value} (h : Blk w q T cs) (hq : q ≠ g) (b0 b1 b2 b3 b4 b5 : Value) : Blk (set6 w g b0 b1 b2 b3 b4 b5) q T cs :=
  h.grown (set6_row b0 b1 b2 b3 b4 b5) (by intro e; injection e with e; exact hq e)
theorem drvF_go {V : List St} {c : Cr} {bg o : List Int} {j : Nat} {k : Int} (hk : o[j]? = some k) (h : crGo c (stAt V k) = true) : drvF V c bg (o.drop j) = drvF V (crNext c (stAt V k)) (bg ++ [crBeg c (stAt V k)]) (o.drop (j + 1)) := by
  rw [drop_at hk, drvF, if_pos h]
theorem drvF_no {V : List St} {c : Cr} {bg o : List Int} {j : Nat} {k : Int} (hk : o[j]? = some k) (h : crGo c (stAt V k) = false) : drvF V c bg (o.drop j) = none := by
  rw [drop_at hk, drvF, if_neg (by rw [h]; decide)]

/-- What a drive answers. -/
def DrvR (w : World) (n : Nat) (r : Option TrM) (e : Ending) (w' : World) : Prop :=
  match r with
  | some T => ∃ g, e = .returned (.tuple #[.agg #[.slice (some ⟨g, 0, none⟩) n n, .int .i64 T.e, .int .i64 T.way, .int .i64 T.wt], .bool true]) ∧ w.heap.size ≤ g ∧ w'.ownsRow w.heap.size 3 1 (.slice (some ⟨g, 0, none⟩) n n) n (ints T.bg)
  | none => e = .returned (.tuple #[.agg #[.slice none 0 0, .int .i64 0, .int .i64 0, .int .i64 0], .bool false])

set_option maxRecDepth 100000 in
set_option maxHeartbeats 8000000 in
theorem tripDrive_any (hx hy : Int) (A : Option Addr) (m cp : Nat) (V : List St) (st : Int) (B : Option Addr) (n cb : Nat) (o : List Int) (w : World) (hr : Rd w 6 A m (stFlat V)) (ho : Rd w 1 B n (ints o)) (hnc : n ≤ cb) (hn : n ≤ 1000)
    (hV : ∀ t ∈ V, spB t.x t.y = true ∧ (0 ≤ t.f ∧ t.f ≤ t.t) ∧ t.t ≤ 1440 ∧ (0 ≤ t.l ∧ t.l ≤ 1440)) (hin : ∀ k ∈ o, 0 ≤ k ∧ k < m) (hh : spB hx hy = true) (h0 : 0 ≤ st) (h1 : st ≤ 1440) :
    Calls Tryd.prog 53 #[.agg #[.int .i64 hx, .int .i64 hy, .slice A m cp, .int .i64 st], .slice B n cb] w
      fun e w' => DrvR w n (driveM hx hy V st o) e w' ∧ w.grownBy w' none := by
  have hlV : V.length = m := by have := hr.1; rw [stFlat_len] at this; omega
  have hlo : o.length = n := by have := ho.1; simp [ints] at this; omega
  -- the trip, the tour
  have hT := (Blk.new w 61 #[.int .i64 hx, .int .i64 hy, .slice A m cp, .int .i64 st]).alloc (.cells #[.slice none 0 0, .int .i64 0, .int .i64 0, .int .i64 0] 50)
  have hg1 := grown_alloc (grown_refl w) (.cells #[.int .i64 hx, .int .i64 hy, .slice A m cp, .int .i64 st] 61)
  have hR := Blk.new (w.alloc (.cells #[.int .i64 hx, .int .i64 hy, .slice A m cp, .int .i64 st] 61)) 50 #[.slice none 0 0, .int .i64 0, .int .i64 0, .int .i64 0]
  have hg2 := grown_alloc hg1 (.cells #[.slice none 0 0, .int .i64 0, .int .i64 0, .int .i64 0] 50)
  rw [show (w.alloc (.cells #[.int .i64 hx, .int .i64 hy, .slice A m cp, .int .i64 st] 61)).heap.size = w.heap.size + 1 from by simp] at hR
  have hz2 : ((w.alloc (.cells #[.int .i64 hx, .int .i64 hy, .slice A m cp, .int .i64 st] 61)).alloc (.cells #[.slice none 0 0, .int .i64 0, .int .i64 0, .int .i64 0] 50)).heap.size = w.heap.size + 1 + 1 := by simp
  obtain ⟨W2, hW2⟩ : ∃ W2, (w.alloc (.cells #[.int .i64 hx, .int .i64 hy, .slice A m cp, .int .i64 st] 61)).alloc (.cells #[.slice none 0 0, .int .i64 0, .int .i64 0, .int .i64 0] 50) = W2 := ⟨_, rfl⟩
  rw [hW2] at hT hR hg2 hz2
  obtain ⟨g, hg⟩ : ∃ g, w.heap.size = g := ⟨_, rfl⟩
  rw [hg] at hT hR hz2
  -- what begins
  have hO := made_ints W2 n (by omega)
  have hg3 := grown_alloc hg2 (.cells (madeCells #[.int .i64 0] n) 3)
  have hT3 := hT.alloc (.cells (madeCells #[.int .i64 0] n) 3)
  have hR3 := hR.alloc (.cells (madeCells #[.int .i64 0] n) 3)
  have hmk := make_ints n (by omega) W2
  have hz3 : (W2.alloc (.cells (madeCells #[.int .i64 0] n) 3)).heap.size = W2.heap.size + 1 := by simp
  obtain ⟨W3, hW3⟩ : ∃ W3, W2.alloc (.cells (madeCells #[.int .i64 0] n) 3) = W3 := ⟨_, rfl⟩
  rw [hW3] at hO hg3 hT3 hR3 hmk hz3
  rw [hz2] at hO hmk hz3
  have HW := Lib.hid (And.intro hW2 (And.intro hg (And.intro hg3 hO)))
  have hmk' := Lib.hid hmk
  clear hT hR hg1 hg2 hW2 hW3 hz2 hO hg3 hg
  obtain ⟨c0, c1, c2, c3⟩ : W3.cell? ⟨g, 0, none⟩ = some (.int .i64 hx) ∧ W3.cell? ⟨g, 1, none⟩ = some (.int .i64 hy) ∧ W3.cell? ⟨g, 2, none⟩ = some (.slice A m cp) ∧ W3.cell? ⟨g, 3, none⟩ = some (.int .i64 st) := ⟨hT3.cell 0, hT3.cell 1, hT3.cell 2, hT3.cell 3⟩
  go_enter Tryd.func53, Tryd.ntmps53
  go_wp2_with fail
  rw [HW.out.1, HW.out.2.1]
  rw [hmk]
  clear hmk hmk'
  go_wp2_with fail
  have hL := leave_any hx hy A m cp st W3
  simp only [crCells] at hL
  refine hL.mono ?_
  clear hL
  rintro e w4 ⟨rfl, hg4⟩
  obtain ⟨gC, hgC⟩ : ∃ gC, w4.heap.size = gC := ⟨_, rfl⟩
  have hC5 := Blk.new w4 66 #[.int .i64 hx, .int .i64 hy, .int .i64 0, .int .i64 st, .int .i64 0, .int .i64 0]
  rw [hgC] at hC5
  have hg5 := grown_alloc hg4 (.cells #[.int .i64 hx, .int .i64 hy, .int .i64 0, .int .i64 st, .int .i64 0, .int .i64 0] 66)
  have hT5 := hT3.grown hg5 (by simp)
  have hR5 := hR3.grown hg5 (by simp)
  have hO5 := HW.out.2.2.2.kept hg5 (.inr (by simp [Value.ownBlock]))
  have hgw5 := HW.out.2.2.1.trans hg5
  have hlt4 := hg4.size
  clear hg4 hg5 hT3 hR3 c0 c1 c2 c3
  go_wp2_with fail
  (try rw [hgC])
  generalize w4.alloc (.cells #[.int .i64 hx, .int .i64 hy, .int .i64 0, .int .i64 st, .int .i64 0, .int .i64 0] 66) = w5 at *
  have hgC1 : g + 1 + 1 < gC := by omega
  clear hlt4 hz3 hgC
  have HA := Lib.hid (And.intro hlV (And.intro hlo (And.intro hV hin)))
  clear hlV hlo hV hin
  go_loopg [20] n (fun k i wr => ∃ (j : Nat) (c : Cr) (bg : List Int), k + j = n ∧ i = .int .i64 j ∧ bg.length = j ∧ drvF V c bg (o.drop j) = drvF V ⟨hx, hy, 0, st, 0, 0⟩ [] o ∧ CrB j c
    ∧ Blk wr g 61 #[.int .i64 hx, .int .i64 hy, .slice A m cp, .int .i64 st] ∧ Blk wr (g + 1) 50 #[.slice none 0 0, .int .i64 0, .int .i64 0, .int .i64 0] ∧ Blk wr gC 66 (crCells c).toArray
    ∧ wr.ownsRow (g + 1 + 1) 3 1 (.slice (some ⟨g + 1 + 1, 0, none⟩) n n) n (ints (bg ++ List.replicate (n - j) 0)) ∧ w.grownBy wr none)
  case atStart => exact ⟨0, ⟨hx, hy, 0, st, 0, 0⟩, [], by omega, rfl, rfl, by simp, CrB.start hh h0 h1, hT5, hR5, hC5, by simpa using hO5, hgw5⟩
  case round =>
    clear hT5 hR5 hC5 hO5 hgw5
    obtain ⟨j, c, bg, hj, rfl, hlb, hdr, hcb, hT, hR, hC, hO, hg⟩ := hrel
    by_cases hlt : j < n
    · obtain ⟨b1, off1, rfl, hb1, q, hk, x0⟩ := int_cells (ho.grown hg) hlt
      have hqm := HA.out.2.2.2 q (List.mem_of_getElem? hk)
      obtain ⟨k, rfl⟩ := Int.eq_ofNat_of_zero_le hqm.1
      have hkm : k < m := by omega
      obtain ⟨b2, off2, rfl, hb2, r, hr2, y0, y1, y2, y3, y4, y5⟩ := st_cells (hr.grown hg) hkm
      have hr3 : stAt V k = r := by unfold stAt; rw [List.getD_eq_getElem?_getD, Int.toNat_natCast, hr2]; rfl
      have hro := HA.out.2.2.1 r (List.mem_of_getElem? hr2)
      have HJ := Lib.hid (And.intro hj (And.intro hlb (And.intro hdr (And.intro hk (And.intro hr3 (And.intro hO (And.intro hR hg)))))))
      clear hj hlb hdr hk hr3 hO hR hqm hr2 hb1 hb2
      go_wp2_with fail
      have hgd : wr.grownBy wr.drew none := grown_drew (grown_refl wr)
      have hcr := visit_any c r
      have hS := Lib.hid (And.intro hT (And.intro hC (And.intro hro hcb)))
      clear hT hC hro hcb
      refine region_split_at 12 _ _ rfl rfl (by kernel_rfl) (by kernel_rfl) (by kernel_rfl) (by kernel_rfl) (by kernel_rfl) ?_
      simp only [List.take_succ_cons, List.take_zero, List.size_toArray, List.length_cons, List.length_nil, Nat.reduceAdd]
      refine wpAny_facts (frame := ?fr) ?hfr (fun q => [u26, u27, u28, u29, u30, u31, u32, u25, u33, u34, u10, undef].getD q undef) ?h0 (dvF g (some ⟨b2, off2, none⟩) m cp c k ⟨b2, off2 + k * 6, none⟩ r)
        (fun listed f w => dvG wr (crCells (crRes c r)).toArray (listed.getD 10 false) (listed.getD 11 false) (f 10) w) (fun _ _ => True) dvF_stab ?hG (by kernel_rfl) ?hput ?hs ?hd
      case hfr =>
        intro f
        simp only [putsF, List.zipIdx_cons, List.zipIdx_nil, List.foldl_cons, List.foldl_nil, Nat.reduceAdd, Act.put, List.setIfInBounds_toArray, List.set_cons_zero, List.set_cons_succ]
        rfl
      case h0 => rfl
      case hG => exact ⟨hgd, by simp, by simp⟩
      case hput =>
        intro i o ho f v
        match i, ho with
        | 0, ho => simp only [List.getElem?_toArray, List.getElem?_cons_zero, Option.some.injEq] at ho; subst ho; rfl
        | 1, ho => simp only [List.getElem?_toArray, List.getElem?_cons_zero, List.getElem?_cons_succ, Option.some.injEq] at ho; subst ho; rfl
        | 2, ho => simp only [List.getElem?_toArray, List.getElem?_cons_zero, List.getElem?_cons_succ, Option.some.injEq] at ho; subst ho; rfl
        | 3, ho => simp only [List.getElem?_toArray, List.getElem?_cons_zero, List.getElem?_cons_succ, Option.some.injEq] at ho; subst ho; rfl
        | 4, ho => simp only [List.getElem?_toArray, List.getElem?_cons_zero, List.getElem?_cons_succ, Option.some.injEq] at ho; subst ho; rfl
        | 5, ho => simp only [List.getElem?_toArray, List.getElem?_cons_zero, List.getElem?_cons_succ, Option.some.injEq] at ho; subst ho; rfl
        | 6, ho => simp only [List.getElem?_toArray, List.getElem?_cons_zero, List.getElem?_cons_succ, Option.some.injEq] at ho; subst ho; rfl
        | 7, ho => simp only [List.getElem?_toArray, List.getElem?_cons_zero, List.getElem?_cons_succ, Option.some.injEq] at ho; subst ho; rfl
        | 8, ho => simp only [List.getElem?_toArray, List.getElem?_cons_zero, List.getElem?_cons_succ, Option.some.injEq] at ho; subst ho; rfl
        | 9, ho => simp only [List.getElem?_toArray, List.getElem?_cons_zero, List.getElem?_cons_succ, Option.some.injEq] at ho; subst ho; rfl
        | 10, ho => simp only [List.getElem?_toArray, List.getElem?_cons_zero, List.getElem?_cons_succ, Option.some.injEq] at ho; subst ho; rfl
        | 11, ho => simp only [List.getElem?_toArray, List.getElem?_cons_zero, List.getElem?_cons_succ, Option.some.injEq] at ho; subst ho; rfl
        | n + 12, ho => simp at ho
      case hs =>
        intro i o ho listed f w2 hsz hun hG hpre K hK
        have hsz' : listed.size = 12 := by simpa using hsz
        dsimp only at hK hG ⊢
        match i, ho with
        | 0, ho =>
          simp only [List.getElem?_toArray, List.getElem?_cons_zero, Option.some.injEq] at ho
          subst ho
          have hC2 := hS.out.2.1.grown hG.1 (by simp)
          have z0 : w2.cell? ⟨gC, 0, none⟩ = some (.int .i64 c.x) := hC2.cell 0
          have z1 : w2.cell? ⟨gC, 1, none⟩ = some (.int .i64 c.y) := hC2.cell 1
          have z2 : w2.cell? ⟨gC, 2, none⟩ = some (.int .i64 c.b) := hC2.cell 2
          have z3 : w2.cell? ⟨gC, 3, none⟩ = some (.int .i64 c.d) := hC2.cell 3
          have z4 : w2.cell? ⟨gC, 4, none⟩ = some (.int .i64 c.way) := hC2.cell 4
          have z5 : w2.cell? ⟨gC, 5, none⟩ = some (.int .i64 c.wt) := hC2.cell 5
          go_simp
          exact hK (.agg (crCells c).toArray) _ trivial (by simpa [getD_setT (show 0 < listed.size by omega), updF] using hG) rfl
        | 1, ho =>
          simp only [List.getElem?_toArray, List.getElem?_cons_zero, List.getElem?_cons_succ, Option.some.injEq] at ho
          subst ho
          go_simp
          exact hK (.pointer (some ⟨g, 2, none⟩)) _ trivial (by simpa [getD_setT (show 1 < listed.size by omega), updF] using hG) rfl
        | 2, ho =>
          simp only [List.getElem?_toArray, List.getElem?_cons_zero, List.getElem?_cons_succ, Option.some.injEq] at ho
          subst ho
          have e1 : f 1 = .pointer (some ⟨g, 2, none⟩) := (hpre ⟨1, .data⟩ (by simp) rfl).2
          have z2 : w2.cell? ⟨g, 2, none⟩ = some (.slice (some ⟨b2, off2, none⟩) m cp) := (hS.out.1.grown hG.1 (by simp)).cell 2
          rw [e1] at hK ⊢
          go_simp
          exact hK (.slice (some ⟨b2, off2, none⟩) m cp) _ trivial (by simpa [getD_setT (show 2 < listed.size by omega), updF] using hG) rfl
        | 3, ho =>
          simp only [List.getElem?_toArray, List.getElem?_cons_zero, List.getElem?_cons_succ, Option.some.injEq] at ho
          subst ho
          go_simp
          exact hK (.int .i64 k) _ trivial (by simpa [getD_setT (show 3 < listed.size by omega), updF] using hG) rfl
        | 4, ho =>
          simp only [List.getElem?_toArray, List.getElem?_cons_zero, List.getElem?_cons_succ, Option.some.injEq] at ho
          subst ho
          have e2 : f 2 = .slice (some ⟨b2, off2, none⟩) m cp := (hpre ⟨2, .data⟩ (by simp) rfl).2
          have e3 : f 3 = .int .i64 k := (hpre ⟨3, .data⟩ (by simp) rfl).2
          rw [e2, e3] at hK ⊢
          go_simp
          exact hK (.pointer (some ⟨b2, off2 + k * 6, none⟩)) _ trivial (by simpa [getD_setT (show 4 < listed.size by omega), updF] using hG) rfl
        | 5, ho =>
          simp only [List.getElem?_toArray, List.getElem?_cons_zero, List.getElem?_cons_succ, Option.some.injEq] at ho
          subst ho
          have e4 : f 4 = .pointer (some ⟨b2, off2 + k * 6, none⟩) := (hpre ⟨4, .data⟩ (by simp) rfl).2
          have z0 := hG.1.cell y0 (by simp)
          have z1 := hG.1.cell y1 (by simp)
          have z2 := hG.1.cell y2 (by simp)
          have z3 := hG.1.cell y3 (by simp)
          have z4 := hG.1.cell y4 (by simp)
          have z5 := hG.1.cell y5 (by simp)
          rw [e4] at hK ⊢
          go_simp
          exact hK (.agg (stCells r).toArray) _ trivial (by simpa [getD_setT (show 5 < listed.size by omega), updF] using hG) rfl
        | 6, ho =>
          simp only [List.getElem?_toArray, List.getElem?_cons_zero, List.getElem?_cons_succ, Option.some.injEq] at ho
          subst ho
          have e0 : f 0 = .agg (crCells c).toArray := (hpre ⟨0, .data⟩ (by simp) rfl).2
          have e5 : f 5 = .agg (stCells r).toArray := (hpre ⟨5, .data⟩ (by simp) rfl).2
          rw [e0, e5] at hK ⊢
          go_simp
          obtain ⟨i1, i2, i3, i4⟩ := hS.out.2.2.2
          refine (hcr w2 i1 hS.out.2.2.1.1 (by omega) (by omega) (by omega) (by have := hS.out.2.2.1; omega) (by have := hS.out.2.2.1; omega)).mono ?_
          rintro e w5 ⟨rfl, hg5⟩
          dsimp only
          exact hK (.tuple #[.agg (crCells (crRes c r)).toArray, .bool (crGo c r)]) w5 trivial (by simpa [getD_setT (show 6 < listed.size by omega), updF] using hG.quiet hg5) rfl
        | 7, ho =>
          simp only [List.getElem?_toArray, List.getElem?_cons_zero, List.getElem?_cons_succ, Option.some.injEq] at ho
          subst ho
          have e6 : f 6 = .tuple #[.agg (crCells (crRes c r)).toArray, .bool (crGo c r)] := (hpre ⟨6, .data⟩ (by simp) rfl).2
          rw [e6] at hK ⊢
          go_simp
          exact hK (.tuple #[.agg (crCells (crRes c r)).toArray, .bool (crGo c r)]) _ trivial (by simpa [getD_setT (show 7 < listed.size by omega), updF] using hG) rfl
        | 8, ho =>
          simp only [List.getElem?_toArray, List.getElem?_cons_zero, List.getElem?_cons_succ, Option.some.injEq] at ho
          subst ho
          have e7 : f 7 = .tuple #[.agg (crCells (crRes c r)).toArray, .bool (crGo c r)] := (hpre ⟨7, .data⟩ (by simp) rfl).2
          rw [e7] at hK ⊢
          go_simp
          exact hK (.agg (crCells (crRes c r)).toArray) _ trivial (by simpa [getD_setT (show 8 < listed.size by omega), updF] using hG) rfl
        | 9, ho =>
          simp only [List.getElem?_toArray, List.getElem?_cons_zero, List.getElem?_cons_succ, Option.some.injEq] at ho
          subst ho
          have e7 : f 7 = .tuple #[.agg (crCells (crRes c r)).toArray, .bool (crGo c r)] := (hpre ⟨7, .data⟩ (by simp) rfl).2
          rw [e7] at hK ⊢
          go_simp
          exact hK (.bool (crGo c r)) _ trivial (by simpa [getD_setT (show 9 < listed.size by omega), updF] using hG) rfl
        | 10, ho =>
          simp only [List.getElem?_toArray, List.getElem?_cons_zero, List.getElem?_cons_succ, Option.some.injEq] at ho
          subst ho
          go_simp
          have f10 := getD_ff hun
          have f11 : listed.getD 11 false = false := by
            cases h : listed.getD 11 false with
            | false => rfl
            | true => have := hG.2.1 h; rw [f10] at this; cases this
          refine hK (.pointer (some ⟨w2.heap.size, 0, none⟩)) _ trivial ?_ trivial
          rw [getD_setT (by omega), getD_setT (by omega), if_pos rfl, if_neg (by decide), f11]
          exact ⟨hG.1.trans (grown_alloc (grown_refl _) _), by simp, fun _ => ⟨w2.heap.size, rfl, hG.1.size, Blk.new w2 _ _⟩⟩
        | 11, ho =>
          simp only [List.getElem?_toArray, List.getElem?_cons_zero, List.getElem?_cons_succ, Option.some.injEq] at ho
          subst ho
          have b10 := (hpre ⟨10, .data⟩ (by simp) rfl).1
          have e8 : f 8 = .agg #[.int .i64 (crRes c r).x, .int .i64 (crRes c r).y, .int .i64 (crRes c r).b, .int .i64 (crRes c r).d, .int .i64 (crRes c r).way, .int .i64 (crRes c r).wt] := (hpre ⟨8, .data⟩ (by simp) rfl).2
          have f11 := getD_ff hun
          rw [f11, b10] at hG
          obtain ⟨N, e10, hN, hB⟩ := hG.2.2 rfl
          rw [if_neg (by decide)] at hB
          have z0 : w2.cell? ⟨N, 0, none⟩ = some (.int .i64 0) := hB.cell 0
          have z1 : w2.cell? ⟨N, 1, none⟩ = some (.int .i64 0) := hB.cell 1
          have z2 : w2.cell? ⟨N, 2, none⟩ = some (.int .i64 0) := hB.cell 2
          have z3 : w2.cell? ⟨N, 3, none⟩ = some (.int .i64 0) := hB.cell 3
          have z4 : w2.cell? ⟨N, 4, none⟩ = some (.int .i64 0) := hB.cell 4
          have z5 : w2.cell? ⟨N, 5, none⟩ = some (.int .i64 0) := hB.cell 5
          have fz := hB.frozen
          have fz0 := fz 0
          have fz1 := fz 1
          have fz2 := fz 2
          have fz3 := fz 3
          have fz4 := fz 4
          have fz5 := fz 5
          rw [e8, e10] at hK ⊢
          go_simp
          refine hK undef _ trivial ?_ trivial
          rw [getD_setT (by omega), getD_setT (by omega), if_neg (by decide), if_pos rfl, b10]
          exact ⟨set6_grown hG.1 hN _ _ _ _ _ _, by simp, fun _ => ⟨N, by simp [updF, e10], hN, by rw [if_pos rfl]; exact set6_blk hB _ _ _ _ _ _⟩⟩
        | n + 12, ho => simp at ho
      case hd =>
        intro listed f w2 hall hG hF
        have f10 := hall 10 (by simp)
        have f11 := hall 11 (by simp)
        rw [f10, f11] at hG
        obtain ⟨N, e10, hN, hB10⟩ := hG.2.2 rfl
        rw [if_pos rfl] at hB10
        have e8 : f 8 = .agg (crCells (crRes c r)).toArray := hF 8 (by simp)
        have e9 : f 9 = .bool (crGo c r) := hF 9 (by simp)
        obtain ⟨hj, hlb, hdr, hk, hr3, hO, hR, _⟩ := HJ.out
        have hg1 := hG.1
        have hT2 := hS.out.1.grown hg1 (by simp)
        have hC2 := hS.out.2.1.grown hg1 (by simp)
        have hR2 := hR.grown hg1 (by simp)
        have hO2 := hO.kept hg1 (.inr (by simp [Value.ownBlock]))
        have hgw := hg.trans hg1
        have hNb : gC < wr.heap.size := hS.out.2.1.lt
        have hne1 : gC ≠ N := by omega
        have hne2 : N ≠ gC := by omega
        have hne3 : g + 1 + 1 ≠ gC := by omega
        have hne4 : gC ≠ g + 1 + 1 := by omega
        clear hO hR hG hF hall
        rw [e8, e9, e10]
        rw [← hr3] at hB10
        rw [show crRes c r = crRes c (stAt V k) from by rw [hr3], show crGo c r = crGo c (stAt V k) from by rw [hr3]]
        have hcb2 := hS.out.2.2.2.next (r := r) hS.out.2.2.1.1 (by have := hS.out.2.2.1; omega) (by have := hS.out.2.2.1; omega)
        rw [← hr3] at hcb2
        by_cases hgo : crGo c (stAt V k) = true
        · have hxn : crRes c (stAt V k) = crNext c (stAt V k) := by
            unfold crGo at hgo; unfold crRes; rw [if_pos (of_decide_eq_true hgo)]
          have hstep := drvF_go (bg := bg) hk hgo
          rw [hxn] at hB10 ⊢
          rw [hgo]
          have hbv : (crNext c (stAt V k)).b = crBeg c (stAt V k) := rfl
          obtain ⟨X, hX⟩ : ∃ X, crNext c (stAt V k) = X := ⟨_, rfl⟩
          rw [hX] at hB10 hstep hcb2 hbv ⊢
          have q0 : w2.cell? ⟨N, 0, none⟩ = some (.int .i64 X.x) := hB10.cell 0
          have q1 : w2.cell? ⟨N, 1, none⟩ = some (.int .i64 X.y) := hB10.cell 1
          have q2 : w2.cell? ⟨N, 2, none⟩ = some (.int .i64 X.b) := hB10.cell 2
          have q3 : w2.cell? ⟨N, 3, none⟩ = some (.int .i64 X.d) := hB10.cell 3
          have q4 : w2.cell? ⟨N, 4, none⟩ = some (.int .i64 X.way) := hB10.cell 4
          have q5 : w2.cell? ⟨N, 5, none⟩ = some (.int .i64 X.wt) := hB10.cell 5
          have z0 : w2.cell? ⟨gC, 0, none⟩ = some (.int .i64 c.x) := hC2.cell 0
          have z1 : w2.cell? ⟨gC, 1, none⟩ = some (.int .i64 c.y) := hC2.cell 1
          have z2 : w2.cell? ⟨gC, 2, none⟩ = some (.int .i64 c.b) := hC2.cell 2
          have z3 : w2.cell? ⟨gC, 3, none⟩ = some (.int .i64 c.d) := hC2.cell 3
          have z4 : w2.cell? ⟨gC, 4, none⟩ = some (.int .i64 c.way) := hC2.cell 4
          have z5 : w2.cell? ⟨gC, 5, none⟩ = some (.int .i64 c.wt) := hC2.cell 5
          have fz := hC2.frozen
          have fz0 := fz 0
          have fz1 := fz 1
          have fz2 := fz 2
          have fz3 := fz 3
          have fz4 := fz 4
          have fz5 := fz 5
          have o0 := own_int hO2 hlt
          rw [pad_at hlb hlt] at o0
          have o1 := hO2.frozenAt j
          have hO6 := (hO2.kept (set6_row (g := gC) (.int .i64 X.x) (.int .i64 X.y) (.int .i64 X.b) (.int .i64 X.d) (.int .i64 X.way) (.int .i64 X.wt)) (.inr (by simp [Value.ownBlock]; omega)))
          have hO7 := own_int_set hO6 j X.b
          rw [pad_set hlb hlt] at hO7
          have hC7 := (set6_blk (show Blk w2 gC _ #[_, _, _, _, _, _] from hC2) (.int .i64 X.x) (.int .i64 X.y) (.int .i64 X.b) (.int .i64 X.d) (.int .i64 X.way) (.int .i64 X.wt)).far (p := ⟨g + 1 + 1, j, none⟩) (by simp; omega) (.int .i64 X.b)
          have hT7 := (set6_far hT2 (show g ≠ gC by omega) (.int .i64 X.x) (.int .i64 X.y) (.int .i64 X.b) (.int .i64 X.d) (.int .i64 X.way) (.int .i64 X.wt)).far (p := ⟨g + 1 + 1, j, none⟩) (by simp <;> omega) (.int .i64 X.b)
          have hR7 := (set6_far hR2 (show g + 1 ≠ gC by omega) (.int .i64 X.x) (.int .i64 X.y) (.int .i64 X.b) (.int .i64 X.d) (.int .i64 X.way) (.int .i64 X.wt)).far (p := ⟨g + 1 + 1, j, none⟩) (by simp <;> omega) (.int .i64 X.b)
          have hg7 := grown_set (set6_grown hgw (g := gC) (by have := HW.out.2.1; omega) (.int .i64 X.x) (.int .i64 X.y) (.int .i64 X.b) (.int .i64 X.d) (.int .i64 X.way) (.int .i64 X.wt)) (p := ⟨g + 1 + 1, j, none⟩) (.inl (by simp; have := HW.out.2.1; omega)) (.int .i64 X.b)
          have HE := Lib.hid (And.intro hstep (And.intro hcb2 (And.intro hbv (And.intro hT7 (And.intro hR7 (And.intro hC7 (And.intro hO7 hg7)))))))
          clear hstep hcb2 hbv hT7 hR7 hC7 hO7 hg7 hO6 hT2 hR2 hC2 hO2 hgw hB10 hX hxn hgo e8 e9 e10 hr3 hg1
          show wpList _ _ _ _ _ _
          go_wp2_with fail
          obtain ⟨hstep, hcb2, hbv, hT7, hR7, hC7, hO7, hg7⟩ := HE.out
          go_roundg (gk - 1)
          case measure => omega
          case rel =>
            refine ⟨j + 1, X, bg ++ [crBeg c (stAt V k)], ?_, ?_, ?_, ?_, hcb2, ?_, ?_, ?_, ?_, ?_⟩
            · omega
            · go_num
            · rw [List.length_append, hlb]; rfl
            · rw [← hstep]; exact hdr
            · exact hT7
            · exact hR7
            · exact hC7
            · rw [← hbv]; exact hO7
            · exact hg7
        · have hgo' : crGo c (stAt V k) = false := by simpa using hgo
          have hnone : driveM hx hy V st o = none := by
            unfold driveM
            rw [← hdr, drvF_no hk hgo']
            rfl
          have q0 : w2.cell? ⟨g + 1, 0, none⟩ = some (.slice none 0 0) := hR2.cell 0
          have q1 : w2.cell? ⟨g + 1, 1, none⟩ = some (.int .i64 0) := hR2.cell 1
          have q2 : w2.cell? ⟨g + 1, 2, none⟩ = some (.int .i64 0) := hR2.cell 2
          have q3 : w2.cell? ⟨g + 1, 3, none⟩ = some (.int .i64 0) := hR2.cell 3
          have fz := hR2.frozen
          have fz0 := fz 0
          have fz1 := fz 1
          have fz2 := fz 2
          have fz3 := fz 3
          have hgW := HW.out.2.1
          have HE := Lib.hid (And.intro hnone (And.intro hR2 (And.intro hgw hgW)))
          rw [hgo']
          clear hgo hgo' hnone hR2 hgw hT2 hC2 hO2 hB10 e8 e9 e10 hr3 hg1 fz hcb2 hgW hdr
          show wpList _ _ _ _ _ _
          go_wp2_with fail
          refine bodyPost_ret (results_row_tmp rfl _ _ (g + 1) _ _ _ _ rfl ((((HE.out.2.1.set_ 0 (.slice none 0 0)).set_ 1 (.int .i64 0)).set_ 2 (.int .i64 0)).set_ 3 (.int .i64 0)) Tryd.underlying50 rfl (by kernel_rfl)) rfl ?_
          rw [HE.out.1]
          have hgW := HE.out.2.2.2
          exact ⟨rfl, grown_set (grown_set (grown_set (grown_set HE.out.2.2.1 (p := ⟨g + 1, 0, none⟩) (.inl (by simp; omega)) _) (p := ⟨g + 1, 1, none⟩) (.inl (by simp; omega)) _) (p := ⟨g + 1, 2, none⟩) (.inl (by simp; omega)) _) (p := ⟨g + 1, 3, none⟩) (.inl (by simp; omega)) _⟩
    · obtain rfl : j = n := by omega
      have hsome : driveM hx hy V st o = some (trOf hx hy (c, bg)) := by
        unfold driveM
        rw [← hdr, List.drop_of_length_le (by rw [HA.out.2.1]; exact Nat.le_refl _)]
        rfl
      have hfar := fun wx => far_any c.x c.y hx hy wx hcb.1 hh
      have hfi := farN_in hcb.1 hh
      obtain ⟨q, hq⟩ : ∃ q, farN c.x c.y hx hy = q := ⟨_, rfl⟩
      unfold trOf at hsome
      simp only at hsome
      rw [hq] at hfar hfi hsome
      obtain ⟨i1, i2, i3, i4⟩ := hcb
      have z0 : wr.cell? ⟨gC, 0, none⟩ = some (.int .i64 c.x) := hC.cell 0
      have z1 : wr.cell? ⟨gC, 1, none⟩ = some (.int .i64 c.y) := hC.cell 1
      have y0 : wr.cell? ⟨g, 0, none⟩ = some (.int .i64 hx) := hT.cell 0
      have y1 : wr.cell? ⟨g, 1, none⟩ = some (.int .i64 hy) := hT.cell 1
      have HE := Lib.hid (And.intro hsome (And.intro hfar (And.intro hC (And.intro hR (And.intro hO hg)))))
      clear hsome hfar hC hR hO hg hT hq hdr hj i1
      go_wp2_with fail
      refine (HE.out.2.1 wr).mono ?_
      rintro e w2 ⟨rfl, hg2⟩
      obtain ⟨_, _, hC, hR, hO, hg⟩ := HE.out
      have hC2 := hC.grown hg2 (by simp)
      have hR2 := hR.grown hg2 (by simp)
      have hO2 := hO.kept hg2 (.inr (by simp [Value.ownBlock]))
      have hgw := hg.trans hg2
      have x3 : w2.cell? ⟨gC, 3, none⟩ = some (.int .i64 c.d) := hC2.cell 3
      have x4 : w2.cell? ⟨gC, 4, none⟩ = some (.int .i64 c.way) := hC2.cell 4
      have x5 : w2.cell? ⟨gC, 5, none⟩ = some (.int .i64 c.wt) := hC2.cell 5
      have q0 : w2.cell? ⟨g + 1, 0, none⟩ = some (.slice none 0 0) := hR2.cell 0
      have q1 : w2.cell? ⟨g + 1, 1, none⟩ = some (.int .i64 0) := hR2.cell 1
      have q2 : w2.cell? ⟨g + 1, 2, none⟩ = some (.int .i64 0) := hR2.cell 2
      have q3 : w2.cell? ⟨g + 1, 3, none⟩ = some (.int .i64 0) := hR2.cell 3
      have fz := hR2.frozen
      have fz0 := fz 0
      have fz1 := fz 1
      have fz2 := fz 2
      have fz3 := fz 3
      have HF := Lib.hid (And.intro hR2 (And.intro hO2 hgw))
      clear z0 z1 y0 y1 hC hR hO hg hC2 hR2 hO2 hgw hg2 fz
      go_wp2_with fail
      have hgW := HW.out.2.1
      refine bodyPost_ret (results_row_tmp rfl _ _ (g + 1) _ _ _ _ rfl ((((HF.out.1.set_ 0 (.slice (some ⟨g + 1 + 1, 0, none⟩) j j)).set_ 1 (.int .i64 (c.d + q))).set_ 2 (.int .i64 (c.way + q))).set_ 3 (.int .i64 c.wt)) Tryd.underlying50 rfl (by kernel_rfl)) rfl ?_
      rw [HE.out.1]
      have hO3 := HF.out.2.1
      rw [Nat.sub_self, List.replicate_zero, List.append_nil] at hO3
      refine ⟨⟨g + 1 + 1, rfl, by omega, ?_⟩, grown_set (grown_set (grown_set (grown_set HF.out.2.2 (p := ⟨g + 1, 0, none⟩) (.inl (by simp; omega)) _) (p := ⟨g + 1, 1, none⟩) (.inl (by simp; omega)) _) (p := ⟨g + 1, 2, none⟩) (.inl (by simp; omega)) _) (p := ⟨g + 1, 3, none⟩) (.inl (by simp; omega)) _⟩
      have hgs := grown_set (grown_set (grown_set (grown_set (World.grownBy.refl w2 (some (g + 1))) (p := ⟨g + 1, 0, none⟩) (.inr rfl) (.slice (some ⟨g + 1 + 1, 0, none⟩) j j)) (p := ⟨g + 1, 1, none⟩) (.inr rfl) (.int .i64 (c.d + q))) (p := ⟨g + 1, 2, none⟩) (.inr rfl) (.int .i64 (c.way + q))) (p := ⟨g + 1, 3, none⟩) (.inr rfl) (.int .i64 c.wt)
      have hO4 := hO3.kept hgs (.inr (by simp [Value.ownBlock]))
      exact own_mono hO4 (by omega)

end Go.Proofs.YtcipidfbclohoaaDoor
