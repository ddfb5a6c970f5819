/- The walk of Sites: the sites made of the stream's numbers. -/
import Derived.Test.YtoneebofjbnjpaaDoorSiS
import Derived.Test.YtoneebofjbnjpaaDoorSitW
namespace Go.Proofs.YtoneebofjbnjpaaDoor
open Go.RowKit
variable {Q : Nat → Prop}

/-- A slice of numbers that lies behind S0, or nil. -/
def Gd (S0 : Nat) (w : World) (v : Value) (l : List Int) : Prop := ∃ A n c, v = .slice A n c ∧ Rd w 1 A n (ints l) ∧ ∀ a, A = some a → S0 ≤ a.block ∧ a.block < w.heap.size
theorem Gd.stab {S0 : Nat} {w w' : World} {v : Value} {l : List Int} (h : Gd S0 w v l) (hg : GrowS S0 w w') : Gd S0 w' v l := by
  obtain ⟨A, n, c, e, hr, hb⟩ := h
  obtain ⟨row, hg, hj⟩ := hg
  exact ⟨A, n, c, e, hr.grown_ hg (fun a ha e => by have := hj a.block e.symm; have := (hb a ha).1; omega), fun a ha => ⟨(hb a ha).1, Nat.lt_of_lt_of_le (hb a ha).2 hg.size⟩⟩
theorem Gd.nil_ (S0 : Nat) (w : World) : Gd S0 w (.slice none 0 0) [] := ⟨none, 0, 0, rfl, Rd.nil_ _ _ _, by simp⟩
theorem Gd.new {S0 : Nat} (w : World) (x : Int) (T : TypeId) (h : S0 ≤ w.heap.size) : Gd S0 (w.alloc (.cells #[.int .i64 x] T)) (.slice (some ⟨w.heap.size, 0, none⟩) 1 1) [x] :=
  ⟨_, 1, 1, rfl, rd_new w [x] T, fun a ha => by cases ha; simp; exact h⟩
/-- What each operation of the last mutation yields. -/
def sF (L : List Int) (t : Nat) (bs S0 : Nat) (vo : Value) (i : Nat) (w : World) (v : Value) : Prop :=
  match i with
  | 0 => v = vo
  | 1 => v = .pointer (some ⟨bs, 0, none⟩)
  | 2 => Lit S0 w v (strs wKs)
  | 3 => v = .string (pkS L t wKs)
  | 4 => Gd S0 w v [5]
  | 5 => Gd S0 w v [-1]
  | 6 => Gd S0 w v [10001]
  | 7 => ∃ us : List Value, us.length = 4 ∧ Lit S0 w v us ∧ ∀ j u, us[j]? = some u → Gd S0 w u (wHs.getD j [])
  | 8 => v = .pointer (some ⟨bs, 0, none⟩)
  | 9 => v = .int .i64 (nx L (t + 1) 4)
  | 10 => ∃ N u, v = .pointer (some ⟨N, (nx L (t + 1) 4).toNat, none⟩) ∧ S0 ≤ N ∧ N < w.heap.size ∧ w.cell? ⟨N, (nx L (t + 1) 4).toNat, none⟩ = some u ∧ Gd S0 w u (wHs.getD (nx L (t + 1) 4).toNat [])
  | 11 => Gd S0 w v (wHs.getD (nx L (t + 1) 4).toNat [])
  | 12 => Gd S0 w v [5]
  | 13 => Gd S0 w v [1000001]
  | 14 => ∃ us : List Value, us.length = 3 ∧ Lit S0 w v us ∧ ∀ j u, us[j]? = some u → Gd S0 w u (wRs.getD j [])
  | 15 => v = .pointer (some ⟨bs, 0, none⟩)
  | 16 => v = .int .i64 (nx L (t + 2) 3)
  | 17 => ∃ N u, v = .pointer (some ⟨N, (nx L (t + 2) 3).toNat, none⟩) ∧ S0 ≤ N ∧ N < w.heap.size ∧ w.cell? ⟨N, (nx L (t + 2) 3).toNat, none⟩ = some u ∧ Gd S0 w u (wRs.getD (nx L (t + 2) 3).toNat [])
  | 18 => Gd S0 w v (wRs.getD (nx L (t + 2) 3).toNat [])
  | 19 => ∃ u1 u2, v = .agg #[.string (pkS L t wKs), u1, u2] ∧ Gd S0 w u1 (wHs.getD (nx L (t + 1) 4).toNat []) ∧ Gd S0 w u2 (wRs.getD (nx L (t + 2) 3).toNat [])
  | 20 => ∃ N u1 u2, v = .slice (some ⟨N, 0, none⟩) 1 1 ∧ S0 ≤ N ∧ Blk w N 75 #[.string (pkS L t wKs), u1, u2] ∧ Gd S0 w u1 (wHs.getD (nx L (t + 1) 4).toNat []) ∧ Gd S0 w u2 (wRs.getD (nx L (t + 2) 3).toNat [])
  | _ => True
theorem cell_stab {S0 N i : Nat} {w w' : World} {u : Value} (hg : GrowS S0 w w') (hN : S0 ≤ N) (h : w.cell? ⟨N, i, none⟩ = some u) : w'.cell? ⟨N, i, none⟩ = some u := by
  obtain ⟨row, hg, hj⟩ := hg
  exact hg.cell (a := ⟨N, i, none⟩) h (fun e => by have := hj N e.symm; omega)
theorem GrowS.size {S0 : Nat} {w w' : World} (hg : GrowS S0 w w') : w.heap.size ≤ w'.heap.size := by obtain ⟨row, hg, _⟩ := hg; exact hg.size
theorem sF_stab {L : List Int} {t bs S0 : Nat} {vo : Value} : ∀ (i : Nat) (w w' : World) (v : Value), GrowS S0 w w' → sF L t bs S0 vo i w v → sF L t bs S0 vo i w' v := by
  intro i w w' v hg h
  match i, h with
  | 0, h => exact h
  | 1, h => exact h
  | 2, h => exact Lit.stab h hg
  | 3, h => exact h
  | 4, h => exact Gd.stab h hg
  | 5, h => exact Gd.stab h hg
  | 6, h => exact Gd.stab h hg
  | 7, h => obtain ⟨us, h1, h2, h3⟩ := h; exact ⟨us, h1, h2.stab hg, fun j u hu => (h3 j u hu).stab hg⟩
  | 8, h => exact h
  | 9, h => exact h
  | 10, h => obtain ⟨N, u, h1, h2, h3, h4, h5⟩ := h; exact ⟨N, u, h1, h2, Nat.lt_of_lt_of_le h3 hg.size, cell_stab hg h2 h4, h5.stab hg⟩
  | 11, h => exact Gd.stab h hg
  | 12, h => exact Gd.stab h hg
  | 13, h => exact Gd.stab h hg
  | 14, h => obtain ⟨us, h1, h2, h3⟩ := h; exact ⟨us, h1, h2.stab hg, fun j u hu => (h3 j u hu).stab hg⟩
  | 15, h => exact h
  | 16, h => exact h
  | 17, h => obtain ⟨N, u, h1, h2, h3, h4, h5⟩ := h; exact ⟨N, u, h1, h2, Nat.lt_of_lt_of_le h3 hg.size, cell_stab hg h2 h4, h5.stab hg⟩
  | 18, h => exact Gd.stab h hg
  | 19, h => obtain ⟨u1, u2, h1, h2, h3⟩ := h; exact ⟨u1, u2, h1, h2.stab hg, h3.stab hg⟩
  | 20, h =>
    obtain ⟨N, u1, u2, h1, h2, h3, h4, h5⟩ := h
    refine ⟨N, u1, u2, h1, h2, ?_, h4.stab hg, h5.stab hg⟩
    obtain ⟨row, hg, hj⟩ := hg
    exact h3.grown hg (fun e => by have := hj N e.symm; omega)
  | _ + 21, _ => exact trivial
def sG (Q : Nat → Prop) (w0 : World) (L : List Int) (t : Nat) (bs S0 : Nat) (vo : Value) (l : List Sr) (b3 b9 b16 : Bool) (w : World) : Prop :=
  OutS Q w0 w bs L (t + b3.toNat + b9.toNat + b16.toNat) vo l ∧ (b9 = true → b3 = true) ∧ (b16 = true → b9 = true) ∧ S0 ≤ w.heap.size
theorem sG.quiet {w0 : World} {L : List Int} {t bs S0 : Nat} {vo : Value} {l : List Sr} {b3 b9 b16 : Bool} {w w' : World} (h : sG Q w0 L t bs S0 vo l b3 b9 b16 w) (hg : w.grownBy w' none) : sG Q w0 L t bs S0 vo l b3 b9 b16 w' :=
  ⟨h.1.quiet hg, h.2.1, h.2.2.1, Nat.le_trans h.2.2.2 hg.size⟩

/-- A slice that holds one number, somewhere behind S0. -/
def One1 (S0 : Nat) (w : World) (v : Value) (x : Int) : Prop := ∃ N, v = .slice (some ⟨N, 0, none⟩) 1 1 ∧ S0 ≤ N ∧ w.cell? ⟨N, 0, none⟩ = some (.int .i64 x)
theorem One1.stab {S0 : Nat} {w w' : World} {v : Value} {x : Int} (h : One1 S0 w v x) (hg : GrowS S0 w w') : One1 S0 w' v x := by
  obtain ⟨N, e, hN, hc⟩ := h
  exact ⟨N, e, hN, cell_stab hg hN hc⟩
theorem One1.new {S0 : Nat} (w : World) (x : Int) (T : TypeId) (h : S0 ≤ w.heap.size) : One1 S0 (w.alloc (.cells #[.int .i64 x] T)) (.slice (some ⟨w.heap.size, 0, none⟩) 1 1) x :=
  ⟨w.heap.size, rfl, h, (Blk.new w T #[.int .i64 x]).cell 0⟩
/-- What each operation of a slot's round yields. -/
def iF (bs S0 B : Nat) (vH vR : Value) (x y : Int) (i : Nat) (w : World) (v : Value) : Prop :=
  match i with
  | 0 => v = .pointer (some ⟨B, 1, none⟩)
  | 1 => v = vH
  | 2 => v = .pointer (some ⟨bs, 0, none⟩)
  | 3 => Lit S0 w v (ints [0, 1, 3, 10])
  | 4 => v = .int .i64 x
  | 5 => One1 S0 w v x
  | 6 => ∃ A n c, v = .slice A n c
  | 7 => v = .pointer (some ⟨B, 2, none⟩)
  | 8 => v = vR
  | 9 => v = .pointer (some ⟨bs, 0, none⟩)
  | 10 => Lit S0 w v (ints [0, 10, 40, 100, 1000])
  | 11 => v = .int .i64 y
  | 12 => One1 S0 w v y
  | 13 => ∃ A n c, v = .slice A n c
  | 14 => v = .pointer (some ⟨B, 1, none⟩)
  | _ => True
theorem iF_stab {bs S0 B : Nat} {vH vR : Value} {x y : Int} : ∀ (i : Nat) (w w' : World) (v : Value), GrowS S0 w w' → iF bs S0 B vH vR x y i w v → iF bs S0 B vH vR x y i w' v := by
  intro i w w' v hg h
  match i, h with
  | 0, h => exact h
  | 1, h => exact h
  | 2, h => exact h
  | 3, h => exact Lit.stab h hg
  | 4, h => exact h
  | 5, h => exact One1.stab h hg
  | 6, h => exact h
  | 7, h => exact h
  | 8, h => exact h
  | 9, h => exact h
  | 10, h => exact Lit.stab h hg
  | 11, h => exact h
  | 12, h => exact One1.stab h hg
  | 13, h => exact h
  | 14, h => exact h
  | _ + 15, _ => exact trivial
def iG (Q : Nat → Prop) (w0 : World) (bs : Nat) (L : List Int) (t : Nat) (vo : Value) (l : List Sr) (B : Nat) (k : ByteArray) (vH vR : Value) (hs rs : List Int) (x y : Int) (S0 : Nat) (b4 b6 b11 b13 : Bool) (v6 v13 : Value) (w : World) : Prop :=
  InS Q w0 w bs L (t + b4.toNat + b11.toNat) vo l B k vH vR (if b6 = true then v6 else vH) (if b13 = true then v13 else vR) (if b6 = true then hs ++ [x] else hs) (if b13 = true then rs ++ [y] else rs) ∧
    ((b6 = true → b4 = true) ∧ (b11 = true → b6 = true) ∧ (b13 = true → b11 = true)) ∧ S0 ≤ w.heap.size
theorem iG.quiet {w0 : World} {bs : Nat} {L : List Int} {t : Nat} {vo : Value} {l : List Sr} {B : Nat} {k : ByteArray} {vH vR : Value} {hs rs : List Int} {x y : Int} {S0 : Nat} {b4 b6 b11 b13 : Bool} {v6 v13 : Value} {w w' : World}
    (h : iG Q w0 bs L t vo l B k vH vR hs rs x y S0 b4 b6 b11 b13 v6 v13 w) (hg : w.grownBy w' none) : iG Q w0 bs L t vo l B k vH vR hs rs x y S0 b4 b6 b11 b13 v6 v13 w' :=
  ⟨h.1.quiet hg, h.2.1, Nat.le_trans h.2.2 hg.size⟩

end Go.Proofs.YtoneebofjbnjpaaDoor
