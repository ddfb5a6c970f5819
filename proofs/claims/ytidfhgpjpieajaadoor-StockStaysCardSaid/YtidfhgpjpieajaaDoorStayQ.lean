/- Two coils whose pieces are a call's own: what a store into them keeps; Push and Sell as StockStays needs them. -/
import Derived.Test.YtidfhgpjpieajaaDoorStkO
namespace Go.Proofs.YtidfhgpjpieajaaDoor
open Go.RowKit

structure TwoC (w0 wr : World) (B : Nat) (pr : ByteArray) (most : Int) (A1 : Option Addr) (k1 c1 : Nat) (A2 : Option Addr) (k2 c2 : Nat) : Prop where
  bx : Blk wr B 58 #[.string pr, .int .i64 most, .slice A1 k1 c1, .string pr, .int .i64 most, .slice A2 k2 c2]
  o1 : ∃ Z : List Pc, wr.ownsRow w0.heap.size 54 2 (.slice A1 k1 c1) k1 (pcFlat Z)
  o2 : ∃ Z : List Pc, wr.ownsRow w0.heap.size 54 2 (.slice A2 k2 c2) k2 (pcFlat Z)
  ap : Apart (.slice A1 k1 c1) (.slice A2 k2 c2)
  gr : w0.grownBy wr none
section
variable {w0 wr : World} {B : Nat} {pr : ByteArray} {most : Int} {A1 A2 : Option Addr} {k1 c1 k2 c2 : Nat}
theorem TwoC.alloc (h : TwoC w0 wr B pr most A1 k1 c1 A2 k2 c2) (o : Obj) : TwoC w0 (wr.alloc o) B pr most A1 k1 c1 A2 k2 c2 :=
  ⟨h.bx.alloc o, h.o1.imp fun _ h => h.alloc o, h.o2.imp fun _ h => h.alloc o, h.ap, grown_alloc h.gr o⟩
theorem pc_store {base n c j : Nat} {A : Option Addr} {Z : List Pc} (h : wr.ownsRow base 54 2 (.slice A n c) n (pcFlat Z)) (hj : j < n) :
    ∃ g, A = some ⟨g, 0, none⟩ ∧ base ≤ g ∧ (∃ v, wr.cell? ⟨g, j * 2 + 1, none⟩ = some (.int .i64 v)) ∧ wr.frozen? ⟨g, j * 2 + 1, none⟩ = false ∧
      (∃ Z' : List Pc, (wr.setCell ⟨g, j * 2 + 1, none⟩ (.int .i64 (-3))).ownsRow base 54 2 (.slice A n c) n (pcFlat Z')) ∧ wr.grownBy (wr.setCell ⟨g, j * 2 + 1, none⟩ (.int .i64 (-3))) (Value.slice A n c).ownBlock := by
  obtain ⟨g, c2, hv, hgb, _⟩ := h.form (by omega)
  injection hv with hA _ hc
  subst hA hc
  obtain ⟨A3, c3, hv, _, _, hrd, _⟩ := Rd.of_own h
  injection hv with hA _ hc
  subst hA hc
  obtain ⟨b', off', e', _, y, hy, _, d1⟩ := pc_cells hrd hj
  cases e'
  have hs := h.stored (j * 2 + 1) (.int .i64 (-3))
  rw [pcFlat_set hy] at hs
  exact ⟨g, rfl, hgb, ⟨y.mn, by simpa using d1⟩, h.frozenAt _, ⟨_, hs.1⟩, hs.2⟩
theorem TwoC.set1 (h : TwoC w0 wr B pr most A1 k1 c1 A2 k2 c2) {j : Nat} (hj : j < k1) :
    ∃ g, A1 = some ⟨g, 0, none⟩ ∧ (∃ v, wr.cell? ⟨g, j * 2 + 1, none⟩ = some (.int .i64 v)) ∧ wr.frozen? ⟨g, j * 2 + 1, none⟩ = false ∧ TwoC w0 (wr.setCell ⟨g, j * 2 + 1, none⟩ (.int .i64 (-3))) B pr most A1 k1 c1 A2 k2 c2 ∧
      ∀ X cs, Blk wr X 58 cs → Blk (wr.setCell ⟨g, j * 2 + 1, none⟩ (.int .i64 (-3))) X 58 cs := by
  obtain ⟨Z, ho⟩ := h.o1
  obtain ⟨g, e, hg, hv, hf, hs, hgr⟩ := pc_store ho hj
  refine ⟨g, e, hv, hf, ⟨h.bx.grown hgr (own_bx0 ho h.bx (by decide)), hs, h.o2.imp fun _ k => k.kept hgr h.ap.symm.keep, h.ap, grown_set h.gr (p := ⟨g, j * 2 + 1, none⟩) (.inl hg) _⟩, fun X cs k => k.grown hgr (own_bx0 ho k (by decide))⟩
theorem TwoC.set2 (h : TwoC w0 wr B pr most A1 k1 c1 A2 k2 c2) {j : Nat} (hj : j < k2) :
    ∃ g, A2 = some ⟨g, 0, none⟩ ∧ (∃ v, wr.cell? ⟨g, j * 2 + 1, none⟩ = some (.int .i64 v)) ∧ wr.frozen? ⟨g, j * 2 + 1, none⟩ = false ∧ TwoC w0 (wr.setCell ⟨g, j * 2 + 1, none⟩ (.int .i64 (-3))) B pr most A1 k1 c1 A2 k2 c2 ∧
      ∀ X cs, Blk wr X 58 cs → Blk (wr.setCell ⟨g, j * 2 + 1, none⟩ (.int .i64 (-3))) X 58 cs := by
  obtain ⟨Z, ho⟩ := h.o2
  obtain ⟨g, e, hg, hv, hf, hs, hgr⟩ := pc_store ho hj
  refine ⟨g, e, hv, hf, ⟨h.bx.grown hgr (own_bx0 ho h.bx (by decide)), h.o1.imp fun _ k => k.kept hgr h.ap.keep, hs, h.ap, grown_set h.gr (p := ⟨g, j * 2 + 1, none⟩) (.inl hg) _⟩, fun X cs k => k.grown hgr (own_bx0 ho k (by decide))⟩
end

theorem push_some (L : List Lot) (pr : ByteArray) (most : Int) (ps P : List Pc) (A B D : Option Addr) (c cl n nl np cp : Nat) (hn : ps.length = n) (hnl : L.length = nl) (w : World) (hr : Rd w 2 A n (pcFlat ps)) (hL : Rd w 4 B nl (lotFlat L)) (hp : Rd w 2 D np (pcFlat P)) (hnp : np ≤ 1000) (hA : A = none → c = 0) (hD : D = none → cp = 0)
    (hx : ∀ t ∈ P, t.lot.size ≤ 2) (hF : pushF L ⟨pr, most, ps⟩ P = 0) :
    Calls Tryd.prog 49 #[.agg #[.string pr, .int .i64 most, .slice A n c], .slice B nl cl, .slice D np cp] w
      fun e w' => ∃ (A' : Option Addr) (k c' : Nat) (Z : List Pc), e = .returned (.tuple #[.agg #[.string pr, .int .i64 most, .slice A' k c'], .int .i64 0]) ∧ w'.ownsRow w.heap.size 54 2 (.slice A' k c') k (pcFlat Z) ∧ w.grownBy w' none := by
  subst hn hnl
  refine (push_ok L ⟨pr, most, ps⟩ P A B D c cl np cp w hr hL hp hnp hA hD (fun t ht => by have := hx t ht; unfold maxLen; omega) hF).mono ?_
  rintro e w' ⟨A', c', rfl, h1, h2⟩
  exact ⟨A', _, c', _, rfl, h1, h2⟩
theorem sell_some (pr : ByteArray) (most : Int) (ps : List Pc) (A : Option Addr) (c n : Nat) (hn : ps.length = n) (w : World) (hr : Rd w 2 A n (pcFlat ps)) (hF : coilF ⟨pr, most, ps⟩ = 0) :
    Calls Tryd.prog 53 #[.agg #[.string pr, .int .i64 most, .slice A n c], .int .i64 0] w
      fun e w' => ∃ (A' : Option Addr) (k c' : Nat) (Z : List Pc) (vS : Value), e = .returned (.tuple #[.agg #[.string pr, .int .i64 most, .slice A' k c'], vS, .int .i64 0]) ∧ w'.ownsRow w.heap.size 54 2 (.slice A' k c') k (pcFlat Z) ∧ w.grownBy w' none := by
  subst hn
  have hs : sellF ⟨pr, most, ps⟩ 0 = 0 := by
    unfold sellF
    have h0 := numP_nonneg (coil_ok hF).2.2.2.2.1
    rw [if_neg (by omega), if_neg (by decide), if_neg (by simp only at h0 ⊢; omega)]
  refine (sell_ok ⟨pr, most, ps⟩ 0 A c w hr hs).mono ?_
  rintro e w' ⟨A', c', vS, rfl, h1, _, h2⟩
  exact ⟨A', _, c', _, vS, rfl, h1, h2⟩

end Go.Proofs.YtidfhgpjpieajaaDoor
