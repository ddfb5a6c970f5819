/- The walk of package stock's find: slices.BinarySearchFunc over lots by Id. -/
import Derived.Test.YtidfhgpjpieajaaDoorCmpS
import Derived.Test.YtidfhgpjpieajaaDoorBlk
import Derived.Test.YtidfhgpjpieajaaDoorIdx
import Derived.Carry
import Derived.BigQuiet
namespace Go.Proofs.YtidfhgpjpieajaaDoor
open Go.RowKit

theorem find1_any (t : Lot) (s : ByteArray) (w : World) : Calls Tryd.prog 127 #[.agg #[.string t.id, .string t.pr, .int .i64 t.ex, .int .i64 t.mn], .string s] w fun e w' => e = .returned (.int .i64 (cpS t.id s)) ∧ w.grownBy w' none := by
  have hg0 := grown_alloc (grown_refl w) (.cells #[.string t.id, .string t.pr, .int .i64 t.ex, .int .i64 t.mn] 51)
  have k0 := (Blk.new w 51 #[.string t.id, .string t.pr, .int .i64 t.ex, .int .i64 t.mn]).cell 0
  go_enter Tryd.func127, Tryd.ntmps127
  go_wp2_with (go_at_call 105; refine (compareS_any _ _ _).mono ?_; rintro e w' ⟨rfl, rfl⟩)
  go_ret
  exact ⟨rfl, hg0⟩

/-- Where an Id belongs, among lots by Id. -/
def LoAt (l : List Lot) (s : ByteArray) (i : Nat) : Prop := (∀ k x, k < i → l[k]? = some x → x.id.data.toList < s.data.toList) ∧ ∀ k x, i ≤ k → l[k]? = some x → ¬ x.id.data.toList < s.data.toList

set_option maxRecDepth 100000 in
set_option maxHeartbeats 2000000 in
theorem bsearch_any (A : Option Addr) (n c : Nat) (l : List Lot) (s : ByteArray) (w : World) (hr : Rd w 4 A n (lotFlat l)) (hn : n ≤ 1000000) (hs : l.Pairwise (fun a b => sLe b.id a.id = false)) (he : Enters Tryd.prog 127) :
    Calls Tryd.prog 126 #[.slice A n c, .string s, .func (.func 127) #[] #[]] w
      fun e w' => ∃ (i : Nat) (q : Bool), e = .returned (.tuple #[.int .i64 i, .bool q]) ∧ i ≤ n ∧ LoAt l s i ∧ (q = true ↔ ∃ x, l[i]? = some x ∧ x.id = s) ∧ w.grownBy w' none := by
  have he' : ∀ (args : Array Value) (w : World), (callFunc 127 args).run Tryd.prog w = .ok (.enter 127 args) w := he
  have hl : l.length = n := by have := hr.1; rw [lotFlat_len] at this; omega
  have HL := Lib.hid (And.intro hl hs)
  clear hl hs he
  go_enter Tryd.func126, Tryd.ntmps126
  go_wp2_with fail
  go_loopg [9, 10] n (fun k i j wr => ∃ a b : Nat, k = b - a ∧ a ≤ b ∧ b ≤ n ∧ i = .int .i64 a ∧ j = .int .i64 b ∧ (∀ k x, k < a → l[k]? = some x → x.id.data.toList < s.data.toList) ∧ (∀ k x, b ≤ k → l[k]? = some x → ¬ x.id.data.toList < s.data.toList) ∧ w.grownBy wr none)
  case atStart => exact ⟨0, n, by omega, by omega, by omega, rfl, rfl, fun k x h => absurd h (by omega), fun k x h h' => by have := (List.getElem?_eq_some_iff.1 h').1; have := HL.out.1; omega, grown_refl w⟩
  case round =>
    obtain ⟨a, b, hk, hab, hbn, rfl, rfl, ha, hb, hg⟩ := hrel
    by_cases hlt : a < b
    · have hha : a ≤ (a + b) / 2 ∧ (a + b) / 2 < b := by omega
      obtain ⟨bb, off, rfl, _, t, ht, c0, c1, c2, c3⟩ := lot_cells (hr.grown hg) (k := (a + b) / 2) (by omega)
      have hc := find1_any t s wr
      have hlt1 := cpS_lt t.id s
      have hab' : (a : Int) < (b : Int) := by omega
      have hsort := HL.out.2
      have hbefore : ∀ (_ : t.id.data.toList < s.data.toList), ∀ k x, k < (a + b) / 2 + 1 → l[k]? = some x → x.id.data.toList < s.data.toList := by
        intro hts k x hk' hx
        by_cases e : k = (a + b) / 2
        · subst e; rw [ht] at hx; cases hx; exact hts
        · have h1 := List.pairwise_iff_getElem.1 hsort k ((a + b) / 2) (List.getElem?_eq_some_iff.1 hx).1 (List.getElem?_eq_some_iff.1 ht).1 (by omega)
          rw [(List.getElem?_eq_some_iff.1 hx).2, (List.getElem?_eq_some_iff.1 ht).2] at h1
          exact List.lt_trans (sLe_false.1 h1) hts
      have hafter : ∀ (_ : ¬ t.id.data.toList < s.data.toList), ∀ k x, (a + b) / 2 ≤ k → l[k]? = some x → ¬ x.id.data.toList < s.data.toList := by
        intro hts k x hk' hx hxs
        by_cases e : k = (a + b) / 2
        · subst e; rw [ht] at hx; cases hx; exact hts hxs
        · have h1 := List.pairwise_iff_getElem.1 hsort ((a + b) / 2) k (List.getElem?_eq_some_iff.1 ht).1 (List.getElem?_eq_some_iff.1 hx).1 (by omega)
          rw [(List.getElem?_eq_some_iff.1 hx).2, (List.getElem?_eq_some_iff.1 ht).2] at h1
          exact hts (List.lt_trans (sLe_false.1 h1) hxs)
      have HH := Lib.hid (And.intro hc (And.intro hlt1 (And.intro hbefore (And.intro hafter (And.intro ha (And.intro hb hk))))))
      generalize hcp : cpS t.id s = cp at *
      clear hc hlt1 hbefore hafter ha hb hk ht hsort hcp
      by_cases hcn : cp < 0
      · go_wp2_with fail
        refine HH.out.1.mono ?_
        rintro e w2 ⟨rfl, hg2⟩
        go_wp2_with fail
        obtain ⟨_, hlt1, hbefore, hafter, ha, hb, hk⟩ := HH.out
        go_roundg (b - ((a + b) / 2 + 1))
        case measure => omega
        case rel => exact ⟨(a + b) / 2 + 1, b, by omega, by omega, hbn, by simp, rfl, hbefore (hlt1.1 hcn), hb, hg.trans hg2⟩
      · have hcn' : 0 ≤ cp := by omega
        go_wp2_with fail
        refine HH.out.1.mono ?_
        rintro e w2 ⟨rfl, hg2⟩
        go_wp2_with fail
        obtain ⟨_, hlt1, hbefore, hafter, ha, hb, hk⟩ := HH.out
        go_roundg ((a + b) / 2 - a)
        case measure => omega
        case rel => exact ⟨a, (a + b) / 2, by omega, by omega, by omega, rfl, by simp, ha, hafter (fun h => by have := hlt1.2 h; omega), hg.trans hg2⟩
    · obtain rfl : a = b := by omega
      clear hlt
      have HA := Lib.hid (And.intro ha hb)
      clear ha hb hk
      by_cases han : a < n
      · obtain ⟨bb, off, rfl, _, t, ht, c0, c1, c2, c3⟩ := lot_cells (hr.grown hg) han
        have hc := find1_any t s wr
        have hz := cpS_zero t.id s
        have HH := Lib.hid (And.intro hc (And.intro hz ht))
        generalize cpS t.id s = cp at *
        have han' : (a : Int) < (n : Int) := by omega
        clear hc hz ht
        go_wp2_with fail
        refine HH.out.1.mono ?_
        rintro e w2 ⟨rfl, hg2⟩
        obtain ⟨q, hq⟩ : ∃ q, (cp == 0) = q := ⟨_, rfl⟩
        go_wp2_with fail
        refine bodyPost_ret (results_tmp2 rfl _ _ _) rfl ?_
        refine ⟨a, q, rfl, by omega, ⟨HA.out.1, HA.out.2⟩, ?_, hg.trans hg2⟩
        rw [← hq, beq_iff_eq, HH.out.2.1]
        exact ⟨fun h => ⟨t, HH.out.2.2, h⟩, fun ⟨x, hx, h⟩ => by rw [HH.out.2.2] at hx; cases hx; exact h⟩
      · have han' : a = n := by omega
        subst han'
        go_wp2_with fail
        refine bodyPost_ret (results_tmp2 rfl _ _ _) rfl ?_
        refine ⟨a, false, rfl, by omega, ⟨HA.out.1, HA.out.2⟩, ?_, hg⟩
        constructor
        · intro h; cases h
        · rintro ⟨x, hx, _⟩
          have := (List.getElem?_eq_some_iff.1 hx).1
          have := HL.out.1
          omega

end Go.Proofs.YtidfhgpjpieajaaDoor
