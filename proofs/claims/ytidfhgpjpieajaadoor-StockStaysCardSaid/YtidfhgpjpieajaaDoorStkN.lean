/- The walks of package stock's store: NewStore, find, slices.Insert of a lot at the end, Lots. -/
import Derived.Test.YtidfhgpjpieajaaDoorStkM
import Derived.Test.YtidfhgpjpieajaaDoorStkL
import Derived.Test.YtidfhgpjpieajaaDoorStkD
namespace Go.Proofs.YtidfhgpjpieajaaDoor
open Go.RowKit

/-- append(a, b...): lots of another slice. -/
theorem ap_lots {ops : Array Oper} {rest : List Oper} {o : Oper} {a : Act} {Q : Exit → Act → World → Prop} (w : World) (ys : List Lot) (A : Addr) (m cc : Nat) (hgd : o.guard = none) (s x : Operand)
    (ho : o.op = .call { callee := .builtin .append, args := #[s, x], argTypes := #[26, 26] }) (base : Nat) (v : Value) (l : List Lot)
    (hs : a.eval s = v) (hown : w.ownsRow base 51 4 v l.length (lotFlat l)) (hx : a.eval x = .slice (some A) m cc) (hr : Rd w 4 (some A) m (lotFlat ys))
    (hlen : l.length ≤ 1000000000) (hlen2 : m ≤ 1000000000) (hbase : base ≤ w.heap.size)
    (h : ∀ v' w', w'.ownsRow base 51 4 v' (l ++ ys).length (lotFlat (l ++ ys)) → w.grownBy w' v.ownBlock → wpList Tryd.prog ops Q rest (a.put o.dst v') w') :
    wpList Tryd.prog ops Q (o :: rest) a w := by
  obtain ⟨i0, hi, hz0, hz1, hz2⟩ := info_parts Tryd.infoLot
  have hm : ys.length = m := by have := hr.1; rw [lotFlat_len] at this; omega
  refine wpList_append_own _ hgd s x 26 ho base 51 i0 (.agg #[.string ByteArray.empty, .string ByteArray.empty, .int .i64 0, .int .i64 0]) 4 48 Tryd.underlying26 hi hz0 hz1 hz2 rfl (by decide) v l.length (lotFlat l) hs hown A m cc (lotFlat ys) hx hr.1 (by
      intro j u hu
      have hj : 0 < m := by
        rcases Nat.eq_zero_or_pos m with h | h
        · have := (List.getElem?_eq_some_iff.1 hu).1; have := hr.1; omega
        · exact h
      obtain ⟨b, off, e, hb, hc⟩ := hr.2 hj
      cases e
      rw [addp]
      exact hc j u hu) (by
      intro u hu
      obtain ⟨t, _, ht⟩ := List.mem_flatMap.1 hu
      exact lot_one t u ht) (by unfold maxLen; omega) (by omega) hbase ?_
  intro v' w' h1 h2 _
  exact h v' w' (by simpa [lotFlat, hm] using h1) h2

set_option maxHeartbeats 1000000 in
theorem insertEnd_any (base : Nat) (A : Option Addr) (n c : Nat) (B : Addr) (l : List Lot) (y : Lot) (w : World) (hown : w.ownsRow base 51 4 (.slice A n c) n (lotFlat l)) (hb : Rd w 4 (some B) 1 (lotFlat [y])) (hn : n ≤ 1000000) (hbase : base ≤ w.heap.size) :
    Calls Tryd.prog 107 #[.slice A n c, .int .i64 n, .slice (some B) 1 1] w
      fun e w' => ∃ v, e = .returned v ∧ w'.ownsRow base 51 4 v (l ++ [y]).length (lotFlat (l ++ [y])) ∧ w.grownBy w' (Value.slice A n c).ownBlock := by
  have hl : l.length = n := by have := hown.1; rw [lotFlat_len] at this; omega
  subst hl
  obtain ⟨A', c', hv, hnc, _, _, _⟩ := Rd.of_own hown
  injection hv with hA _ hc
  subst hA hc
  by_cases hcc : c = l.length
  · subst hcc
    go_enter Tryd.func107, Tryd.ntmps107
    go_wp2_with (at_builtin; refine ap_lots w [y] B 1 1 rfl _ _ rfl base _ l rfl hown rfl hb (by omega) (by omega) hbase ?_; intro v5 w5 ho5 hg5)
    go_ret
    rw [List.length_append] at ho5
    exact ⟨_, rfl, ho5, hg5⟩
  · have hnc' : (l.length : Int) ≤ (c : Int) := by omega
    go_enter Tryd.func107, Tryd.ntmps107
    go_wp2_with (at_builtin; refine ap_lots w [y] B 1 1 rfl _ _ rfl base _ l rfl hown rfl hb (by omega) (by omega) hbase ?_; intro v5 w5 ho5 hg5)
    go_ret
    rw [List.length_append] at ho5
    exact ⟨_, rfl, ho5, hg5⟩

set_option maxHeartbeats 1000000 in
theorem find_any (A : Option Addr) (n c g : Nat) (m : Value) (l : List Lot) (s : ByteArray) (w : World) (hB : Blk w g 137 #[.slice A n c, m]) (hr : Rd w 4 A n (lotFlat l)) (hn : n ≤ 1000000) (hs : l.Pairwise (fun a b => sLe b.id a.id = false)) (he : Enters Tryd.prog 127) :
    Calls Tryd.prog 106 #[.pointer (some ⟨g, 0, none⟩), .string s] w
      fun e w' => ∃ (i : Nat) (q : Bool), e = .returned (.tuple #[.int .i64 i, .bool q]) ∧ i ≤ n ∧ LoAt l s i ∧ (q = true ↔ ∃ x, l[i]? = some x ∧ x.id = s) ∧ w.grownBy w' none := by
  have hbs := bsearch_any A n c l s w hr hn hs he
  have k0 := hB.cell 0
  have HC := Lib.hid hbs
  clear hbs hB hr hs he
  go_enter Tryd.func106, Tryd.ntmps106
  go_wp2_with fail
  refine HC.out.mono ?_
  rintro e w2 ⟨i, q, rfl, h1, h2, h3, hg2⟩
  have HH := Lib.hid (And.intro h1 (And.intro h2 (And.intro h3 hg2)))
  clear h1 h2 h3 hg2
  go_wp2_with fail
  refine bodyPost_ret (results_tmp2 rfl _ _ _) rfl ?_
  exact ⟨i, q, rfl, HH.out.1, HH.out.2.1, HH.out.2.2.1, HH.out.2.2.2⟩

set_option maxHeartbeats 1000000 in
theorem storeLots_any (A : Option Addr) (n c g : Nat) (m : Value) (l : List Lot) (w : World) (hB : Blk w g 137 #[.slice A n c, m]) (hr : Rd w 4 A n (lotFlat l)) (hn : n ≤ 1000000) :
    Calls Tryd.prog 62 #[.pointer (some ⟨g, 0, none⟩)] w fun e w' => ∃ v, e = .returned v ∧ w'.ownsRow w.heap.size 51 4 v n (lotFlat l) ∧ w.grownBy w' none := by
  have hcl := cloneLot_any A n c l w hr hn
  have k0 := hB.cell 0
  have HC := Lib.hid hcl
  clear hcl hB hr
  go_enter Tryd.func62, Tryd.ntmps62
  go_wp2_with fail
  refine HC.out.mono ?_
  rintro e w2 ⟨v, rfl, ho, hg⟩
  go_wp2_with fail
  go_ret
  exact ⟨v, rfl, ho, hg⟩

/-- A store: its box at g, its lots L, its own map at m. -/
structure StoreSt (w0 wr : World) (g m : Nat) (v : Value) (L : List Lot) (f : ByteArray → Option Value) : Prop where
  bx : Blk wr g 137 #[v, .map (some m)]
  own : wr.ownsRow w0.heap.size 51 4 v L.length (lotFlat L)
  mp : MapF strA wr m L.length f
  gr : w0.grownBy wr none
  gl : w0.heap.size ≤ g
  ml : w0.heap.size ≤ m

set_option maxHeartbeats 1000000 in
theorem newStore_any (w : World) : Calls Tryd.prog 60 #[] w fun e w' => ∃ g m, e = .returned (.pointer (some ⟨g, 0, none⟩)) ∧ StoreSt w w' g m (.slice none 0 0) [] (fun _ => none) := by
  have hmm := @run_makeMap Tryd.prog
  have hm0 := MapF.made strA w
  have hg0 := grown_alloc (grown_refl w) (.map #[] 0)
  have hB := Blk.new (w.alloc (.map #[] 0)) 137 #[.slice none 0 0, .map (some w.heap.size)]
  have hz : (w.alloc (.map #[] 0)).heap.size = w.heap.size + 1 := by simp
  rw [hz] at hB
  have HH := Lib.hid (And.intro hm0 (And.intro hg0 hB))
  clear hm0 hg0 hB
  go_enter Tryd.func60, Tryd.ntmps60
  go_wp2_with fail
  go_ret
  exact ⟨w.heap.size + 1, w.heap.size, rfl, HH.out.2.2, World.ownsRow_nil _ _ _ _, HH.out.1.alloc _, grown_alloc HH.out.2.1 _, by omega, by omega⟩

end Go.Proofs.YtidfhgpjpieajaaDoor
