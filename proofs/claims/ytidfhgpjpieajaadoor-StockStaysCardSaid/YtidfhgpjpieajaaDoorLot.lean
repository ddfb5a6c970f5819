/- coilrack/api.Lot: its cells in a slice; append of one, slices.Clone. -/
import Derived.Test.YtidfhgpjpieajaaDoorStru
import Derived.Lib.Slices
namespace Go.Proofs.YtidfhgpjpieajaaDoor
open Go.RowKit

structure Lot where
  id : ByteArray
  pr : ByteArray
  ex : Int
  mn : Int
deriving DecidableEq
instance : Inhabited Lot := ⟨⟨ByteArray.empty, ByteArray.empty, 0, 0⟩⟩
def lotCells (t : Lot) : List Value := [.string t.id, .string t.pr, .int .i64 t.ex, .int .i64 t.mn]
def lotFlat (l : List Lot) : List Value := l.flatMap lotCells
theorem lotCells_len (t : Lot) : (lotCells t).length = 4 := rfl
theorem lotFlat_len (l : List Lot) : (lotFlat l).length = l.length * 4 := rows_len lotCells_len l

/-- The cells of element k. -/
theorem lot_cells {w : World} {A : Option Addr} {n : Nat} {l : List Lot} (h : Rd w 4 A n (lotFlat l)) {k : Nat} (hk : k < n) :
    ∃ b off, A = some ⟨b, off, none⟩ ∧ b < w.heap.size ∧ ∃ t, l[k]? = some t ∧ w.cell? ⟨b, off + k * 4, none⟩ = some (.string t.id) ∧ w.cell? ⟨b, off + k * 4 + 1, none⟩ = some (.string t.pr) ∧ w.cell? ⟨b, off + k * 4 + 2, none⟩ = some (.int .i64 t.ex) ∧ w.cell? ⟨b, off + k * 4 + 3, none⟩ = some (.int .i64 t.mn) := by
  obtain ⟨b, off, e, hb, t, ht, hc⟩ := rows_cell lotCells_len (by decide) h hk
  exact ⟨b, off, e, hb, t, ht, hc 0 _ rfl, hc 1 _ rfl, hc 2 _ rfl, hc 3 _ rfl⟩

theorem Tryd.infoLot : (Tryd.prog.info? 51).map (fun i => (i.zero, i.size, i.bytes)) = some (some (.agg #[.string ByteArray.empty, .string ByteArray.empty, .int .i64 0, .int .i64 0]), 4, 48) := by kernel_rfl
theorem lot_one (t : Lot) : ∀ u ∈ lotCells t, u.oneCell' = true := by
  intro u hu
  simp only [lotCells, List.mem_cons, List.not_mem_nil, or_false] at hu
  rcases hu with rfl | rfl | rfl | rfl <;> rfl
theorem lot_rd_new (w : World) (l : List Lot) (cs : Array Value) (T : TypeId) (h : cs.toList = lotFlat l) : Rd (w.alloc (.cells cs T)) 4 (some ⟨w.heap.size, 0, none⟩) l.length (lotFlat l) :=
  ⟨lotFlat_len l, fun _ => ⟨w.heap.size, 0, rfl, by simp, fun j u hu => by rw [Nat.zero_add, World.cell?_alloc_new]; rw [← h] at hu; simpa using hu⟩⟩

/-- append(out, one). -/
theorem ap_lot {ops : Array Oper} {rest : List Oper} {o : Oper} {a : Act} {Q : Exit → Act → World → Prop} (w : World) (y : Lot) (hgd : o.guard = none) (s x : Operand)
    (ho : o.op = .call { callee := .builtin .append, args := #[s, x], argTypes := #[26, 26] }) (base : Nat) (v : Value) (l : List Lot)
    (hs : a.eval s = v) (hown : w.ownsRow base 51 4 v l.length (lotFlat l)) (hx : a.eval x = .slice (some ⟨w.heap.size, 0, none⟩) 1 1) (hlen : l.length ≤ 1000000000) (hbase : base ≤ w.heap.size)
    (h : ∀ v' w', w'.ownsRow base 51 4 v' (l ++ [y]).length (lotFlat (l ++ [y])) → (w.alloc (.cells #[.string y.id, .string y.pr, .int .i64 y.ex, .int .i64 y.mn] 51)).grownBy w' v.ownBlock → wpList Tryd.prog ops Q rest (a.put o.dst v') w') :
    wpList Tryd.prog ops Q (o :: rest) a (w.alloc (.cells #[.string y.id, .string y.pr, .int .i64 y.ex, .int .i64 y.mn] 51)) := by
  obtain ⟨i0, hi, hz0, hz1, hz2⟩ := info_parts Tryd.infoLot
  refine wpList_append_own _ hgd s x 26 ho base 51 i0 (.agg #[.string ByteArray.empty, .string ByteArray.empty, .int .i64 0, .int .i64 0]) 4 48 Tryd.underlying26 hi hz0 hz1 hz2 rfl (by decide) v l.length (lotFlat l) hs (hown.alloc _) ⟨w.heap.size, 0, none⟩ 1 1 (lotCells y) hx rfl
    (cells_new w #[.string y.id, .string y.pr, .int .i64 y.ex, .int .i64 y.mn] _) (lot_one y) (by unfold maxLen; omega) (by omega) (by simp; omega) ?_
  intro v' w' h1 h2 _
  exact h v' w' (by simpa [lotFlat] using h1) h2

set_option maxHeartbeats 400000 in
theorem cloneLot_any (A : Option Addr) (n c : Nat) (l : List Lot) (w : World) (hr : Rd w 4 A n (lotFlat l)) (hn : n ≤ 1000000) :
    Calls Tryd.prog 74 #[.slice A n c] w fun e w' => ∃ v, e = .returned v ∧ w'.ownsRow w.heap.size 51 4 v n (lotFlat l) ∧ w.grownBy w' none := by
  have e1 := fun (w : World) (a : Option Addr) (n c n' c' : Nat) => Lib.run_eql_slice_nil (P := Tryd.prog) w 26 51 a n c n' c' Tryd.underlying26
  rcases A with _ | a
  · have h0 : n = 0 := by
      rcases Nat.eq_zero_or_pos n with h | h
      · exact h
      · obtain ⟨b, off, e, _⟩ := hr.2 h; cases e
    subst h0
    have hl : lotFlat l = [] := List.eq_nil_of_length_eq_zero (by have := hr.1; omega)
    rw [hl]
    clear hl hr
    go_enter Tryd.func74, Tryd.ntmps74
    go_wp2_with fail
    go_ret
    exact ⟨_, rfl, World.ownsRow_nil _ _ _ _, grown_refl w⟩
  · obtain ⟨i0, hi, hz0, hz1, hz2⟩ := info_parts Tryd.infoLot
    have hown : (w.alloc (.cells #[] 51)).ownsRow w.heap.size 51 4 (.slice (some ⟨w.heap.size, 0, none⟩) 0 0) 0 [] :=
      World.ownsRow_lit w #[] 0 (Nat.le_refl _) (by unfold maxLen; omega) rfl
    have hone : ∀ u ∈ lotFlat l, u.oneCell' = true := by
      intro u hu
      obtain ⟨t, _, ht⟩ := List.mem_flatMap.1 hu
      exact lot_one t u ht
    have hnews : ∀ j u, (lotFlat l)[j]? = some u → (w.alloc (.cells #[] 51)).cell? (a.add j) = some u := by
      intro j u hu
      have hj : 0 < n := by
        rcases Nat.eq_zero_or_pos n with h | h
        · have := (List.getElem?_eq_some_iff.1 hu).1; have := hr.1; omega
        · exact h
      obtain ⟨b, off, e, hb, hc⟩ := hr.2 hj
      cases e
      rw [addp, World.cell?_alloc_lt _ _ _ hb]
      exact hc j u hu
    have hlen := hr.1
    have HH := Lib.hid (And.intro hi (And.intro hz0 (And.intro hz1 hz2)))
    have HN := Lib.hid hnews
    have HO := Lib.hid hone
    have HL := Lib.hid hlen
    clear hi hz0 hz1 hz2 hnews hone hlen
    go_enter Tryd.func74, Tryd.ntmps74
    go_wp2_with (at_builtin; refine wpList_append_own _ rfl _ _ 26 rfl w.heap.size 51 i0 (.agg #[.string ByteArray.empty, .string ByteArray.empty, .int .i64 0, .int .i64 0]) 4 48 Tryd.underlying26 HH.out.1 HH.out.2.1 HH.out.2.2.1 HH.out.2.2.2 rfl (by decide) _ 0 [] rfl hown a n c (lotFlat l) rfl HL.out HN.out HO.out (by unfold maxLen; omega) (by omega) (by simp) ?_; intro v' w' hown' hg' _)
    go_ret
    refine ⟨_, rfl, by simpa using hown', grown_below (grown_alloc (grown_refl w) _) hg' (fun j hj => .inl ?_)⟩
    have h : w.heap.size = j := by injection hj
    omega

end Go.Proofs.YtidfhgpjpieajaaDoor
