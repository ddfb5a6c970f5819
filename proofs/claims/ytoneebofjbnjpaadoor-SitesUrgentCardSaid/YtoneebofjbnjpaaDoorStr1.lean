/- Slices of strings: cells; append of one, of several; slices.Clone; slices.Equal. -/
import Derived.Test.YtoneebofjbnjpaaDoorOne
import Derived.Test.YtoneebofjbnjpaaDoorStru
import Derived.Test.YtoneebofjbnjpaaDoorSq
import Derived.Lib.Slices
import Derived.Deep.AppendLies
import Derived.Laws.AppendOwnNone
namespace Go.Proofs.YtoneebofjbnjpaaDoor
open Go.RowKit

theorem strs_len (l : List ByteArray) : (strs l).length = l.length := by simp [strs]
theorem str_cells {w : World} {A : Option Addr} {n : Nat} {l : List ByteArray} (h : Rd w 1 A n (strs l)) {k : Nat} (hk : k < n) :
    ∃ b off, A = some ⟨b, off, none⟩ ∧ b < w.heap.size ∧ ∃ x, l[k]? = some x ∧ w.cell? ⟨b, off + k, none⟩ = some (.string x) := by
  have hl : l.length = n := by have := h.1; rw [strs_len] at this; omega
  obtain ⟨b, off, e, hb, hc⟩ := h.2 (by omega)
  have hk' : k < l.length := by omega
  exact ⟨b, off, e, hb, l[k], List.getElem?_eq_getElem hk', hc k _ (by simp [strs, hk'])⟩
theorem str_one (l : List ByteArray) : ∀ u ∈ strs l, u.oneCell' = true := by
  intro u hu
  obtain ⟨x, _, rfl⟩ := List.mem_map.1 hu
  rfl
theorem str_rd_new (w : World) (l : List ByteArray) (T : TypeId) : Rd (w.alloc (.cells (strs l).toArray T)) 1 (some ⟨w.heap.size, 0, none⟩) l.length (strs l) :=
  ⟨by simp [strs], fun _ => ⟨w.heap.size, 0, rfl, by simp, fun j u h => by rw [Nat.zero_add, World.cell?_alloc_new]; simpa using h⟩⟩

theorem Tryd.infoStr : (Tryd.prog.info? 9).map (fun i => (i.zero, i.size, i.bytes)) = some (some (.string ByteArray.empty), 1, 16) := by kernel_rfl

/-- append(out, y): one string. -/
theorem ap_s1 {ops : Array Oper} {rest : List Oper} {o : Oper} {a : Act} {Q : Exit → Act → World → Prop} (w : World) (y : ByteArray) (hgd : o.guard = none) (s x : Operand)
    (ho : o.op = .call { callee := .builtin .append, args := #[s, x], argTypes := #[33, 33] }) (base : Nat) (v : Value) (l : List ByteArray)
    (hs : a.eval s = v) (hown : w.ownsRow base 9 1 v l.length (strs l)) (hx : a.eval x = .slice (some ⟨w.heap.size, 0, none⟩) 1 1) (hlen : l.length ≤ 1000000000) (hbase : base ≤ w.heap.size)
    (h : ∀ v' w', w'.ownsRow base 9 1 v' (l ++ [y]).length (strs (l ++ [y])) → (w.alloc (.cells #[.string y] 9)).grownBy w' v.ownBlock → wpList Tryd.prog ops Q rest (a.put o.dst v') w') :
    wpList Tryd.prog ops Q (o :: rest) a (w.alloc (.cells #[.string y] 9)) := by
  obtain ⟨i0, hi, hz0, hz1, hz2⟩ := info_parts Tryd.infoStr
  refine wpList_append_own _ hgd s x 33 ho base 9 i0 (.string ByteArray.empty) 1 16 Tryd.underlying33 hi hz0 hz1 hz2 rfl (by decide) v l.length (strs l) hs (hown.alloc _) ⟨w.heap.size, 0, none⟩ 1 1 (strs [y]) hx rfl
    (cells_new w #[.string y] _) (str_one [y]) (by unfold maxLen; omega) (by omega) (by simp; omega) ?_
  intro v' w' h1 h2 _
  exact h v' w' (by simpa [strs] using h1) h2

/-- The world's size under another name. -/
theorem ap_s1_at {ops : Array Oper} {rest : List Oper} {o : Oper} {a : Act} {Q : Exit → Act → World → Prop} (w : World) (N : Nat) (hN : w.heap.size = N) (y : ByteArray) (hgd : o.guard = none) (s x : Operand)
    (ho : o.op = .call { callee := .builtin .append, args := #[s, x], argTypes := #[33, 33] }) (base : Nat) (v : Value) (l : List ByteArray)
    (hs : a.eval s = v) (hown : w.ownsRow base 9 1 v l.length (strs l)) (hx : a.eval x = .slice (some ⟨N, 0, none⟩) 1 1) (hlen : l.length ≤ 1000000000) (hbase : base ≤ w.heap.size)
    (h : ∀ v' w', w'.ownsRow base 9 1 v' (l ++ [y]).length (strs (l ++ [y])) → (w.alloc (.cells #[.string y] 9)).grownBy w' v.ownBlock → wpList Tryd.prog ops Q rest (a.put o.dst v') w') :
    wpList Tryd.prog ops Q (o :: rest) a (w.alloc (.cells #[.string y] 9)) := by
  subst hN; exact ap_s1 w y hgd s x ho base v l hs hown hx hlen hbase h











































/-- What slices.Equal says of two lists of strings. -/
def eqSs (X Y : List ByteArray) : Bool := decide (X = Y)
set_option maxRecDepth 100000 in
set_option maxHeartbeats 1000000 in
theorem equalStr_any (A B : Option Addr) (n m c d : Nat) (X Y : List ByteArray) (w : World) (hr : Rd w 1 A n (strs X)) (hr2 : Rd w 1 B m (strs Y)) (hn : n ≤ 1000000) (hm : m ≤ 1000000) :
    Calls Tryd.prog 17 #[.slice A n c, .slice B m d] w fun e w' => e = .returned (.bool (eqSs X Y)) ∧ w.grownBy w' none := by
  have hX : X.length = n := by have := hr.1; rw [strs_len] at this; omega
  have hY : Y.length = m := by have := hr2.1; rw [strs_len] at this; omega
  by_cases hnm : n = m
  · subst hnm
    have HL := Lib.hid (And.intro hX hY)
    have hnn : ((n : Int) != (n : Int)) = false := by simp
    obtain ⟨V, hV⟩ : ∃ V, eqSs X Y = V := ⟨_, rfl⟩
    rw [hV]
    have HV := Lib.hid hV
    clear hX hY hV
    go_enter Tryd.func17, Tryd.ntmps17
    go_wp2_with fail
    go_loopg [13] n (fun k i wr => ∃ j : Nat, k + j = n ∧ i = .int .i64 j ∧ w.grownBy wr none ∧ Hid (X.take j = Y.take j))
    case atStart => exact ⟨0, by omega, rfl, grown_refl w, Lib.hid (by simp)⟩
    case round =>
      obtain ⟨j, hj, rfl, hg, H⟩ := hrel
      by_cases hlt : j < n
      · obtain ⟨b, off, rfl, _, x, hx, c0⟩ := str_cells (hr.grown hg) hlt
        obtain ⟨b', off', rfl, _, y, hy, d0⟩ := str_cells (hr2.grown hg) hlt
        have hlt' : (j : Int) < (n : Int) := by omega
        have HX := Lib.hid (And.intro hx hy)
        have HJ := Lib.hid hj
        clear hj hx hy
        by_cases hxy : x = y
        · subst hxy
          have hxx : (x.toList == x.toList) = true := by simp
          go_wp2_with fail
          go_quiet (fail)
          go_wp2_with fail
          have hj := HJ.out
          go_roundg (gk - 1)
          case measure => omega
          case rel => exact ⟨j + 1, by omega, by go_num, grown_drewN hg _, Lib.hid (by rw [take_at HX.out.1, take_at HX.out.2, H.out])⟩
        · have hb : (x.toList == y.toList) = false := by
            have := sEq_ne.2 hxy
            exact this
          have hb2 : (x.toList != y.toList) = true := by simp [bne, hb]
          have HN := Lib.hid hxy
          clear hxy
          go_wp2_with fail
          go_quiet (fail)
          go_wp2_with fail
          go_ret
          refine ⟨retB ?_, grown_drewN hg _⟩
          rw [← HV.out]
          unfold eqSs
          symm
          rw [decide_eq_false_iff_not]
          intro e
          rw [e] at HX
          have := HX.out.1.symm.trans HX.out.2
          injection this with this
          exact HN.out this
      · obtain rfl : j = n := by omega
        go_wp2_with fail
        go_ret
        refine ⟨retB ?_, hg⟩
        rw [← HV.out]
        unfold eqSs
        symm
        rw [decide_eq_true_iff]
        have := H.out
        rw [List.take_of_length_le (by rw [HL.out.1]; omega), List.take_of_length_le (by rw [HL.out.2]; omega)] at this
        exact this
  · have hV : eqSs X Y = false := by
      unfold eqSs
      rw [decide_eq_false_iff_not]
      intro e
      rw [e] at hX
      omega
    rw [hV]
    have hnn : ((n : Int) != (m : Int)) = true := by simp; omega
    clear hX hY hV hnm
    go_enter Tryd.func17, Tryd.ntmps17
    go_wp2_with fail
    go_ret
    exact ⟨rfl, grown_refl w⟩

end Go.Proofs.YtoneebofjbnjpaaDoor
