/- The walks of the reference: units, BlockedOf. -/
import Derived.Test.YtidfhgpjpieajaaDoorRefN
import Derived.Test.YtidfhgpjpieajaaDoorStkE
namespace Go.Proofs.YtidfhgpjpieajaaDoor
open Go.RowKit

theorem Tryd.infoStr : (Tryd.prog.info? 9).map (fun i => (i.zero, i.size, i.bytes)) = some (some (.string ByteArray.empty), 1, 16) := by kernel_rfl
theorem strs_one (l : List ByteArray) : ∀ u ∈ strs l, u.oneCell' = true := by
  intro u hu
  obtain ⟨x, _, rfl⟩ := List.mem_map.1 hu
  rfl
/-- append(out, s): one string. -/
theorem ap_str1 {ops : Array Oper} {rest : List Oper} {o : Oper} {a : Act} {Q : Exit → Act → World → Prop} (w : World) (y : ByteArray) (hgd : o.guard = none) (s x : Operand)
    (ho : o.op = .call { callee := .builtin .append, args := #[s, x], argTypes := #[89, 89] }) (base : Nat) (v : Value) (l : List ByteArray)
    (hs : a.eval s = v) (hown : w.ownsRow base 9 1 v l.length (strs l)) (hx : a.eval x = .slice (some ⟨w.heap.size, 0, none⟩) 1 1) (hlen : l.length ≤ 1000000000) (hbase : base ≤ w.heap.size)
    (h : ∀ v' w', w'.ownsRow base 9 1 v' (l ++ [y]).length (strs (l ++ [y])) → (w.alloc (.cells #[.string y] 9)).grownBy w' v.ownBlock → wpList Tryd.prog ops Q rest (a.put o.dst v') w') :
    wpList Tryd.prog ops Q (o :: rest) a (w.alloc (.cells #[.string y] 9)) := by
  obtain ⟨i0, hi, hz0, hz1, hz2⟩ := info_parts Tryd.infoStr
  refine wpList_append_own _ hgd s x 89 ho base 9 i0 (.string ByteArray.empty) 1 16 Tryd.underlying89 hi hz0 hz1 hz2 rfl (by decide) v l.length (strs l) hs (hown.alloc _) ⟨w.heap.size, 0, none⟩ 1 1 (strs [y]) hx rfl
    (cells_new w #[.string y] _) (strs_one _) (by unfold maxLen; omega) (by omega) (by simp; omega) ?_
  intro v' w' h1 h2 _
  exact h v' w' (by simpa [strs] using h1) h2

theorem str_cells {w : World} {A : Option Addr} {n : Nat} {l : List ByteArray} (h : Rd w 1 A n (strs l)) {k : Nat} (hk : k < n) :
    ∃ b off, A = some ⟨b, off, none⟩ ∧ b < w.heap.size ∧ ∃ x, l[k]? = some x ∧ w.cell? ⟨b, off + k, none⟩ = some (.string x) := by
  have hl : l.length = n := by have := h.1; simpa [strs] using this
  obtain ⟨b, off, e, hb, hc⟩ := h.2 (by omega)
  have hk' : k < l.length := by omega
  exact ⟨b, off, e, hb, l[k], List.getElem?_eq_getElem hk', hc k _ (by simp [strs, hk'])⟩

theorem own_bx {w : World} {g : Nat} {t : TypeId} {cs : Array Value} {base : Nat} {e : TypeId} {size n : Nat} {v : Value} {xs : List Value} (h : w.ownsRow base e size v n xs) (hg : Blk w g t cs) (hne : e ≠ t) : some g ≠ v.ownBlock := by
  rcases h.2 with ⟨rfl, _⟩ | ⟨g', cap, cur, rfl, _, hh, _⟩
  · simp [Value.ownBlock]
  · intro he
    have : g' = g := by simpa [Value.ownBlock] using he.symm
    subst this
    unfold Blk at hg
    rw [hg] at hh
    cases hh
    exact hne rfl

theorem units_take {l : List Pc} {j : Nat} {t : Pc} (ht : l[j]? = some t) : unitsP (l.take (j + 1)) = unitsP (l.take j) ++ List.replicate t.mn.toNat t.lot := by
  unfold unitsP; rw [take_at ht, List.flatMap_append]; simp

set_option maxRecDepth 100000 in
set_option maxHeartbeats 4000000 in
theorem units_any (A : Option Addr) (n c : Nat) (l : List Pc) (w : World) (hr : Rd w 2 A n (pcFlat l)) (hn : n ≤ 1000) (hok : ∀ t ∈ l, PcOk t) :
    Calls Tryd.prog 87 #[.slice A n c] w fun e w' => ∃ v, e = .returned v ∧ w'.ownsRow w.heap.size 9 1 v (unitsP l).length (strs (unitsP l)) ∧ w.grownBy w' none := by
  have hl : l.length = n := by have := hr.1; rw [pcFlat_len] at this; omega
  have hbd : ∀ j, j ≤ n → (unitsP (l.take j)).length ≤ 1000000 := by
    intro j hj
    have h1 := units_len (l := l.take j) (fun t ht => hok t (List.mem_of_mem_take ht))
    have h2 := numP_bound (l := l.take j) (fun t ht => hok t (List.mem_of_mem_take ht))
    rw [List.length_take] at h2
    omega
  have hz : unitsP (l.take 0) = [] := rfl
  have HL := Lib.hid (And.intro hl (And.intro hok (And.intro hbd hz)))
  clear hl hok hbd hz
  go_enter Tryd.func87, Tryd.ntmps87
  go_wp2_with fail
  go_loopg [3, 8] n (fun k v i wr => ∃ j : Nat, k + j = n ∧ i = .int .i64 j ∧ wr.ownsRow w.heap.size 9 1 v (unitsP (l.take j)).length (strs (unitsP (l.take j))) ∧ w.grownBy wr none)
  case atStart => exact ⟨0, by omega, rfl, by rw [HL.out.2.2.2]; exact World.ownsRow_nil _ _ _ _, grown_refl w⟩
  case round =>
    obtain ⟨j, hj, rfl, hown, hg⟩ := hrel
    by_cases hlt : j < n
    · obtain ⟨b, off, rfl, hb, t, ht, c0, c1⟩ := pc_cells (hr.grown hg) hlt
      obtain ⟨lot, mn⟩ := t
      obtain ⟨hl, hok, hbd, _⟩ := HL.out
      have hp := hok _ (List.mem_of_getElem? ht)
      obtain ⟨q, rfl⟩ : ∃ q : Nat, mn = q := ⟨mn.toNat, by have := hp.2.1; simp only at this; omega⟩
      have hq : q ≤ 1000 := by have := hp.2.2; simp only at this; omega
      have htk := units_take ht
      simp only [Int.toNat_natCast] at htk
      have hel := hbd j (by omega)
      have hB := Blk.new wr 54 #[.string lot, .int .i64 q]
      have hgx := grown_alloc hg (.cells #[.string lot, .int .i64 q] 54)
      have hox := hown.alloc (.cells #[.string lot, .int .i64 q] 54)
      have hsz := hg.size
      have hzz : (wr.alloc (.cells #[.string lot, .int .i64 q] 54)).heap.size = wr.heap.size + 1 := by simp
      generalize unitsP (l.take j) = U at *
      have HH := Lib.hid (And.intro htk (And.intro hj (And.intro hB (And.intro hgx (And.intro hox hzz)))))
      have kB := hB.two
      generalize gk = ko at *
      clear htk hj hB hgx hox hl hok hbd hp ht hown hg hzz
      go_wp2_with fail
      obtain ⟨htk, hj, hB, hgx, hox, hzz⟩ := HH.out
      generalize wr.alloc (.cells #[.string lot, .int .i64 q] 54) = wA at *
      generalize wr.heap.size = gx at *
      clear htk hj c0 c1 kB
      go_loopg [3, 14] q (fun k v i wz => ∃ r : Nat, k + r = q ∧ i = .int .i64 r ∧ wz.ownsRow w.heap.size 9 1 v (U ++ List.replicate r lot).length (strs (U ++ List.replicate r lot)) ∧ Blk wz gx 54 #[.string lot, .int .i64 q] ∧ w.grownBy wz none ∧ gx < wz.heap.size)
      case atStart => exact ⟨0, by omega, rfl, by simpa using hox, hB, hgx, by omega⟩
      case round =>
        clear hB hgx hox hzz
        obtain ⟨r, hr', rfl, hown, hB, hg, hgl⟩ := hrel
        have kB := hB.two
        by_cases hlr : r < q
        · have hlen : (U ++ List.replicate r lot).length ≤ 1001000 := by simp; omega
          have hrep : U ++ List.replicate (r + 1) lot = (U ++ List.replicate r lot) ++ [lot] := by rw [List.replicate_succ', List.append_assoc]
          have hown' := hown
          generalize U ++ List.replicate r lot = U2 at *
          have HR := Lib.hid (And.intro hrep (And.intro hr' (And.intro hB hown')))
          have hlq : (r : Int) < (q : Int) := by omega
          clear hrep hr' hB hown'
          go_wp2_with (at_builtin; refine ap_str1 _ lot rfl _ _ rfl w.heap.size _ U2 rfl hown rfl (by omega) hg.size ?_; intro v4 w4 hown4 hg4)
          obtain ⟨hrep, hr', hB, hown'⟩ := HR.out
          go_roundg (gk - 1)
          case measure => omega
          case rel =>
            have hoA := hown'.alloc (.cells #[.string lot] 9)
            exact ⟨r + 1, by omega, by go_num, by rw [hrep]; exact hown4, (hB.alloc (.cells #[.string lot] 9)).grown hg4 (own_bx hoA (hB.alloc (.cells #[.string lot] 9)) (by decide)), grown_below (grown_alloc hg (.cells #[.string lot] 9)) hg4 (fun i hi => .inl (hoA.lt i hi).1), by have := hg4.size; simp at this; omega⟩
        · obtain rfl : r = q := by omega
          go_wp2_with fail
          obtain ⟨htk, hj, _⟩ := HH.out
          go_roundg (ko - 1)
          case measure => omega
          case rel => exact ⟨j + 1, by omega, by go_num, by rw [htk]; exact hown, hg⟩
    · obtain rfl : j = n := by omega
      rw [List.take_of_length_le (by have := HL.out.1; omega)] at hown
      go_wp2_with fail
      go_ret
      exact ⟨_, rfl, hown, hg⟩

theorem blk_at {L : List Lot} {us : List ByteArray} {d : Int} {j : Nat} {s : ByteArray} (hj : us[j]? = some s) (hb : ∀ i x, i < j → us[i]? = some x → exOf L x < d) (hs : d ≤ exOf L s) : blkP (us.map (exOf L)) d = j := by
  unfold blkP
  congr 1
  obtain ⟨hjl, e⟩ := List.getElem?_eq_some_iff.1 hj
  rw [List.findIdx_eq (by simpa using hjl)]
  refine ⟨by simp [e, hs], fun i hi => ?_⟩
  have := hb i us[i] hi (List.getElem?_eq_getElem (by omega))
  simp
  omega
theorem blk_all {L : List Lot} {us : List ByteArray} {d : Int} (hb : ∀ i x, i < us.length → us[i]? = some x → exOf L x < d) : blkP (us.map (exOf L)) d = us.length := by
  unfold blkP
  congr 1
  rw [show us.length = (us.map (exOf L)).length from by simp]
  rw [List.findIdx_eq_length]
  intro x hx
  obtain ⟨s, hs, rfl⟩ := List.mem_map.1 hx
  obtain ⟨i, hi, e⟩ := List.getElem_of_mem hs
  have := hb i s hi (by rw [← e]; exact List.getElem?_eq_getElem hi)
  simp
  omega

set_option maxRecDepth 100000 in
set_option maxHeartbeats 2000000 in
theorem blockedOf_any (L : List Lot) (C : Coil) (A B : Option Addr) (c cl : Nat) (d : Int) (w : World) (hr : Rd w 2 A C.ps.length (pcFlat C.ps)) (hlen : C.ps.length ≤ 1000) (hok : ∀ t ∈ C.ps, PcOk t) (hsum : numP C.ps ≤ 1000) (hL : Rd w 4 B L.length (lotFlat L)) (hLn : L.length ≤ 1000000) :
    Calls Tryd.prog 37 #[.agg #[.string C.pr, .int .i64 C.most, .slice A C.ps.length c], .slice B L.length cl, .int .i64 d] w
      fun e w' => e = .returned (.int .i64 (blkP (endsP L C.ps) d)) ∧ w.grownBy w' none := by
  have hg0 := grown_alloc (grown_refl w) (.cells #[.string C.pr, .int .i64 C.most, .slice A C.ps.length c] 58)
  have hB := (Blk.new w 58 #[.string C.pr, .int .i64 C.most, .slice A C.ps.length c]).three
  have hu := units_any A C.ps.length c C.ps _ (hr.grown hg0) hlen hok
  have hul := units_len hok
  obtain ⟨V, hV⟩ : ∃ V, blkP (endsP L C.ps) d = V := ⟨_, rfl⟩
  rw [hV]
  rw [ends_units] at hV
  generalize unitsP C.ps = U at *
  obtain ⟨n, hn⟩ : ∃ n, U.length = n := ⟨_, rfl⟩
  rw [hn] at hu hul
  have hn1 : n ≤ 1000 := by omega
  have HC := Lib.hid (And.intro hu (And.intro hg0 (And.intro hV hn)))
  clear hu hg0 hV hn hul hok
  go_enter Tryd.func37, Tryd.ntmps37
  go_wp2_with fail
  refine HC.out.1.mono ?_
  rintro e w1 ⟨v, rfl, hown, hg1⟩
  obtain ⟨AU, cU, rfl, hcU, _, hrU, _⟩ := Rd.of_own hown
  have hgg1 := HC.out.2.1.trans hg1
  clear hown hg1
  go_wp2_with fail
  go_loopg [7, 16] n (fun k v i wr => ∃ j : Nat, k + j = n ∧ i = .int .i64 j ∧ v = .int .i64 j ∧ w1.grownBy wr none ∧ Hid (∀ i x, i < j → U[i]? = some x → exOf L x < d))
  case atStart => exact ⟨0, by omega, rfl, rfl, grown_refl w1, Lib.hid fun i x h => absurd h (by omega)⟩
  case round =>
    obtain ⟨j, hj, rfl, rfl, hg, H⟩ := hrel
    by_cases hlt : j < n
    · obtain ⟨b, off, rfl, hb, s, hs, c0⟩ := str_cells (hrU.grown hg) hlt
      have hlo := lotOf_any B L.length cl L s wr ((hL.grown hgg1).grown hg) hLn
      have hex := exOf_lotR L s
      generalize lotR L s = R at *
      generalize (lotOf L s).isSome = q at *
      have HH := Lib.hid (And.intro hlo (And.intro hj (And.intro hs hex)))
      clear hlo hj hs hex
      go_wp2_with fail
      refine HH.out.1.mono ?_
      rintro e w2 ⟨rfl, hg2⟩
      have hgg2 := hgg1.trans (hg.trans hg2)
      by_cases hd : d ≤ R.ex
      · have HV := Lib.hid (show (j : Int) = V by rw [← HC.out.2.2.1]; exact (blk_at HH.out.2.2.1 H.out (by rw [HH.out.2.2.2]; exact hd)).symm)
        go_wp2_with fail
        go_ret
        exact ⟨retI HV.out, grown_alloc hgg2 _⟩
      · go_wp2_with fail
        obtain ⟨_, hj, hs, hex⟩ := HH.out
        go_roundg (gk - 1)
        case measure => omega
        case rel => exact ⟨j + 1, by omega, by go_num, by go_num, grown_alloc (hg.trans hg2) _, Lib.hid fun i x hi hx => by
          by_cases e : i = j
          · subst e; rw [hs] at hx; cases hx; rw [hex]; omega
          · exact H.out i x (by omega) hx⟩
    · obtain rfl : j = n := by omega
      have HV := Lib.hid (show (j : Int) = V by rw [← HC.out.2.2.1, blk_all (by rw [HC.out.2.2.2]; exact H.out), HC.out.2.2.2])
      go_wp2_with fail
      go_ret
      exact ⟨retI HV.out, hgg1.trans hg⟩

end Go.Proofs.YtidfhgpjpieajaaDoor
