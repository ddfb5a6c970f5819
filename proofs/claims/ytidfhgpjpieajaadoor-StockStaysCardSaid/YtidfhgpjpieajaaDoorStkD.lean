/- The walks of package stock: known, expiries. -/
import Derived.Test.YtidfhgpjpieajaaDoorStkC
namespace Go.Proofs.YtidfhgpjpieajaaDoor
open Go.RowKit

theorem byIdF_some (L : List Lot) (s : ByteArray) : (byIdF L s).isSome = (lotOf L s).isSome := by simp [byIdF]
theorem byIdF_val {L : List Lot} {s : ByteArray} {v : Value} (h : byIdF L s = some v) : ∃ t, v = lotV t := by
  unfold byIdF at h
  obtain ⟨t, _, rfl⟩ := Option.map_eq_some_iff.1 h
  exact ⟨t, rfl⟩

set_option maxHeartbeats 1000000 in
theorem known_any (L : List Lot) (g m : Nat) (C : Coil) (A : Option Addr) (c : Nat) (w : World) (hr : Rd w 2 A C.ps.length (pcFlat C.ps)) (hlen : C.ps.length ≤ 1000000) (hm : MapF strA w g m (byIdF L)) (hx : ∀ t ∈ C.ps, t.lot.size ≤ maxLen) (he : Enters Tryd.prog 121) :
    Calls Tryd.prog 100 #[.agg #[.string C.pr, .int .i64 C.most, .slice A C.ps.length c], .map (some g)] w fun e w' => e = .returned (.bool (knownB L C.ps)) ∧ w.grownBy w' none := by
  have hg0 := grown_alloc (grown_refl w) (.cells #[.string C.pr, .int .i64 C.most, .slice A C.ps.length c] 58)
  have hB := Blk.new (w.alloc (.cells #[.string C.pr, .int .i64 C.most, .slice A C.ps.length c] 58)) 130 #[.map (some g)]
  rw [show (w.alloc (.cells #[.string C.pr, .int .i64 C.most, .slice A C.ps.length c] 58)).heap.size = w.heap.size + 1 from by simp] at hB
  have hg1 := grown_alloc hg0 (.cells #[.map (some g)] 130)
  have hc := containsFuncPc_any 121 (.pointer (some ⟨w.heap.size + 1, 0, none⟩)) (fun x => !(byIdF L x.lot).isSome) A C.ps.length c C.ps _ (hr.grown hg1) hlen he
    (fun x w1 hxl hgx => known1_any (byIdF L) g (w.heap.size + 1) m x w1 ((hB.grown hgx (by simp)).cell 0) ((hm.kept hg1 (by simp)).kept hgx (by simp)) (hx x hxl) (fun s v h => byIdF_val h))
  have hv : (!(C.ps.any fun x => !(byIdF L x.lot).isSome)) = knownB L C.ps := by
    unfold knownB
    rw [List.not_any_eq_all_not]
    congr 1
    funext x
    rw [byIdF_some]
    simp
  obtain ⟨q, hq⟩ : ∃ q, (C.ps.any fun x => !(byIdF L x.lot).isSome) = q := ⟨_, rfl⟩
  rw [hq] at hv hc
  rw [← hv]
  have HC := Lib.hid hc
  clear hc hv hq hB hg0 hm hx
  have HG := Lib.hid hg1
  clear hg1
  go_enter Tryd.func100, Tryd.ntmps100
  go_wp2_with fail
  refine HC.out.mono ?_
  rintro e w1 ⟨rfl, hg2⟩
  go_wp2_with fail
  go_ret
  exact ⟨rfl, HG.out.trans hg2⟩

/-- What is wrong with a coil, its lots, or a day. -/
def expF (L : List Lot) (C : Coil) (d : Int) : Int := if lotsF L ≠ 0 then lotsF L else if coilF C ≠ 0 then coilF C else if knownB L C.ps = false then 8 else if btw d 0 4000 = false then 1 else 0

set_option maxHeartbeats 2000000 in
theorem expiries_bad (L : List Lot) (C : Coil) (A B : Option Addr) (c cl : Nat) (d : Int) (w : World) (hr : Rd w 2 A C.ps.length (pcFlat C.ps)) (hlen : C.ps.length ≤ 1000000) (hL : Rd w 4 B L.length (lotFlat L)) (he : Enters Tryd.prog 121) (hF : expF L C d ≠ 0) :
    Calls Tryd.prog 80 #[.agg #[.string C.pr, .int .i64 C.most, .slice A C.ps.length c], .slice B L.length cl, .int .i64 d] w
      fun e w' => e = .returned (.tuple #[.slice none 0 0, .int .i64 (expF L C d)]) ∧ w.grownBy w' none := by
  have hg0 := grown_alloc (grown_refl w) (.cells #[.string C.pr, .int .i64 C.most, .slice A C.ps.length c] 58)
  have hB := Blk.new w 58 #[.string C.pr, .int .i64 C.most, .slice A C.ps.length c]
  have k0 := hB.three
  have hcl := checkLots_any B L.length cl L _ (hL.grown hg0)
  have hcc := fun w1 (h : w.grownBy w1 none) => checkCoil_any C A c w1 (hr.grown h) hlen
  obtain ⟨V, hV⟩ : ∃ V, expF L C d = V := ⟨_, rfl⟩
  rw [hV] at hF ⊢
  have hV' := hV
  unfold expF at hV'
  by_cases h1 : lotsF L = 0
  · rw [if_neg (by omega)] at hV'
    by_cases h2 : coilF C = 0
    · rw [if_neg (by omega)] at hV'
      obtain ⟨hL500, hLok, hLs⟩ := lots_ok h1
      have hnd := lots_nodup hLs
      have hid : ∀ t ∈ L, t.id.size ≤ maxLen := fun t ht => keyB_size (hLok t ht).1
      have hpid : ∀ t ∈ C.ps, t.lot.size ≤ maxLen := fun t ht => keyB_size ((coil_ok h2).2.2.2.2.1 t ht).1
      have hby := fun w1 (h : w.grownBy w1 none) => byId_any B L.length cl L w1 (hL.grown h) hL500 hnd hid
      have hkn := fun g w1 (h : w.grownBy w1 none) (hm : MapF strA w1 g L.length (byIdF L)) => known_any L g L.length C A c w1 (hr.grown h) hlen hm hpid he
      rw [h1] at hcl
      rw [h2] at hcc
      by_cases h3 : knownB L C.ps = true
      · rw [if_neg (by simp [h3])] at hV'
        have h4 : btw d 0 4000 = false := by
          cases h : btw d 0 4000 with
          | false => rfl
          | true => rw [if_neg (by simp [h])] at hV'; exact absurd hV'.symm hF
        rw [if_pos h4] at hV'
        rw [h3] at hkn
        have HC := Lib.hid (And.intro hcl (And.intro hcc (And.intro hby (And.intro hkn hB))))
        subst hV'
        clear hcl hcc hby hkn hV h1 h2 hF hB hnd hid hpid hLok hLs hL500 h3
        go_enter Tryd.func80, Tryd.ntmps80
        go_wp2_with fail
        refine HC.out.1.mono ?_
        rintro e w1 ⟨rfl, hg1⟩
        have k1 := (HC.out.2.2.2.2.grown hg1 (by simp)).three
        have hgg1 := hg0.trans hg1
        go_wp2_with fail
        refine (HC.out.2.1 _ hgg1).mono ?_
        rintro e w2 ⟨rfl, hg2⟩
        have k2 := ((HC.out.2.2.2.2.grown hg1 (by simp)).grown hg2 (by simp)).three
        have hgg2 := hgg1.trans hg2
        clear k1
        go_wp2_with fail
        refine (HC.out.2.2.1 _ hgg2).mono ?_
        rintro e w3 ⟨g, rfl, hgb, hm3, hg3⟩
        have k3 := (((HC.out.2.2.2.2.grown hg1 (by simp)).grown hg2 (by simp)).grown hg3 (by simp)).three
        have hgg3 := hgg2.trans hg3
        clear k2
        go_wp2_with fail
        refine (HC.out.2.2.2.1 g _ hgg3 hm3).mono ?_
        rintro e w4 ⟨rfl, hg4⟩
        go_wp2_with (go_at_call 69; refine (isDay_any _ _).mono ?_; rintro e w' ⟨rfl, rfl⟩)
        go_ret2
        exact ⟨rfl, hgg3.trans hg4⟩
      · have h3' : knownB L C.ps = false := by simpa using h3
        rw [if_pos h3'] at hV'
        rw [h3'] at hkn
        have HC := Lib.hid (And.intro hcl (And.intro hcc (And.intro hby (And.intro hkn hB))))
        subst hV'
        clear hcl hcc hby hkn hV h1 h2 hF hB hnd hid hpid hLok hLs hL500 h3 h3'
        go_enter Tryd.func80, Tryd.ntmps80
        go_wp2_with fail
        refine HC.out.1.mono ?_
        rintro e w1 ⟨rfl, hg1⟩
        have k1 := (HC.out.2.2.2.2.grown hg1 (by simp)).three
        have hgg1 := hg0.trans hg1
        go_wp2_with fail
        refine (HC.out.2.1 _ hgg1).mono ?_
        rintro e w2 ⟨rfl, hg2⟩
        have k2 := ((HC.out.2.2.2.2.grown hg1 (by simp)).grown hg2 (by simp)).three
        have hgg2 := hgg1.trans hg2
        clear k1
        go_wp2_with fail
        refine (HC.out.2.2.1 _ hgg2).mono ?_
        rintro e w3 ⟨g, rfl, hgb, hm3, hg3⟩
        have k3 := (((HC.out.2.2.2.2.grown hg1 (by simp)).grown hg2 (by simp)).grown hg3 (by simp)).three
        have hgg3 := hgg2.trans hg3
        clear k2
        go_wp2_with fail
        refine (HC.out.2.2.2.1 g _ hgg3 hm3).mono ?_
        rintro e w4 ⟨rfl, hg4⟩
        go_wp2_with fail
        go_ret2
        exact ⟨rfl, hgg3.trans hg4⟩
    · rw [if_pos h2] at hV'
      rw [h1] at hcl
      rw [hV'] at h2 hcc
      have h2' : (V != 0) = true := by rw [bne_iff_ne]; exact h2
      have HC := Lib.hid (And.intro hcl (And.intro hcc hB))
      clear hcl hcc hV hV' h1 h2 hF hB
      go_enter Tryd.func80, Tryd.ntmps80
      go_wp2_with fail
      refine HC.out.1.mono ?_
      rintro e w1 ⟨rfl, hg1⟩
      have k1 := (HC.out.2.2.grown hg1 (by simp)).three
      have hgg1 := hg0.trans hg1
      go_wp2_with fail
      refine (HC.out.2.1 _ hgg1).mono ?_
      rintro e w2 ⟨rfl, hg2⟩
      go_wp2_with fail
      go_ret2
      exact ⟨rfl, hgg1.trans hg2⟩
  · rw [if_pos h1] at hV'
    rw [hV'] at h1 hcl
    have h1' : (V != 0) = true := by rw [bne_iff_ne]; exact h1
    have HC := Lib.hid hcl
    clear hcl hcc hV hV' h1 hF hB
    go_enter Tryd.func80, Tryd.ntmps80
    go_wp2_with fail
    refine HC.out.mono ?_
    rintro e w1 ⟨rfl, hg1⟩
    go_wp2_with fail
    go_ret2
    exact ⟨rfl, hg0.trans hg1⟩

theorem expF_ok {L : List Lot} {C : Coil} {d : Int} (h : expF L C d = 0) : lotsF L = 0 ∧ coilF C = 0 ∧ knownB L C.ps = true ∧ btw d 0 4000 = true := by
  unfold expF at h
  by_cases h1 : lotsF L = 0
  · rw [if_neg (by omega)] at h
    by_cases h2 : coilF C = 0
    · rw [if_neg (by omega)] at h
      by_cases h3 : knownB L C.ps = true
      · rw [if_neg (by simp [h3])] at h
        by_cases h4 : btw d 0 4000 = true
        · exact ⟨h1, h2, h3, h4⟩
        · rw [if_pos (by simpa using h4)] at h; cases h
      · rw [if_pos (by simpa using h3)] at h; cases h
    · rw [if_pos h2] at h; exact absurd h h2
  · rw [if_pos h1] at h; exact absurd h h1

theorem ends_take {L : List Lot} {l : List Pc} {j : Nat} {t : Pc} (ht : l[j]? = some t) : endsP L (l.take (j + 1)) = endsP L (l.take j) ++ List.replicate t.mn.toNat (exOf L t.lot) := by
  unfold endsP; rw [take_at ht, List.flatMap_append]; simp
theorem ends_len {L : List Lot} {l : List Pc} (h : ∀ t ∈ l, PcOk t) : ((endsP L l).length : Int) = numP l := by
  rw [ends_units, List.length_map]; exact units_len h
/-- append(out, ys...): the numbers of another slice. -/
theorem ap_ints {ops : Array Oper} {rest : List Oper} {o : Oper} {a : Act} {Q : Exit → Act → World → Prop} (w : World) (ys : List Int) (A : Addr) (m cc : Nat) (hgd : o.guard = none) (s x : Operand)
    (ho : o.op = .call { callee := .builtin .append, args := #[s, x], argTypes := #[22, 22] }) (base : Nat) (v : Value) (l : List Int)
    (hs : a.eval s = v) (hown : w.ownsRow base 3 1 v l.length (ints l)) (hx : a.eval x = .slice (some A) m cc) (hm : ys.length = m) (hnews : ∀ j u, (ints ys)[j]? = some u → w.cell? (A.add j) = some u)
    (hlen : l.length ≤ 1000000000) (hlen2 : m ≤ 1000000000) (hbase : base ≤ w.heap.size)
    (h : ∀ v' w', w'.ownsRow base 3 1 v' (l ++ ys).length (ints (l ++ ys)) → w.grownBy w' v.ownBlock → wpList Tryd.prog ops Q rest (a.put o.dst v') w') :
    wpList Tryd.prog ops Q (o :: rest) a w := by
  obtain ⟨i0, hi, hz0, hz1, hz2⟩ := info_parts Tryd.infoInt
  refine wpList_append_own _ hgd s x 22 ho base 3 i0 (.int .i64 0) 1 8 Tryd.underlying22 hi hz0 hz1 hz2 rfl (by decide) v l.length (ints l) hs hown A m cc (ints ys) hx (by simp [ints, hm]) hnews
    (by intro u hu; obtain ⟨y, _, rfl⟩ := List.mem_map.1 hu; rfl) (by unfold maxLen; omega) (by omega) hbase ?_
  intro v' w' h1 h2 _
  exact h v' w' (by simpa [ints, hm] using h1) h2

/-- A row of the call's own is no map. -/
theorem own_map_ne {P : Program} {k : TypeId} {κ : Type} {K : KeyT P k κ} {w : World} {base e size n b m : Nat} {v : Value} {xs : List Value} {f : κ → Option Value} (h : w.ownsRow base e size v n xs) (hm : MapF K w b m f) : some b ≠ v.ownBlock := by
  obtain ⟨D, ⟨es, clock, hb, _⟩, _⟩ := hm
  rcases h.2 with ⟨rfl, _⟩ | ⟨g, cap, cur, rfl, _, hg, _⟩
  · simp [Value.ownBlock]
  · intro e
    simp only [Value.ownBlock, Option.some.injEq] at e
    subst e
    rw [hb] at hg
    cases hg

theorem rep_ints (x : Int) (m : Nat) : (RI x m m).toList = ints (List.replicate m x) := by simp [RI, ints]

set_option maxRecDepth 100000 in
set_option maxHeartbeats 4000000 in
theorem expiries_ok (L : List Lot) (C : Coil) (A B : Option Addr) (c cl : Nat) (d : Int) (w : World) (hr : Rd w 2 A C.ps.length (pcFlat C.ps)) (hL : Rd w 4 B L.length (lotFlat L)) (he : Enters Tryd.prog 121) (hF : expF L C d = 0) :
    Calls Tryd.prog 80 #[.agg #[.string C.pr, .int .i64 C.most, .slice A C.ps.length c], .slice B L.length cl, .int .i64 d] w
      fun e w' => ∃ v, e = .returned (.tuple #[v, .int .i64 0]) ∧ w'.ownsRow w.heap.size 3 1 v (endsP L C.ps).length (ints (endsP L C.ps)) ∧ w.grownBy w' none := by
  obtain ⟨h1, h2, h3, h4⟩ := expF_ok hF
  obtain ⟨hL500, hLok, hLs⟩ := lots_ok h1
  obtain ⟨_, hmost, hlen, _, hpok, hsum⟩ := coil_ok h2
  have hnd := lots_nodup hLs
  have hid : ∀ t ∈ L, t.id.size ≤ maxLen := fun t ht => keyB_size (hLok t ht).1
  have hpid : ∀ t ∈ C.ps, t.lot.size ≤ maxLen := fun t ht => keyB_size (hpok t ht).1
  have hg0 := grown_alloc (grown_refl w) (.cells #[.string C.pr, .int .i64 C.most, .slice A C.ps.length c] 58)
  have hB := Blk.new w 58 #[.string C.pr, .int .i64 C.most, .slice A C.ps.length c]
  have k0 := hB.three
  have hcl := checkLots_any B L.length cl L _ (hL.grown hg0)
  have hcc := fun w1 (h : w.grownBy w1 none) => checkCoil_any C A c w1 (hr.grown h) (by omega)
  have hby := fun w1 (h : w.grownBy w1 none) => byId_any B L.length cl L w1 (hL.grown h) hL500 hnd hid
  have hkn := fun g w1 (h : w.grownBy w1 none) (hm : MapF strA w1 g L.length (byIdF L)) => known_any L g L.length C A c w1 (hr.grown h) (by omega) hm hpid he
  have hel : ∀ j, j ≤ C.ps.length → (endsP L (C.ps.take j)).length ≤ 1000 := by
    intro j hj
    have h1 := ends_len (L := L) (l := C.ps.take j) (fun t ht => hpok t (List.mem_of_mem_take ht))
    have h2 := numP_take_le hpok j
    omega
  have hz : endsP L (C.ps.take 0) = [] := rfl
  rw [h1] at hcl
  rw [h2] at hcc
  rw [h3] at hkn
  obtain ⟨pr, most, ps⟩ := C
  simp only at *
  obtain ⟨n, hn⟩ : ∃ n, ps.length = n := ⟨_, rfl⟩
  rw [hn] at hg0 hB k0 hcl hcc hkn hr hel hlen ⊢
  have HC := Lib.hid (And.intro hcl (And.intro hcc (And.intro hby (And.intro hkn (And.intro hB (And.intro hpok (And.intro hpid (And.intro hn (And.intro hel hz)))))))))
  clear hcl hcc hby hkn h1 h2 hF hB hnd hid hpid hLok hLs hL500 h3 hpok hn hel hsum hz
  go_enter Tryd.func80, Tryd.ntmps80
  go_wp2_with fail
  refine HC.out.1.mono ?_
  rintro e w1 ⟨rfl, hg1⟩
  have k1 := (HC.out.2.2.2.2.1.grown hg1 (by simp)).three
  have hgg1 := hg0.trans hg1
  go_wp2_with fail
  refine (HC.out.2.1 _ hgg1).mono ?_
  rintro e w2 ⟨rfl, hg2⟩
  have k2 := ((HC.out.2.2.2.2.1.grown hg1 (by simp)).grown hg2 (by simp)).three
  have hgg2 := hgg1.trans hg2
  clear k1
  go_wp2_with fail
  refine (HC.out.2.2.1 _ hgg2).mono ?_
  rintro e w3 ⟨g, rfl, hgb, hm3, hg3⟩
  have k3 := (((HC.out.2.2.2.2.1.grown hg1 (by simp)).grown hg2 (by simp)).grown hg3 (by simp)).three
  have hgg3 := hgg2.trans hg3
  clear k2
  go_wp2_with fail
  refine (HC.out.2.2.2.1 g _ hgg3 hm3).mono ?_
  rintro e w4 ⟨rfl, hg4⟩
  have k4 := ((((HC.out.2.2.2.2.1.grown hg1 (by simp)).grown hg2 (by simp)).grown hg3 (by simp)).grown hg4 (by simp)).three
  have hgg4 := hgg3.trans hg4
  have hm4 := hm3.kept hg4 (by simp)
  clear k3 hm3
  go_wp2_with (go_at_call 69; refine (isDay_any _ _).mono ?_; rintro e w' ⟨rfl, rfl⟩)
  go_loopg [11, 36] n (fun k v i wr => ∃ j : Nat, k + j = n ∧ i = .int .i64 j ∧ wr.ownsRow w.heap.size 3 1 v (endsP L (ps.take j)).length (ints (endsP L (ps.take j))) ∧ MapF strA wr g L.length (byIdF L) ∧ w.grownBy wr none)
  case atStart => exact ⟨0, by omega, rfl, by rw [HC.out.2.2.2.2.2.2.2.2.2]; exact World.ownsRow_nil _ _ _ _, hm4, hgg4⟩
  case round =>
    clear k4 hm4 hgg4
    obtain ⟨j, hj, rfl, hown, hm, hg⟩ := hrel
    by_cases hlt : j < n
    · obtain ⟨b, off, rfl, hb, t, ht, c0, c1⟩ := pc_cells (hr.grown hg) hlt
      obtain ⟨lot, mn⟩ := t
      have hp := HC.out.2.2.2.2.2.1 _ (List.mem_of_getElem? ht)
      obtain ⟨q, rfl⟩ : ∃ q : Nat, mn = q := ⟨mn.toNat, by have := hp.2.1; simp only at this; omega⟩
      have hq : 1 ≤ q ∧ q ≤ 1000 := by have := hp.2; simp only at this; omega
      have htk := ends_take (L := L) ht
      rw [Int.toNat_natCast] at htk
      have hel1 := HC.out.2.2.2.2.2.2.2.2.1 j (by omega)
      obtain ⟨x, hx⟩ : ∃ x, exOf L lot = x := ⟨_, rfl⟩
      rw [hx] at htk
      have hlk := (hm.alloc (.cells #[.string lot, .int .i64 q] 54)).look (t := 130) (e := 51) Tryd.underlying130 (zeroLot _) (x := lot) (HC.out.2.2.2.2.2.2.1 _ (List.mem_of_getElem? ht))
      obtain ⟨u, hu, hux⟩ : ∃ u : Lot, (byIdF L lot).getD (.agg #[.string ByteArray.empty, .string ByteArray.empty, .int .i64 0, .int .i64 0]) = lotV u ∧ u.ex = x := by
        rw [← hx]
        unfold byIdF exOf
        cases lotOf L lot with
        | none => exact ⟨⟨ByteArray.empty, ByteArray.empty, 0, 0⟩, rfl, rfl⟩
        | some u => exact ⟨u, rfl, rfl⟩
      rw [hu] at hlk
      unfold lotV at hlk
      rw [hux] at hlk
      have hlk' : (Instr.lookup 130 (.map (some g)) (.string lot) false).run Tryd.prog (wr.alloc (.cells #[.string lot, .int .i64 q] 54)) = .ok (.agg #[.string u.id, .string u.pr, .int .i64 x, .int .i64 u.mn]) (wr.alloc (.cells #[.string lot, .int .i64 q] 54)) := hlk
      have hfld : ∀ w, (Instr.field 51 (.agg #[.string u.id, .string u.pr, .int .i64 x, .int .i64 u.mn]) 2).run Tryd.prog w = .ok (.int .i64 x) w := fun _ => by kernel_rfl
      have hzr : ((wr.alloc (.cells #[.string lot, .int .i64 q] 54)).alloc (.cells #[.int .i64 x] 3)).heap.size = wr.heap.size + 2 := by simp
      have hrp := repeatI_any (wr.heap.size + 1) 0 1 q x ((wr.alloc (.cells #[.string lot, .int .i64 q] 54)).alloc (.cells #[.int .i64 x] 3)) (by
        have := (Blk.new (wr.alloc (.cells #[.string lot, .int .i64 q] 54)) 3 #[.int .i64 x]).cell 0
        rw [show (wr.alloc (.cells #[.string lot, .int .i64 q] 54)).heap.size = wr.heap.size + 1 from by simp] at this
        exact this) hq.1 hq.2
      have hgA := grown_alloc (grown_alloc hg (.cells #[.string lot, .int .i64 q] 54)) (.cells #[.int .i64 x] 3)
      have hmA := (hm.alloc (.cells #[.string lot, .int .i64 q] 54)).alloc (.cells #[.int .i64 x] 3)
      have hownA := (hown.alloc (.cells #[.string lot, .int .i64 q] 54)).alloc (.cells #[.int .i64 x] 3)
      rw [hzr] at hrp
      have hsz := hg.size
      have HH := Lib.hid (And.intro hrp (And.intro hgA (And.intro hmA (And.intro hownA (And.intro htk (And.intro hj hm))))))
      generalize endsP L (ps.take j) = E at *
      clear hrp hgA hmA hownA htk hj hm hown hg hzr hu hux hx hlk ht hp
      go_wp2_with fail
      refine HH.out.1.mono ?_
      rintro e w5 ⟨rfl, hB5, hg5⟩
      obtain ⟨_, hgA, hmA, hownA, htk, hj, hm⟩ := HH.out
      have hown5 := hownA.kept hg5 (Classical.em _)
      have HK := Lib.hid (And.intro htk (And.intro hj (hmA.kept hg5 (by simp))))
      have hg6 := hgA.trans hg5
      clear htk hj hm hmA hownA hgA
      go_wp2_with (at_builtin; refine ap_ints w5 (List.replicate q x) ⟨wr.heap.size + 2, 0, none⟩ q q rfl _ _ rfl w.heap.size _ E rfl hown5 rfl (by simp) (by
        intro i u hu
        rw [addp, Nat.zero_add, hB5.cell i]
        rw [← rep_ints] at hu
        simpa using hu) (by omega) (by omega) hg6.size ?_; intro v7 w7 hown7 hg7)
      obtain ⟨htk, hj, hm⟩ := HK.out
      go_roundg (gk - 1)
      case measure => omega
      case rel =>
        refine ⟨j + 1, by omega, by go_num, by rw [htk]; exact hown7, ?_, ?_⟩
        · exact hm.kept hg7 (own_map_ne hown5 hm)
        · exact grown_below hg6 hg7 (fun i hi => .inl (hown5.lt i hi).1)
    · obtain rfl : j = n := by omega
      rw [List.take_of_length_le (by have := HC.out.2.2.2.2.2.2.2.1; omega)] at hown
      go_wp2_with fail
      go_ret2
      exact ⟨_, rfl, hown, hg⟩

end Go.Proofs.YtidfhgpjpieajaaDoor
