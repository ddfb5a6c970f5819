/- The walk of package stock's Take, of a lot behind all others. -/
import Derived.Test.YtidfhgpjpieajaaDoorStkN
import Derived.Test.YtidfhgpjpieajaaDoorRefK
namespace Go.Proofs.YtidfhgpjpieajaaDoor
open Go.RowKit

theorem LoAt.end_ {l : List Lot} {s : ByteArray} {i : Nat} (h : LoAt l s i) (hi : i ≤ l.length) (ha : ∀ x ∈ l, x.id.data.toList < s.data.toList) : i = l.length := by
  rcases Nat.lt_or_ge i l.length with hlt | hge
  · exact absurd (ha _ (List.getElem_mem hlt)) (h.2 i _ (Nat.le_refl _) (List.getElem?_eq_getElem hlt))
  · omega

/-- Behind slices.Insert, and behind its slice is stored. -/
theorem StoreSt.ins {w0 wr wz w4 : World} {g m : Nat} {v v' : Value} {L M : List Lot} {f : ByteArray → Option Value} (H : StoreSt w0 wr g m v L f) (hgz : wr.grownBy wz none)
    (ho : w4.ownsRow w0.heap.size 51 4 v' M.length (lotFlat M)) (hg4 : wz.grownBy w4 v.ownBlock) :
    Blk w4 g 137 #[v, .map (some m)] ∧ MapF strA w4 m L.length f ∧ w0.grownBy w4 none ∧ (∀ cs, Blk wz wr.heap.size 51 cs → Blk w4 wr.heap.size 51 cs) ∧
    Blk (w4.setCell ⟨g, 0, none⟩ v') g 137 #[v', .map (some m)] ∧ (w4.setCell ⟨g, 0, none⟩ v').ownsRow w0.heap.size 51 4 v' M.length (lotFlat M) ∧ MapF strA (w4.setCell ⟨g, 0, none⟩ v') m L.length f ∧ w0.grownBy (w4.setCell ⟨g, 0, none⟩ v') none := by
  have hoz := H.own.kept hgz (Classical.em _)
  have hBz := H.bx.grown hgz (by simp)
  have hmz := H.mp.kept hgz (by simp)
  have hB4 := hBz.grown hg4 (own_bx0 hoz hBz (by decide))
  have hm4 := hmz.kept hg4 (own_map_ne hoz hmz)
  have hg0 := grown_below (H.gr.trans hgz) hg4 (fun i hi => .inl (hoz.lt i hi).1)
  have hgm : m ≠ g := by
    intro e
    subst e
    obtain ⟨D, ⟨es, clock, hb, _⟩, _⟩ := hm4
    unfold Blk at hB4
    rw [hb] at hB4
    cases hB4
  have hgs := grown_set (World.grownBy.refl w4 (some g)) (p := ⟨g, 0, none⟩) (.inr rfl) v'
  refine ⟨hB4, hm4, hg0, fun cs h => h.grown hg4 (fun e => by have := (H.own.lt _ e.symm).2; omega), (hB4.set_ 0 v').eq rfl, ho.kept hgs (.inr (own_bx0 ho hB4 (by decide)).symm), hm4.kept hgs (fun e => hgm (by injection e)), grown_set hg0 (p := ⟨g, 0, none⟩) (.inl H.gl) v'⟩

theorem StoreSt.fin {w0 w5 wz wa : World} {g m n : Nat} {v' : Value} {M : List Lot} {f f' : ByteArray → Option Value} (hB : Blk w5 g 137 #[v', .map (some m)]) (ho : w5.ownsRow w0.heap.size 51 4 v' M.length (lotFlat M))
    (hm : MapF strA w5 m n f) (hg : w0.grownBy w5 none) (hgl : w0.heap.size ≤ g) (hml : w0.heap.size ≤ m) (hgz : w5.grownBy wz none) (hma : MapF strA wa m M.length f') (ht : wz.grownBy wa (some m)) : StoreSt w0 wa g m v' M f' := by
  have hBz := hB.grown hgz (by simp)
  have hoz := ho.kept hgz (Classical.em _)
  have hmz := hm.kept hgz (by simp)
  have hgm : m ≠ g := by
    intro e
    subst e
    obtain ⟨D, ⟨es, clock, hb, _⟩, _⟩ := hmz
    unfold Blk at hBz
    rw [hb] at hBz
    cases hBz
  exact ⟨hBz.grown ht (fun e => hgm (by injection e with e; exact e.symm)), hoz.kept ht (.inr (own_map_ne hoz hmz).symm), hma, grown_below (hg.trans hgz) ht (fun i hi => .inl (by injection hi with hi; omega)), hgl, hml⟩

set_option maxRecDepth 100000 in
set_option maxHeartbeats 4000000 in
theorem takeEnd_any (w0 wr : World) (g m : Nat) (v : Value) (L : List Lot) (f : ByteArray → Option Value) (t : Lot) (H : StoreSt w0 wr g m v L f) (ht : lotsF [t] = 0) (hs : L.Pairwise (fun a b => sLe b.id a.id = false)) (ha : ∀ x ∈ L, x.id.data.toList < t.id.data.toList)
    (hn : L.length < 500) (he : Enters Tryd.prog 127) :
    Calls Tryd.prog 61 #[.pointer (some ⟨g, 0, none⟩), .agg #[.string t.id, .string t.pr, .int .i64 t.ex, .int .i64 t.mn]] wr
      fun e w' => e = .returned (.int .i64 0) ∧ ∃ v' f', StoreSt w0 w' g m v' (L ++ [t]) f' := by
  obtain ⟨A, c, rfl, _, _, hrd, _⟩ := Rd.of_own H.own
  have hid : t.id.size ≤ maxLen := keyB_size ((lots_ok ht).2.1 t (by simp)).1
  have hX := Blk.new wr 51 #[.string t.id, .string t.pr, .int .i64 t.ex, .int .i64 t.mn]
  have hgX := grown_alloc (grown_refl wr) (.cells #[.string t.id, .string t.pr, .int .i64 t.ex, .int .i64 t.mn] 51)
  have hX2 := hX.alloc (.cells #[.string t.id, .string t.pr, .int .i64 t.ex, .int .i64 t.mn] 51)
  have hgX2 := grown_alloc hgX (.cells #[.string t.id, .string t.pr, .int .i64 t.ex, .int .i64 t.mn] 51)
  have hz1 : (wr.alloc (.cells #[.string t.id, .string t.pr, .int .i64 t.ex, .int .i64 t.mn] 51)).heap.size = wr.heap.size + 1 := by simp
  have hrt : Rd ((wr.alloc (.cells #[.string t.id, .string t.pr, .int .i64 t.ex, .int .i64 t.mn] 51)).alloc (.cells #[.string t.id, .string t.pr, .int .i64 t.ex, .int .i64 t.mn] 51)) 4 (some ⟨wr.heap.size + 1, 0, none⟩) 1 (lotFlat [t]) := by
    have := lot_rd_new (wr.alloc (.cells #[.string t.id, .string t.pr, .int .i64 t.ex, .int .i64 t.mn] 51)) [t] #[.string t.id, .string t.pr, .int .i64 t.ex, .int .i64 t.mn] 51 rfl
    rw [hz1] at this
    exact this
  have hck := checkLots_any (some ⟨wr.heap.size + 1, 0, none⟩) 1 1 [t] _ hrt
  rw [ht] at hck
  have hnew : ∀ wz : World, Rd (wz.alloc (.cells #[.string t.id, .string t.pr, .int .i64 t.ex, .int .i64 t.mn] 51)) 4 (some ⟨wz.heap.size, 0, none⟩) 1 (lotFlat [t]) := fun wz => lot_rd_new wz [t] #[.string t.id, .string t.pr, .int .i64 t.ex, .int .i64 t.mn] 51 rfl
  obtain ⟨n, hnn⟩ : ∃ n, L.length = n := ⟨_, rfl⟩
  have hfind := fun w1 (hg : wr.grownBy w1 none) => find_any A n c g (.map (some m)) L t.id w1 (by have := H.bx.grown hg (by simp); rw [hnn] at this; exact this) (by have := hrd.grown hg; rw [hnn] at this; exact this) (by omega) hs he
  have hfe := fun i (h : LoAt L t.id i) (hi : i ≤ n) => (h.end_ (by omega) ha).trans hnn
  have k0 := hX.four
  have kg := (H.bx.grown hgX2 (by simp)).two
  have hsz := H.gr.size
  have hgr : g < wr.heap.size := H.bx.lt
  have hn5 : n < 500 := by omega
  rw [hnn] at kg
  have HC := Lib.hid (And.intro hck (And.intro hfind (And.intro hfe (And.intro hX2 (And.intro hgX2 (And.intro H (And.intro hnew (And.intro hnn hid))))))))
  clear hck hfind hfe hX hX2 hgX hgX2 H hnew hnn hid ht hs ha hn he hrd hrt
  obtain ⟨ti, tp, te, tm⟩ := t
  go_enter Tryd.func61, Tryd.ntmps61
  go_wp2_with fail
  refine HC.out.1.mono ?_
  rintro e w1 ⟨rfl, hg1⟩
  have hX1 := HC.out.2.2.2.1.grown hg1 (by simp)
  have hgA := HC.out.2.2.2.2.1.trans hg1
  have k1 := hX1.four
  clear hg1
  go_wp2_with fail
  refine (HC.out.2.1 _ hgA).mono ?_
  rintro e w2 ⟨i, q, rfl, hi, hlo, hq, hg2⟩
  obtain rfl := HC.out.2.2.1 i hlo hi
  have hqf : q = false := by
    cases q with
    | false => rfl
    | true =>
      obtain ⟨x, hx, _⟩ := hq.1 rfl
      have := (List.getElem?_eq_some_iff.1 hx).1
      have := HC.out.2.2.2.2.2.2.2.1
      omega
  subst hqf
  have hX2 := hX1.grown hg2 (by simp)
  have hgB := hgA.trans hg2
  have hB2 := HC.out.2.2.2.2.2.1.bx.grown hgB (by simp)
  rw [HC.out.2.2.2.2.2.2.2.1] at hB2
  have hl2 := hX2.lt
  have hl3 := hB2.lt
  have HW := Lib.hid (And.intro hX2 (And.intro hB2 hgB))
  obtain ⟨k20, k21, k22, k23, _⟩ := hX2.four
  obtain ⟨b20, b21, _⟩ := hB2.two
  clear hX1 hX2 hgA hgB hB2 hg2 hq hlo k1 k0 kg
  go_wp2_with fail
  have hins : ∀ wz (_ : w2.grownBy wz none) (_ : Rd wz 4 (some ⟨w2.heap.size, 0, none⟩) 1 (lotFlat [⟨ti, tp, te, tm⟩])), Calls Tryd.prog 107 #[.slice A i c, .int .i64 i, .slice (some ⟨w2.heap.size, 0, none⟩) 1 1] wz
      fun e w' => ∃ A' c', e = .returned (.slice A' (i + 1) c') ∧ Blk w' g 137 #[.slice A i c, .map (some m)] ∧ Blk w' wr.heap.size 51 #[.string ti, .string tp, .int .i64 te, .int .i64 tm] ∧
        Blk (w'.setCell ⟨g, 0, none⟩ (.slice A' (i + 1) c')) g 137 #[.slice A' (i + 1) c', .map (some m)] ∧ (w'.setCell ⟨g, 0, none⟩ (.slice A' (i + 1) c')).ownsRow w0.heap.size 51 4 (.slice A' (i + 1) c') (L ++ [(⟨ti, tp, te, tm⟩ : Lot)]).length (lotFlat (L ++ [(⟨ti, tp, te, tm⟩ : Lot)])) ∧ MapF strA (w'.setCell ⟨g, 0, none⟩ (.slice A' (i + 1) c')) m L.length f ∧ w0.grownBy (w'.setCell ⟨g, 0, none⟩ (.slice A' (i + 1) c')) none := by
    intro wz hgz hrz
    have hgw := HW.out.2.2.trans hgz
    have ho := HC.out.2.2.2.2.2.1.own.kept hgw (Classical.em _)
    have hLn := HC.out.2.2.2.2.2.2.2.1
    have hH := HC.out.2.2.2.2.2.1
    rw [hLn] at ho
    have h1 := hgw.size
    refine (insertEnd_any w0.heap.size A i c ⟨w2.heap.size, 0, none⟩ L ⟨ti, tp, te, tm⟩ wz ho hrz (by omega) (by omega)).mono ?_
    rintro e w' ⟨v, rfl, ho', hg'⟩
    obtain ⟨A', c', hv, _, _, _, _⟩ := Rd.of_own ho'
    rw [hv] at ho' ⊢
    have hI := hH.ins hgw ho' (by rw [hLn]; exact hg')
    rw [hLn] at hI
    rw [hLn]
    rw [List.length_append, hLn] at hI ⊢
    exact ⟨A', c', rfl, hI.1, hI.2.2.2.1 _ (HW.out.1.grown hgz (by simp)), hI.2.2.2.2⟩
  have HI := Lib.hid hins
  clear hins
  go_region_law (first
    | (go_simp; go_at_call 107; refine (HI.out _ (by first | exact grown_drew (grown_alloc (grown_refl w2) _) | exact grown_alloc (grown_drew (grown_refl w2)) _) (by first | exact HC.out.2.2.2.2.2.2.1 w2 | exact HC.out.2.2.2.2.2.2.1 w2.drew)).mono ?_; rintro e w4 ⟨A4, c4, rfl, hI1, hX4, hI2⟩; dsimp only; have b40 := hI1.cell 0; have f40 := hI1.frozen 0; obtain ⟨k40, k41, k42, k43, _⟩ := hX4.four; have HN := Lib.hid (And.intro hI2 hX4); clear hI1 hI2 hX4))
  all_goals (
    have hX5 := HN.out.2.far (p := ⟨g, 0, none⟩) (show wr.heap.size ≠ g by omega) (.slice A4 (i + 1) c4)
    have HN1 := Lib.hid HN.out.1
    clear HN
    generalize w4.setCell ⟨g, 0, none⟩ (.slice A4 (i + 1) c4) = w5 at *
    obtain ⟨q0, q1, q2, q3, _⟩ := hX5.four
    obtain ⟨r0, r1, _⟩ := HN1.out.1.two
    have hl5 := hX5.lt
    have hg5 : g < w5.heap.size := by omega
    clear hX5 b40 f40 k40 k41 k42 k43 k20 k21 k22 k23 b20 b21
    have hLn := HC.out.2.2.2.2.2.2.2.1
    have hmm := @run_makeMap Tryd.prog
    obtain ⟨wa, ra, ma, ta⟩ := (show MapF strA (w5.drew.alloc (.map #[] 0)) m L.length f from HN1.out.2.2.1.drew.alloc _).put (t := 135) (e := 91) Tryd.underlying135 (by unfold maxLen; omega) (x := ti) HC.out.2.2.2.2.2.2.2.2 (.map (some w5.heap.size))
    obtain ⟨wb, rb, mb, tb⟩ := (show MapF strA (w5.alloc (.map #[] 0)).drew m L.length f from (HN1.out.2.2.1.alloc _).drew).put (t := 135) (e := 91) Tryd.underlying135 (by unfold maxLen; omega) (x := ti) HC.out.2.2.2.2.2.2.2.2 (.map (some w5.heap.size))
    have ra' : (Instr.mapUpdate 135 (.map (some m)) (.string ti) (.map (some w5.heap.size))).run Tryd.prog (w5.drew.alloc (.map #[] 0)) = .ok () wa := ra
    have rb' : (Instr.mapUpdate 135 (.map (some m)) (.string ti) (.map (some w5.heap.size))).run Tryd.prog (w5.alloc (.map #[] 0)).drew = .ok () wb := rb
    have HM := Lib.hid (And.intro ma (And.intro ta (And.intro mb tb)))
    clear ra rb ma ta mb tb hLn)
  all_goals (go_wp2_with fail)
  all_goals go_region
  all_goals (
    go_wp2_with fail
    go_ret
    obtain ⟨ma, ta, mb, tb⟩ := HM.out
    obtain ⟨hB5, ho5, hm5, hg5w⟩ := HN1.out
    have hH := HC.out.2.2.2.2.2.1
    have hlen : (L ++ [(⟨ti, tp, te, tm⟩ : Lot)]).length = L.length + 1 := by simp
    rw [← hlen] at ma mb
    have hgl := hH.gl
    have hml := hH.ml
    have hLn := HC.out.2.2.2.2.2.2.2.1
    rw [hlen, hLn] at ho5
    refine ⟨rfl, .slice A4 (i + 1) c4, upd f ti (some (.map (some w5.heap.size))), ?_⟩
    first
    | exact StoreSt.fin hB5 (by rw [hlen, hLn]; exact ho5) hm5 hg5w hgl hml (grown_alloc (grown_drew (grown_refl w5)) (.map #[] 0)) ma ta.grown
    | exact StoreSt.fin hB5 (by rw [hlen, hLn]; exact ho5) hm5 hg5w hgl hml (grown_drew (grown_alloc (grown_refl w5) (.map #[] 0))) mb tb.grown)

theorem StoreSt.alloc {w0 wr : World} {g m : Nat} {v : Value} {L : List Lot} {f : ByteArray → Option Value} (H : StoreSt w0 wr g m v L f) (o : Obj) : StoreSt w0 (wr.alloc o) g m v L f :=
  ⟨H.bx.alloc o, H.own.alloc o, H.mp.alloc o, grown_alloc H.gr o, H.gl, H.ml⟩

end Go.Proofs.YtidfhgpjpieajaaDoor
