/- The walk of the reference's HistogramOf; Histogram's error. -/
import Derived.Test.YtkfijicmeekmiaaHsg
namespace Go.Proofs.Ytkfijicmeekmiaa
open Go.RowKit

theorem own_blk_ne2 {w : World} {g : Nat} {t : TypeId} {cs : Array Value} {base : Nat} {e : TypeId} {size n : Nat} {v : Value} {xs : List Value} (h : w.ownsRow base e size v n xs) (hg : Blk w g t cs) (hne : e ≠ t) : some g ≠ v.ownBlock := by
  rcases h.2 with ⟨rfl, _⟩ | ⟨g', cap, cur, rfl, _, hh, _⟩
  · simp [Value.ownBlock]
  · intro he
    have : g' = g := by simpa [Value.ownBlock] using he.symm
    subst this
    unfold Blk at hg
    rw [hg] at hh
    cases hh
    exact hne rfl

set_option maxRecDepth 100000 in
set_option maxHeartbeats 1000000 in
theorem histogramOf_ok (A : Option Addr) (n c : Nat) (l : List Sal) (w : World) (hr : Rd w 3 A n (salFlat l)) (hn : n ≤ 400) (hf : dayFault l = 0) :
    Calls Try.prog 37 #[.slice A n c] w fun e w' => ∃ v, e = .returned v ∧ w'.ownsRow w.heap.size 3 1 v (mxA l l.length) (ints (fnL (mxA l l.length) (cntK l))) ∧ w.grownBy w' none := by
  have hl : l.length = n := by have := hr.1; rw [salFlat_len] at this; omega
  obtain ⟨-, hok⟩ := days_ok hf
  have hstep := fun (j : Nat) (t : Sal) (h : l[j]? = some t) k => cntK_step h k
  have hcr := fun j k => cntK_rng (l.take j) k
  have hll : ∀ j, (l.take j).length ≤ n := fun j => by rw [List.length_take]; omega
  have hmf := fun j hj => mxA_facts (fun t ht => (hok t ht).2) j hj
  have hms := fun (j : Nat) (t : Sal) (h : l[j]? = some t) => mxA_step h
  have HC := Lib.hid (And.intro hok (And.intro hstep (And.intro hcr (And.intro hll (And.intro hmf (And.intro hms hl))))))
  clear hok hstep hcr hll hmf hms hf hl
  go_enter Try.func37, Try.ntmps37
  go_wp2_with fail
  go_loopg [3, 8] n (fun k v i wr => ∃ j : Nat, k + j = n ∧ i = .int .i64 j ∧ wr.ownsRow w.heap.size 3 1 v (mxA l j) (ints (fnL (mxA l j) (cntK (l.take j)))) ∧ w.grownBy wr none)
  case atStart => exact ⟨0, by omega, rfl, World.ownsRow_nil _ _ _ _, grown_refl w⟩
  case round =>
    obtain ⟨j, hj, rfl, hown, hg⟩ := hrel
    by_cases hlt : j < n
    · obtain ⟨bb, off, rfl, hb, t, ht, c0, c1, c2⟩ := sal_cells (hr.grown hg) hlt
      obtain ⟨s0, s1⟩ := (HC.out.1 t (List.mem_of_getElem? ht)).2
      have hst := HC.out.2.1 j t ht
      have hcr := HC.out.2.2.1 j
      have hll := HC.out.2.2.2.1 j
      have hms := HC.out.2.2.2.2.2.1 j t ht
      obtain ⟨hm1, hm2, -⟩ := HC.out.2.2.2.2.1 j (by have := HC.out.2.2.2.2.2.2; omega)
      obtain ⟨td, ts, to⟩ := t
      dsimp only at *
      obtain ⟨k, rfl⟩ : ∃ k : Nat, ts = k := ⟨ts.toNat, by omega⟩
      have hbox := Blk.new wr 79 #[.int .i64 td, .int .i64 k, .bool to]
      have hgr := grown_alloc hg (.cells #[.int .i64 td, .int .i64 k, .bool to] 79)
      have hownr := hown.alloc (.cells #[.int .i64 td, .int .i64 k, .bool to] 79)
      have hwz : w.heap.size ≤ wr.heap.size := hg.size
      rw [show ((k : Int)).toNat = k from by omega] at hms
      have HS := Lib.hid (And.intro hst (And.intro hj (And.intro hms (And.intro hcr (And.intro hll hm2)))))
      clear hst hj ht hown hcr hll hms hm2
      generalize gk = ko at *
      generalize mxA l j = M at *
      cases to
      · go_wp2_with fail
        obtain ⟨B, hB⟩ : ∃ B, B = wr.heap.size := ⟨_, rfl⟩
        rw [← hB] at hbox ⊢
        clear hB c0 c1 c2
        generalize wr.alloc (.cells #[.int .i64 td, .int .i64 k, .bool false] 79) = wb at *
        go_loopg [3] (k + 1 - M) (fun q v wx => ∃ m : Nat, m + q = max M (k + 1) ∧ M ≤ m ∧ wx.ownsRow w.heap.size 3 1 v m (ints (fnL m (cntK (l.take j)))) ∧ w.grownBy wx none ∧ Blk wx B 79 #[.int .i64 td, .int .i64 k, .bool false])
        case atStart => exact ⟨M, by omega, Nat.le_refl _, hownr, hgr, hbox⟩
        case round =>
          obtain ⟨m, hm, hMm, hownx, hgx, hbx⟩ := hrel
          obtain ⟨d0, d1, d2, _, _, _⟩ := hbx.three
          by_cases hmk : m ≤ k
          · obtain ⟨AX, cX, hvX, hnX, hmX, hrX, _⟩ := Rd.of_own hownx
            have hne := own_blk_ne2 hownx (hbx) (by decide)
            have hfn := fnL_succ m (cntK (l.take j))
            rw [HS.out.2.2.2.2.2 m hMm] at hfn
            have hfl := fnL_len m (cntK (l.take j))
            generalize fnL m (cntK (l.take j)) = R at *
            have hownR : wr.ownsRow w.heap.size 3 1 (.slice AX m cX) R.length (ints R) := by rw [hfl, ← hvX]; exact hownx
            have hll : R.length ≤ 1000000000 := by omega
            have hwz2 := hgx.size
            subst hvX
            have hmk' : (m : Int) ≤ (k : Int) := by omega
            have HX := Lib.hid (And.intro hm (And.intro hfn (And.intro hfl (And.intro hne (And.intro hbx hownx)))))
            clear hm hfn hfl hne hbx hownx
            go_wp2_with (at_builtin; refine ap_int wr 0 rfl _ _ rfl w.heap.size _ R rfl hownR rfl hll hwz2 ?_; intro v5 w5 hown5 hg5)
            obtain ⟨hm, hfn, hfl, hne, hbx, hownx⟩ := HX.out
            go_roundg (gk - 1)
            case measure => omega
            case rel => exact ⟨m + 1, by omega, by omega, by rw [hfn]; simpa [hfl] using hown5, ap_grown hgx hownR hg5 (Nat.le_refl _), (hbx.alloc _).grown hg5 hne⟩
          · have hmk' : ¬ (m : Int) ≤ (k : Int) := by omega
            have hmx : m = max M (k + 1) := by omega
            obtain ⟨g, cX, hvX, hgb, hglt⟩ := hownx.form (by omega)
            subst hvX
            have e0 := own_int hownx (j := k) (by omega)
            rw [fnL_getD _ (by omega)] at e0
            have f0 := hownx.frozenAt k
            have o1 := own_int_set hownx k (cntK (l.take j) k + 1)
            rw [fnL_set] at o1
            obtain ⟨q0, q1⟩ := HS.out.2.2.2.1 k
            have q2 := HS.out.2.2.2.2.1
            have hkm : k < m := by omega
            have hne : g ≠ B := by
              have := own_blk_ne2 hownx hbx (by decide)
              intro h
              rw [h] at this
              exact this rfl
            have hne' := Ne.symm hne
            have HO := Lib.hid (And.intro o1 (And.intro hm hmx))
            clear o1 hownx hm
            generalize hcn : cntK (l.take j) k = cn at *
            have HN := Lib.hid hcn
            clear hcn hmx
            go_wp2_with fail
            have hst := HS.out.1
            have hj := HS.out.2.1
            go_roundg (ko - 1)
            case measure => omega
            case rel =>
              refine ⟨j + 1, by omega, by go_num, ?_, grown_set (p := ⟨g, k, none⟩) hgx (.inl hgb) _⟩
              rw [HS.out.2.2.1, if_neg (by simp), ← HO.out.2.2, fnL_congr (g := fun a => if a = k then cn + 1 else cntK (l.take j) a) (fun a ha => by
                rw [hst a]
                by_cases h : a = k
                · rw [h, HN.out]; simp
                · rw [if_neg h, if_neg (by rintro ⟨_, h'⟩; omega)]; omega)]
              exact HO.out.1
      · go_wp2_with fail
        have hst := HS.out.1
        have hj := HS.out.2.1
        go_roundg (ko - 1)
        case measure => omega
        case rel =>
          refine ⟨j + 1, by omega, by go_num, ?_, hgr⟩
          rw [HS.out.2.2.1, fnL_congr (g := cntK (l.take j)) (fun a ha => by rw [hst a]; simp)]
          exact hownr
    · obtain rfl : j = n := by omega
      have hln := HC.out.2.2.2.2.2.2
      have HOWN := Lib.hid hown
      have HLN := Lib.hid hln
      clear hln hown
      go_wp2_with fail
      go_ret
      have hown := HOWN.out
      rw [List.take_of_length_le (by have := HLN.out; omega)] at hown
      rw [HLN.out]
      exact ⟨_, rfl, hown, hg⟩

theorem histogram_bad (A : Option Addr) (n c : Nat) (l : List Sal) (w : World) (hr : Rd w 3 A n (salFlat l)) (hn : n ≤ 400) (hf : dayFault l ≠ 0) :
    Calls Try.prog 36 #[.slice A n c] w fun e w' => e = .returned (.tuple #[.slice none 0 0, .int .i64 (dayFault l)]) ∧ w.grownBy w' none := by
  have hck := checkDays_any A n c l w hr hn
  have hne : (dayFault l != 0) = true := by rw [bne_iff_ne]; exact hf
  generalize dayFault l = f at *
  have HC := Lib.hid hck
  clear hck hf
  go_enter Try.func36, Try.ntmps36
  go_wp2_with fail
  refine HC.out.mono ?_
  rintro e w1 ⟨rfl, hg1⟩
  go_wp2_with fail
  go_ret2
  exact ⟨rfl, hg1⟩

end Go.Proofs.Ytkfijicmeekmiaa
