/- The walk of slices.Compact over doubts; of Equal of doubts. -/
import Derived.Test.YtoaeflegcfecaaaDbtO
import Derived.Test.YtoaeflegcfecaaaDoubts
import Derived.Test.YtoaeflegcfecaaaChange
namespace Go.Proofs.Ytoaeflegcfecaaa
open Go.RowKit

theorem own_pair {w : World} {base g cap n : Nat} {e : TypeId} {zs : List (Int × Int)} (hown : w.ownsRow base e 2 (.slice (some ⟨g, 0, none⟩) n cap) n (ints (flatP zs))) {j : Nat} (hj : j < n) :
    ∃ x y, zs[j]? = some (x, y) ∧ w.cell? ⟨g, j * 2, none⟩ = some (.int .i64 x) ∧ w.cell? ⟨g, j * 2 + 1, none⟩ = some (.int .i64 y) ∧ w.frozen? ⟨g, j * 2, none⟩ = false ∧ w.frozen? ⟨g, j * 2 + 1, none⟩ = false := by
  have hl : 2 * zs.length = n * 2 := by have := hown.1; rw [ints, List.length_map, flatP_len] at this; exact this
  have hz : zs[j]? = some zs[j] := List.getElem?_eq_getElem (by omega)
  obtain ⟨a1, a2⟩ := flatP_at zs j _ hz
  refine ⟨zs[j].1, zs[j].2, hz, ?_, ?_, hown.frozenAt _, hown.frozenAt _⟩
  · rw [hown.cellAt (j * 2) (by omega)]
    simp only [Nat.mul_comm] at a1 ⊢
    simp [ints, a1]
  · rw [hown.cellAt (j * 2 + 1) (by omega)]
    simp only [Nat.mul_comm] at a2 ⊢
    simp [ints, a2]

theorem bang_at {zs : List (Int × Int)} {j : Nat} {x : Int × Int} (h : zs[j]? = some x) : zs.toArray[j]! = x := by
  obtain ⟨h1, h2⟩ := List.getElem?_eq_some_iff.1 h
  rw [getElem!_pos _ j (by simpa using h1)]
  simpa using h2

theorem compactD_none (A : Option Addr) (c : Nat) (w : World) : Calls Try.prog 66 #[.slice A 0 c] w fun e w' => e = .returned (.slice A 0 c) ∧ w' = w := by
  go_enter Try.func66, Try.ntmps66
  go_wp2_with fail
  go_ret
  exact ⟨rfl, rfl⟩

theorem comp_same {zs : List (Int × Int)} (h : ∀ j, j < zs.length → Go.Lib.keeps zs.toArray j = true) : Go.Lib.compact zs = zs := Go.Lib.compact_all zs h

theorem own_take2 {w : World} {base g cap n m : Nat} {e : TypeId} {zs : List (Int × Int)} (hown : w.ownsRow base e 2 (.slice (some ⟨g, 0, none⟩) n cap) n (ints (flatP zs))) (hm : m ≤ n) :
    w.ownsRow base e 2 (.slice (some ⟨g, 0, none⟩) m cap) m (ints (flatP (zs.take m))) := by
  have hls : 2 * zs.length = n * 2 := by have := hown.1; rw [ints, List.length_map, flatP_len] at this; exact this
  rcases hown.2 with ⟨h0, _⟩ | ⟨g', cap', cur, hv, hg, hb, hn, hcap, hcs, ht⟩
  · cases h0
  cases hv
  refine ⟨by rw [ints, List.length_map, flatP_len, List.length_take]; omega, .inr ⟨g, cap, cur, rfl, hg, hb, by omega, hcap, hcs, ?_⟩⟩
  rw [← flatP_take, ints, List.map_take, ← ints, ← ht, List.take_take]
  congr 1
  omega

theorem zero_one {z : Value} (hz : z.cells = #[.int .i64 0, .int .i64 0]) (n : Nat) : ∀ v ∈ (Builtin.zeroCells z.cells n).toList, v = .int .i64 0 := by
  intro v hv
  rw [hz] at hv
  simp only [Builtin.zeroCells, Array.toList_map, List.mem_map] at hv
  obtain ⟨i, hi, rfl⟩ := hv
  simp only [List.size_toArray, List.length_cons, List.length_nil, Nat.zero_add, Nat.reduceAdd]
  rcases Nat.mod_two_eq_zero_or_one i with h | h <;> rw [h] <;> rfl

/-- clear(s), s a slice of n > 0 structs of two numbers. -/
theorem run_clear_pair {P : Program} (w : World) (t e ty : TypeId) (z : Value) (ht : P.underlying t = some (.slice e)) (hv : ∀ w, (zeroValue e).run P w = .ok z w) (hz : z.cells = #[.int .i64 0, .int .i64 0]) (b o n c : Nat) (hn : 0 < n)
    (hc : ∀ j, j < n * 2 → (w.cell? ⟨b, o + j, none⟩).isSome = true) (hf : ∀ j, j < n * 2 → w.frozen? ⟨b, o + j, none⟩ = false) :
    (Builtin.clear_ #[t] ty #[.slice (some ⟨b, o, none⟩) n c]).run P w = .ok (.tuple #[]) (w.setCells b o (Builtin.zeroCells z.cells n).toList) := by
  have hlen : (Builtin.zeroCells z.cells n).toList.length = n * 2 := by rw [hz]; simp [Builtin.zeroCells]
  have hone := zero_one hz n
  have hst := run_storeCells_cells (P := P) b o (Builtin.zeroCells z.cells n).toList 0 w (by rw [hlen]; simpa using hc) (by rw [hlen]; simpa using hf) (by intro v hv'; rw [hone v hv']; rfl)
  simp only [Nat.add_zero] at hst
  obtain ⟨m, rfl⟩ : ∃ m, n = m + 1 := ⟨n - 1, by omega⟩
  simp [Builtin.clear_, run_underlying ht, hv, hst]

set_option maxHeartbeats 2000000 in
theorem compactD_any (base g cap n : Nat) (zs : List (Int × Int)) (w : World) (hown : w.ownsRow base 73 2 (.slice (some ⟨g, 0, none⟩) n cap) n (ints (flatP zs))) (hn : n ≤ 100000) :
    Calls Try.prog 66 #[.slice (some ⟨g, 0, none⟩) n cap] w
      fun e w' => ∃ m, m = (Go.Lib.compact zs).length ∧ e = .returned (.slice (some ⟨g, 0, none⟩) m cap) ∧ w'.ownsRow base 73 2 (.slice (some ⟨g, 0, none⟩) m cap) m (ints (flatP (Go.Lib.compact zs))) ∧ w.grownBy w' (some g) := by
  have hl : zs.length = n := by have := hown.1; rw [ints, List.length_map, flatP_len] at this; omega
  have hcap : n ≤ cap := by
    rcases hown.2 with ⟨h0, _⟩ | ⟨g', cap', cur, hv, hg, hb, hn, hcap, hcs, ht⟩
    · cases h0
    · cases hv; exact hn
  by_cases h2 : n < 2
  · have hc : Go.Lib.compact zs = zs := comp_same fun j hj => Go.Lib.keeps_lt_one _ j (by omega)
    have h2' : (n : Int) < 2 := by omega
    rw [hc]
    have HL := Lib.hid hl
    clear hl hc
    go_enter Try.func66, Try.ntmps66
    go_wp2_with fail
    go_ret
    exact ⟨n, HL.out.symm, rfl, hown, World.grownBy.refl _ _⟩
  · have h2' : ¬ (n : Int) < 2 := by omega
    have HL := Lib.hid hl
    clear hl
    go_enter Try.func66, Try.ntmps66
    go_wp2_with fail
    clear h2'
    go_loopg [3] n (fun gh s3 wr => ∃ k : Nat, 1 ≤ k ∧ k ≤ n ∧ n ≤ gh + k ∧ s3 = .int .i64 k ∧ wr.ownsRow base 73 2 (.slice (some ⟨g, 0, none⟩) n cap) n (ints (flatP zs)) ∧ w.grownBy wr (some g) ∧ Hid (∀ j, j < k → Go.Lib.keeps zs.toArray j = true))
    case atStart => exact ⟨1, Nat.le_refl _, by omega, by omega, rfl, hown, World.grownBy.refl _ _, Lib.hid (Go.Lib.keeps_lt_one _)⟩
    case round =>
      clear hown
      obtain ⟨k, hk1, hkl, hk, rfl, hown, hg, HK⟩ := hrel
      generalize gk = ko at *
      by_cases hlt : k < n
      · obtain ⟨p, hp⟩ : ∃ p, p + 1 = k := ⟨k - 1, by omega⟩
        obtain ⟨x1, x2, hx, c0, c1, _, _⟩ := own_pair hown hlt
        obtain ⟨y1, y2, hy, d0, d1, _, _⟩ := own_pair hown (j := p) (by omega)
        have wp : IntKind.i64.wrap ((k : Int) - 1) = (p : Int) := by rw [IntWalk.i64_in _ (by omega)]; omega
        have hpn : (p : Int) < (n : Int) := by omega
        have hpn' : p < n := by omega
        have hkn : (k : Int) < (n : Int) := by omega
        by_cases hdup : (x1, x2) = (y1, y2)
        · obtain ⟨rfl, rfl⟩ : x1 = y1 ∧ x2 = y2 := by simpa using hdup
          have HX := Lib.hid (And.intro hx (And.intro hy (And.intro hk hp)))
          clear hx hy hdup hk hp
          go_wp2_with fail
          go_quiet (fail)
          have hown3 : (wr.drewN nq).ownsRow base 73 2 (.slice (some ⟨g, 0, none⟩) n cap) n (ints (flatP zs)) := hown
          have hg3 : w.grownBy (wr.drewN nq) (some g) := grown_drewN hg _
          clear hown hg c0 c1 d0 d1
          generalize wr.drewN nq = w3 at *
          have hkc : (k : Int) ≤ (n : Int) := by omega
          have hkc' : (n : Int) ≤ (cap : Int) := by omega
          go_wp2_with fail
          obtain ⟨r, hr⟩ : ∃ r, r = n - k := ⟨_, rfl⟩
          rw [← hr]
          go_loopg [3, 5] n (fun gh s3 s5 wr => ∃ (kk k2 : Nat) (dk : List (Int × Int)), s3 = .int .i64 kk ∧ s5 = .int .i64 k2 ∧ 1 ≤ k2 ∧ k2 ≤ r ∧ r ≤ gh + k2 ∧ wr.ownsRow base 73 2 (.slice (some ⟨g, 0, none⟩) n cap) n (ints (flatP dk)) ∧ w.grownBy wr (some g) ∧ Hid (Go.Lib.CompInv zs.toArray (k + k2) kk dk.toArray))
          case atStart =>
            obtain ⟨hx, hy, hk, hp⟩ := HX.out
            exact ⟨k, 1, zs, rfl, rfl, by omega, by omega, by omega, hown3, hg3, Lib.hid (Go.Lib.CompInv.start HK.out (Go.Lib.keeps_neg (by omega) (by rw [bang_at hx, show k - 1 = p from by omega, bang_at hy])))⟩
          case round =>
            clear hown3 hg3
            obtain ⟨kk, k2, dk, rfl, rfl, h1, hle, hg2, hown, hg, HI⟩ := hrel
            have hkk := HI.out.lt
            have hds : dk.length = n := by have := HI.out.size; have := HL.out; simp at *; omega
            by_cases hlt2 : k2 < r
            · obtain ⟨q, hq⟩ : ∃ q, q + 1 = k2 := ⟨k2 - 1, by omega⟩
              obtain ⟨u1, u2, hu, c0, c1, _, _⟩ := own_pair hown (j := k + k2) (by omega)
              obtain ⟨v1, v2, hv, d0, d1, _, _⟩ := own_pair hown (j := k + q) (by omega)
              obtain ⟨_, _, _, e0, e1, f0, f1⟩ := own_pair hown (j := kk) (by omega)
              rw [Nat.add_mul] at c0 c1 d0 d1
              have bu := HI.out.high (k + k2) (by omega)
              have bv := HI.out.high (k + q) (by omega)
              rw [bang_at hu] at bu
              rw [bang_at hv] at bv
              have wq : IntKind.i64.wrap ((k2 : Int) - 1) = (q : Int) := by rw [IntWalk.i64_in _ (by omega)]; omega
              have hqr : (q : Int) < (r : Int) := by omega
              have hqr' : q < r := by omega
              have hkr : (k2 : Int) < (r : Int) := by omega
              have hkkn : (kk : Int) < (n : Int) := by omega
              have hkkn' : kk < n := by omega
              have hrb : k2 ≤ 100000 := by omega
              have HU := Lib.hid (And.intro bu (And.intro bv (And.intro hq (And.intro hr (And.intro hg2 (And.intro hkk hds))))))
              clear bu bv hq hr hu hv hg2 hkk hds
              by_cases huv : u1 = v1 ∧ u2 = v2
              · obtain ⟨rfl, rfl⟩ := huv
                go_wp2_with fail
                go_quiet (fail)
                go_wp2_with fail
                obtain ⟨bu, bv, hq, hr, hg2, hkk, hds⟩ := HU.out
                go_roundg (gk - 1)
                case measure => omega
                case rel => exact ⟨kk, k2 + 1, dk, rfl, by go_num, by omega, by omega, by omega, hown, grown_drewN hg _, Lib.hid (by
                  have h := HI.out.skip (Go.Lib.keeps_neg (by omega) (by rw [← bu, show k + k2 - 1 = k + q from by omega, ← bv]))
                  rw [show k + (k2 + 1) = k + k2 + 1 from by omega]; exact h)⟩
              · have HUV := Lib.hid huv
                by_cases h1e : u1 = v1
                · subst h1e
                  have h2e : ¬ u2 = v2 := fun e => huv ⟨rfl, e⟩
                  clear huv
                  go_wp2_with fail
                  go_quiet (fail)
                  go_wp2_with fail
                  obtain ⟨bu, bv, hq, hr, hg2, hkk, hds⟩ := HU.out
                  obtain ⟨ho2, hg3⟩ := own_storeP (w := wr.drewN nq) hown kk u1 u2
                  go_roundg (gk - 1)
                  case measure => omega
                  case rel => exact ⟨kk + 1, k2 + 1, dk.set kk (u1, u2), by go_num, by go_num, by omega, by omega, by omega, ho2, (grown_drewN hg nq).trans hg3, Lib.hid (by
                    have h := HI.out.keep (by have := HL.out; simp; omega) (Go.Lib.keeps_pos (by rw [← bu, show k + k2 - 1 = k + q from by omega, ← bv]; intro e; exact HUV.out (by simpa using e)))
                    rw [← bu] at h
                    rw [show k + (k2 + 1) = k + k2 + 1 from by omega]
                    simpa using h)⟩
                · clear huv
                  go_wp2_with fail
                  go_quiet (fail)
                  go_wp2_with fail
                  obtain ⟨bu, bv, hq, hr, hg2, hkk, hds⟩ := HU.out
                  obtain ⟨ho2, hg3⟩ := own_storeP (w := wr.drewN nq) hown kk u1 u2
                  go_roundg (gk - 1)
                  case measure => omega
                  case rel => exact ⟨kk + 1, k2 + 1, dk.set kk (u1, u2), by go_num, by go_num, by omega, by omega, by omega, ho2, (grown_drewN hg nq).trans hg3, Lib.hid (by
                    have h := HI.out.keep (by have := HL.out; simp; omega) (Go.Lib.keeps_pos (by rw [← bu, show k + k2 - 1 = k + q from by omega, ← bv]; intro e; exact HUV.out (by simpa using e)))
                    rw [← bu] at h
                    rw [show k + (k2 + 1) = k + k2 + 1 from by omega]
                    simpa using h)⟩
            · obtain rfl : k2 = r := by omega
              obtain ⟨hr', hkn2⟩ : k + k2 = n ∧ kk < n := by omega
              have hI := HI.out
              rw [hr'] at hI
              have hdl := HL.out
              have htk : dk.take kk = Go.Lib.compact zs := by
                have hcl : (Go.Lib.compactUpTo zs.toArray n).length = kk := hI.len
                rw [show Go.Lib.compact zs = Go.Lib.compactUpTo zs.toArray n from by rw [← hdl]; rfl]
                apply List.ext_getElem?
                intro j
                by_cases hj : j < kk
                · rw [hI.low j hj, List.getElem?_take_of_lt hj, List.getElem?_eq_getElem (by omega), getElem!_pos _ j (by simp; omega)]
                  simp
                · rw [List.getElem?_take_eq_none (by omega), List.getElem?_eq_none (by omega)]
              have hlen : (Go.Lib.compact zs).length = kk := by rw [← htk, List.length_take]; omega
              obtain ⟨Z, hZ⟩ : ∃ Z, Z = (Builtin.zeroCells (Value.agg #[.int .i64 0, .int .i64 0]).cells (n - kk)).toList := ⟨_, rfl⟩
              have hcl : ∀ ty, (Builtin.clear_ #[61] ty #[.slice (some ⟨g, kk * 2, none⟩) (n - kk) (cap - kk)]).run Try.prog wr = .ok (.tuple #[]) (wr.setCells g (kk * 2) Z) := by
                rw [hZ]
                exact fun ty => run_clear_pair wr _ _ ty _ Try.underlying61 Try.zeroValue73 rfl g (kk * 2) (n - kk) _ (by omega)
                  (fun j hj => by rw [hown.cellAt _ (by omega), List.getElem?_eq_getElem (by rw [hown.1]; omega)]; rfl) (fun j hj => hown.frozenAt _)
              obtain ⟨ho2, hg3⟩ := own_beyond Z (kk * 2) wr (own_take2 hown (m := kk) (by omega)) (Nat.le_refl _)
              rw [htk] at ho2
              have HT := Lib.hid (And.intro hlen (And.intro ho2 hg3))
              have hkkn : (kk : Int) ≤ (n : Int) := by omega
              have hkkn' : kk ≤ n := by omega
              clear hI hdl htk hlen ho2 hg3 hZ hr hg2 hkk hds hr'
              go_wp2_with fail
              go_ret
              exact ⟨kk, HT.out.1.symm, rfl, HT.out.2.1, hg.trans HT.out.2.2⟩
        · have HUV := Lib.hid hdup
          have HX := Lib.hid (And.intro hx (And.intro hy (And.intro hk hp)))
          clear hx hy hk hp
          by_cases h1e : x1 = y1
          · subst h1e
            have h2e : ¬ x2 = y2 := fun e => hdup (by rw [e])
            clear hdup
            go_wp2_with fail
            go_quiet (fail)
            go_wp2_with fail
            obtain ⟨hx, hy, hk, hp⟩ := HX.out
            go_roundg (ko - 1)
            case measure => omega
            case rel => exact ⟨k + 1, by omega, by omega, by omega, by go_num, hown, grown_drewN hg _, Lib.hid fun j hj => by
              by_cases e : j = k
              · subst e
                exact Go.Lib.keeps_pos (by rw [bang_at hx, show j - 1 = p from by omega, bang_at hy]; exact HUV.out)
              · exact HK.out j (by omega)⟩
          · clear hdup
            go_wp2_with fail
            go_quiet (fail)
            go_wp2_with fail
            obtain ⟨hx, hy, hk, hp⟩ := HX.out
            go_roundg (ko - 1)
            case measure => omega
            case rel => exact ⟨k + 1, by omega, by omega, by omega, by go_num, hown, grown_drewN hg _, Lib.hid fun j hj => by
              by_cases e : j = k
              · subst e
                exact Go.Lib.keeps_pos (by rw [bang_at hx, show j - 1 = p from by omega, bang_at hy]; exact HUV.out)
              · exact HK.out j (by omega)⟩
      · obtain rfl : k = n := by omega
        go_wp2_with fail
        go_ret
        have hc : Go.Lib.compact zs = zs := comp_same fun j hj => HK.out j (by have := HL.out; omega)
        rw [hc]
        exact ⟨k, HL.out.symm, rfl, hown, hg⟩

/-- slices.Equal of the same doubts. -/
theorem equalDbt_any (A B : Option Addr) (n c d : Nat) (l : List Int) (w : World) (hr : Rd w 2 A n (ints l)) (hr2 : Rd w 2 B n (ints l)) (hn : n ≤ 1000000) :
    Calls Try.prog 37 #[.slice A n c, .slice B n d] w fun e w' => e = .returned (.bool true) ∧ w.grownBy w' none := by
  go_enter Try.func37, Try.ntmps37
  go_wp2_with fail
  go_loopg [13] n (fun g i wr => ∃ j : Nat, g + j = n ∧ i = .int .i64 j ∧ w.grownBy wr none)
  case atStart => exact ⟨0, by omega, rfl, grown_refl w⟩
  case round =>
    obtain ⟨j, hj, rfl, hg⟩ := hrel
    by_cases hlt : j < n
    · obtain ⟨b, off, rfl, hb, c0, c1⟩ := win_cells (hr.grown hg) hlt
      obtain ⟨b', off', rfl, hb', d0, d1⟩ := win_cells (hr2.grown hg) hlt
      have hlt' : (j : Int) < (n : Int) := by omega
      have HJ := Lib.hid hj
      clear hj
      go_wp2_with fail
      go_quiet (fail)
      go_wp2_with fail
      have hj := HJ.out
      go_roundg (gk - 1)
      case measure => omega
      case rel => exact ⟨j + 1, by omega, by go_num, grown_drewN hg _⟩
    · obtain rfl : j = n := by omega
      go_wp2_with fail
      go_ret
      exact ⟨rfl, hg⟩

end Go.Proofs.Ytoaeflegcfecaaa
