/- The walk of the reference's StaleOf. -/
import Derived.Test.YtidfhgpjpieajaaDoorRefO
import Derived.Test.YtidfhgpjpieajaaDoorStkF
namespace Go.Proofs.YtidfhgpjpieajaaDoor
open Go.RowKit

theorem sizeStr (w : World) : (sizeOf (Tryd.prog.elem 89)).run Tryd.prog w = .ok 1 w := by kernel_rfl
theorem undStr : Tryd.prog.underlying 89 = some (.slice (Tryd.prog.elem 89)) := by kernel_rfl
theorem strs_take (l : List ByteArray) (q : Nat) : (strs l).take (q * 1) = strs (l.take q) := by simp [strs]
theorem strs_drop (l : List ByteArray) (q : Nat) : (strs l).drop (q * 1) = strs (l.drop q) := by simp [strs]

/-- How many units of some lots are sold too late, from day d on. -/
def stU (L : List Lot) (U : List ByteArray) (d : Int) (S : List Int) : Int := staleP (U.map (exOf L)) d S
def bfU (L : List Lot) (U : List ByteArray) (d : Int) : Int := befP (U.map (exOf L)) d
theorem stU_step (L : List Lot) (U : List ByteArray) (d : Int) (m : Nat) (r : List Int) (q : Nat) (hq : q = if m ≤ U.length then m else U.length) : stU L U d ((m : Int) :: r) = bfU L (U.take q) d + stU L (U.drop q) (d + 1) r := by
  unfold stU bfU
  rw [staleP_step (U.map (exOf L)) d m r q (by simpa using hq), List.map_take, List.map_drop]
theorem stU_end (L : List Lot) (U : List ByteArray) (d : Int) : stU L U d [] = bfU L U d := rfl
theorem stU_nil (L : List Lot) (d : Int) (S : List Int) : stU L [] d S = 0 := staleP_nil d S
theorem bfU_snoc {L : List Lot} {U : List ByteArray} {r : Nat} {s : ByteArray} (h : U[r]? = some s) (d : Int) : bfU L (U.take (r + 1)) d = bfU L (U.take r) d + if exOf L s < d then 1 else 0 := by
  unfold bfU
  rw [take_at h, List.map_append]
  exact befP_snoc _ _ _
theorem bfU_bd (L : List Lot) (U : List ByteArray) (d : Int) : 0 ≤ bfU L U d ∧ bfU L U d ≤ U.length := by
  have := befP_nonneg (U.map (exOf L)) d
  rw [List.length_map] at this
  exact this

set_option maxRecDepth 100000 in
set_option maxHeartbeats 8000000 in
theorem staleOf_any (L : List Lot) (C : Coil) (A B D : Option Addr) (c cl cs : Nat) (d : Int) (S : List Int) (w : World) (hr : Rd w 2 A C.ps.length (pcFlat C.ps)) (hlen : C.ps.length ≤ 1000) (hok : ∀ t ∈ C.ps, PcOk t) (hsum : numP C.ps ≤ 1000) (hL : Rd w 4 B L.length (lotFlat L)) (hLn : L.length ≤ 1000000)
    (hS : Rd w 1 D S.length (ints S)) (hSn : S.length ≤ 400) (hall : allB S 0 1000 = true) (hd0 : 0 ≤ d) (hd1 : d ≤ 4000) :
    Calls Tryd.prog 38 #[.agg #[.string C.pr, .int .i64 C.most, .slice A C.ps.length c], .slice B L.length cl, .int .i64 d, .slice D S.length cs] w
      fun e w' => e = .returned (.int .i64 (staleP (endsP L C.ps) d S)) ∧ w.grownBy w' none := by
  have hg0 := grown_alloc (grown_refl w) (.cells #[.string C.pr, .int .i64 C.most, .slice A C.ps.length c] 58)
  have hB := (Blk.new w 58 #[.string C.pr, .int .i64 C.most, .slice A C.ps.length c]).three
  have hu := units_any A C.ps.length c C.ps _ (hr.grown hg0) hlen hok
  have hul := units_len hok
  obtain ⟨V, hV⟩ : ∃ V, staleP (endsP L C.ps) d S = V := ⟨_, rfl⟩
  rw [hV]
  rw [ends_units] at hV
  have hV2 : stU L (unitsP C.ps) d S = V := hV
  generalize unitsP C.ps = U0 at *
  obtain ⟨n, hn⟩ : ∃ n, S.length = n := ⟨_, rfl⟩
  rw [hn] at hS hSn ⊢
  have hU0 : U0.length ≤ 1000 := by omega
  have HC := Lib.hid (And.intro hu (And.intro hg0 (And.intro hV2 (And.intro hn hall))))
  clear hu hg0 hV hV2 hn hul hok hall hsum
  go_enter Tryd.func38, Tryd.ntmps38
  go_wp2_with fail
  refine HC.out.1.mono ?_
  rintro e w1 ⟨v, rfl, hown, hg1⟩
  obtain ⟨AU, cU, rfl, hcU, _, hrU, _⟩ := Rd.of_own hown
  have hgg1 := HC.out.2.1.trans hg1
  clear hown hg1 hB
  go_wp2_with fail
  go_loopg [9, 10, 11] (n + 1) (fun k va vn vi wr => ∃ (i : Nat) (a : Int) (U : List ByteArray) (AU : Option Addr) (cU : Nat), k + i = n + 1 ∧ vi = .int .i64 i ∧ vn = .int .i64 a ∧ va = .slice AU U.length cU ∧ U.length ≤ cU ∧ U.length ≤ 1000 ∧ 0 ≤ a ∧ a ≤ 1000 * (i : Int) ∧ Rd wr 1 AU U.length (strs U) ∧ w.grownBy wr none ∧ Hid ((i ≤ n ∧ a + stU L U (d + (i : Int)) (S.drop i) = V) ∨ (U = [] ∧ a = V)))
  case atStart => exact ⟨0, 0, U0, AU, cU, by omega, rfl, rfl, rfl, hcU, hU0, by omega, by omega, hrU, hgg1, Lib.hid (.inl ⟨by omega, by simpa using HC.out.2.2.1⟩)⟩
  case round =>
    clear hrU hgg1 hcU hU0
    obtain ⟨i, a, U, AU, cU, hi, rfl, rfl, rfl, hcU, hU1, ha0, ha1, hrU, hg, H⟩ := hrel
    by_cases hU0 : U.length = 0
    · have hVa : a = V := by
        have hnil : U = [] := List.eq_nil_of_length_eq_zero hU0
        rcases H.out with ⟨_, h⟩ | ⟨_, h⟩
        · rw [hnil, stU_nil] at h; omega
        · exact h
      have HV := Lib.hid hVa
      have hU0' : ¬ (0 : Int) < (U.length : Int) := by omega
      clear hVa hU0
      go_wp2_with fail
      go_ret
      exact ⟨retI HV.out, hg⟩
    · have hU0' : (0 : Int) < (U.length : Int) := by omega
      have hin : i ≤ n ∧ a + stU L U (d + (i : Int)) (S.drop i) = V := by
        rcases H.out with h | ⟨h, _⟩
        · exact h
        · rw [h] at hU0; exact absurd rfl hU0
      obtain ⟨hin, hI⟩ := hin
      have hin' : (i : Int) ≤ (n : Int) := by omega
      obtain ⟨N, hN⟩ : ∃ N, U.length = N := ⟨_, rfl⟩
      rw [hN] at hrU hcU hU1 hU0' ⊢
      have hdN : decide (0 < N) = true := decide_eq_true (by omega)
      clear H hU0
      by_cases hlt : i < n
      · obtain ⟨b, off, rfl, hb, x, hx, cx⟩ := int_cells (hS.grown hg) hlt
        obtain ⟨_, _, _, hn, hall⟩ := HC.out
        have hx0 := allB_mem hall (List.mem_of_getElem? hx)
        obtain ⟨m, rfl⟩ : ∃ m : Nat, x = m := ⟨x.toNat, by omega⟩
        have hil : (i : Int) < (n : Int) := by omega
        rw [drop_at hx] at hI
        clear hn hall hx
        obtain ⟨q, hq⟩ : ∃ q, q = if m ≤ N then m else N := ⟨_, rfl⟩
        have hst := stU_step L U (d + (i : Int)) m (S.drop (i + 1)) q (by rw [hN]; exact hq)
        rw [hst] at hI
        clear hst
        have hqN : q ≤ N := by rw [hq]; split <;> omega
        obtain ⟨A1, hs1, hr1⟩ := win_h (P := Tryd.prog) undStr sizeStr hrU hqN hcU
        obtain ⟨A2, hs2, hr2⟩ := win_l (P := Tryd.prog) undStr sizeStr hrU hqN hcU
        rw [strs_take] at hr1
        rw [strs_drop] at hr2
        have hbq := bfU_bd L (U.take q) (d + (i : Int))
        have hUt : (U.take q).length = q := by rw [List.length_take]; omega
        have hUd : (U.drop q).length = N - q := by rw [List.length_drop, hN]
        rw [hUt] at hbq
        generalize hW : U.take q = W at *
        have HH := Lib.hid (And.intro hI (And.intro hi (And.intro hr2 (And.intro hUd (And.intro hbq hN)))))
        clear hI hi hr2 hUd hbq hN hrU hW
        by_cases hmn : m ≤ N
        · rw [if_pos hmn] at hq
          subst hq
          have hmn' : (q : Int) ≤ (N : Int) := by omega
          have hmi : min (q : Int) (N : Int) = (q : Int) := by omega
          go_wp2_with fail
          generalize gk = ko at *
          obtain ⟨wo, rfl⟩ : ∃ wo : World, wo = wr := ⟨_, rfl⟩
          go_loopg [10, 41] q (fun k vn vj wz => ∃ r : Nat, k + r = q ∧ vj = .int .i64 r ∧ vn = .int .i64 (a + bfU L (W.take r) (d + (i : Int))) ∧ wo.grownBy wz none)
          case atStart => exact ⟨0, by omega, rfl, by simp [bfU, befP], grown_refl wo⟩
          case round =>
            obtain ⟨r, hr', rfl, rfl, hgz⟩ := hrel
            by_cases hlr : r < q
            · obtain ⟨b', off', rfl, hb', s, hs, c0⟩ := str_cells (hr1.grown hgz) hlr
              have hlo := lotOf_any B L.length cl L s wr ((hL.grown hg).grown hgz) hLn
              have hex := exOf_lotR L s
              have hsn := bfU_snoc (L := L) hs (d + (i : Int))
              rw [hex] at hsn
              have hbr := bfU_bd L (W.take r) (d + (i : Int))
              have hbl : (W.take r).length ≤ 1000 := by rw [List.length_take]; omega
              generalize bfU L (W.take r) (d + (i : Int)) = f at *
              generalize lotR L s = R at *
              generalize (lotOf L s).isSome = z at *
              have HR := Lib.hid (And.intro hlo (And.intro hr' hsn))
              have hrq : (r : Int) < (q : Int) := by omega
              clear hlo hr' hsn hs hex
              go_wp2_with fail
              refine HR.out.1.mono ?_
              rintro e w3 ⟨rfl, hg3⟩
              by_cases hd : R.ex < d + (i : Int)
              · go_wp2_with fail
                obtain ⟨_, hr', hsn⟩ := HR.out
                rw [if_pos hd] at hsn
                go_roundg (gk - 1)
                case measure => omega
                case rel => exact ⟨r + 1, by omega, by go_num, by rw [hsn, Int.add_assoc], grown_alloc (hgz.trans hg3) _⟩
              · go_wp2_with fail
                obtain ⟨_, hr', hsn⟩ := HR.out
                rw [if_neg (by omega), Int.add_zero] at hsn
                go_roundg (gk - 1)
                case measure => omega
                case rel => exact ⟨r + 1, by omega, by go_num, by rw [hsn], grown_alloc (hgz.trans hg3) _⟩
            · obtain rfl : r = q := by omega
              obtain ⟨hI, hi, hr2, hUd, hbq, hN⟩ := HH.out
              rw [List.take_of_length_le (by omega)]
              generalize bfU L W (d + (i : Int)) = f at *
              have HI := Lib.hid (And.intro hI (And.intro hi (And.intro hr2 hUd)))
              clear hI hi hr2 hUd hN
              go_wp2_with fail
              obtain ⟨hI, hi, hr2, hUd⟩ := HI.out
              go_roundg (ko - 1)
              case measure => omega
              case rel =>
                refine ⟨i + 1, a + f, U.drop r, A2, cU - r, by omega, by go_num, rfl, by rw [hUd], by omega, by omega, by omega, by omega, by rw [hUd]; exact hr2.grown hgz, hg.trans hgz, Lib.hid (.inl ⟨by omega, ?_⟩)⟩
                rw [← hI, show d + ((i + 1 : Nat) : Int) = d + (i : Int) + 1 from by omega]
                omega
        · rw [if_neg hmn] at hq
          subst hq
          have hmn' : ¬ (m : Int) ≤ (q : Int) := by omega
          have hmi : min (m : Int) (q : Int) = (q : Int) := by omega
          go_wp2_with fail
          generalize gk = ko at *
          obtain ⟨wo, rfl⟩ : ∃ wo : World, wo = wr := ⟨_, rfl⟩
          go_loopg [10, 41] q (fun k vn vj wz => ∃ r : Nat, k + r = q ∧ vj = .int .i64 r ∧ vn = .int .i64 (a + bfU L (W.take r) (d + (i : Int))) ∧ wo.grownBy wz none)
          case atStart => exact ⟨0, by omega, rfl, by simp [bfU, befP], grown_refl wo⟩
          case round =>
            obtain ⟨r, hr', rfl, rfl, hgz⟩ := hrel
            by_cases hlr : r < q
            · obtain ⟨b', off', rfl, hb', s, hs, c0⟩ := str_cells (hr1.grown hgz) hlr
              have hlo := lotOf_any B L.length cl L s wr ((hL.grown hg).grown hgz) hLn
              have hex := exOf_lotR L s
              have hsn := bfU_snoc (L := L) hs (d + (i : Int))
              rw [hex] at hsn
              have hbr := bfU_bd L (W.take r) (d + (i : Int))
              have hbl : (W.take r).length ≤ 1000 := by rw [List.length_take]; omega
              generalize bfU L (W.take r) (d + (i : Int)) = f at *
              generalize lotR L s = R at *
              generalize (lotOf L s).isSome = z at *
              have HR := Lib.hid (And.intro hlo (And.intro hr' hsn))
              have hrq : (r : Int) < (q : Int) := by omega
              clear hlo hr' hsn hs hex
              go_wp2_with fail
              refine HR.out.1.mono ?_
              rintro e w3 ⟨rfl, hg3⟩
              by_cases hd : R.ex < d + (i : Int)
              · go_wp2_with fail
                obtain ⟨_, hr', hsn⟩ := HR.out
                rw [if_pos hd] at hsn
                go_roundg (gk - 1)
                case measure => omega
                case rel => exact ⟨r + 1, by omega, by go_num, by rw [hsn, Int.add_assoc], grown_alloc (hgz.trans hg3) _⟩
              · go_wp2_with fail
                obtain ⟨_, hr', hsn⟩ := HR.out
                rw [if_neg (by omega), Int.add_zero] at hsn
                go_roundg (gk - 1)
                case measure => omega
                case rel => exact ⟨r + 1, by omega, by go_num, by rw [hsn], grown_alloc (hgz.trans hg3) _⟩
            · obtain rfl : r = q := by omega
              obtain ⟨hI, hi, hr2, hUd, hbq, hN⟩ := HH.out
              rw [List.take_of_length_le (by omega)]
              generalize bfU L W (d + (i : Int)) = f at *
              have HI := Lib.hid (And.intro hI (And.intro hi (And.intro hr2 hUd)))
              clear hI hi hr2 hUd hN
              go_wp2_with fail
              obtain ⟨hI, hi, hr2, hUd⟩ := HI.out
              go_roundg (ko - 1)
              case measure => omega
              case rel =>
                refine ⟨i + 1, a + f, U.drop r, A2, cU - r, by omega, by go_num, rfl, by rw [hUd, Nat.sub_self], by omega, by omega, by omega, by omega, by rw [hUd]; exact hr2.grown hgz, hg.trans hgz, Lib.hid (.inl ⟨by omega, ?_⟩)⟩
                rw [← hI, show d + ((i + 1 : Nat) : Int) = d + (i : Int) + 1 from by omega]
                omega
      · obtain rfl : i = n := by omega
        have hil : ¬ (i : Int) < (i : Int) := by omega
        rw [List.drop_of_length_le (by have := HC.out.2.2.2.1; omega), stU_end] at hI
        obtain ⟨q, hq⟩ : ∃ q, q = N := ⟨_, rfl⟩
        have hqN : q ≤ N := by omega
        rw [show U = U.take q from (List.take_of_length_le (by omega)).symm] at hI
        obtain ⟨A1, hs1, hr1⟩ := win_h (P := Tryd.prog) undStr sizeStr hrU hqN hcU
        obtain ⟨A2, hs2, hr2⟩ := win_l (P := Tryd.prog) undStr sizeStr hrU hqN hcU
        rw [strs_take] at hr1
        rw [strs_drop] at hr2
        have hbq := bfU_bd L (U.take q) (d + (i : Int))
        have hUt : (U.take q).length = q := by rw [List.length_take]; omega
        have hUd : (U.drop q).length = N - q := by rw [List.length_drop, hN]
        rw [hUt] at hbq
        generalize hW : U.take q = W at *
        have HH := Lib.hid (And.intro hI (And.intro hi (And.intro hr2 (And.intro hUd (And.intro hbq hN)))))
        clear hI hi hr2 hUd hbq hN hrU hW
        subst hq
        go_wp2_with fail
        generalize gk = ko at *
        obtain ⟨wo, rfl⟩ : ∃ wo : World, wo = wr := ⟨_, rfl⟩
        go_loopg [10, 41] q (fun k vn vj wz => ∃ r : Nat, k + r = q ∧ vj = .int .i64 r ∧ vn = .int .i64 (a + bfU L (W.take r) (d + (i : Int))) ∧ wo.grownBy wz none)
        case atStart => exact ⟨0, by omega, rfl, by simp [bfU, befP], grown_refl wo⟩
        case round =>
          obtain ⟨r, hr', rfl, rfl, hgz⟩ := hrel
          by_cases hlr : r < q
          · obtain ⟨b', off', rfl, hb', s, hs, c0⟩ := str_cells (hr1.grown hgz) hlr
            have hlo := lotOf_any B L.length cl L s wr ((hL.grown hg).grown hgz) hLn
            have hex := exOf_lotR L s
            have hsn := bfU_snoc (L := L) hs (d + (i : Int))
            rw [hex] at hsn
            have hbr := bfU_bd L (W.take r) (d + (i : Int))
            have hbl : (W.take r).length ≤ 1000 := by rw [List.length_take]; omega
            generalize bfU L (W.take r) (d + (i : Int)) = f at *
            generalize lotR L s = R at *
            generalize (lotOf L s).isSome = z at *
            have HR := Lib.hid (And.intro hlo (And.intro hr' hsn))
            have hrq : (r : Int) < (q : Int) := by omega
            clear hlo hr' hsn hs hex
            go_wp2_with fail
            refine HR.out.1.mono ?_
            rintro e w3 ⟨rfl, hg3⟩
            by_cases hd : R.ex < d + (i : Int)
            · go_wp2_with fail
              obtain ⟨_, hr', hsn⟩ := HR.out
              rw [if_pos hd] at hsn
              go_roundg (gk - 1)
              case measure => omega
              case rel => exact ⟨r + 1, by omega, by go_num, by rw [hsn, Int.add_assoc], grown_alloc (hgz.trans hg3) _⟩
            · go_wp2_with fail
              obtain ⟨_, hr', hsn⟩ := HR.out
              rw [if_neg (by omega), Int.add_zero] at hsn
              go_roundg (gk - 1)
              case measure => omega
              case rel => exact ⟨r + 1, by omega, by go_num, by rw [hsn], grown_alloc (hgz.trans hg3) _⟩
          · obtain rfl : r = q := by omega
            obtain ⟨hI, hi, hr2, hUd, hbq, hN⟩ := HH.out
            rw [List.take_of_length_le (by omega)]
            generalize bfU L W (d + (i : Int)) = f at *
            have HI := Lib.hid (And.intro hI (And.intro hi (And.intro hr2 hUd)))
            clear hI hi hr2 hUd hN
            go_wp2_with fail
            obtain ⟨hI, hi, hr2, hUd⟩ := HI.out
            go_roundg (ko - 1)
            case measure => omega
            case rel =>
              refine ⟨i + 1, a + f, U.drop r, A2, cU - r, by omega, by go_num, rfl, by rw [hUd, Nat.sub_self], by omega, by omega, by omega, by omega, by rw [hUd]; exact hr2.grown hgz, hg.trans hgz, Lib.hid (.inr ⟨List.eq_nil_of_length_eq_zero (by omega), hI⟩)⟩

end Go.Proofs.YtidfhgpjpieajaaDoor
