/- The walks of package stock's units and Count; of coillaw.stocks. -/
import Derived.Test.YtidfhgpjpieajaaDoorStkA
namespace Go.Proofs.YtidfhgpjpieajaaDoor
open Go.RowKit

/-- How many units of a product expire on a day or later. -/
def unitsL (l : List Lot) (p : ByteArray) (d : Int) : Int := (l.map fun x => if sEq x.pr p = true ∧ d ≤ x.ex then x.mn else 0).sum
theorem unitsL_take {l : List Lot} {j : Nat} {t : Lot} (ht : l[j]? = some t) (p : ByteArray) (d : Int) : unitsL (l.take (j + 1)) p d = unitsL (l.take j) p d + if sEq t.pr p = true ∧ d ≤ t.ex then t.mn else 0 := by
  unfold unitsL; rw [take_at ht, List.map_append, List.sum_append]; simp
theorem unitsL_bd {l : List Lot} (h : ∀ t ∈ l, LotOk t) (p : ByteArray) (d : Int) : 0 ≤ unitsL l p d ∧ unitsL l p d ≤ 100000 * l.length := by
  induction l with
  | nil => simp [unitsL]
  | cons a l ih =>
    have h1 := ih (fun t ht => h t (by simp [ht]))
    have h2 := (h a (by simp)).2.2.2
    unfold unitsL at *
    simp only [List.map_cons, List.sum_cons, List.length_cons]
    split <;> omega

set_option maxRecDepth 100000 in
set_option maxHeartbeats 1000000 in
theorem stUnits_any (A : Option Addr) (n c : Nat) (l : List Lot) (p : ByteArray) (d : Int) (w : World) (hr : Rd w 4 A n (lotFlat l)) (hn : n ≤ 1000000) (hok : ∀ t ∈ l, LotOk t) :
    Calls Tryd.prog 71 #[.slice A n c, .string p, .int .i64 d] w fun e w' => e = .returned (.int .i64 (unitsL l p d)) ∧ w.grownBy w' none := by
  have hl : l.length = n := by have := hr.1; rw [lotFlat_len] at this; omega
  have HL := Lib.hid (And.intro hl hok)
  clear hl hok
  go_enter Tryd.func71, Tryd.ntmps71
  go_wp2_with fail
  go_loopg [7, 12] n (fun k v i wr => ∃ j : Nat, k + j = n ∧ i = .int .i64 j ∧ w.grownBy wr none ∧ v = .int .i64 (unitsL (l.take j) p d))
  case atStart => exact ⟨0, by omega, rfl, grown_refl w, rfl⟩
  case round =>
    obtain ⟨j, hj, rfl, hg, rfl⟩ := hrel
    by_cases hlt : j < n
    · obtain ⟨b, off, rfl, hb, t, ht, c0, c1, c2, c3⟩ := lot_cells (hr.grown hg) hlt
      obtain ⟨hl, hok⟩ := HL.out
      have hs := unitsL_take ht p d
      have h0 := unitsL_bd (l := l.take j) (fun t ht => hok t (List.mem_of_mem_take ht)) p d
      rw [List.length_take] at h0
      have h1 := (hok t (List.mem_of_getElem? ht)).2.2.2
      generalize unitsL (l.take j) p d = v at *
      have HS := Lib.hid (And.intro hs hj)
      clear hs hl hok hj ht
      by_cases he : (t.pr.toList == p.toList) = true
      · by_cases hd : d ≤ t.ex
        · go_wp2_with fail
          obtain ⟨hs, hj⟩ := HS.out
          rw [if_pos ⟨he, hd⟩] at hs
          go_roundg (gk - 1)
          case measure => omega
          case rel => exact ⟨j + 1, by omega, by go_num, grown_alloc hg _, by rw [hs]⟩
        · have hnn := Lib.hid (show ¬ (sEq t.pr p = true ∧ d ≤ t.ex) from fun h => hd h.2)
          go_wp2_with fail
          obtain ⟨hs, hj⟩ := HS.out
          rw [if_neg hnn.out, Int.add_zero] at hs
          go_roundg (gk - 1)
          case measure => omega
          case rel => exact ⟨j + 1, by omega, by go_num, grown_alloc hg _, by rw [hs]⟩
      · have he' : (t.pr.toList == p.toList) = false := by simpa using he
        have hnn := Lib.hid (show ¬ (sEq t.pr p = true ∧ d ≤ t.ex) from fun h => he h.1)
        clear he
        go_wp2_with fail
        obtain ⟨hs, hj⟩ := HS.out
        rw [if_neg hnn.out, Int.add_zero] at hs
        go_roundg (gk - 1)
        case measure => omega
        case rel => exact ⟨j + 1, by omega, by go_num, grown_alloc hg _, by rw [hs]⟩
    · obtain rfl : j = n := by omega
      have hv : unitsL (l.take j) p d = unitsL l p d := by rw [List.take_of_length_le (by have := HL.out.1; omega)]
      rw [hv]
      go_wp2_with fail
      go_ret
      exact ⟨rfl, hg⟩

set_option maxHeartbeats 1000000 in
theorem count_ok (A : Option Addr) (n c : Nat) (l : List Lot) (p : ByteArray) (w : World) (hr : Rd w 4 A n (lotFlat l)) (hF : lotsF l = 0) (hp : keyB p = true) :
    Calls Tryd.prog 14 #[.slice A n c, .string p] w fun e w' => e = .returned (.tuple #[.int .i64 (unitsL l p 0), .int .i64 0]) ∧ w.grownBy w' none := by
  obtain ⟨h1, h2, _⟩ := lots_ok hF
  have hl : l.length = n := by have := hr.1; rw [lotFlat_len] at this; omega
  have hc := checkLots_any A n c l w hr
  rw [hF] at hc
  have hu := fun w1 (h : w.grownBy w1 none) => stUnits_any A n c l p 0 w1 (hr.grown h) (by omega) h2
  have HC := Lib.hid (And.intro hc hu)
  clear hc hu hF h1 h2 hl
  go_enter Tryd.func14, Tryd.ntmps14
  go_wp2_with fail
  refine HC.out.1.mono ?_
  rintro e w1 ⟨rfl, hg1⟩
  go_wp2_with fail
  refine (isKey_any _ _).mono ?_
  rw [hp]
  rintro e w2 ⟨rfl, rfl⟩
  go_wp2_with fail
  refine (HC.out.2 _ hg1).mono ?_
  rintro e w3 ⟨rfl, hg3⟩
  go_wp2_with fail
  go_ret2
  exact ⟨rfl, hg1.trans hg3⟩

def kLot : Lot := ⟨⟨#[97]⟩, ⟨#[99, 97, 110]⟩, 0, 3⟩
theorem kLot_ok : lotsF [kLot] = 0 ∧ keyB ⟨#[99, 97, 110]⟩ = true ∧ unitsL [kLot] ⟨#[99, 97, 110]⟩ 0 = 3 := by
  have h1 : keyB ⟨#[97]⟩ = true := by decide +kernel
  have h2 : keyB ⟨#[99, 97, 110]⟩ = true := by decide +kernel
  refine ⟨?_, h2, ?_⟩
  · simp [lotsF, lotFrom, kLot, h1, h2, btw]
  · simp [unitsL, kLot, sEq_self]
theorem stocks_any (w : World) : Calls Tryd.prog 27 #[] w fun e w' => e = .returned (.bool true) ∧ w.grownBy w' none := by
  have hr := lot_rd_new w [kLot] #[.string ⟨#[97]⟩, .string ⟨#[99, 97, 110]⟩, .int .i64 0, .int .i64 3] 51 rfl
  have hg0 := grown_alloc (grown_refl w) (.cells #[.string ⟨#[97]⟩, .string ⟨#[99, 97, 110]⟩, .int .i64 0, .int .i64 3] 51)
  have hc := count_ok (some ⟨w.heap.size, 0, none⟩) 1 1 [kLot] ⟨#[99, 97, 110]⟩ _ hr kLot_ok.1 kLot_ok.2.1
  rw [kLot_ok.2.2] at hc
  have HC := Lib.hid (And.intro hc hg0)
  clear hc hr hg0
  go_enter Tryd.func27, Tryd.ntmps27
  go_wp2_with fail
  refine HC.out.1.mono ?_
  rintro e w1 ⟨rfl, hg1⟩
  go_wp2_with fail
  go_ret
  exact ⟨rfl, HC.out.2.trans hg1⟩

end Go.Proofs.YtidfhgpjpieajaaDoor
