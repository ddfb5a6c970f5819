/- The walks of package stock: byId, known, expiries. -/
import Derived.Test.YtidfhgpjpieajaaDoorStkB
import Derived.Test.YtidfhgpjpieajaaDoorMapF
import Derived.Test.YtidfhgpjpieajaaDoorPcF
import Derived.Test.YtidfhgpjpieajaaDoorRepI
import Derived.Carry
namespace Go.Proofs.YtidfhgpjpieajaaDoor
open Go.RowKit

/-- Keys that are strings, in this program. -/
noncomputable def strA : KeyT Tryd.prog 9 ByteArray := strK Tryd.underlying9
/-- A lot as a value. -/
def lotV (t : Lot) : Value := .agg #[.string t.id, .string t.pr, .int .i64 t.ex, .int .i64 t.mn]
/-- Lots by their Ids. -/
def byIdF (l : List Lot) (s : ByteArray) : Option Value := (lotOf l s).map lotV
theorem zeroLot (w : World) : (zeroValue 51).run Tryd.prog w = .ok (.agg #[.string ByteArray.empty, .string ByteArray.empty, .int .i64 0, .int .i64 0]) w := by kernel_rfl

theorem keyB_size {s : ByteArray} (h : keyB s = true) : s.size ≤ maxLen := by
  unfold keyB at h
  simp only [Bool.and_eq_true, decide_eq_true_eq] at h
  unfold maxLen
  omega

set_option maxRecDepth 100000 in
set_option maxHeartbeats 1000000 in
theorem byId_any (A : Option Addr) (n c : Nat) (l : List Lot) (w : World) (hr : Rd w 4 A n (lotFlat l)) (hn : n ≤ 500) (hnd : l.Pairwise (fun a b => a.id ≠ b.id)) (hid : ∀ t ∈ l, t.id.size ≤ maxLen) :
    Calls Tryd.prog 99 #[.slice A n c] w fun e w' => ∃ g, e = .returned (.map (some g)) ∧ w.heap.size ≤ g ∧ MapF strA w' g n (byIdF l) ∧ w.grownBy w' none := by
  have hl : l.length = n := by have := hr.1; rw [lotFlat_len] at this; omega
  have hmm := @run_makeMap Tryd.prog
  have hm0 := MapF.made strA w
  have hg0 := grown_alloc (grown_refl w) (.map #[] 0)
  have HL := Lib.hid (And.intro hl (And.intro hnd hid))
  clear hl hnd hid
  go_enter Tryd.func99, Tryd.ntmps99
  go_wp2_with fail
  go_loopg [9] n (fun k i wr => ∃ j : Nat, k + j = n ∧ i = .int .i64 j ∧ MapF strA wr w.heap.size j (byIdF (l.take j)) ∧ w.grownBy wr none)
  case atStart => exact ⟨0, by omega, rfl, hm0, hg0⟩
  case round =>
    clear hm0 hg0 hmm
    obtain ⟨j, hj, rfl, hm, hg⟩ := hrel
    by_cases hlt : j < n
    · obtain ⟨b, off, rfl, hb, t, ht, c0, c1, c2, c3⟩ := lot_cells (hr.grown hg) hlt
      obtain ⟨hl, hnd, hid⟩ := HL.out
      have hmA := hm.alloc (.cells #[.string t.id, .string t.pr, .int .i64 t.ex, .int .i64 t.mn] 51)
      obtain ⟨w2, hrun, hm2, hturn⟩ := hmA.put (t := 130) (e := 51) Tryd.underlying130 (by unfold maxLen; omega) (x := t.id) (hid t (List.mem_of_getElem? ht)) (lotV t)
      have hrun' : (Instr.mapUpdate 130 (.map (some w.heap.size)) (.string t.id) (.agg #[.string t.id, .string t.pr, .int .i64 t.ex, .int .i64 t.mn])).run Tryd.prog (wr.alloc (.cells #[.string t.id, .string t.pr, .int .i64 t.ex, .int .i64 t.mn] 51)) = .ok () w2 := hrun
      have hnew : ∀ s, upd (byIdF (l.take j)) t.id (some (lotV t)) s = byIdF (l.take (j + 1)) s := by
        intro s
        unfold byIdF
        rw [lotOf_take hnd ht]
        by_cases e : s = t.id
        · rw [e, upd_same, if_pos rfl]; rfl
        · rw [upd_other _ _ _ e, if_neg e]
      have hm3 := hm2.congr hnew
      have hg3 : w.grownBy w2 none := grown_below (grown_alloc hg (.cells #[.string t.id, .string t.pr, .int .i64 t.ex, .int .i64 t.mn] 51)) hturn.grown (fun i hi => .inl (by cases hi; exact Nat.le_refl _))
      have HM := Lib.hid (And.intro hm3 (And.intro hg3 hj))
      clear hrun hm2 hturn hnew hm3 hg3 hmA hm hl hnd hid ht hj
      go_wp2_with fail
      obtain ⟨hm3, hg3, hj⟩ := HM.out
      go_roundg (gk - 1)
      case measure => omega
      case rel => exact ⟨j + 1, by omega, by go_num, hm3, hg3⟩
    · obtain rfl : j = n := by omega
      have hv : byIdF (l.take j) = byIdF l := by rw [List.take_of_length_le (by have := HL.out.1; omega)]
      rw [hv] at hm
      go_wp2_with fail
      go_ret
      exact ⟨_, rfl, Nat.le_refl _, hm, hg⟩

set_option maxHeartbeats 1000000 in
theorem known1_any (f : ByteArray → Option Value) (g gb m : Nat) (x : Pc) (w : World) (hB : w.cell? ⟨gb, 0, none⟩ = some (.map (some g))) (hm : MapF strA w g m f) (hx : x.lot.size ≤ maxLen)
    (hv : ∀ s v, f s = some v → ∃ t, v = lotV t) :
    Calls Tryd.prog 121 #[.agg #[.string x.lot, .int .i64 x.mn], .pointer (some ⟨gb, 0, none⟩)] w fun e w' => e = .returned (.bool (!(f x.lot).isSome)) ∧ w.grownBy w' none := by
  have hg0 := grown_alloc (grown_refl w) (.cells #[.string x.lot, .int .i64 x.mn] 54)
  have k0 := hg0.cell hB (by simp)
  have hl := (hm.alloc (.cells #[.string x.lot, .int .i64 x.mn] 54)).look_ok (t := 130) (e := 51) Tryd.underlying130 (zeroLot _) (x := x.lot) hx
  obtain ⟨q, hq⟩ : ∃ q, (f x.lot).isSome = q := ⟨_, rfl⟩
  obtain ⟨t, ht⟩ : ∃ t : Lot, (f x.lot).getD (.agg #[.string ByteArray.empty, .string ByteArray.empty, .int .i64 0, .int .i64 0]) = lotV t := by
    cases hf : f x.lot with
    | none => exact ⟨⟨ByteArray.empty, ByteArray.empty, 0, 0⟩, rfl⟩
    | some v => obtain ⟨t, rfl⟩ := hv _ _ hf; exact ⟨t, rfl⟩
  rw [hq, ht] at hl
  have hl' : (Instr.lookup 130 (.map (some g)) (.string x.lot) true).run Tryd.prog (w.alloc (.cells #[.string x.lot, .int .i64 x.mn] 54)) = .ok (.tuple #[.agg #[.string t.id, .string t.pr, .int .i64 t.ex, .int .i64 t.mn], .bool q]) (w.alloc (.cells #[.string x.lot, .int .i64 x.mn] 54)) := hl
  rw [hq]
  clear hl hm hB hq ht hv
  go_enter Tryd.func121, Tryd.ntmps121
  go_wp2_with fail
  go_ret
  exact ⟨rfl, grown_alloc hg0 _⟩

end Go.Proofs.YtidfhgpjpieajaaDoor
