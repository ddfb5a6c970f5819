/- slices.IndexFunc and ContainsFunc over coilrack/api.Stop, with a closure that has captured one variable. -/
import Derived.Test.YtcipidfbclohoaaDoorStp
import Derived.Test.YtcipidfbclohoaaDoorIdxP
import Derived.Shelf.Abstract
namespace Go.Proofs.YtcipidfbclohoaaDoor
open Go.RowKit

set_option maxHeartbeats 400000 in
theorem indexFuncSt_any (g : Nat) (cv : Value) (p : St → Bool) (A : Option Addr) (n c : Nat) (l : List St) (w : World) (hr : Rd w 6 A n (stFlat l)) (hn : n ≤ 1000000) (he : Enters Tryd.prog g)
    (hf : ∀ (x : St) w1, x ∈ l → w.grownBy w1 none → Calls Tryd.prog g #[.agg #[.string x.k, .int .i64 x.x, .int .i64 x.y, .int .i64 x.f, .int .i64 x.t, .int .i64 x.l], cv] w1 fun e w2 => e = .returned (.bool (p x)) ∧ w1.grownBy w2 none) :
    Calls Tryd.prog 85 #[.slice A n c, .func (.func g) #[] #[cv]] w fun e w' => e = .returned (.int .i64 (idxA p l)) ∧ w.grownBy w' none := by
  have hl : l.length = n := by have := hr.1; rw [stFlat_len] at this; omega
  have HL := Lib.hid hl
  have HF := Lib.hid hf
  have he' : ∀ (args : Array Value) (w : World), (callFunc g args).run Tryd.prog w = .ok (.enter g args) w := he
  clear hl hf he
  go_enter Tryd.func85, Tryd.ntmps85
  go_wp2_with fail
  go_loopg [8] n (fun k i wr => ∃ j : Nat, k + j = n ∧ i = .int .i64 j ∧ w.grownBy wr none ∧ IdxA p l j)
  case atStart => exact ⟨0, by omega, rfl, grown_refl w, fun i x h => absurd h (by omega)⟩
  case round =>
    obtain ⟨j, hj, rfl, hg, H⟩ := hrel
    by_cases hlt : j < n
    · obtain ⟨b', off, rfl, hb, x, hx, c0, c1, c2, c3, c4, c5⟩ := st_cells (hr.grown hg) hlt
      have HX := Lib.hid hx
      have HJ := Lib.hid hj
      clear hx hj
      go_wp2_with fail
      refine (HF.out x _ (List.mem_of_getElem? HX.out) hg).mono ?_
      rintro e w1 ⟨rfl, hg1⟩
      by_cases hp : p x = true
      · go_wp2_with fail
        go_ret
        exact ⟨retI (H.found HX.out hp).symm, hg.trans hg1⟩
      · have hp' : p x = false := by simpa using hp
        clear hp
        go_wp2_with fail
        have hj := HJ.out
        go_roundg (gk - 1)
        case measure => omega
        case rel => exact ⟨j + 1, by omega, by go_num, hg.trans hg1, H.next HX.out hp'⟩
    · obtain rfl : j = n := by omega
      go_wp2_with fail
      go_ret
      exact ⟨retI (by rw [← HL.out] at H; exact H.done.symm), hg⟩

set_option maxHeartbeats 400000 in
theorem containsFuncSt_any (g : Nat) (cv : Value) (p : St → Bool) (A : Option Addr) (n c : Nat) (l : List St) (w : World) (hr : Rd w 6 A n (stFlat l)) (hn : n ≤ 1000000) (he : Enters Tryd.prog g)
    (hf : ∀ (x : St) w1, x ∈ l → w.grownBy w1 none → Calls Tryd.prog g #[.agg #[.string x.k, .int .i64 x.x, .int .i64 x.y, .int .i64 x.f, .int .i64 x.t, .int .i64 x.l], cv] w1 fun e w2 => e = .returned (.bool (p x)) ∧ w1.grownBy w2 none) :
    Calls Tryd.prog 63 #[.slice A n c, .func (.func g) #[] #[cv]] w fun e w' => e = .returned (.bool (l.any p)) ∧ w.grownBy w' none := by
  have hc := indexFuncSt_any g cv p A n c l w hr hn he hf
  rw [← idxA_any]
  generalize idxA p l = k at *
  have HC := Lib.hid hc
  clear hc hf he
  go_enter Tryd.func63, Tryd.ntmps63
  go_wp2_with fail
  refine HC.out.mono ?_
  rintro e w1 ⟨rfl, hg1⟩
  go_wp2_with fail
  go_ret
  exact ⟨rfl, hg1⟩

end Go.Proofs.YtcipidfbclohoaaDoor
