/- The walk of checkOrder of package round. -/
import Derived.Test.YtcipidfbclohoaaDoorTerms
import Derived.Test.YtcipidfbclohoaaDoorCont
import Derived.Test.YtcipidfbclohoaaDoorRt
namespace Go.Proofs.YtcipidfbclohoaaDoor
open Go.RowKit

def hasI (l : List Int) (x : Int) : Bool := decide (x ∈ l)
def ordFrom (m : Int) (pv : List Int) : List Int → Int
  | [] => 0
  | x :: r => if btw x 0 (m - 1) = false then 1 else if hasI pv x = true then 6 else ordFrom m (pv ++ [x]) r
def orderF (m : Int) (l : List Int) : Int := ordFrom m [] l
def OrdInv (m : Int) (l : List Int) (j : Nat) : Prop := ordFrom m (l.take j) (l.drop j) = orderF m l
theorem OrdInv.start (m : Int) (l : List Int) : OrdInv m l 0 := by unfold OrdInv orderF; simp
theorem OrdInv.done {m : Int} {l : List Int} {j : Nat} (h : OrdInv m l j) (hj : j = l.length) : orderF m l = 0 := by
  unfold OrdInv at h; subst hj; rw [← h]; simp [ordFrom]
theorem OrdInv.step {m : Int} {l : List Int} {j : Nat} {x : Int} (h : OrdInv m l j) (hx : l[j]? = some x) :
    (btw x 0 (m - 1) = false → orderF m l = 1) ∧ (btw x 0 (m - 1) = true → hasI (l.take j) x = true → orderF m l = 6) ∧ (btw x 0 (m - 1) = true → hasI (l.take j) x = false → OrdInv m l (j + 1)) := by
  unfold OrdInv at h ⊢
  rw [drop_at hx, ordFrom] at h
  refine ⟨fun h1 => by rw [← h, if_pos h1], fun h1 h2 => by rw [← h, if_neg (by simp [h1]), if_pos h2], fun h1 h2 => by rw [← h, if_neg (by simp [h1]), if_neg (by simp [h2]), take_at hx]⟩

set_option maxRecDepth 100000 in
set_option maxHeartbeats 4000000 in
theorem checkOrder_any (A0 : Option Addr) (m c0 : Nat) (A : Option Addr) (n c : Nat) (l : List Int) (w : World) (hr : Rd w 1 A n (ints l)) (hnc : n ≤ c) (hn : n ≤ 1000) (hm : m ≤ 1000) :
    Calls Tryd.prog 52 #[.slice A0 m c0, .slice A n c] w fun e w' => e = .returned (.int .i64 (orderF m l)) ∧ w.grownBy w' none := by
  have hl : l.length = n := by have := hr.1; simp [ints] at this; omega
  have HL := Lib.hid hl
  clear hl
  go_enter Tryd.func52, Tryd.ntmps52
  go_wp2_with fail
  go_loopg [9] n (fun k i wr => ∃ j : Nat, k + j = n ∧ i = .int .i64 j ∧ w.grownBy wr none ∧ OrdInv m l j)
  case atStart => exact ⟨0, by omega, rfl, grown_refl w, OrdInv.start _ _⟩
  case round =>
    obtain ⟨j, hj, rfl, hg, H⟩ := hrel
    by_cases hlt : j < n
    · have hrj := hr.grown hg
      obtain ⟨b, off, rfl, hb, x, hx, cx⟩ := int_cells hrj hlt
      have hltI : (j : Int) < (n : Int) := by omega
      obtain ⟨s1, s2, s3⟩ := H.step hx
      have HS := Lib.hid (And.intro s1 (And.intro s2 (And.intro s3 hj)))
      have hmw : IntKind.i64.wrap ((m : Int) - 1) = (m : Int) - 1 := IntWalk.i64_in _ (by omega)
      obtain ⟨A', hsl, hrw, _⟩ := win_hb (P := Tryd.prog) (t := 22) Tryd.underlying22 Tryd.sizeOf3 hrj (q := j) (by omega) hnc
      rw [show (ints l).take (j * 1) = ints (l.take j) from by rw [Nat.mul_one]; simp [ints, List.map_take]] at hrw
      have hslw := hsl wr
      clear s1 s2 s3 H hj hx
      go_wp2_with fail
      refine (between_any x 0 _ _).mono ?_
      by_cases h1 : btw x 0 ((m : Int) - 1) = true
      · have H1 := Lib.hid h1
        rw [h1]
        clear h1
        rintro e w1 ⟨rfl, rfl⟩
        go_wp2_with fail
        refine (contains_any A' j c (l.take j) x wr hrw (by omega)).mono ?_
        rw [show decide (x ∈ l.take j) = hasI (l.take j) x from rfl]
        by_cases h2 : hasI (l.take j) x = true
        · rw [h2]
          have HV := Lib.hid (HS.out.2.1 H1.out h2)
          clear h2
          rintro e w2 ⟨rfl, hg2⟩
          go_wp2_with fail
          go_ret
          exact ⟨retI HV.out.symm, hg.trans hg2⟩
        · have h2' : hasI (l.take j) x = false := by simpa using h2
          rw [h2']
          have HV := Lib.hid (HS.out.2.2.1 H1.out h2')
          clear h2 h2'
          rintro e w2 ⟨rfl, hg2⟩
          go_wp2_with fail
          have hj := HS.out.2.2.2
          go_roundg (gk - 1)
          case measure => omega
          case rel => exact ⟨j + 1, by omega, by go_num, hg.trans hg2, HV.out⟩
      · have h1' : btw x 0 ((m : Int) - 1) = false := by simpa using h1
        have HV := Lib.hid (HS.out.1 h1')
        rw [h1']
        clear h1 h1'
        rintro e w1 ⟨rfl, rfl⟩
        go_wp2_with fail
        go_ret
        exact ⟨retI HV.out.symm, hg⟩
    · obtain rfl : j = n := by omega
      have HV := Lib.hid (H.done HL.out.symm)
      clear H
      go_wp2_with fail
      go_ret
      exact ⟨retI HV.out.symm, hg⟩

end Go.Proofs.YtcipidfbclohoaaDoor
