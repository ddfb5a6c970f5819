/- The walks of the reference's SameTour and TourFault. -/
import Derived.Test.YtbkcadkfcjmpiaaDoorDrvO
import Derived.Test.YtbkcadkfcjmpiaaDoorEq
import Derived.Test.YtbkcadkfcjmpiaaDoorIdx
import Derived.Test.YtbkcadkfcjmpiaaDoorStpR
namespace Go.Proofs.YtbkcadkfcjmpiaaDoor
open Go.RowKit

set_option maxRecDepth 100000 in
set_option maxHeartbeats 2000000 in
theorem sameTour_any (A B : Option Addr) (n c d : Nat) (l : List Int) (e y t : Int) (w : World) (hA : Rd w 1 A n (ints l)) (hB : Rd w 1 B n (ints l)) (hn : n ≤ 1000) :
    Calls Tryd.prog 18 #[.agg #[.slice A n c, .int .i64 e, .int .i64 y, .int .i64 t], .agg #[.slice B n d, .int .i64 e, .int .i64 y, .int .i64 t]] w
      fun x w' => x = .returned (.bool true) ∧ w.grownBy w' none := by
  have h1 := (Blk.new w 38 #[.slice A n c, .int .i64 e, .int .i64 y, .int .i64 t]).alloc (.cells #[.slice B n d, .int .i64 e, .int .i64 y, .int .i64 t] 38)
  have hg1 := grown_alloc (grown_refl w) (.cells #[.slice A n c, .int .i64 e, .int .i64 y, .int .i64 t] 38)
  obtain ⟨g, hg⟩ : ∃ g, w.heap.size = g := ⟨_, rfl⟩
  have hz : (w.alloc (.cells #[.slice A n c, .int .i64 e, .int .i64 y, .int .i64 t] 38)).heap.size = g + 1 := by simp [hg]
  have h2 := Blk.new (w.alloc (.cells #[.slice A n c, .int .i64 e, .int .i64 y, .int .i64 t] 38)) 38 #[.slice B n d, .int .i64 e, .int .i64 y, .int .i64 t]
  have hg2 := grown_alloc hg1 (.cells #[.slice B n d, .int .i64 e, .int .i64 y, .int .i64 t] 38)
  rw [hg] at h1
  rw [hz] at h2
  obtain ⟨W, hW⟩ : ∃ W, (w.alloc (.cells #[.slice A n c, .int .i64 e, .int .i64 y, .int .i64 t] 38)).alloc (.cells #[.slice B n d, .int .i64 e, .int .i64 y, .int .i64 t] 38) = W := ⟨_, rfl⟩
  obtain ⟨⟨a0, a1, a2, a3⟩, _⟩ := four_ h1
  obtain ⟨⟨b0, b1, b2, b3⟩, _⟩ := four_ h2
  rw [hW] at h1 h2 hg2
  have heq := equalInts_any A B n c n d l l W (hA.grown hg2) (hB.grown hg2) (by omega) (by omega)
  rw [show decide (l = l) = true from decide_eq_true rfl] at heq
  have HW := Lib.hid (And.intro hW (And.intro h1 (And.intro h2 (And.intro hg2 (And.intro heq (And.intro hg hz))))))
  rw [hW] at a0 a1 a2 a3 b0 b1 b2 b3
  clear hW h1 h2 hg1 hg2 heq hg hz hA hB
  go_enter Tryd.func18, Tryd.ntmps18
  go_wp2_with fail
  rw [HW.out.1]
  (try rw [HW.out.2.2.2.2.2.1])
  refine HW.out.2.2.2.2.1.mono ?_
  rintro x w1 ⟨rfl, hg1⟩
  obtain ⟨⟨p0, p1, p2, p3⟩, _⟩ := four_ (HW.out.2.1.grown hg1 (by simp))
  obtain ⟨⟨q0, q1, q2, q3⟩, _⟩ := four_ (HW.out.2.2.1.grown hg1 (by simp))
  clear a0 a1 a2 a3 b0 b1 b2 b3
  go_wp2_with fail
  go_ret
  exact ⟨rfl, HW.out.2.2.2.1.trans hg1⟩

/-- What is wrong with a tour. -/
def tourF (V : List St) (bg : List Int) : Int := if stopsF V ≠ 0 then stopsF V else if bg.length ≠ V.length then 3 else if allB bg 0 14400 = true then 0 else 1

theorem tourBad_any (x : Int) (w : World) : Calls Tryd.prog 61 #[.int .i64 x] w fun e w' => e = .returned (.bool (!(btw x 0 14400))) ∧ w = w' := by
  obtain ⟨F, hF⟩ : ∃ F, (!(btw x 0 14400)) = F := ⟨_, rfl⟩
  rw [hF]
  unfold btw at hF
  have HC := Lib.hid hF
  clear hF
  by_cases h1 : x < 0
  · go_enter Tryd.func61, Tryd.ntmps61
    go_wp2_with fail
    go_ret
    exact ⟨retB (by rw [← HC.out]; simp; omega), rfl⟩
  · by_cases h2 : 14400 < x
    · go_enter Tryd.func61, Tryd.ntmps61
      go_wp2_with fail
      go_ret
      exact ⟨retB (by rw [← HC.out]; simp; omega), rfl⟩
    · go_enter Tryd.func61, Tryd.ntmps61
      go_wp2_with fail
      go_ret
      exact ⟨retB (by rw [← HC.out]; simp; omega), rfl⟩

set_option maxRecDepth 100000 in
set_option maxHeartbeats 2000000 in
theorem tourFault_any (A : Option Addr) (m cp : Nat) (V : List St) (B : Option Addr) (n d : Nat) (bg : List Int) (e y t : Int) (w : World) (hr : Rd w 6 A m (stFlat V)) (hmc : m ≤ cp) (hb : Rd w 1 B n (ints bg)) (hn : n ≤ 1000)
    (he : Enters Tryd.prog 61) :
    Calls Tryd.prog 20 #[.slice A m cp, .agg #[.slice B n d, .int .i64 e, .int .i64 y, .int .i64 t]] w
      fun x w' => x = .returned (.int .i64 (tourF V bg)) ∧ w.grownBy w' none := by
  have hlV : V.length = m := by have := hr.1; rw [stFlat_len] at this; omega
  have hlo : bg.length = n := by have := hb.1; simp [ints] at this; omega
  obtain ⟨E, hE⟩ : ∃ E, tourF V bg = E := ⟨_, rfl⟩
  rw [hE]
  unfold tourF at hE
  rw [hlV, hlo] at hE
  have h1 := Blk.new w 38 #[.slice B n d, .int .i64 e, .int .i64 y, .int .i64 t]
  have hg1 := grown_alloc (grown_refl w) (.cells #[.slice B n d, .int .i64 e, .int .i64 y, .int .i64 t] 38)
  obtain ⟨g, hg⟩ : ∃ g, w.heap.size = g := ⟨_, rfl⟩
  obtain ⟨W, hW⟩ : ∃ W, w.alloc (.cells #[.slice B n d, .int .i64 e, .int .i64 y, .int .i64 t] 38) = W := ⟨_, rfl⟩
  rw [hW] at h1 hg1
  rw [hg] at h1
  have hsf := stopsFault_any A m cp V W (hr.grown hg1) hmc
  have hcf := fun wx (h : w.grownBy wx none) => containsFunc_any 61 (fun x => !(btw x 0 14400)) B n d bg wx (hb.grown h) (by omega) he (fun x w1 => tourBad_any x w1)
  have hal : (bg.any fun x => !(btw x 0 14400)) = !(allB bg 0 14400) := by
    unfold allB
    rw [List.any_eq_not_all_not]
    simp
  rw [hal] at hcf
  obtain ⟨F, hF⟩ : ∃ F, stopsF V = F := ⟨_, rfl⟩
  obtain ⟨G, hG⟩ : ∃ G, allB bg 0 14400 = G := ⟨_, rfl⟩
  rw [hF] at hsf hE
  rw [hG] at hcf hE
  have HW := Lib.hid (And.intro hW (And.intro h1 (And.intro hg1 (And.intro hsf (And.intro hcf (And.intro hE hg))))))
  clear hW h1 hg1 hsf hcf hE hal hF hG hr hb hlV hlo hg
  go_enter Tryd.func20, Tryd.ntmps20
  go_wp2_with fail
  rw [HW.out.1]
  (try rw [HW.out.2.2.2.2.2.2])
  refine HW.out.2.2.2.1.mono ?_
  rintro x w1 ⟨rfl, hg1⟩
  by_cases hF : F = 0
  · subst hF
    obtain ⟨⟨p0, p1, p2, p3⟩, _⟩ := four_ (HW.out.2.1.grown hg1 (by simp))
    by_cases hm : n = m
    · subst hm
      go_wp2_with fail
      refine (HW.out.2.2.2.2.1 w1 (HW.out.2.2.1.trans hg1)).mono ?_
      rintro x w2 ⟨rfl, hg2⟩
      cases G with
      | true =>
        go_wp2_with fail
        go_ret
        exact ⟨retI (by rw [← HW.out.2.2.2.2.2.1]; simp), (HW.out.2.2.1.trans hg1).trans hg2⟩
      | false =>
        go_wp2_with fail
        go_ret
        exact ⟨retI (by rw [← HW.out.2.2.2.2.2.1]; simp), (HW.out.2.2.1.trans hg1).trans hg2⟩
    · have hmI : ((n : Int) != (m : Int)) = true := by rw [bne_iff_ne]; omega
      go_wp2_with fail
      go_ret
      exact ⟨retI (by rw [← HW.out.2.2.2.2.2.1]; simp [hm]), HW.out.2.2.1.trans hg1⟩
  · have hE1 : E = F := by rw [← HW.out.2.2.2.2.2.1, if_pos hF]
    subst hE1
    have hb : (E != 0) = true := by rw [bne_iff_ne]; exact hF
    clear hF
    go_wp2_with fail
    go_ret
    exact ⟨rfl, HW.out.2.2.1.trans hg1⟩

end Go.Proofs.YtbkcadkfcjmpiaaDoor
