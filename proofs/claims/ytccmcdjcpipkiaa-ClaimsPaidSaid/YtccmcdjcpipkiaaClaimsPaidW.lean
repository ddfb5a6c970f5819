/- The walk of the law ClaimsPaid. -/
import Derived.Deep.RegionHeld3
import Derived.Test.YtccmcdjcpipkiaaWdM
import Derived.Test.YtccmcdjcpipkiaaRfn
import Derived.Test.YtccmcdjcpipkiaaTlls
import Derived.Test.YtccmcdjcpipkiaaIn
import Derived.Test.YtccmcdjcpipkiaaWin
import Derived.Test.YtccmcdjcpipkiaaStpP
namespace Go.Proofs.Ytccmcdjcpipkiaa
open Go.RowKit

set_option maxRecDepth 100000 in
set_option maxHeartbeats 4000000 in
theorem claimsPaid_walk (a0 : Option Addr) (len0 cap0 : Nat) (z0 : List Int) (w : World) (w0 : InRow w a0 len0 cap0 z0) :
    Calls Try.prog 3 #[.slice a0 len0 cap0] w fun e w' => e = .returned (.bool true) ∧ w.grownBy w' none := by
  obtain ⟨hlen, hs0⟩ := str_start w0
  have hg0 : w.grownBy (w.alloc (.cells #[.slice a0 len0 cap0, .int .i64 0] 25)) none := grown_alloc (grown_refl w) _
  have hz0 : (w.alloc (.cells #[.slice a0 len0 cap0, .int .i64 0] 25)).heap.size = w.heap.size + 1 := by simp
  clear hlen w0
  generalize z0.take len0 = L at *
  go_enter Try.func3, Try.ntmps3
  go_wp2_with fail
  generalize w.alloc (.cells #[.slice a0 len0 cap0, .int .i64 0] 25) = wA at *
  obtain ⟨bs, hbs⟩ : ∃ bs, bs = w.heap.size := ⟨_, rfl⟩
  rw [← hbs] at hs0 hz0 ⊢
  have HZ := Lib.hid hbs
  clear hbs
  refine (claim_any bs L 0 _ hs0 (by omega)).mono ?_
  rintro e w1 ⟨rfl, hs1, hg1⟩
  have hb1 := claimM_b L 0
  generalize (claimM L 0).2 = C at *
  generalize (claimM L 0).1 = t1 at *
  have hgg1 := (hg0.but (some bs)).trans hg1
  clear hs0 hg1 hg0
  go_wp2_with fail
  refine (pick_lit bs L t1 [0, 150, 100000, -1] w1 hs1 (by omega) (by simp) (by simp) 3).mono ?_
  rintro e w2 ⟨rfl, hs2, hg2⟩
  generalize pk L t1 [0, 150, 100000, -1] = price at *
  have hgg2 := hgg1.trans hg2
  clear hs1 hg2 hgg1
  go_wp2_with fail
  refine (pick_lit bs L (t1 + 1) [0, 250, 100000, 100001] w2 hs2 (by omega) (by simp) (by simp) 3).mono ?_
  rintro e w3 ⟨rfl, hs3, hg3⟩
  generalize pk L (t1 + 1) [0, 250, 100000, 100001] = most at *
  have hgg3 := hgg2.trans hg3
  clear hs2 hg3 hgg2
  obtain ⟨g, hg⟩ : ∃ g, w3.heap.size = g := ⟨_, rfl⟩
  have hbg : bs < g := by have := hs3.lt; omega
  have hB := Blk.new w3 27 #[.int .i64 C.a, .int .i64 C.l, .int .i64 C.p]
  rw [hg] at hB
  have hgB := grown_alloc (grown_refl w3) (.cells #[.int .i64 C.a, .int .i64 C.l, .int .i64 C.p] 27)
  have hs4 := hs3.grown hgB (by simp)
  have hgg4 := hgg3.trans (hgB.but (some bs))
  clear hgB hgg3 hs3
  go_wp2_with fail
  (try rw [hg])
  clear hg
  generalize w3.alloc (.cells #[.int .i64 C.a, .int .i64 C.l, .int .i64 C.p] 27) = w4 at *
  refine (window_any bs L (t1 + 1 + 1) w4 hs4 (by omega)).mono ?_
  rintro e w5 ⟨rfl, hs5, hg5⟩
  have hb2 := windowM_b L (t1 + 1 + 1)
  generalize (windowM L (t1 + 1 + 1)).2 = x at *
  generalize (windowM L (t1 + 1 + 1)).1 = t2 at *
  have hgg5 := hgg4.trans hg5
  have hB5 := hB.grown hg5 (by simp; omega)
  clear hgg4 hg5 hs4 hB
  go_wp2_with fail
  refine (window_any bs L t2 w5 hs5 (by omega)).mono ?_
  rintro e w6 ⟨rfl, hs6, hg6⟩
  have hb3 := windowM_b L t2
  generalize (windowM L t2).2 = y at *
  generalize (windowM L t2).1 = t3 at *
  have hgg6 := hgg5.trans hg6
  have hB6 := hB5.grown hg6 (by simp; omega)
  clear hgg5 hg6 hs5 hB5
  have hrW := wd_rd_new w6 [x, y] #[.int .i64 x.f, .int .i64 x.t, .int .i64 y.f, .int .i64 y.t] 32 rfl
  have hgW := grown_alloc (grown_refl w6) (.cells #[.int .i64 x.f, .int .i64 x.t, .int .i64 y.f, .int .i64 y.t] 32)
  have hs7 := hs6.grown hgW (by simp)
  have hgg7 := hgg6.trans (hgW.but (some bs))
  have hB7 := hB6.grown hgW (by simp)
  clear hgW hgg6 hB6
  obtain ⟨gW, hgWe⟩ : ∃ gW, w6.heap.size = gW := ⟨_, rfl⟩
  have hbW : bs < gW := by have := hs6.lt; omega
  rw [hgWe] at hrW
  clear hs6
  go_wp2_with fail
  (try rw [hgWe])
  clear hgWe
  generalize w6.alloc (.cells #[.int .i64 x.f, .int .i64 x.t, .int .i64 y.f, .int .i64 y.t] 32) = w7 at *
  refine (next_any bs L t3 3 w7 hs7 (by omega) (by omega)).mono ?_
  obtain ⟨h30, h31⟩ := nx_in L t3 3 (by omega)
  obtain ⟨k, hk⟩ := Int.eq_ofNat_of_zero_le h30
  rw [hk]
  have hk3 : k < 3 := by omega
  clear hk h30 h31
  rintro e w8 ⟨rfl, hs8, hg8⟩
  have hgg8 := hgg7.trans hg8
  have hB8 := hB7.grown hg8 (by simp; omega)
  have hrW8 : Rd w8 2 (some ⟨gW, 0, none⟩) 2 (wdFlat [x, y]) := hrW.grown_ hg8 (by intro a ha; cases ha; simp; omega)
  obtain ⟨Aw, hsl, hrk⟩ := win_h (P := Try.prog) (t := 30) Try.underlying30 Try.sizeOf32 hrW8 (q := k) (by omega) (c := 2) (by omega)
  rw [show (wdFlat [x, y]).take (k * 2) = wdFlat ([x, y].take k) from rows_take wdCells_len [x, y] k] at hrk
  have hgf : w.grownBy w8 none := grown_below (grown_refl w) hgg8 (fun j hj => .inl (by cases hj; have := HZ.out; omega))
  have hsl8 := hsl w8
  generalize [x, y].take k = V at *
  clear hsl hgg7 hg8 hrW hrW8 hs7 hs8 hgg8 hB7
  have he0 : Enters Try.prog 28 := enters_of Try.func28 (by kernel_rfl) rfl
  have he1 : Enters Try.prog 29 := enters_of Try.func29 (by kernel_rfl) rfl
  have he2 : Enters Try.prog 30 := enters_of Try.func30 (by kernel_rfl) rfl
  have hR1 := fun wx (h : w8.grownBy wx none) => refund_any C Aw k 2 V price most wx (hrk.grown h) (by omega) he0
  have hR2 := fun wx (h : w8.grownBy wx none) => refundOf_any C Aw k 2 V price most wx (hrk.grown h) (by omega) he1 he2
  have hbox := fun wx (h : w8.grownBy wx none) => (hB8.grown h (by simp)).three
  have hC1 := fun wx => checkClaim_any C wx
  have hC2 := fun wx => claimFault_any C wx
  generalize refN C V price most = N at *
  generalize refE C V price most = E at *
  generalize claimF C = F at *
  have HC := Lib.hid (And.intro hR1 (And.intro hR2 (And.intro hbox (And.intro hC1 (And.intro hC2 hgf)))))
  obtain ⟨c0, c1, c2, _⟩ := hbox w8 (grown_refl w8)
  clear he0 he1 he2 hR1 hR2 hbox hC1 hC2 hgf hB8 hrk
  go_wp2_with fail
  refine (HC.out.1 w8 (grown_refl w8)).mono ?_
  rintro e w9 ⟨rfl, hg9⟩
  clear c0 c1 c2
  obtain ⟨c0, c1, c2, _⟩ := HC.out.2.2.1 w9 hg9
  go_wp2_with fail
  refine (HC.out.2.1 w9 hg9).mono ?_
  rintro e w10 ⟨rfl, hg10⟩
  have hgg10 := hg9.trans hg10
  clear c0 c1 c2
  obtain ⟨c0, c1, c2, _⟩ := HC.out.2.2.1 w10 hgg10
  go_wp2_with fail
  have HG := Lib.hid hgg10
  clear hg9 hg10 hgg10 hsl8 hb1 hb2 hb3 hz0 hk3 hbg hbW
  go_region_held3 (fun w' => w'.cell? ⟨g, 0, none⟩ = some (.int .i64 C.a) ∧ w'.cell? ⟨g, 1, none⟩ = some (.int .i64 C.l) ∧ w'.cell? ⟨g, 2, none⟩ = some (.int .i64 C.p)) (go_keep)
    (first
      | ((go_at_call 11; refine (tillsL_any _).mono ?_; rintro e wa ⟨rfl, hga⟩; have a0 := hga.cell (a := ⟨g, 0, none⟩) c0 (by simp); have a1 := hga.cell (a := ⟨g, 1, none⟩) c1 (by simp); have a2 := hga.cell (a := ⟨g, 2, none⟩) c2 (by simp)))
      | ((go_at_call 12; refine (HC.out.2.2.2.1 _).mono ?_; rintro e wb ⟨rfl, hgb⟩; have b0 := hgb.cell (a := ⟨g, 0, none⟩) a0 (by simp); have b1 := hgb.cell (a := ⟨g, 1, none⟩) a1 (by simp); have b2 := hgb.cell (a := ⟨g, 2, none⟩) a2 (by simp)))
      | ((go_at_call 13; refine (HC.out.2.2.2.2.1 _).mono ?_; rintro e wc ⟨rfl, hgc⟩; have d0 := hgc.cell (a := ⟨g, 0, none⟩) b0 (by simp); have d1 := hgc.cell (a := ⟨g, 1, none⟩) b1 (by simp); have d2 := hgc.cell (a := ⟨g, 2, none⟩) b2 (by simp))))
  go_wp2_with fail
  go_ret
  exact ⟨rfl, HC.out.2.2.2.2.2.trans ((((grown_drew HG.out).trans hga).trans hgb).trans hgc)⟩

end Go.Proofs.Ytccmcdjcpipkiaa
