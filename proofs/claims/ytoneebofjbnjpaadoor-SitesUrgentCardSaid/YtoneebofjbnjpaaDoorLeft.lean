/- The walks of daysLeft and Left of package round, and of the reference LeftOf. -/
import Derived.Test.YtoneebofjbnjpaaDoorSitW
import Derived.Test.YtoneebofjbnjpaaDoorMade
namespace Go.Proofs.YtoneebofjbnjpaaDoor
open Go.RowKit

def leftsOf (V : List Sit) : List Int := V.map leftOf
theorem leftTo_succ {rh rr : List Int} {j : Nat} {m x y : Int} (hm : leftTo rh rr j = m) (hx : rh[j]? = some x) (hy : rr[j]? = some y) : leftTo rh rr (j + 1) = lessD m x y := by
  rw [leftTo, hm, getD_some hx, getD_some hy]

set_option maxRecDepth 100000 in
set_option maxHeartbeats 2000000 in
theorem daysLeft_any (B0 : Nat) (r : Sr) (w : World) (hok : SrOk w B0 r) (h1 : allB r.h 0 10000 = true) (h2 : allB r.r 0 1000000 = true) (h3 : r.n2 = r.n) (h4 : r.n ≤ 60) :
    Calls Tryd.prog 55 #[.agg #[.string r.k, .slice r.A r.n r.c, .slice r.A2 r.n2 r.c2]] w fun e w' => e = .returned (.int .i64 (leftOf (sitK r))) ∧ w.grownBy w' none := by
  obtain ⟨rk, rA, rn, rc, rA2, rn2, rc2, rh, rr⟩ := r
  simp only at h1 h2 h3 h4 ⊢
  have hlen := hok.len
  simp only at hlen
  have hlf : leftOf (sitK ⟨rk, rA, rn, rc, rA2, rn2, rc2, rh, rr⟩) = leftTo rh rr rn2 := by unfold leftOf; rw [← hlen.2]; rfl
  rw [hlf]
  have hbk := Blk.new w 75 #[.string rk, .slice rA rn rc, .slice rA2 rn2 rc2]
  have k1 : (w.alloc (.cells #[.string rk, .slice rA rn rc, .slice rA2 rn2 rc2] 75)).cell? ⟨w.heap.size, 1, none⟩ = some (.slice rA rn rc) := hbk.cell 1
  have k2 : (w.alloc (.cells #[.string rk, .slice rA rn rc, .slice rA2 rn2 rc2] 75)).cell? ⟨w.heap.size, 2, none⟩ = some (.slice rA2 rn2 rc2) := hbk.cell 2
  have hgR := grown_alloc (grown_refl w) (.cells #[.string rk, .slice rA rn rc, .slice rA2 rn2 rc2] 75)
  have hbx : ∀ (j : Nat) (x : Int), rh[j]? = some x → 0 ≤ x ∧ x ≤ 10000 := fun j x hx => btw_true.1 ((List.all_eq_true.1 h1) x (List.mem_of_getElem? hx))
  have hby : ∀ (j : Nat) (x : Int), rr[j]? = some x → 0 ≤ x ∧ x ≤ 1000000 := fun j x hx => btw_true.1 ((List.all_eq_true.1 h2) x (List.mem_of_getElem? hx))
  have hm0 := fun j hj => leftTo_in (rs := rr) h1 (by omega) j hj
  have HO := Lib.hid (And.intro hok (And.intro hgR (And.intro hbx (And.intro hby (And.intro hm0 hlen)))))
  clear hbk hlen h1 h2 hok hgR hlf hbx hby hm0
  have HE := Lib.hid h3
  have h42 : rn2 ≤ 60 := by omega
  clear h3
  go_enter Tryd.func55, Tryd.ntmps55
  go_wp2_with fail
  obtain ⟨B, hB⟩ : ∃ B, w.heap.size = B := ⟨_, rfl⟩
  obtain ⟨wb, hwb⟩ : ∃ wb, w.alloc (.cells #[.string rk, .slice rA rn rc, .slice rA2 rn2 rc2] 75) = wb := ⟨_, rfl⟩
  rw [hwb] at HO
  rw [hB, hwb] at k1 k2 ⊢
  clear hB hwb
  go_loopg [3, 9] rn2 (fun k m i wr => ∃ j : Nat, k + j = rn2 ∧ i = .int .i64 j ∧ m = .int .i64 (leftTo rh rr j) ∧ wb.grownBy wr none)
  case atStart => exact ⟨0, by omega, rfl, rfl, grown_refl _⟩
  case round =>
    obtain ⟨j, hj, rfl, rfl, hg⟩ := hrel
    have hm := HO.out.2.2.2.2.1 j (by have := HO.out.2.2.2.2.2.2; omega)
    obtain ⟨m, hme⟩ : ∃ m, leftTo rh rr j = m := ⟨_, rfl⟩
    rw [hme] at hm ⊢
    have HM := Lib.hid hme
    clear hme
    by_cases hlt : j < rn2
    · have hk9 := HO.out.1.grown (HO.out.2.1.trans hg)
      obtain ⟨br, og, er, hbr, y, hy, hcy⟩ := int_cells hk9.2.1 hlt
      obtain ⟨bh, oh, eh, hbh, x, hx, hcx⟩ := int_cells hk9.1.1 (k := j) (by have := HE.out; simp only at this ⊢; omega)
      simp only at er eh
      subst er eh
      have hx0 := HO.out.2.2.1 j x hx
      have hy0 := HO.out.2.2.2.1 j y hy
      have HS := Lib.hid (leftTo_succ HM.out hx hy)
      have HJ := Lib.hid hj
      have k1' := hg.cell (a := ⟨B, 1, none⟩) k1 (by simp)
      have hltn : j < rn := by have := HE.out; omega
      clear hk9 hbr hbh hx hy hj
      by_cases hy1 : 0 < y
      · obtain ⟨p, hp⟩ : ∃ p, p = 100 * x := ⟨_, rfl⟩
        have hpw : IntKind.i64.wrap (100 * x) = p := by rw [hp]; exact IntWalk.i64_in _ (by omega)
        have hq0 : 0 ≤ p / y := Int.ediv_nonneg (by omega) (by omega)
        have hq1 : p / y ≤ p := Int.ediv_le_self _ (by omega)
        have hqt : p.tdiv y = p / y := Int.tdiv_eq_ediv_of_nonneg (by omega)
        obtain ⟨q, hq⟩ : ∃ q, p / y = q := ⟨_, rfl⟩
        rw [hq] at hq0 hq1 hqt
        have hqw : IntKind.i64.wrap q = q := IntWalk.i64_in _ (by omega)
        have hqtw : IntKind.i64.wrap (p.tdiv y) = q := by rw [hqt]; exact hqw
        have hyn : ¬ y = 0 := by omega
        have hyb : (y == 0) = false := by rw [beq_eq_false_iff_ne]; exact hyn
        have HL := Lib.hid (show lessD m x y = min m q by unfold lessD; rw [if_pos hy1, ← hp, hqt])
        have HP := Lib.hid hp
        clear hp
        by_cases hlq : q < m
        · have hmn : min m q = q := by omega
          have HR := Lib.hid (HS.out.trans (HL.out.trans hmn))
          go_wp2_with fail
          have hj := HJ.out
          go_roundg (gk - 1)
          case measure => omega
          case rel => exact ⟨j + 1, by omega, by go_num, by rw [HR.out], hg⟩
        · have hmn : min m q = m := by omega
          have HR := Lib.hid (HS.out.trans (HL.out.trans hmn))
          go_wp2_with fail
          have hj := HJ.out
          go_roundg (gk - 1)
          case measure => omega
          case rel => exact ⟨j + 1, by omega, by go_num, by rw [HR.out], hg⟩
      · have HR := Lib.hid (HS.out.trans (show lessD m x y = m by unfold lessD; rw [if_neg hy1]))
        go_wp2_with fail
        have hj := HJ.out
        go_roundg (gk - 1)
        case measure => omega
        case rel => exact ⟨j + 1, by omega, by go_num, by rw [HR.out], hg⟩
    · obtain rfl : j = rn2 := by omega
      go_wp2_with fail
      go_ret
      exact ⟨retI HM.out.symm, HO.out.2.1.trans hg⟩

set_option maxHeartbeats 1000000 in
theorem left_bad (B0 : Nat) (A : Option Addr) (c : Nat) (V : List Sit) (w : World) (hr : RdSi w B0 A V) (hf : sitF V ≠ 0) :
    Calls Tryd.prog 12 #[.slice A V.length c] w fun e w' => e = .returned (.tuple #[.slice none 0 0, .int .i64 (sitF V)]) ∧ w.grownBy w' none := by
  have hck := checkSites_any B0 A c V w hr
  have hne : (sitF V != 0) = true := by rw [bne_iff_ne]; exact hf
  generalize sitF V = f at *
  have HC := Lib.hid hck
  clear hck hf
  go_enter Tryd.func12, Tryd.ntmps12
  go_wp2_with fail
  refine HC.out.mono ?_
  rintro e w1 ⟨rfl, hg1⟩
  go_wp2_with fail
  go_ret2
  exact ⟨rfl, hg1⟩

set_option maxRecDepth 100000 in
set_option maxHeartbeats 2000000 in
theorem left_any (B0 : Nat) (A : Option Addr) (c : Nat) (V : List Sit) (w : World) (hr : RdSi w B0 A V) (hf : sitF V = 0) :
    Calls Tryd.prog 12 #[.slice A V.length c] w fun e w' => ∃ v, e = .returned (.tuple #[v, .int .i64 0]) ∧ w'.ownsRow w.heap.size 3 1 v V.length (ints (leftsOf V)) ∧ w.grownBy w' none := by
  have hck := checkSites_any B0 A c V w hr
  rw [hf] at hck
  obtain ⟨hl200, hall⟩ := sitF_ok hf
  have hul : (leftsOf V).length = V.length := by simp [leftsOf]
  obtain ⟨n, hn⟩ : ∃ n, V.length = n := ⟨_, rfl⟩
  rw [hn] at hl200 hul hck ⊢
  have hmk := make_ints n (by omega)
  have HC := Lib.hid hck
  have HL := Lib.hid (And.intro hn (And.intro hul (And.intro hr hall)))
  clear hck hn hul hr hf hall
  go_enter Tryd.func12, Tryd.ntmps12
  go_wp2_with fail
  refine HC.out.mono ?_
  rintro e w1 ⟨rfl, hg1⟩
  have hsz1 := hg1.size
  go_wp2_with fail
  have hown0 := made_ints w1 n (by omega)
  have hga := grown_alloc hg1 (.cells (madeCells #[.int .i64 0] n) 3)
  obtain ⟨g, hgg⟩ : ∃ g, w1.heap.size = g := ⟨_, rfl⟩
  generalize w1.alloc (.cells (madeCells #[.int .i64 0] n) 3) = w3 at *
  rw [hgg] at hown0 hsz1 ⊢
  clear hmk hgg hg1
  go_loopg [18] n (fun k i wr => ∃ j : Nat, k + j = n ∧ i = .int .i64 j ∧ wr.ownsRow g 3 1 (.slice (some ⟨g, 0, none⟩) n n) n (ints (fill (leftsOf V) n j)) ∧ w.grownBy wr none)
  case atStart => exact ⟨0, by omega, rfl, by rw [fill_zero]; exact hown0, hga⟩
  case round =>
    clear hown0 hga
    obtain ⟨j, hj, rfl, hown, hg⟩ := hrel
    by_cases hlt : j < n
    · obtain ⟨b, off, rfl, hb, r, ht, hok, c0, c1, c2⟩ := (HL.out.2.2.1.grown hg).row (k := j) (by rw [HL.out.1]; exact hlt)
      obtain ⟨a1, a2, a3, a4⟩ := HL.out.2.2.2 _ (List.mem_of_getElem? ht)
      have hlen := hok.len
      have hUj : (leftsOf V)[j]? = some (leftOf (sitK r)) := by unfold leftsOf; rw [List.getElem?_map, ht]; rfl
      have hst := fill_set HL.out.2.1 hlt hUj
      have hgR := grown_alloc (grown_refl wr) (.cells #[.string r.k, .slice r.A r.n r.c, .slice r.A2 r.n2 r.c2] 75)
      have hdl := daysLeft_any B0 r _ (hok.grown hgR) a3 a4 (by rw [← hlen.1, ← hlen.2]; exact a2) (by rw [← hlen.1]; exact a1)
      have hlt' : (j : Int) < (n : Int) := by omega
      have HD := Lib.hid hdl
      have HS := Lib.hid (And.intro hst (And.intro hj (And.intro hg hgR)))
      have hown1 := hown.alloc (.cells #[.string r.k, .slice r.A r.n r.c, .slice r.A2 r.n2 r.c2] 75)
      clear hst hj hUj ht hok a1 a2 a3 a4 hlen hdl hgR hown
      go_wp2_with fail
      refine HD.out.mono ?_
      generalize leftOf (sitK r) = d at *
      rintro e w5 ⟨rfl, hg5⟩
      have hown5 := hown1.kept hg5 (.inr (by simp [Value.ownBlock]))
      have hgg5 := HS.out.2.2.1.trans (HS.out.2.2.2.trans hg5)
      have f5 := hown5.frozenAt j
      have e5 := own_int hown5 hlt
      have o5 := own_int_set hown5 j d
      rw [HS.out.1] at o5
      have HO := Lib.hid o5
      clear hown5 hown1 o5 hg5 c0 c1 c2
      go_wp2_with fail
      have hj := HS.out.2.1
      go_roundg (gk - 1)
      case measure => omega
      case rel => exact ⟨j + 1, by omega, by go_num, HO.out, grown_set (p := ⟨g, j, none⟩) hgg5 (.inl hsz1) _⟩
    · obtain rfl : j = n := by omega
      rw [fill_full HL.out.2.1] at hown
      go_wp2_with fail
      go_ret2
      exact ⟨_, rfl, own_mono hown (by omega), hg⟩

end Go.Proofs.YtoneebofjbnjpaaDoor
