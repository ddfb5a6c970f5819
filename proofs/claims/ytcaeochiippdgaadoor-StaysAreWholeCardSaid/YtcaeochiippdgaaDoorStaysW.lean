/- The walk of Stays of package shelf. -/
import Derived.Test.YtcaeochiippdgaaDoorStays
import Derived.Test.YtcaeochiippdgaaDoorVerW
import Derived.StillTailTactics
namespace Go.Proofs.YtcaeochiippdgaaDoor
open Go.RowKit

def stE (V : List Ver) (fr to : Int) : Int := if versF V ≠ 0 then versF V else if btw fr 0 to = false ∨ 4001 < to then 1 else 0
def stL (V : List Ver) (fr to : Int) : List Sy := if stE V fr to = 0 then slotsV V fr to (ver0 V) else []
theorem addSy_len (o : List Sy) (s : Sy) : (addSy o s).length ≤ o.length + 1 := by
  unfold addSy
  split
  · omega
  · split
    · rw [longer_len]; omega
    · simp
theorem versS_len (V : List Ver) (fr to : Int) (j i : Nat) (o : List Sy) : (versS V fr to j i o).length ≤ o.length + i := by
  induction i with
  | zero => simp [versS]
  | succ i ih => rw [versS]; have := addSy_len (versS V fr to j i o) (winV V fr to j i); omega
theorem slotsV_len (V : List Ver) (fr to : Int) (j : Nat) : (slotsV V fr to j).length ≤ j * V.length := by
  induction j with
  | zero => simp [slotsV]
  | succ j ih => rw [slotsV]; have := versS_len V fr to j V.length (slotsV V fr to j); rw [Nat.succ_mul]; omega

set_option maxRecDepth 100000 in
set_option maxHeartbeats 2000000 in
theorem stays_bad (B : Nat) (A : Option Addr) (c : Nat) (V : List Ver) (fr to : Int) (w : World) (hr : RdV w B A V) (h : stE V fr to ≠ 0) :
    Calls Tryd.prog 7 #[.slice A V.length c, .int .i64 fr, .int .i64 to] w fun e w' => e = .returned (.tuple #[.slice none 0 0, .int .i64 (stE V fr to)]) ∧ w.grownBy w' none := by
  have hc := checkVersions_any B A c V w hr
  obtain ⟨n, hn⟩ : ∃ n, V.length = n := ⟨_, rfl⟩
  rw [hn] at hc ⊢
  by_cases hv : versF V = 0
  · have hs : stE V fr to = 1 := by
      unfold stE at h ⊢
      rw [if_neg (by simp [hv])] at h ⊢
      split at h
      · rename_i h1; rw [if_pos h1]
      · exact absurd rfl h
    have hd : btw fr 0 to = false ∨ 4001 < to := by
      unfold stE at h
      rw [if_neg (by simp [hv])] at h
      split at h
      · rename_i h1; exact h1
      · exact absurd rfl h
    rw [hs]
    rw [hv] at hc
    have HC := Lib.hid hc
    clear hc hs h hv hn hr
    by_cases hb : btw fr 0 to = true
    · have h41 : 4001 < to := by
        rcases hd with hd | hd
        · rw [hb] at hd; cases hd
        · exact hd
      have g : decide (4001 < to) = true := by simpa using h41
      go_enter Tryd.func7, Tryd.ntmps7
      go_wp2_with fail
      refine HC.out.mono ?_
      rintro e w1 ⟨rfl, hg1⟩
      clear hd
      go_wp2_with fail
      refine (between_any _ _ _ _).mono ?_
      rw [hb]
      rintro e w2 ⟨rfl, rfl⟩
      clear hb h41
      go_wp2_with fail
      go_ret2
      exact ⟨rfl, hg1⟩
    · have hb' : btw fr 0 to = false := by simpa using hb
      go_enter Tryd.func7, Tryd.ntmps7
      go_wp2_with fail
      refine HC.out.mono ?_
      rintro e w1 ⟨rfl, hg1⟩
      clear hd
      go_wp2_with fail
      refine (between_any _ _ _ _).mono ?_
      rw [hb']
      rintro e w2 ⟨rfl, rfl⟩
      clear hb hb'
      go_wp2_with fail
      go_ret2
      exact ⟨rfl, hg1⟩
  · have hs : stE V fr to = versF V := by unfold stE; rw [if_pos hv]
    rw [hs]
    have hb : (versF V != 0) = true := by rw [bne_iff_ne]; exact hv
    clear hs h hr hn
    generalize versF V = f at *
    have HC := Lib.hid hc
    clear hc hv
    go_enter Tryd.func7, Tryd.ntmps7
    go_wp2_with fail
    refine HC.out.mono ?_
    rintro e w1 ⟨rfl, hg1⟩
    go_wp2_with fail
    go_ret2
    exact ⟨rfl, hg1⟩

set_option maxRecDepth 100000 in
set_option maxHeartbeats 4000000 in
theorem stays_ok (B : Nat) (A : Option Addr) (c : Nat) (V : List Ver) (fr to : Int) (w : World) (hr : RdV w B A V) (h : stE V fr to = 0) :
    Calls Tryd.prog 7 #[.slice A V.length c, .int .i64 fr, .int .i64 to] w fun e w' => ∃ v, e = .returned (.tuple #[v, .int .i64 0]) ∧
      w'.ownsRow w.heap.size 39 4 v (slotsV V fr to (ver0 V)).length (syFlat (slotsV V fr to (ver0 V))) ∧ w.grownBy w' none := by
  have hc := checkVersions_any B A c V w hr
  have hv : versF V = 0 := by
    unfold stE at h
    by_cases hv : versF V = 0
    · exact hv
    · rw [if_pos hv] at h; exact h
  have hd : btw fr 0 to = true ∧ to ≤ 4001 := by
    unfold stE at h
    rw [if_neg (by simp [hv])] at h
    split at h
    · cases h
    · rename_i h1
      simp only [not_or] at h1
      exact ⟨by simpa using h1.1, by omega⟩
  obtain ⟨hb, hto⟩ := hd
  obtain ⟨hf0, hf1⟩ := btw_true.1 hb
  obtain ⟨hl200, hall, _⟩ := vers_ok hv
  rw [hv] at hc
  obtain ⟨n, hn⟩ : ∃ n, V.length = n := ⟨_, rfl⟩
  rw [hn] at hc ⊢ hl200
  have g41 : decide (4001 < to) = false := by simpa using hto
  clear h hv
  rcases Nat.eq_zero_or_pos n with h0 | hpos
  · subst h0
    have hV : V = [] := List.eq_nil_of_length_eq_zero hn
    subst hV
    have HC := Lib.hid hc
    clear hc hr hall hn
    go_enter Tryd.func7, Tryd.ntmps7
    go_wp2_with fail
    refine HC.out.mono ?_
    rintro e w1 ⟨rfl, hg1⟩
    go_wp2_with fail
    refine (between_any _ _ _ _).mono ?_
    rw [hb]
    rintro e w2 ⟨rfl, rfl⟩
    clear hb
    go_wp2_with fail
    go_ret2
    exact ⟨_, rfl, World.ownsRow_nil _ _ _ _, hg1⟩
  · obtain ⟨b0, off0, rfl, hb0, r0, hr0, hok0, _, d1⟩ := hr.row (k := 0) (by omega)
    have hn0 : r0.n = ver0 V := by
      rw [← hok0.len]
      cases V with
      | nil => simp at hr0
      | cons x l => simp at hr0; rw [hr0]; rfl
    obtain ⟨N0, hN0⟩ : ∃ N0, ver0 V = N0 := ⟨_, rfl⟩
    have h060 : N0 ≤ 60 := by
      have := hall _ (List.mem_of_getElem? hr0)
      rw [← hN0]
      have h2 := this.2.1
      have h3 := this.2.2.1
      omega
    rw [hN0] at hn0 hall ⊢
    subst hn0
    simp only [Nat.zero_mul, Nat.add_zero] at d1
    have HC := Lib.hid (And.intro hc (And.intro hr (And.intro hall hn)))
    have hpos' : 0 < n := hpos
    have hn00 : ((n : Int) == 0) = false := by rw [beq_eq_false_iff_ne]; omega
    clear hc hr hall hn hok0 hr0 hN0
    go_enter Tryd.func7, Tryd.ntmps7
    go_wp2_with fail
    refine HC.out.1.mono ?_
    rintro e w1 ⟨rfl, hg1⟩
    have d1' := hg1.cell (a := ⟨b0, off0 + 1, none⟩) d1 (by simp)
    go_wp2_with fail
    refine (between_any _ _ _ _).mono ?_
    rw [hb]
    rintro e w2 ⟨rfl, rfl⟩
    clear hb d1
    go_wp2_with fail
    go_loopg [9, 35] r0.n (fun k v i wr => ∃ j : Nat, k + j = r0.n ∧ i = .int .i64 j ∧ wr.ownsRow w.heap.size 39 4 v (slotsV V fr to j).length (syFlat (slotsV V fr to j)) ∧ w.grownBy wr none)
    case atStart => exact ⟨0, by omega, rfl, World.ownsRow_nil _ _ _ _, hg1⟩
    case round =>
      obtain ⟨j, hj, rfl, hown, hg⟩ := hrel
      clear d1'
      by_cases hlt : j < r0.n
      · have hlen0 := slotsV_len V fr to j
        obtain ⟨o, ho⟩ : ∃ o, slotsV V fr to j = o := ⟨_, rfl⟩
        have hsu : slotsV V fr to (j + 1) = versS V fr to j n o := by rw [slotsV, ho, HC.out.2.2.2]
        rw [ho] at hown hlen0
        rw [HC.out.2.2.2] at hlen0
        have hlen1 : o.length ≤ 60 * 200 := Nat.le_trans hlen0 (Nat.mul_le_mul (by omega) hl200)
        have HS := Lib.hid (And.intro hsu hj)
        obtain ⟨wo, rfl⟩ : ∃ wo : World, wo = wr := ⟨_, rfl⟩
        obtain ⟨ko, rfl⟩ : ∃ ko : Nat, ko = gk := ⟨_, rfl⟩
        clear ho hsu hj hlen0
        go_wp2_with fail
        go_loopg [9, 40] n (fun k v i wr => ∃ m : Nat, k + m = n ∧ i = .int .i64 m ∧ wr.ownsRow w.heap.size 39 4 v (versS V fr to j m o).length (syFlat (versS V fr to j m o)) ∧ w.grownBy wr none)
        case atStart => exact ⟨0, by omega, rfl, hown, hg⟩
        case round =>
          obtain ⟨m, hm, rfl, hown2, hg2⟩ := hrel
          clear hown hg
          by_cases hlm : m < n
          · obtain ⟨b, off, hbo, hb, r, ht, hok, c0, c1⟩ := (HC.out.2.1.grown hg2).row (k := m) (by rw [HC.out.2.2.2]; exact hlm)
            obtain ⟨rfl, rfl⟩ : b0 = b ∧ off0 = off := by simpa using hbo
            have hra := HC.out.2.2.1 _ (List.mem_of_getElem? ht)
            have hrn : r.n = r0.n := by rw [← hok.len]; exact hra.2.1
            obtain ⟨bx, ox, hxo, hbx, x, hx, cx⟩ := str_cells hok.1 (k := j) (by omega)
            have hrA : r.A = some ⟨bx, ox, none⟩ := hxo
            have hgd : V.getD m default = verK r := by simp [List.getD, ht]
            have hgx : (V.getD m default).ks.getD j ByteArray.empty = x := by rw [hgd]; show r.ks.getD j _ = x; simp [List.getD, hx]
            obtain ⟨q, hq⟩ : ∃ q, (if fr < r.f then r.f else fr) = q := ⟨_, rfl⟩
            have hqm : max fr r.f = q := by rw [← hq]; split <;> omega
            have hjr : j < r.n := by omega
            have hlm' : (m : Int) < (n : Int) := by omega
            have hlb := versS_len V fr to j m o
            have hm200 : m ≤ 200 := by omega
            obtain ⟨e5, he5⟩ : ∃ e5, endV V to m = e5 := ⟨_, rfl⟩
            have hw5 : versS V fr to j (m + 1) o = addSy (versS V fr to j m o) ⟨j, x, q, e5⟩ := by
              rw [versS]; unfold winV; rw [hgx, hgd, he5]; show addSy _ ⟨_, _, max fr r.f, _⟩ = _; rw [hqm]
            have HB := Lib.hid (And.intro hw5 (show (versS V fr to j m o).length ≤ 1000000000 by omega))
            have HM := Lib.hid hm
            have hf4 := hra.1
            have HT := Lib.hid (And.intro ht (And.intro hgd (And.intro hgx (And.intro hrn hxo))))
            rw [hrA] at c1
            clear hm hra hrn hxo hgd hgx hw5 hlb hbo ht hx hqm
            by_cases hnx : m + 1 < n
            · obtain ⟨b', off', hbo', _, r', ht', _, d0, _⟩ := (HC.out.2.1.grown hg2).row (k := m + 1) (by rw [HC.out.2.2.2]; exact hnx)
              obtain ⟨rfl, rfl⟩ : b0 = b' ∧ off0 = off' := by simpa using hbo'
              have hnx' : (m : Int) + 1 < (n : Int) := by omega
              have hee : e5 = min to r'.f := by
                rw [← he5]; unfold endV; rw [if_pos (by rw [HC.out.2.2.2]; exact hnx)]
                simp [List.getD, ht', verK]
              clear hbo' ht' he5
              by_cases hmm : to ≤ r'.f
              · have ee : to = e5 := by omega
                subst ee
                clear hee
                go_wp2_with fail
                have hB5 := Blk.new wr 43 #[.int .i64 r.f, .slice (some ⟨bx, ox, none⟩) r.n r.c]
                obtain ⟨k0, k1, _, _⟩ := hB5.two
                have kx := (World.cell?_alloc_lt wr (.cells #[.int .i64 r.f, .slice (some ⟨bx, ox, none⟩) r.n r.c] 43) ⟨bx, ox + j, none⟩ hbx).trans cx
                have hgA : wr.grownBy (wr.alloc (.cells #[.int .i64 r.f, .slice (some ⟨bx, ox, none⟩) r.n r.c] 43)) none := grown_alloc (grown_refl wr) _
                have hownA : (wr.alloc (.cells #[.int .i64 r.f, .slice (some ⟨bx, ox, none⟩) r.n r.c] 43)).ownsRow w.heap.size 39 4 u9 (versS V fr to j m o).length (syFlat (versS V fr to j m o)) := hown2.alloc _
                clear hB5
                generalize (wr.alloc (.cells #[.int .i64 r.f, .slice (some ⟨bx, ox, none⟩) r.n r.c] 43)) = w5 at *
                go_still_tail 13, (by kernel_rfl)
                change wpList _ _ _ _ _ w5.drew
                go_wp2_with fail
                refine (appendStay_any w.heap.size u9 (versS V fr to j m o) ⟨j, x, q, to⟩ w5.drew hownA HB.out.2 (Nat.le_trans hg2.size hgA.size)).mono ?_
                rintro e w6 ⟨v6, rfl, hown6, hg6⟩
                have hgg6 : w.grownBy w6 none := grown_below (grown_drew (hg2.trans hgA)) hg6 (fun i hi => .inl (hownA.lt i hi).1)
                go_wp2_with fail
                have hm := HM.out
                go_roundg (gk - 1)
                case measure => omega
                case rel => exact ⟨m + 1, by omega, by go_num, by rw [HB.out.1]; exact hown6, hgg6⟩
              · have ee : r'.f = e5 := by omega
                subst ee
                have hmm' : r'.f < to := by omega
                clear hee hmm
                go_wp2_with fail
                have hB5 := Blk.new wr 43 #[.int .i64 r.f, .slice (some ⟨bx, ox, none⟩) r.n r.c]
                obtain ⟨k0, k1, _, _⟩ := hB5.two
                have kx := (World.cell?_alloc_lt wr (.cells #[.int .i64 r.f, .slice (some ⟨bx, ox, none⟩) r.n r.c] 43) ⟨bx, ox + j, none⟩ hbx).trans cx
                have hgA : wr.grownBy (wr.alloc (.cells #[.int .i64 r.f, .slice (some ⟨bx, ox, none⟩) r.n r.c] 43)) none := grown_alloc (grown_refl wr) _
                have hownA : (wr.alloc (.cells #[.int .i64 r.f, .slice (some ⟨bx, ox, none⟩) r.n r.c] 43)).ownsRow w.heap.size 39 4 u9 (versS V fr to j m o).length (syFlat (versS V fr to j m o)) := hown2.alloc _
                clear hB5
                generalize (wr.alloc (.cells #[.int .i64 r.f, .slice (some ⟨bx, ox, none⟩) r.n r.c] 43)) = w5 at *
                go_still_tail 13, (by kernel_rfl)
                change wpList _ _ _ _ _ w5.drew
                go_wp2_with fail
                refine (appendStay_any w.heap.size u9 (versS V fr to j m o) ⟨j, x, q, r'.f⟩ w5.drew hownA HB.out.2 (Nat.le_trans hg2.size hgA.size)).mono ?_
                rintro e w6 ⟨v6, rfl, hown6, hg6⟩
                have hgg6 : w.grownBy w6 none := grown_below (grown_drew (hg2.trans hgA)) hg6 (fun i hi => .inl (hownA.lt i hi).1)
                go_wp2_with fail
                have hm := HM.out
                go_roundg (gk - 1)
                case measure => omega
                case rel => exact ⟨m + 1, by omega, by go_num, by rw [HB.out.1]; exact hown6, hgg6⟩
            · have hnx' : ¬ (m : Int) + 1 < (n : Int) := by omega
              have ee : to = e5 := by rw [← he5]; unfold endV; rw [if_neg (by rw [HC.out.2.2.2]; exact hnx)]
              subst ee
              clear he5
              go_wp2_with fail
              have hB5 := Blk.new wr 43 #[.int .i64 r.f, .slice (some ⟨bx, ox, none⟩) r.n r.c]
              obtain ⟨k0, k1, _, _⟩ := hB5.two
              have kx := (World.cell?_alloc_lt wr (.cells #[.int .i64 r.f, .slice (some ⟨bx, ox, none⟩) r.n r.c] 43) ⟨bx, ox + j, none⟩ hbx).trans cx
              have hgA : wr.grownBy (wr.alloc (.cells #[.int .i64 r.f, .slice (some ⟨bx, ox, none⟩) r.n r.c] 43)) none := grown_alloc (grown_refl wr) _
              have hownA : (wr.alloc (.cells #[.int .i64 r.f, .slice (some ⟨bx, ox, none⟩) r.n r.c] 43)).ownsRow w.heap.size 39 4 u9 (versS V fr to j m o).length (syFlat (versS V fr to j m o)) := hown2.alloc _
              clear hB5
              generalize (wr.alloc (.cells #[.int .i64 r.f, .slice (some ⟨bx, ox, none⟩) r.n r.c] 43)) = w5 at *
              go_still_tail 13, (by kernel_rfl)
              change wpList _ _ _ _ _ w5.drew
              go_wp2_with fail
              refine (appendStay_any w.heap.size u9 (versS V fr to j m o) ⟨j, x, q, to⟩ w5.drew hownA HB.out.2 (Nat.le_trans hg2.size hgA.size)).mono ?_
              rintro e w6 ⟨v6, rfl, hown6, hg6⟩
              have hgg6 : w.grownBy w6 none := grown_below (grown_drew (hg2.trans hgA)) hg6 (fun i hi => .inl (hownA.lt i hi).1)
              go_wp2_with fail
              have hm := HM.out
              go_roundg (gk - 1)
              case measure => omega
              case rel => exact ⟨m + 1, by omega, by go_num, by rw [HB.out.1]; exact hown6, hgg6⟩
          · obtain rfl : m = n := by omega
            go_wp2_with fail
            have hj := HS.out.2
            go_roundg (ko - 1)
            case measure => omega
            case rel => exact ⟨j + 1, by omega, by go_num, by rw [HS.out.1]; exact hown2, hg2⟩
      · obtain rfl : j = r0.n := by omega
        go_wp2_with fail
        go_ret2
        exact ⟨_, rfl, hown, hg⟩

end Go.Proofs.YtcaeochiippdgaaDoor
