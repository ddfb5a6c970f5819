/- The walk of the reference LeftOf. -/
import Derived.Test.YtoneebofjbnjpaaDoorLeft
namespace Go.Proofs.YtoneebofjbnjpaaDoor
open Go.RowKit

set_option maxRecDepth 100000 in
set_option maxHeartbeats 4000000 in
theorem leftOf_any (B0 : Nat) (A : Option Addr) (c : Nat) (V : List Sit) (w : World) (hr : RdSi w B0 A V) (hf : sitF V = 0) :
    Calls Tryd.prog 16 #[.slice A V.length c] w fun e w' => ∃ v, e = .returned v ∧ w'.ownsRow w.heap.size 3 1 v V.length (ints (leftsOf V)) ∧ w.grownBy w' none := by
  obtain ⟨hl200, hall⟩ := sitF_ok hf
  have hul : (leftsOf V).length = V.length := by simp [leftsOf]
  obtain ⟨n, hn⟩ : ∃ n, V.length = n := ⟨_, rfl⟩
  rw [hn] at hl200 hul ⊢
  have HL := Lib.hid (And.intro hn (And.intro hul (And.intro hr hall)))
  clear hn hul hr hf hall
  go_enter Tryd.func16, Tryd.ntmps16
  go_wp2_with fail
  go_loopg [3, 11] n (fun k o i wr => ∃ j : Nat, k + j = n ∧ i = .int .i64 j ∧ wr.ownsRow w.heap.size 3 1 o j (ints ((leftsOf V).take j)) ∧ w.grownBy wr none)
  case atStart => exact ⟨0, by omega, rfl, World.ownsRow_nil _ _ _ _, grown_refl w⟩
  case round =>
    obtain ⟨j, hj, rfl, hown, hg⟩ := hrel
    obtain ⟨ko, hko⟩ : ∃ ko : Nat, ko = gk := ⟨_, rfl⟩
    by_cases hlt : j < n
    · obtain ⟨b, off, rfl, hb, r, ht, hok, c0, c1, c2⟩ := (HL.out.2.2.1.grown hg).row (k := j) (by rw [HL.out.1]; exact hlt)
      obtain ⟨a1, a2, a3, a4⟩ := HL.out.2.2.2 _ (List.mem_of_getElem? ht)
      obtain ⟨rk, rA, rn, rc, rA2, rn2, rc2, rh, rr⟩ := r
      have hlen := hok.len
      simp only [sitK] at a1 a2 a3 a4 hlen c0 c1 c2
      have hUj : (leftsOf V)[j]? = some (leftTo rh rr rn2) := by unfold leftsOf; rw [List.getElem?_map, ht, ← hlen.2]; rfl
      have htk := take_at hUj
      have hgR := grown_alloc (grown_refl wr) (.cells #[.string rk, .slice rA rn rc, .slice rA2 rn2 rc2] 75)
      have hbk := Blk.new wr 75 #[.string rk, .slice rA rn rc, .slice rA2 rn2 rc2]
      have k1 : (wr.alloc (.cells #[.string rk, .slice rA rn rc, .slice rA2 rn2 rc2] 75)).cell? ⟨wr.heap.size, 1, none⟩ = some (.slice rA rn rc) := hbk.cell 1
      have k2 : (wr.alloc (.cells #[.string rk, .slice rA rn rc, .slice rA2 rn2 rc2] 75)).cell? ⟨wr.heap.size, 2, none⟩ = some (.slice rA2 rn2 rc2) := hbk.cell 2
      have hbx : ∀ (j : Nat) (x : Int), rh[j]? = some x → 0 ≤ x ∧ x ≤ 10000 := fun j x hx => btw_true.1 ((List.all_eq_true.1 a3) x (List.mem_of_getElem? hx))
      have hby : ∀ (j : Nat) (x : Int), rr[j]? = some x → 0 ≤ x ∧ x ≤ 1000000 := fun j x hx => btw_true.1 ((List.all_eq_true.1 a4) x (List.mem_of_getElem? hx))
      have hm0 := fun j hj => leftTo_in (rs := rr) a3 a2 j hj
      have hok1 := hok.grown hgR
      have hown1 := hown.alloc (.cells #[.string rk, .slice rA rn rc, .slice rA2 rn2 rc2] 75)
      have hg1 := hg.trans hgR
      have HO := Lib.hid (And.intro hok1 (And.intro hbx (And.intro hby (And.intro hm0 hlen))))
      have hee : rn2 = rn := by omega
      have HE := Lib.hid hee
      have HJ := Lib.hid (And.intro hj (And.intro htk hko))
      have h42 : rn2 ≤ 60 := by omega
      clear hbk hlen a1 a2 a3 a4 hok hok1 hbx hby hm0 hgR hown hg hj hee hko htk hUj ht
      go_wp2_with fail
      obtain ⟨B, hB⟩ : ∃ B, wr.heap.size = B := ⟨_, rfl⟩
      obtain ⟨wb, hwb⟩ : ∃ wb, wr.alloc (.cells #[.string rk, .slice rA rn rc, .slice rA2 rn2 rc2] 75) = wb := ⟨_, rfl⟩
      rw [hwb] at HO hown1 hg1
      rw [hB, hwb] at k1 k2 ⊢
      clear hB hwb c0 c1 c2
      go_loopg [6, 18] rn2 (fun k m i wx => ∃ q : Nat, k + q = rn2 ∧ i = .int .i64 q ∧ m = .int .i64 (leftTo rh rr q) ∧ wb.grownBy wx none)
      case atStart => exact ⟨0, by omega, rfl, rfl, grown_refl _⟩
      case round =>
        obtain ⟨q, hq, rfl, rfl, hgx⟩ := hrel
        have hm := HO.out.2.2.2.1 q (by have := HO.out.2.2.2.2; omega)
        obtain ⟨m, hme⟩ : ∃ m, leftTo rh rr q = m := ⟨_, rfl⟩
        rw [hme] at hm ⊢
        have HM := Lib.hid hme
        clear hme
        by_cases hlq : q < rn2
        · have hk9 := HO.out.1.grown hgx
          obtain ⟨br, og, er, hbr, y, hy, hcy⟩ := int_cells hk9.2.1 hlq
          obtain ⟨bh, oh, eh, hbh, x, hx, hcx⟩ := int_cells hk9.1.1 (k := q) (by have := HE.out; simp only at this ⊢; omega)
          simp only at er eh
          subst er eh
          have hx0 := HO.out.2.1 q x hx
          have hy0 := HO.out.2.2.1 q y hy
          have HS := Lib.hid (leftTo_succ HM.out hx hy)
          have HQ := Lib.hid hq
          have k1' := hgx.cell (a := ⟨B, 1, none⟩) k1 (by simp)
          have hltn : q < rn := by have := HE.out; omega
          clear hk9 hbr hbh hx hy hq
          by_cases hy1 : 0 < y
          · obtain ⟨p, hp⟩ : ∃ p, p = 100 * x := ⟨_, rfl⟩
            have hpw : IntKind.i64.wrap (100 * x) = p := by rw [hp]; exact IntWalk.i64_in _ (by omega)
            have hq0 : 0 ≤ p / y := Int.ediv_nonneg (by omega) (by omega)
            have hq1 : p / y ≤ p := Int.ediv_le_self _ (by omega)
            have hqt : p.tdiv y = p / y := Int.tdiv_eq_ediv_of_nonneg (by omega)
            obtain ⟨z, hz⟩ : ∃ z, p / y = z := ⟨_, rfl⟩
            rw [hz] at hq0 hq1 hqt
            have hqw : IntKind.i64.wrap z = z := IntWalk.i64_in _ (by omega)
            have hqtw : IntKind.i64.wrap (p.tdiv y) = z := by rw [hqt]; exact hqw
            have hyn : ¬ y = 0 := by omega
            have hyb : (y == 0) = false := by rw [beq_eq_false_iff_ne]; exact hyn
            have HL2 := Lib.hid (show lessD m x y = min m z by unfold lessD; rw [if_pos hy1, ← hp, hqt])
            have HP := Lib.hid hp
            clear hp
            by_cases hlz : z < m
            · have hmn : min m z = z := by omega
              have HR := Lib.hid (HS.out.trans (HL2.out.trans hmn))
              go_wp2_with fail
              have hq := HQ.out
              go_roundg (gk - 1)
              case measure => omega
              case rel => exact ⟨q + 1, by omega, by go_num, by rw [HR.out], hgx⟩
            · have hmn : min m z = m := by omega
              have HR := Lib.hid (HS.out.trans (HL2.out.trans hmn))
              go_wp2_with fail
              have hq := HQ.out
              go_roundg (gk - 1)
              case measure => omega
              case rel => exact ⟨q + 1, by omega, by go_num, by rw [HR.out], hgx⟩
          · have HR := Lib.hid (HS.out.trans (show lessD m x y = m by unfold lessD; rw [if_neg hy1]))
            go_wp2_with fail
            have hq := HQ.out
            go_roundg (gk - 1)
            case measure => omega
            case rel => exact ⟨q + 1, by omega, by go_num, by rw [HR.out], hgx⟩
        · obtain rfl : q = rn2 := by omega
          have htk := HJ.out.2.1
          rw [HM.out] at htk
          have HT := Lib.hid htk
          have hown5 := hown1.kept hgx (by cases u3.ownBlock with
            | none => exact .inl rfl
            | some g => exact .inr (by simp))
          have hlj : ((leftsOf V).take j).length = j := by rw [List.length_take, HL.out.2.1]; omega
          have hg5 := hg1.trans hgx
          clear htk hown1 hg1 hgx
          have hown6 : wr.ownsRow w.heap.size 3 1 u3 ((leftsOf V).take j).length (ints ((leftsOf V).take j)) := by rw [hlj]; exact hown5
          have HLJ := Lib.hid hlj
          have hj9 : ((leftsOf V).take j).length ≤ 1000000000 := by rw [hlj]; omega
          have hsz := hg5.size
          clear hlj hown5
          go_wp2_with (at_builtin; refine ap_int wr _ rfl _ _ rfl w.heap.size u3 ((leftsOf V).take j) rfl hown6 rfl hj9 hsz ?_; intro v7 w7 hown7 hg7)
          rw [← HT.out] at hown7
          have hj := HJ.out.1
          have hko := HJ.out.2.2
          have hl7 : ((leftsOf V).take (j + 1)).length = j + 1 := by rw [List.length_take, HL.out.2.1]; omega
          rw [hl7] at hown7
          have hgg := ap_grown hg5 hown6 hg7 (Nat.le_refl _)
          go_roundg (ko - 1)
          case measure => omega
          case rel => exact ⟨j + 1, by omega, by go_num, hown7, hgg⟩
    · obtain rfl : j = n := by omega
      rw [List.take_of_length_le (by rw [HL.out.2.1]; omega)] at hown
      go_wp2_with fail
      go_ret
      exact ⟨_, rfl, hown, hg⟩

end Go.Proofs.YtoneebofjbnjpaaDoor
