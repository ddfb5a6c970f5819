/- The walk of Stops: the stops made of the stream's numbers. -/
import Derived.Test.YtcipidfbclohoaaDoorStp
import Derived.Test.YtcipidfbclohoaaDoorSpt
import Derived.Deep.RegionHeld3
namespace Go.Proofs.YtcipidfbclohoaaDoor
open Go.RowKit
variable {Q : Nat → Prop}

def stKey (i : Nat) : ByteArray := ⟨#[115]⟩ ++ Utf8.encode (97 + (i : Int))
theorem enc_size : ∀ j : Nat, j < 9 → (Utf8.encode (97 + (j : Int))).size = 1 := by decide +kernel
def stStep (L : List Int) (i : Nat) (s : Nat × List St) : Nat × List St :=
  ((spotM L s.1).1 + 3, s.2 ++ [⟨stKey i, (spotM L s.1).2.1, (spotM L s.1).2.2, pk L (spotM L s.1).1 [0, 0, 10, 40], pk L (spotM L s.1).1 [0, 0, 10, 40] + pk L ((spotM L s.1).1 + 2) [0, 10, 30, 60, 200], pk L ((spotM L s.1).1 + 1) [0, 3, 10]⟩])
def stRun (L : List Int) (t : Nat) : Nat → Nat × List St
  | 0 => (t, [])
  | j + 1 => stStep L j (stRun L t j)
theorem stRun_b (L : List Int) (t : Nat) : ∀ j, (stRun L t j).1 ≤ t + 7 * j ∧ (stRun L t j).2.length = j
  | 0 => by simp [stRun]
  | j + 1 => by
    have ih := stRun_b L t j
    have := spotM_b L (stRun L t j).1
    rw [stRun]
    unfold stStep
    simp
    omega
def stWs : List ByteArray := [ByteArray.empty, ⟨#[115, 97]⟩, ⟨#[122, 122]⟩]
def stEnd (L : List Int) (s : Nat × List St) : Nat × List St :=
  if (nx L s.1 20 == 0) = true then (s.1 + 5, s.2 ++ [⟨pkS L (s.1 + 1) stWs, 0, 0, pk L (s.1 + 2) [-1, 0, 9], pk L (s.1 + 3) [8, 1440, 1441], pk L (s.1 + 4) [0, -1, 1441]⟩]) else (s.1 + 1, s.2)
def stopsM (L : List Int) (t : Nat) (most : Int) : Nat × List St := stEnd L (stRun L (t + 1) (nx L t (most + 1)).toNat)
theorem stopsM_b (L : List Int) (t : Nat) (most : Int) (h : 0 ≤ most) (h2 : most ≤ 9) : (stopsM L t most).1 ≤ t + 80 ∧ (stopsM L t most).2.length ≤ 10 := by
  have hb := nx_in L t (most + 1) (by omega)
  have := stRun_b L (t + 1) (nx L t (most + 1)).toNat
  unfold stopsM stEnd
  split
  · simp; omega
  · simp; omega

set_option maxRecDepth 100000 in
set_option maxHeartbeats 4000000 in
theorem stops_any (bs : Nat) (L : List Int) (t : Nat) (most : Int) (w : World) (hs : StrQ Q w bs L t) (ht : t ≤ 800000) (h0 : 0 ≤ most) (h9 : most ≤ 9) :
    Calls Tryd.prog 6 #[.pointer (some ⟨bs, 0, none⟩), .int .i64 most] w
      fun e w' => ∃ v, e = .returned v ∧ w'.ownsRow w.heap.size 57 6 v (stopsM L t most).2.length (stFlat (stopsM L t most).2) ∧ StrQ Q w' bs L (stopsM L t most).1 ∧ w.grownBy w' (some bs) := by
  have hbs := hs.lt
  obtain ⟨M, hM⟩ : ∃ M, stopsM L t most = M := ⟨_, rfl⟩
  have hMd := hM
  unfold stopsM at hMd
  rw [hM]
  obtain ⟨n0, n1⟩ := nx_in L t (most + 1) (by omega)
  obtain ⟨n, hn⟩ := Int.eq_ofNat_of_zero_le n0
  rw [hn] at n1
  have hn9 : n ≤ 9 := by omega
  rw [hn, Int.toNat_natCast] at hMd
  have HM := Lib.hid (And.intro hMd hn)
  clear hM hMd n0 n1 hn
  go_enter Tryd.func6, Tryd.ntmps6
  go_wp2_with fail
  refine (next_any bs L t (most + 1) _ hs (by omega) (by omega)).mono ?_
  rw [HM.out.2]
  rintro e w1 ⟨rfl, hs1, hg1⟩
  clear hs
  go_wp2_with fail
  go_loopg [5, 12] n (fun k o i wr => ∃ j : Nat, k + j = n ∧ i = .int .i64 j ∧ wr.ownsRow w.heap.size 57 6 o j (stFlat (stRun L (t + 1) j).2) ∧ StrQ Q wr bs L (stRun L (t + 1) j).1 ∧ w.grownBy wr (some bs))
  case atStart => exact ⟨0, by omega, rfl, World.ownsRow_nil _ _ _ _, hs1, hg1⟩
  case round =>
    clear hs1 hg1
    obtain ⟨j, hj, rfl, hown, hst, hg⟩ := hrel
    by_cases hlt : j < n
    · have hb := stRun_b L (t + 1) j
      have hstep : stRun L (t + 1) (j + 1) = stStep L j (stRun L (t + 1) j) := rfl
      unfold stStep at hstep
      generalize stRun L (t + 1) j = S at *
      obtain ⟨T, l⟩ := S
      simp only at hown hst hb hstep
      have hltI : (j : Int) < (n : Int) := by omega
      have HS := Lib.hid (And.intro hstep (And.intro hj hb.2))
      have hT := hb.1
      clear hstep hj hb
      obtain ⟨p, hp⟩ : ∃ p : Int, 97 + (j : Int) = p := ⟨_, rfl⟩
      have hpw : IntKind.i64.wrap (97 + (j : Int)) = p := by rw [hp]; exact IntWalk.i64_in _ (by omega)
      have hp2 : IntKind.i32.wrap p = p := IntWalk.i32_in _ (by omega)
      have hes : (Utf8.encode p).size = 1 := by rw [← hp]; exact enc_size j (by omega)
      have hek : (⟨#[115]⟩ : ByteArray) ++ Utf8.encode p = stKey j := by unfold stKey; rw [hp]
      have HP := Lib.hid hek
      clear hp hek
      go_wp2_with fail
      rw [HP.out]
      generalize stKey j = K0 at *
      refine (spot_any bs L T _ hst (by omega)).mono ?_
      have hbS := spotM_b L T
      generalize spotM L T = Z at *
      obtain ⟨T2, x, y⟩ := Z
      simp only at hbS ⊢
      obtain ⟨f, hf⟩ : ∃ f, pk L T2 [0, 0, 10, 40] = f := ⟨_, rfl⟩
      obtain ⟨lg, hlg⟩ : ∃ lg, pk L (T2 + 1) [0, 3, 10] = lg := ⟨_, rfl⟩
      obtain ⟨ad, had⟩ : ∃ ad, pk L (T2 + 2) [0, 10, 30, 60, 200] = ad := ⟨_, rfl⟩
      have hfm := pk_mem L T2 [0, 0, 10, 40] (by simp)
      have ham := pk_mem L (T2 + 2) [0, 10, 30, 60, 200] (by simp)
      rw [hf] at hfm
      rw [had] at ham
      simp only [List.mem_cons, List.not_mem_nil, or_false] at hfm ham
      have hfI : 0 ≤ f ∧ f ≤ 40 := by omega
      have haI : 0 ≤ ad ∧ ad ≤ 200 := by omega
      clear hfm ham
      rintro e w2 ⟨rfl, hs2, hg2⟩
      have hown2 := hown.kept hg2 (own_ne hown hbs)
      have hgg2 := hg.trans hg2
      have HK := Lib.hid (And.intro hf (And.intro hlg had))
      clear hown hst hg hg2 hf hlg had
      go_wp2_with fail
      refine (pick_lit bs L T2 [0, 0, 10, 40] w2 hs2 (by omega) (by simp) (by simp) 3).mono ?_
      rw [HK.out.1]
      rintro e w3 ⟨rfl, hs3, hg3⟩
      have hown3 := hown2.kept hg3 (own_ne hown2 hbs)
      have hgg3 := hgg2.trans hg3
      clear hown2 hs2 hg3 hgg2
      go_wp2_with fail
      refine (pick_lit bs L (T2 + 1) [0, 3, 10] w3 hs3 (by omega) (by simp) (by simp) 3).mono ?_
      rw [HK.out.2.1]
      rintro e w4 ⟨rfl, hs4, hg4⟩
      have hown4 := hown3.kept hg4 (own_ne hown3 hbs)
      have hgg4 := hgg3.trans hg4
      clear hown3 hs3 hg4 hgg3
      have hgB := grown_alloc (grown_refl w4) (.cells #[.string K0, .int .i64 x, .int .i64 y, .int .i64 f, .int .i64 0, .int .i64 lg] 57)
      have hB := Blk.new w4 57 #[.string K0, .int .i64 x, .int .i64 y, .int .i64 f, .int .i64 0, .int .i64 lg]
      have hs5 := hs4.grown hgB (by simp)
      have hown5 := hown4.alloc (.cells #[.string K0, .int .i64 x, .int .i64 y, .int .i64 f, .int .i64 0, .int .i64 lg] 57)
      have hgg5 := hgg4.trans (hgB.but (some bs))
      have hlt4 := hs4.lt
      have hz5 : (w4.alloc (.cells #[.string K0, .int .i64 x, .int .i64 y, .int .i64 f, .int .i64 0, .int .i64 lg] 57)).heap.size = w4.heap.size + 1 := by simp
      have hsz4 := hgg4.size
      go_wp2_with fail
      have hoB : ∀ g, u5.ownBlock = some g → g < w4.heap.size := fun g hg => (hown4.lt g hg).2
      obtain ⟨B, hBe⟩ : ∃ B, w4.heap.size = B := ⟨_, rfl⟩
      rw [hBe] at hB hlt4 hz5 hsz4 hoB ⊢
      generalize w4.alloc (.cells #[.string K0, .int .i64 x, .int .i64 y, .int .i64 f, .int .i64 0, .int .i64 lg] 57) = w5 at *
      clear hgB hown4 hs4 hgg4 hBe
      have hneB : B ≠ bs := by omega
      have hbB : bs < B := by omega
      have hwB : w.heap.size ≤ B := by omega
      have q2 : w5.drew.cell? ⟨B, 3, none⟩ = some (.int .i64 f) := hB.cell 3
      have hs5d : StrQ Q w5.drew bs L (T2 + 1 + 1) := hs5
      have HB := Lib.hid (And.intro hB (And.intro hs5 (And.intro hown5 hgg5)))
      have HS5 := Lib.hid hs5d
      have hpk := fun (wx : World) (hx : StrQ Q wx bs L (T2 + 1 + 1)) (N : Nat) (hN : wx.heap.size = N) => pick_n bs L (T2 + 1 + 1) [0, 10, 30, 60, 200] wx N hN hx (by omega) (by simp) (by simp) 3
      rw [show pk L (T2 + 1 + 1) [0, 10, 30, 60, 200] = ad from HK.out.2.2] at hpk
      have HPK := Lib.hid hpk
      have hwf : IntKind.i64.wrap (f + ad) = f + ad := IntWalk.i64_in _ (by omega)
      clear hB hs5 hown5 hgg5 hs5d hpk
      have hq2 := q2
      have hBd : Blk w5.drew B 57 #[.string K0, .int .i64 x, .int .i64 y, .int .i64 f, .int .i64 0, .int .i64 lg] := HB.out.1
      have qa : ∀ o, (w5.drew.alloc o).cell? ⟨B, 3, none⟩ = some (.int .i64 f) := fun o => (hBd.alloc o).cell 3
      have HBd := Lib.hid hBd
      clear hBd
      go_region_held3 (fun w' => w'.cell? ⟨B, 3, none⟩ = some (.int .i64 f)) (first | assumption | exact qa _ | exact qs _ | go_keep)
        (first | ((go_at_call 7; refine (HPK.out _ HS5.out (B + 1) (by assumption)).mono ?_; rintro e w6 ⟨rfl, hs6, hg6⟩; have hB6 := Blk.grown HBd.out hg6 (by simpa using hneB); have q6 := hB6.cell 3; have q7 := hB6.cell 4; have g7 := hB6.frozen 4; have qs := fun u => (show (w6.setCell ⟨B, 4, none⟩ u).cell? ⟨B, 3, none⟩ = some (.int .i64 f) from (hB6.set_ 4 u).cell 3))))
      have hB7 : Blk (w6.setCell ⟨B, 4, none⟩ (.int .i64 (f + ad))) B 57 #[.string K0, .int .i64 x, .int .i64 y, .int .i64 f, .int .i64 (f + ad), .int .i64 lg] := hB6.set_ 4 (.int .i64 (f + ad))
      have hs7 := hs6.far B hbB 4 (.int .i64 (f + ad))
      have hgd := grown_drew (grown_refl w5)
      have hownd := HB.out.2.2.1.kept hgd (by cases u5.ownBlock with | none => exact .inl rfl | some g => exact .inr (by simp))
      have hown6 := hownd.kept hg6 (own_ne hownd hbs)
      have hgs := grown_set (World.grownBy.refl w6 (some B)) (p := ⟨B, 4, none⟩) (.inr rfl) (.int .i64 (f + ad))
      have hown7 := hown6.kept hgs (by
        cases hv : u5.ownBlock with
        | none => exact .inl rfl
        | some g => exact .inr (by have := hoB g hv; simp; omega))
      have hgg7 := grown_set ((HB.out.2.2.2.trans (hgd.but (some bs))).trans hg6) (p := ⟨B, 4, none⟩) (.inl hwB) (.int .i64 (f + ad))
      generalize w6.setCell ⟨B, 4, none⟩ (.int .i64 (f + ad)) = w7 at *
      have d0 : w7.cell? ⟨B, 0, none⟩ = some (.string K0) := hB7.cell 0
      have d1 : w7.cell? ⟨B, 1, none⟩ = some (.int .i64 x) := hB7.cell 1
      have d2 : w7.cell? ⟨B, 2, none⟩ = some (.int .i64 y) := hB7.cell 2
      have d3 : w7.cell? ⟨B, 3, none⟩ = some (.int .i64 f) := hB7.cell 3
      have d4 : w7.cell? ⟨B, 4, none⟩ = some (.int .i64 (f + ad)) := hB7.cell 4
      have d5 : w7.cell? ⟨B, 5, none⟩ = some (.int .i64 lg) := hB7.cell 5
      have hl := HS.out.2.2
      rw [← hl] at hown7
      have hlen : l.length ≤ 1000000000 := by omega
      have hszw := hgg7.size
      have HL := Lib.hid hl
      have H7 := Lib.hid (And.intro hs7 hgg7)
      clear hB7 hs7 hgd hownd hown6 hgs hgg7 hB6 q6 q7 g7 qs hs6 hg6 qa hq2 q2 hl
      go_wp2_with (at_builtin; refine ap_st w7 ⟨K0, x, y, f, f + ad, lg⟩ rfl _ _ rfl w.heap.size u5 l rfl hown7 rfl hlen hszw ?_; intro v8 w8 hown8 hg8)
      have hs8 := ap_str H7.out.1 hown7 hg8 hbs
      have hgg8 := ap_grown H7.out.2 hown7 hg8 (Nat.le_refl _)
      have hj := HS.out.2.1
      have hst := HS.out.1
      rw [HK.out.1, HK.out.2.1, HK.out.2.2] at hst
      go_roundg (gk - 1)
      case measure => omega
      case rel =>
        refine ⟨j + 1, by omega, by go_num, ?_, ?_, hgg8⟩
        · rw [hst]
          have e : (l ++ [(⟨K0, x, y, f, f + ad, lg⟩ : St)]).length = j + 1 := by rw [List.length_append, HL.out]; rfl
          rw [e] at hown8
          exact hown8
        · rw [hst]; exact hs8
    · obtain rfl : j = n := by omega
      have hb := stRun_b L (t + 1) j
      have hMd := HM.out.1
      generalize stRun L (t + 1) j = S at *
      obtain ⟨T, l⟩ := S
      unfold stEnd at hMd
      simp only at hown hst hb hMd
      have hn := hb.2
      have hlen : l.length ≤ 1000000000 := by omega
      have hT := hb.1
      have HMM := Lib.hid (And.intro hMd hn)
      clear hMd hb hn
      go_wp2_with fail
      refine (flip_any bs L T 20 _ hst (by omega) (by omega)).mono ?_
      rintro e w2 ⟨rfl, hs2, hg2⟩
      have hown2 := hown.kept hg2 (own_ne hown hbs)
      have hgg2 := hg.trans hg2
      clear hown hst hg hg2
      by_cases hf : (nx L T 20 == 0) = true
      · rw [hf]
        have hMM := HMM.out.1
        rw [if_pos hf] at hMM
        obtain ⟨k, hk⟩ : ∃ k, pkS L (T + 1) stWs = k := ⟨_, rfl⟩
        obtain ⟨f, hfe⟩ : ∃ f, pk L (T + 2) [-1, 0, 9] = f := ⟨_, rfl⟩
        obtain ⟨to, hto⟩ : ∃ to, pk L (T + 3) [8, 1440, 1441] = to := ⟨_, rfl⟩
        obtain ⟨lg, hlg⟩ : ∃ lg, pk L (T + 4) [0, -1, 1441] = lg := ⟨_, rfl⟩
        rw [hk, hfe, hto, hlg] at hMM
        have HF := Lib.hid (And.intro hMM (And.intro hk (And.intro hfe (And.intro hto hlg))))
        clear hf hMM hk hfe hto hlg
        go_wp2_with fail
        refine (one_lit bs L (T + 1) stWs w2 hs2 (by omega) (by simp [stWs]) (by simp [stWs]) 9).mono ?_
        rw [HF.out.2.1]
        rintro e w3 ⟨rfl, hs3, hg3⟩
        have hown3 := hown2.kept hg3 (own_ne hown2 hbs)
        have hgg3 := hgg2.trans hg3
        clear hown2 hs2 hg3 hgg2
        go_wp2_with fail
        refine (pick_lit bs L (T + 1 + 1) [-1, 0, 9] w3 hs3 (by omega) (by simp) (by simp) 3).mono ?_
        rw [show pk L (T + 1 + 1) [-1, 0, 9] = f from HF.out.2.2.1]
        rintro e w4 ⟨rfl, hs4, hg4⟩
        have hown4 := hown3.kept hg4 (own_ne hown3 hbs)
        have hgg4 := hgg3.trans hg4
        clear hown3 hs3 hg4 hgg3
        go_wp2_with fail
        refine (pick_lit bs L (T + 1 + 1 + 1) [8, 1440, 1441] w4 hs4 (by omega) (by simp) (by simp) 3).mono ?_
        rw [show pk L (T + 1 + 1 + 1) [8, 1440, 1441] = to from HF.out.2.2.2.1]
        rintro e w5 ⟨rfl, hs5, hg5⟩
        have hown5 := hown4.kept hg5 (own_ne hown4 hbs)
        have hgg5 := hgg4.trans hg5
        clear hown4 hs4 hg5 hgg4
        go_wp2_with fail
        refine (pick_lit bs L (T + 1 + 1 + 1 + 1) [0, -1, 1441] w5 hs5 (by omega) (by simp) (by simp) 3).mono ?_
        rw [show pk L (T + 1 + 1 + 1 + 1) [0, -1, 1441] = lg from HF.out.2.2.2.2]
        rintro e w6 ⟨rfl, hs6, hg6⟩
        have hown6 := hown5.kept hg6 (own_ne hown5 hbs)
        have hgg6 := hgg5.trans hg6
        have hszw := hgg6.size
        have hn := HMM.out.2
        rw [← hn] at hown6
        have HN := Lib.hid hn
        clear hown5 hs5 hg6 hgg5 hn
        go_wp2_with (at_builtin; refine ap_st w6 ⟨k, 0, 0, f, to, lg⟩ rfl _ _ rfl w.heap.size u5 l rfl hown6 rfl hlen hszw ?_; intro v8 w8 hown8 hg8)
        have hs8 := ap_str hs6 hown6 hg8 hbs
        have hgg8 := ap_grown hgg6 hown6 hg8 (Nat.le_refl _)
        go_ret
        refine ⟨_, rfl, ?_, ?_, hgg8⟩
        · rw [← HF.out.1]; exact hown8
        · rw [← HF.out.1]; exact hs8
      · have hf' : (nx L T 20 == 0) = false := by simpa using hf
        rw [hf']
        have hMM := HMM.out.1
        rw [if_neg hf] at hMM
        have HF := Lib.hid hMM
        clear hf hf' hMM
        go_wp2_with fail
        go_ret
        refine ⟨_, rfl, ?_, ?_, hgg2⟩
        · rw [← HF.out]
          have hn := HMM.out.2
          show World.ownsRow _ _ _ _ _ l.length (stFlat l)
          rw [hn]; exact hown2
        · rw [← HF.out]; exact hs2

end Go.Proofs.YtcipidfbclohoaaDoor
