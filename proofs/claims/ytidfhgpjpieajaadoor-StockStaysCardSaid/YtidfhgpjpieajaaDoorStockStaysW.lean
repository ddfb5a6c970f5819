/- The walk of the law StockStays. -/
import Derived.Test.YtidfhgpjpieajaaDoorStkO
import Derived.Test.YtidfhgpjpieajaaDoorRefQ
import Derived.Test.YtidfhgpjpieajaaDoorMkC
import Derived.Test.YtidfhgpjpieajaaDoorEqL
import Derived.Test.YtidfhgpjpieajaaDoorStayP
import Derived.Test.YtidfhgpjpieajaaDoorStayQ
import Derived.Test.YtidfhgpjpieajaaDoorIn
namespace Go.Proofs.YtidfhgpjpieajaaDoor
open Go.RowKit

theorem own_none {w : World} {base e size n c m : Nat} {A : Option Addr} {xs : List Value} (h : w.ownsRow base e size (.slice A n c) m xs) : A = none → c = 0 := by
  intro ha
  rcases h.2 with ⟨e, _⟩ | ⟨g', cap', cur', e, _⟩
  · injection e
  · injection e with e1 _ _; rw [ha] at e1; cases e1

set_option maxRecDepth 100000 in
set_option maxHeartbeats 4000000 in
theorem stockStays_walk (a0 : Option Addr) (len0 cap0 : Nat) (z0 : List Int) (w : World) (w0 : InRow w a0 len0 cap0 z0) :
    Calls Tryd.prog 7 #[.slice a0 len0 cap0] w fun e w' => e = .returned (.bool true) ∧ w.grownBy w' none := by
  have hga := grown_alloc (grown_refl w) (.cells #[.slice a0 len0 cap0, .int .i64 0] 25)
  have hgb := grown_alloc hga (.cells #[.slice a0 len0 cap0, .int .i64 0] 25)
  have hsA0 := (str_new (Q := fun b => b < w.heap.size) w0 (grown_refl w) (fun b h => h)).grown (grown_alloc (grown_refl _) (.cells #[.slice a0 len0 cap0, .int .i64 0] 25)) (by simp)
  have hsB0 := str_new (Q := fun b => b < w.heap.size) w0 hga (fun b h => h)
  have hz1 : (w.alloc (.cells #[.slice a0 len0 cap0, .int .i64 0] 25)).heap.size = w.heap.size + 1 := by simp
  have hz2 : ((w.alloc (.cells #[.slice a0 len0 cap0, .int .i64 0] 25)).alloc (.cells #[.slice a0 len0 cap0, .int .i64 0] 25)).heap.size = w.heap.size + 2 := by simp
  rw [hz1] at hsB0
  clear w0 hga hz1
  generalize z0.take len0 = L at *
  go_enter Tryd.func7, Tryd.ntmps7
  go_wp2_with fail
  generalize ((w.alloc (.cells #[.slice a0 len0 cap0, .int .i64 0] 25)).alloc (.cells #[.slice a0 len0 cap0, .int .i64 0] 25)) = wB at *
  obtain ⟨P, hP⟩ : ∃ P : Nat → Prop, P = fun b => b < w.heap.size := ⟨_, rfl⟩
  rw [← hP] at hsA0 hsB0
  have hPne : ∀ b, P b → b ≠ w.heap.size := fun b h => by rw [hP] at h; exact Nat.ne_of_lt h
  clear hP
  obtain ⟨bs, hbs⟩ : ∃ bs, bs = w.heap.size := ⟨_, rfl⟩
  rw [← hbs] at hsA0 hsB0 hz2 hPne ⊢
  have HZ := Lib.hid hbs
  clear hbs
  refine (rightLots_any bs L 0 _ hsA0 (by omega)).mono ?_
  rintro e w3 ⟨vX, rfl, hX3, hsA3, hg3⟩
  have hsB3 := hsB0.other hg3 (by omega) hPne
  have gw3 := grown_below hgb hg3 (fun j hj => .inl (by cases hj; have := HZ.out; omega))
  have hsz3 := hg3.size
  go_wp2_with fail
  refine (rightLots_any (bs + 1) L 0 _ hsB3 (by omega)).mono ?_
  rintro e w4 ⟨vY, rfl, hY4, hsB4, hg4⟩
  obtain ⟨hXok, hXn, ht1⟩ := rightLots_ok L 0
  generalize (rightLots L 0).2 = X at *
  generalize (rightLots L 0).1 = t1 at *
  have hsA4 := hsA3.grown hg4 (by intro j e; injection e with e; omega)
  have hX4 := hX3.kept hg4 (own_ne hX3 (by omega))
  have gw4 := grown_below gw3 hg4 (fun j hj => .inl (by cases hj; have := HZ.out; omega))
  have hsz4 := hg4.size
  clear hX3 hsA3 hsB3 hg3 hg4 gw3 hsA0 hsB0 hgb
  go_wp2_with fail
  refine (coil_any bs L t1 _ hsA4 (by omega)).mono ?_
  rintro e w5 ⟨vC, rfl, hC5, hsA5, hg5⟩
  have hsB5 := hsB4.other hg5 (by omega) hPne
  have gw5 := grown_below gw4 hg5 (fun j hj => .inl (by cases hj; have := HZ.out; omega))
  have hX5 := hX4.kept hg5 (own_ne hX4 (by omega))
  have hY5 := hY4.kept hg5 (own_ne hY4 (by omega))
  have hsz5 := hg5.size
  go_wp2_with fail
  refine (coil_any (bs + 1) L t1 _ hsB5 (by omega)).mono ?_
  rintro e w6 ⟨vD, rfl, hD6, hsB6, hg6⟩
  obtain ⟨ht2, hCn⟩ := coilM_bound L t1
  generalize (coilM L t1).2 = C at *
  generalize (coilM L t1).1 = t2 at *
  have hsA6 := hsA5.grown hg6 (by intro j e; injection e with e; omega)
  have gw6 := grown_below gw5 hg6 (fun j hj => .inl (by cases hj; have := HZ.out; omega))
  have hX6 := hX5.kept hg6 (own_ne hX5 (by omega))
  have hY6 := hY5.kept hg6 (own_ne hY5 (by omega))
  have hC6 := hC5.kept hg6 (own_ne hC5 (by omega))
  have hsz6 := hg6.size
  obtain ⟨pr, most, ps⟩ := C
  simp only at *
  clear hX4 hY4 hX5 hY5 hC5 hsA4 hsB4 hsA5 hsB5 hg5 hg6 gw4 gw5
  obtain ⟨n, hn⟩ : ∃ n, ps.length = n := ⟨_, rfl⟩
  obtain ⟨nX, hnX⟩ : ∃ n, X.length = n := ⟨_, rfl⟩
  rw [hn] at hC6 hD6 hCn
  rw [hnX] at hX6 hY6 hXn
  have HLn := Lib.hid (And.intro hn hnX)
  clear hn hnX
  obtain ⟨AX, cX, rfl, _, _, rX, hbX⟩ := Rd.of_own hX6
  obtain ⟨AY, cY, rfl, _, _, rY, hbY⟩ := Rd.of_own hY6
  obtain ⟨AC, cC, rfl, _, _, rC, hbC⟩ := Rd.of_own hC6
  obtain ⟨AD, cD, rfl, _, _, rD, hbD⟩ := Rd.of_own hD6
  have hfX : ∀ a, AX = some a → bs + 2 ≤ a.block := fun a e => by have := hbX a e; omega
  have hfY : ∀ a, AY = some a → bs + 2 ≤ a.block := fun a e => by have := hbY a e; omega
  have hfC : ∀ a, AC = some a → bs + 2 ≤ a.block := fun a e => by have := hbC a e; omega
  have hfD : ∀ a, AD = some a → bs + 2 ≤ a.block := fun a e => by have := hbD a e; omega
  have hgA : bs + 2 ≤ w6.heap.size := by omega
  clear hbX hbY hbC hbD
  have hnC : AC = none → cC = 0 := own_none hC6
  go_wp2_with fail
  have bC := (Blk.new w6 58 #[.string pr, .int .i64 most, .slice AC n cC]).alloc (.cells #[.string pr, .int .i64 most, .slice AD n cD] 58)
  have bD := Blk.new (w6.alloc (.cells #[.string pr, .int .i64 most, .slice AC n cC] 58)) 58 #[.string pr, .int .i64 most, .slice AD n cD]
  rw [show (w6.alloc (.cells #[.string pr, .int .i64 most, .slice AC n cC] 58)).heap.size = w6.heap.size + 1 from by simp] at bD
  have h6K := grown_alloc (grown_alloc (grown_refl w6) (.cells #[.string pr, .int .i64 most, .slice AC n cC] 58)) (.cells #[.string pr, .int .i64 most, .slice AD n cD] 58)
  have hsA := hsA6.grown h6K (by simp)
  have hsB := hsB6.grown h6K (by simp)
  have gK := gw6.trans h6K
  generalize ((w6.alloc (.cells #[.string pr, .int .i64 most, .slice AC n cC] 58)).alloc (.cells #[.string pr, .int .i64 most, .slice AD n cD] 58)) = wK at *
  generalize w6.heap.size = gA at *
  have rX := rX.grown h6K
  have rY := rY.grown h6K
  have rC := rC.grown h6K
  have rD := rD.grown h6K
  clear hX6 hY6 hC6 hD6 hsA6 hsB6 gw6 h6K hsz3 hsz4 hsz5 hsz6
  have hszK := bD.lt
  refine (pieces_any bs t2 L _ hsA (by omega)).mono ?_
  rintro e w7 ⟨vP, rfl, hP7, hsA7, hg7⟩
  have hsB7 := hsB.other hg7 (by omega) hPne
  have gw7 := grown_below gK hg7 (fun j hj => .inl (by cases hj; have := HZ.out; omega))
  have far7 : ∀ {A : Option Addr}, (∀ a, A = some a → bs + 2 ≤ a.block) → ∀ a, A = some a → some a.block ≠ some bs := fun h a e f => by have := h a e; injection f; omega
  have rX := rX.grown_ hg7 (far7 hfX)
  have rY := rY.grown_ hg7 (far7 hfY)
  have rC := rC.grown_ hg7 (far7 hfC)
  have rD := rD.grown_ hg7 (far7 hfD)
  have bC := bC.grown hg7 (fun f => by injection f; omega)
  have bD := bD.grown hg7 (fun f => by injection f; omega)
  have hsz7 := hg7.size
  go_wp2_with fail
  refine (pieces_any (bs + 1) t2 L _ hsB7 (by omega)).mono ?_
  rintro e w8 ⟨vQ, rfl, hQ8, _, hg8⟩
  obtain ⟨ht3, hPn⟩ := pcsM_bound L t2
  have hPl := pcsM_lots L t2
  generalize (pcsM L t2).2 = pp at *
  generalize (pcsM L t2).1 = t3 at *
  have gw8 := grown_below gw7 hg8 (fun j hj => .inl (by cases hj; have := HZ.out; omega))
  have far8 : ∀ {A : Option Addr}, (∀ a, A = some a → bs + 2 ≤ a.block) → ∀ a, A = some a → some a.block ≠ some (bs + 1) := fun h a e f => by have := h a e; injection f; omega
  have rX := rX.grown_ hg8 (far8 hfX)
  have rY := rY.grown_ hg8 (far8 hfY)
  have rC := rC.grown_ hg8 (far8 hfC)
  have rD := rD.grown_ hg8 (far8 hfD)
  have bC := bC.grown hg8 (fun f => by injection f; omega)
  have bD := bD.grown hg8 (fun f => by injection f; omega)
  have hP8 := hP7.kept hg8 (own_ne hP7 (by omega))
  obtain ⟨nP, hnP⟩ : ∃ n, pp.length = n := ⟨_, rfl⟩
  rw [hnP] at hP8 hQ8 hPn
  obtain ⟨AP, cP, rfl, _, _, rP, _⟩ := Rd.of_own hP8
  obtain ⟨AQ, cQ, rfl, _, _, rQ, _⟩ := Rd.of_own hQ8
  have hnPn : AP = none → cP = 0 := own_none hP8
  clear hP7 hP8 hQ8 hsA hsB hsA7 hsB7 hg7 hg8 gK gw7 far7 far8 hfX hfY hfC hfD hsz7 hszK
  go_wp2_with fail
  have hsp : splF X 6 = 0 := by unfold splF; rw [if_neg (by omega), if_neg (by decide)]
  refine (spoil_ok AX nX cX X 6 w8 rX hsp).mono ?_
  rintro e w9 ⟨vR, vG, rfl, hR9, _, hg9⟩
  obtain ⟨AR, cR, rfl, _, _, _, _⟩ := Rd.of_own hR9
  have HK := Lib.hid (And.intro rX (And.intro rY (And.intro rC (And.intro rD (And.intro rP (And.intro rQ (And.intro bC (And.intro bD gw8))))))))
  have HF := Lib.hid (And.intro hXok (And.intro hPl (And.intro hnP (And.intro hnC hnPn))))
  clear rX rY rC rD rP rQ bC bD gw8 hXok hPl hnP hnC hnPn hsp ht1 ht2 ht3 hz2 hPne
  go_wp2_with fail
  go_loopg [56] nX (fun k i wr => ∃ (j : Nat) (Y : List Lot), k + j = nX ∧ i = .int .i64 j ∧ wr.ownsRow w8.heap.size 51 4 (.slice AR nX cR) nX (lotFlat Y) ∧ w8.grownBy wr none)
  case atStart => exact ⟨0, _, by omega, rfl, hR9, hg9⟩
  case round =>
    clear hR9 hg9
    obtain ⟨j, Y, hj, rfl, hown, hg⟩ := hrel
    by_cases hlt : j < nX
    · obtain ⟨g, c, hv, hgb, _⟩ := hown.form (by omega)
      injection hv with hA _ hc
      subst hA hc
      have hyl : Y.length = nX := by have := hown.1; rw [lotFlat_len] at this; omega
      obtain ⟨y, hy⟩ : ∃ y, Y[j]? = some y := ⟨_, List.getElem?_eq_getElem (by omega)⟩
      have e0 := own_lot3 hown hy hlt
      have f0 := hown.frozenAt (j * 4 + 3)
      have t1 := (hown.stored (j * 4 + 3) (.int .i64 (-3))).1
      rw [lotFlat_set hy] at t1
      have hlt' : (j : Int) < (nX : Int) := by omega
      have HJ := Lib.hid (And.intro hj t1)
      clear hj t1 hown hy hyl
      go_wp2_with fail
      obtain ⟨hj, t1⟩ := HJ.out
      go_roundg (gk - 1)
      case measure => omega
      case rel => exact ⟨j + 1, _, by omega, by go_num, t1, grown_set (p := ⟨g, j * 4 + 3, none⟩) hg (.inl hgb) _⟩
    · obtain rfl : j = nX := by omega
      clear hown hlt hj
      obtain ⟨rX, rY, rC, rD, rP, rQ, bC, bD, gw8⟩ := HK.out
      have rX := rX.grown hg
      have rY := rY.grown hg
      have rC := rC.grown hg
      have rD := rD.grown hg
      have rP := rP.grown hg
      have rQ := rQ.grown hg
      have bC := bC.grown hg (by simp)
      have bD := bD.grown hg (by simp)
      have gwr := gw8.trans hg
      clear gw8 hg HK
      obtain ⟨hXok, hPl, hnP, hnC, hnPn⟩ := HF.out
      obtain ⟨hn, hnX⟩ := HLn.out
      have hcf : ∀ wz, wr.grownBy wz none → Calls Tryd.prog 47 #[.agg #[.string pr, .int .i64 most, .slice AC n cC]] wz fun e w' => e = .returned (.int .i64 (coilF ⟨pr, most, ps⟩)) ∧ wz.grownBy w' none := by
        intro wz hz
        have h := refCoilF_any ⟨pr, most, ps⟩ AC cC wz (by show Rd wz 2 AC ps.length _; rw [hn]; exact rC.grown hz) (by show ps.length ≤ _; omega)
        simp only [hn] at h
        exact h
      have hpf : ∀ wz, wr.grownBy wz none → Calls Tryd.prog 48 #[.agg #[.string pr, .int .i64 most, .slice AC n cC], .slice AX j cX, .slice AP nP cP] wz fun e w' => e = .returned (.int .i64 (pushF X ⟨pr, most, ps⟩ pp)) ∧ wz.grownBy w' none := by
        intro wz hz
        have h := pushFault_any X ⟨pr, most, ps⟩ pp AC AX AP cC cX nP cP wz (by show Rd wz 2 AC ps.length _; rw [hn]; exact rC.grown hz) (by show ps.length ≤ _; omega) (by rw [hnX]; exact rX.grown hz) (rP.grown hz) (by omega)
        simp only [hn, hnX] at h
        exact h
      have hszr := bD.lt
      have kC := bC.three
      have HT := Lib.hid (And.intro rX (And.intro rY (And.intro rC (And.intro rD (And.intro rP (And.intro rQ (And.intro bC (And.intro bD gwr))))))))
      have HQ := Lib.hid (And.intro hcf hpf)
      clear rX rY rC rD rP rQ bD gwr hcf hpf hnX hXok hPl
      obtain ⟨eC, heC⟩ : ∃ e, coilF ⟨pr, most, ps⟩ = e := ⟨_, rfl⟩
      obtain ⟨eP, heP⟩ : ∃ e, pushF X ⟨pr, most, ps⟩ pp = e := ⟨_, rfl⟩
      rw [heC, heP] at HQ
      have HE := Lib.hid (And.intro heC heP)
      clear heC heP
      have hcase : (eC = 0 ∧ eP = 0) ∨ (eC = 0 ∧ (eP == 0) = false) ∨ (eC == 0) = false := by
        by_cases h1 : eC = 0
        · by_cases h2 : eP = 0
          · exact .inl ⟨h1, h2⟩
          · exact .inr (.inl ⟨h1, by simpa using h2⟩)
        · exact .inr (.inr (by simpa using h1))
      have z0 : ((0 : Int) == 0) = true := rfl
      rcases hcase with ⟨hc, hp⟩ | ⟨hc, hp⟩ | hc
      rotate_left
      subst hc
      go_wp2_with fail
      refine (HQ.out.1 _ (grown_refl wr)).mono ?_
      rintro e w10 ⟨rfl, hg10⟩
      have kC := (bC.grown hg10 (by simp)).three
      go_wp2_with fail
      refine (HQ.out.2 _ hg10).mono ?_
      rintro e w11 ⟨rfl, hg11⟩
      have hgT := hg10.trans hg11
      clear hg10 hg11
      go_wp2_with fail
      rotate_left
      go_wp2_with fail
      refine (HQ.out.1 _ (grown_refl wr)).mono ?_
      rintro e w11 ⟨rfl, hgT⟩
      go_wp2_with fail
      rotate_left
      focus
        subst hc hp
        go_wp2_with fail
        refine (HQ.out.1 _ (grown_refl wr)).mono ?_
        rintro e w10 ⟨rfl, hg10⟩
        have kC := (bC.grown hg10 (by simp)).three
        go_wp2_with fail
        refine (HQ.out.2 _ hg10).mono ?_
        rintro e wq1 ⟨rfl, hg11⟩
        have hg11 := hg10.trans hg11
        have kC := (bC.grown hg11 (by simp)).three
        clear hg10
        go_wp2_with fail
        refine (push_some X pr most ps pp AC AX AP cC cX n j nP cP HLn.out.1 HLn.out.2 wq1 (HT.out.2.2.1.grown hg11) (HT.out.1.grown hg11) (HT.out.2.2.2.2.1.grown hg11) (by omega) HF.out.2.2.2.1 HF.out.2.2.2.2 HF.out.2.1 HE.out.2).mono ?_
        rintro e w12 ⟨A1, k1, c1, Z1, rfl, ho1, hg12⟩
        have b1 := Blk.new w12 58 #[.string pr, .int .i64 most, .slice A1 k1 c1]
        have ho1 := ho1.alloc (.cells #[.string pr, .int .i64 most, .slice A1 k1 c1] 58)
        have hgb := grown_alloc hg12 (.cells #[.string pr, .int .i64 most, .slice A1 k1 c1] 58)
        have kC := (bC.grown (hg11.trans hgb) (by simp)).three
        obtain ⟨g15, hg15⟩ : ∃ g, w12.heap.size = g := ⟨_, rfl⟩
        have hz13 : (w12.alloc (.cells #[.string pr, .int .i64 most, .slice A1 k1 c1] 58)).heap.size = g15 + 1 := by simp [hg15]
        rw [hg15] at b1
        clear hg12
        go_wp2_with fail
        generalize w12.alloc (.cells #[.string pr, .int .i64 most, .slice A1 k1 c1] 58) = w13 at *
        refine (sell_some pr most ps AC cC n HLn.out.1 w13 (HT.out.2.2.1.grown (hg11.trans hgb)) HE.out.1).mono ?_
        rintro e w14 ⟨A2, k2, c2, Z2, vS, rfl, ho2, hg14⟩
        have hap : Apart (.slice A1 k1 c1) (.slice A2 k2 c2) := fun g h1 h2 => by
          have := (ho1.lt g h1).2
          have := (ho2.lt g h2).1
          omega
        have hbs := hgb.size
        have ho1 := (ho1.kept hg14 (Classical.em _)).alloc (.cells #[.string pr, .int .i64 most, .slice A2 k2 c2] 58)
        have ho2 := (own_mono2 ho2 hbs).alloc (.cells #[.string pr, .int .i64 most, .slice A2 k2 c2] 58)
        have b1 := (b1.grown hg14 (by simp)).alloc (.cells #[.string pr, .int .i64 most, .slice A2 k2 c2] 58)
        have b2 := Blk.new w14 58 #[.string pr, .int .i64 most, .slice A2 k2 c2]
        have hgc := grown_alloc (hgb.trans hg14) (.cells #[.string pr, .int .i64 most, .slice A2 k2 c2] 58)
        obtain ⟨g17, hg17⟩ : ∃ g, w14.heap.size = g := ⟨_, rfl⟩
        have hz15 : (w14.alloc (.cells #[.string pr, .int .i64 most, .slice A2 k2 c2] 58)).heap.size = g17 + 1 := by simp [hg17]
        rw [hg17] at b2
        have k1' := b1.three
        have k2' := b2.three
        have B6 := Blk.new (w14.alloc (.cells #[.string pr, .int .i64 most, .slice A2 k2 c2] 58)) 58 #[.string pr, .int .i64 most, .slice A1 k1 c1, .string pr, .int .i64 most, .slice A2 k2 c2]
        have HT2 : TwoC wq1 ((w14.alloc (.cells #[.string pr, .int .i64 most, .slice A2 k2 c2] 58)).alloc (.cells #[.string pr, .int .i64 most, .slice A1 k1 c1, .string pr, .int .i64 most, .slice A2 k2 c2] 58)) (g17 + 1) pr most A1 k1 c1 A2 k2 c2 :=
          ⟨by rw [hz15] at B6; exact B6, ⟨_, ho1.alloc _⟩, ⟨_, ho2.alloc _⟩, hap, grown_alloc hgc _⟩
        have HGG := Lib.hid hg11
        clear ho1 ho2 b1 b2 hgc hg14 hgb B6 hap bC kC hg11
        go_wp2_with fail
        generalize (w14.alloc (.cells #[.string pr, .int .i64 most, .slice A2 k2 c2] 58)) = w15 at *
        try rw [hz15]
        try rw [hg17]
        obtain ⟨B, hBB⟩ : ∃ B, g17 + 1 = B := ⟨_, rfl⟩
        rw [hBB] at HT2 ⊢
        clear k1' k2' hz15 hBB
        go_loopg [97] 2 (fun k i wq => ∃ q : Nat, k + q = 2 ∧ i = .int .i64 q ∧ TwoC wq1 wq B pr most A1 k1 c1 A2 k2 c2)
        case atStart => exact ⟨0, by omega, rfl, HT2⟩
        case round =>
          clear HT2
          obtain ⟨q, hq, rfl, H⟩ := hrel
          have hqc : q = 0 ∨ q = 1 ∨ q = 2 := by omega
          have x0 : wr.cell? ⟨B, 0, none⟩ = some (.string pr) := H.bx.cell 0
          have x1 : wr.cell? ⟨B, 1, none⟩ = some (.int .i64 most) := H.bx.cell 1
          have x2 : wr.cell? ⟨B, 2, none⟩ = some (.slice A1 k1 c1) := H.bx.cell 2
          have x3 : wr.cell? ⟨B, 3, none⟩ = some (.string pr) := H.bx.cell 3
          have x4 : wr.cell? ⟨B, 4, none⟩ = some (.int .i64 most) := H.bx.cell 4
          have x5 : wr.cell? ⟨B, 5, none⟩ = some (.slice A2 k2 c2) := H.bx.cell 5
          rcases hqc with rfl | rfl | rfl
          · simp only [Int.natCast_zero]
            have hkb : k1 ≤ 9223372036854775807 := by
              obtain ⟨Z, hZ⟩ := H.o1
              obtain ⟨A', c', hv, h1, h2, _, _⟩ := Rd.of_own hZ
              unfold maxLen at h2
              omega
            have bX := Blk.new wr 58 #[.string pr, .int .i64 most, .slice A1 k1 c1]
            have HX := H.alloc (.cells #[.string pr, .int .i64 most, .slice A1 k1 c1] 58)
            have kX := bX.three
            generalize gk = ko at *
            obtain ⟨xb, hxb⟩ : ∃ x, wr.heap.size = x := ⟨_, rfl⟩
            rw [hxb] at bX kX
            have Hq := Lib.hid hq
            clear H hq
            go_wp2_with fail
            try rw [hxb]
            go_loopg [104] k1 (fun k i wz => ∃ r : Nat, k + r = k1 ∧ i = .int .i64 r ∧ TwoC wq1 wz B pr most A1 k1 c1 A2 k2 c2 ∧ Blk wz xb 58 #[.string pr, .int .i64 most, .slice A1 k1 c1])
            case atStart => exact ⟨0, by omega, rfl, HX, bX⟩
            case round =>
              clear HX bX kX
              obtain ⟨r, hr, rfl, H, bX⟩ := hrel
              have kX := bX.three
              by_cases hlr : r < k1
              · obtain ⟨g, hAe, ⟨v, hv⟩, hf, H', hx⟩ := H.set1 hlr
                subst hAe
                have hlr' : (r : Int) < (k1 : Int) := by omega
                have HJ := Lib.hid (And.intro hr (And.intro H' (hx _ _ bX)))
                clear hr H H' hx bX
                go_wp2_with fail
                obtain ⟨hr, H', hx⟩ := HJ.out
                go_roundg (gk - 1)
                case measure => omega
                case rel => exact ⟨r + 1, by omega, by go_num, H', hx⟩
              · obtain rfl : r = k1 := by omega
                have HH := Lib.hid H
                clear H bX hr
                go_wp2_with fail
                have hq := Hq.out
                go_roundg (ko - 1)
                case measure => omega
                case rel => exact ⟨1, by omega, by go_num, HH.out⟩
          · simp only [Int.natCast_one]
            have hkb : k2 ≤ 9223372036854775807 := by
              obtain ⟨Z, hZ⟩ := H.o2
              obtain ⟨A', c', hv, h1, h2, _, _⟩ := Rd.of_own hZ
              unfold maxLen at h2
              omega
            have bX := Blk.new wr 58 #[.string pr, .int .i64 most, .slice A2 k2 c2]
            have HX := H.alloc (.cells #[.string pr, .int .i64 most, .slice A2 k2 c2] 58)
            have kX := bX.three
            generalize gk = ko at *
            obtain ⟨xb, hxb⟩ : ∃ x, wr.heap.size = x := ⟨_, rfl⟩
            rw [hxb] at bX kX
            have Hq := Lib.hid hq
            clear H hq
            go_wp2_with fail
            try rw [hxb]
            go_loopg [104] k2 (fun k i wz => ∃ r : Nat, k + r = k2 ∧ i = .int .i64 r ∧ TwoC wq1 wz B pr most A1 k1 c1 A2 k2 c2 ∧ Blk wz xb 58 #[.string pr, .int .i64 most, .slice A2 k2 c2])
            case atStart => exact ⟨0, by omega, rfl, HX, bX⟩
            case round =>
              clear HX bX kX
              obtain ⟨r, hr, rfl, H, bX⟩ := hrel
              have kX := bX.three
              by_cases hlr : r < k2
              · obtain ⟨g, hAe, ⟨v, hv⟩, hf, H', hx⟩ := H.set2 hlr
                subst hAe
                have hlr' : (r : Int) < (k2 : Int) := by omega
                have HJ := Lib.hid (And.intro hr (And.intro H' (hx _ _ bX)))
                clear hr H H' hx bX
                go_wp2_with fail
                obtain ⟨hr, H', hx⟩ := HJ.out
                go_roundg (gk - 1)
                case measure => omega
                case rel => exact ⟨r + 1, by omega, by go_num, H', hx⟩
              · obtain rfl : r = k2 := by omega
                have HH := Lib.hid H
                clear H bX hr
                go_wp2_with fail
                have hq := Hq.out
                go_roundg (ko - 1)
                case measure => omega
                case rel => exact ⟨2, by omega, by go_num, HH.out⟩
          · go_wp2_with fail
            have hgT := HGG.out.trans H.gr
            obtain ⟨w11, hw11⟩ : ∃ W, W = wr := ⟨_, rfl⟩
            rw [← hw11] at hgT ⊢
            clear H x0 x1 x2 x3 x4 x5 HQ hw11
            have hFind : Enters Tryd.prog 127 := enters_of Tryd.func127 (by kernel_rfl) rfl
            refine (newStore_any w11).mono ?_
            rintro e w12 ⟨g, m, rfl, hst⟩
            go_wp2_with fail
            generalize gk = ko at *
            go_loopg [119] j (fun k i wq => ∃ (q : Nat) (v : Value) (f : ByteArray → Option Value), k + q = j ∧ i = .int .i64 q ∧ StoreSt w11 wq g m v (X.take q) f)
            case atStart => exact ⟨0, _, _, by omega, rfl, hst⟩
            case round =>
              clear hst
              obtain ⟨q, v, f, hq, rfl, H⟩ := hrel
              by_cases hlt : q < j
              · obtain ⟨b, off, rfl, hb, t, ht, c0, c1, c2, c3⟩ := lot_cells ((HT.out.1.grown hgT).grown H.gr) hlt
                obtain ⟨f1, f2, f3, f4, f5⟩ := take_facts HF.out.1 ht
                have htk := takeEnd_any w11 _ g m v (X.take q) f t (H.alloc (.cells #[.string t.id, .string t.pr, .int .i64 t.ex, .int .i64 t.mn] 51)) f1 f2 f3 f4 hFind
                have HJ := Lib.hid (And.intro hq (And.intro htk f5))
                have hlt' : (q : Int) < (j : Int) := by omega
                clear hq htk f1 f2 f3 f4 f5 H ht
                go_wp2_with fail
                refine HJ.out.2.1.mono ?_
                rintro e w13 ⟨rfl, v', f', H'⟩
                rw [← HJ.out.2.2] at H'
                go_wp2_with fail
                have hq := HJ.out.1
                go_roundg (gk - 1)
                case measure => omega
                case rel => exact ⟨q + 1, v', f', by omega, by go_num, H'⟩
              · obtain rfl : q = j := by omega
                have hXl := HLn.out.2
                rw [List.take_of_length_le (by omega)] at H
                obtain ⟨Av, cv, rfl, _, _, rv, _⟩ := Rd.of_own H.own
                have hbx := H.bx
                rw [hXl] at rv hbx
                have hLo := fun wz (hz : wr.grownBy wz none) => storeLots_any Av q cv g (.map (some m)) X wz (hbx.grown hz (by simp)) (rv.grown hz) (by omega)
                have hl0 := hLo wr (grown_refl wr)
                have HS := Lib.hid (And.intro hLo H.gr)
                clear H hLo hbx rv
                go_wp2_with fail
                refine hl0.mono ?_
                rintro e w14 ⟨vK, rfl, hK, hg14⟩
                obtain ⟨AK, cK, rfl, _, _, _, _⟩ := Rd.of_own hK
                clear hl0
                go_wp2_with fail
                generalize gk = ko2 at *
                obtain ⟨bK, hbK⟩ : ∃ b, wr.heap.size = b := ⟨_, rfl⟩
                rw [hbK] at hK
                have HB := Lib.hid hbK
                clear hbK
                go_loopg [132] q (fun k i wq => ∃ (r : Nat) (Y2 : List Lot), k + r = q ∧ i = .int .i64 r ∧ wq.ownsRow bK 51 4 (.slice AK q cK) q (lotFlat Y2) ∧ wr.grownBy wq none)
                case atStart => exact ⟨0, _, by omega, rfl, hK, hg14⟩
                case round =>
                  clear hK hg14
                  obtain ⟨r, Y2, hr, rfl, hown, hg⟩ := hrel
                  by_cases hlt : r < q
                  · obtain ⟨gg, c, hv, hgb, _⟩ := hown.form (by omega)
                    injection hv with hA _ hc
                    subst hA hc
                    have hyl : Y2.length = q := by have := hown.1; rw [lotFlat_len] at this; omega
                    obtain ⟨y, hy⟩ : ∃ y, Y2[r]? = some y := ⟨_, List.getElem?_eq_getElem (by omega)⟩
                    have e0 := own_lot3 hown hy hlt
                    have f0 := hown.frozenAt (r * 4 + 3)
                    have t1 := (hown.stored (r * 4 + 3) (.int .i64 (-3))).1
                    rw [lotFlat_set hy] at t1
                    have hlt' : (r : Int) < (q : Int) := by omega
                    have hset := grown_set (p := ⟨gg, r * 4 + 3, none⟩) hg (.inl (by rw [HB.out]; exact hgb)) (.int .i64 (-3))
                    have HJ := Lib.hid (And.intro hr (And.intro t1 hset))
                    clear hr t1 hown hy hyl hset
                    go_wp2_with fail
                    obtain ⟨hr, t1, hset⟩ := HJ.out
                    go_roundg (gk - 1)
                    case measure => omega
                    case rel => exact ⟨r + 1, _, by omega, by go_num, t1, hset⟩
                  · obtain rfl : r = q := by omega
                    have G := (hgT.trans HS.out.2).trans hg
                    have kC := (HT.out.2.2.2.2.2.2.1.grown G (by simp)).three
                    have HG := Lib.hid (And.intro G hg)
                    clear G hg hown hlt hr
                    have hsc : ∀ wz (_ : Rd wz 2 AC n (pcFlat ps)) (_ : Rd wz 2 AD n (pcFlat ps)), Calls Tryd.prog 63 #[.agg #[.string pr, .int .i64 most, .slice AC n cC], .agg #[.string pr, .int .i64 most, .slice AD n cD]] wz fun e w' => e = .returned (.bool true) ∧ wz.grownBy w' none := by
                      intro wz h1 h2
                      have hn' := HLn.out.1
                      have h := sameCoil_same ⟨pr, most, ps⟩ AC AD cC cD wz (by show Rd wz 2 AC ps.length _; rw [hn']; exact h1) (by show Rd wz 2 AD ps.length _; rw [hn']; exact h2) (by show ps.length ≤ _; omega)
                      simp only [hn'] at h
                      exact h
                    have HSC := Lib.hid hsc
                    clear hsc
                    go_wp2_with fail
                    refine (stocksKeep_any _).mono ?_
                    rintro e w20 ⟨rfl, hg20⟩
                    have G20 := HG.out.1.trans hg20
                    go_wp2_with fail
                    refine (equalLot_same AX AY r cX cY X w20 (HT.out.1.grown G20) (HT.out.2.1.grown G20) (by omega)).mono ?_
                    rintro e w21 ⟨rfl, hg21⟩
                    have G21 := G20.trans hg21
                    have kC := (HT.out.2.2.2.2.2.2.1.grown G21 (by simp)).three
                    have kD := (HT.out.2.2.2.2.2.2.2.1.grown G21 (by simp)).three
                    go_wp2_with fail
                    refine (HSC.out w21 (HT.out.2.2.1.grown G21) (HT.out.2.2.2.1.grown G21)).mono ?_
                    rintro e w22 ⟨rfl, hg22⟩
                    have G22 := G21.trans hg22
                    clear kC kD
                    go_wp2_with fail
                    refine (equalPc_same AP AQ nP cP cQ pp w22 (HT.out.2.2.2.2.1.grown G22) (HT.out.2.2.2.2.2.1.grown G22) (by omega)).mono ?_
                    rintro e w23 ⟨rfl, hg23⟩
                    have G23 := G22.trans hg23
                    have S23 := (((HG.out.2.trans hg20).trans hg21).trans hg22).trans hg23
                    go_wp2_with fail
                    refine (HS.out.1 w23 S23).mono ?_
                    rintro e w24 ⟨vZ, rfl, hZ24, hg24⟩
                    obtain ⟨AZ, cZ, rfl, _, _, rZ, _⟩ := Rd.of_own hZ24
                    have G24 := G23.trans hg24
                    go_wp2_with fail
                    refine (equalLot_same AZ AY r cZ cY X w24 rZ (HT.out.2.1.grown G24) (by omega)).mono ?_
                    rintro e w25 ⟨rfl, hg25⟩
                    go_wp2_with fail
                    go_ret
                    exact ⟨rfl, HT.out.2.2.2.2.2.2.2.2.trans (G24.trans hg25)⟩
      all_goals (
        clear HQ bC kC
        have hFind : Enters Tryd.prog 127 := enters_of Tryd.func127 (by kernel_rfl) rfl
        refine (newStore_any w11).mono ?_
        rintro e w12 ⟨g, m, rfl, hst⟩
        go_wp2_with fail
        generalize gk = ko at *
        go_loopg [119] j (fun k i wq => ∃ (q : Nat) (v : Value) (f : ByteArray → Option Value), k + q = j ∧ i = .int .i64 q ∧ StoreSt w11 wq g m v (X.take q) f)
        case atStart => exact ⟨0, _, _, by omega, rfl, hst⟩
        case round =>
          clear hst
          obtain ⟨q, v, f, hq, rfl, H⟩ := hrel
          by_cases hlt : q < j
          · obtain ⟨b, off, rfl, hb, t, ht, c0, c1, c2, c3⟩ := lot_cells ((HT.out.1.grown hgT).grown H.gr) hlt
            obtain ⟨f1, f2, f3, f4, f5⟩ := take_facts HF.out.1 ht
            have htk := takeEnd_any w11 _ g m v (X.take q) f t (H.alloc (.cells #[.string t.id, .string t.pr, .int .i64 t.ex, .int .i64 t.mn] 51)) f1 f2 f3 f4 hFind
            have HJ := Lib.hid (And.intro hq (And.intro htk f5))
            have hlt' : (q : Int) < (j : Int) := by omega
            clear hq htk f1 f2 f3 f4 f5 H ht
            go_wp2_with fail
            refine HJ.out.2.1.mono ?_
            rintro e w13 ⟨rfl, v', f', H'⟩
            rw [← HJ.out.2.2] at H'
            go_wp2_with fail
            have hq := HJ.out.1
            go_roundg (gk - 1)
            case measure => omega
            case rel => exact ⟨q + 1, v', f', by omega, by go_num, H'⟩
          · obtain rfl : q = j := by omega
            have hXl := HLn.out.2
            rw [List.take_of_length_le (by omega)] at H
            obtain ⟨Av, cv, rfl, _, _, rv, _⟩ := Rd.of_own H.own
            have hbx := H.bx
            rw [hXl] at rv hbx
            have hLo := fun wz (hz : wr.grownBy wz none) => storeLots_any Av q cv g (.map (some m)) X wz (hbx.grown hz (by simp)) (rv.grown hz) (by omega)
            have hl0 := hLo wr (grown_refl wr)
            have HS := Lib.hid (And.intro hLo H.gr)
            clear H hLo hbx rv
            go_wp2_with fail
            refine hl0.mono ?_
            rintro e w14 ⟨vK, rfl, hK, hg14⟩
            obtain ⟨AK, cK, rfl, _, _, _, _⟩ := Rd.of_own hK
            clear hl0
            go_wp2_with fail
            generalize gk = ko2 at *
            obtain ⟨bK, hbK⟩ : ∃ b, wr.heap.size = b := ⟨_, rfl⟩
            rw [hbK] at hK
            have HB := Lib.hid hbK
            clear hbK
            go_loopg [132] q (fun k i wq => ∃ (r : Nat) (Y2 : List Lot), k + r = q ∧ i = .int .i64 r ∧ wq.ownsRow bK 51 4 (.slice AK q cK) q (lotFlat Y2) ∧ wr.grownBy wq none)
            case atStart => exact ⟨0, _, by omega, rfl, hK, hg14⟩
            case round =>
              clear hK hg14
              obtain ⟨r, Y2, hr, rfl, hown, hg⟩ := hrel
              by_cases hlt : r < q
              · obtain ⟨gg, c, hv, hgb, _⟩ := hown.form (by omega)
                injection hv with hA _ hc
                subst hA hc
                have hyl : Y2.length = q := by have := hown.1; rw [lotFlat_len] at this; omega
                obtain ⟨y, hy⟩ : ∃ y, Y2[r]? = some y := ⟨_, List.getElem?_eq_getElem (by omega)⟩
                have e0 := own_lot3 hown hy hlt
                have f0 := hown.frozenAt (r * 4 + 3)
                have t1 := (hown.stored (r * 4 + 3) (.int .i64 (-3))).1
                rw [lotFlat_set hy] at t1
                have hlt' : (r : Int) < (q : Int) := by omega
                have hset := grown_set (p := ⟨gg, r * 4 + 3, none⟩) hg (.inl (by rw [HB.out]; exact hgb)) (.int .i64 (-3))
                have HJ := Lib.hid (And.intro hr (And.intro t1 hset))
                clear hr t1 hown hy hyl hset
                go_wp2_with fail
                obtain ⟨hr, t1, hset⟩ := HJ.out
                go_roundg (gk - 1)
                case measure => omega
                case rel => exact ⟨r + 1, _, by omega, by go_num, t1, hset⟩
              · obtain rfl : r = q := by omega
                have G := (hgT.trans HS.out.2).trans hg
                have kC := (HT.out.2.2.2.2.2.2.1.grown G (by simp)).three
                have HG := Lib.hid (And.intro G hg)
                clear G hg hown hlt hr
                have hsc : ∀ wz (_ : Rd wz 2 AC n (pcFlat ps)) (_ : Rd wz 2 AD n (pcFlat ps)), Calls Tryd.prog 63 #[.agg #[.string pr, .int .i64 most, .slice AC n cC], .agg #[.string pr, .int .i64 most, .slice AD n cD]] wz fun e w' => e = .returned (.bool true) ∧ wz.grownBy w' none := by
                  intro wz h1 h2
                  have hn' := HLn.out.1
                  have h := sameCoil_same ⟨pr, most, ps⟩ AC AD cC cD wz (by show Rd wz 2 AC ps.length _; rw [hn']; exact h1) (by show Rd wz 2 AD ps.length _; rw [hn']; exact h2) (by show ps.length ≤ _; omega)
                  simp only [hn'] at h
                  exact h
                have HSC := Lib.hid hsc
                clear hsc
                go_wp2_with fail
                refine (stocksKeep_any _).mono ?_
                rintro e w20 ⟨rfl, hg20⟩
                have G20 := HG.out.1.trans hg20
                go_wp2_with fail
                refine (equalLot_same AX AY r cX cY X w20 (HT.out.1.grown G20) (HT.out.2.1.grown G20) (by omega)).mono ?_
                rintro e w21 ⟨rfl, hg21⟩
                have G21 := G20.trans hg21
                have kC := (HT.out.2.2.2.2.2.2.1.grown G21 (by simp)).three
                have kD := (HT.out.2.2.2.2.2.2.2.1.grown G21 (by simp)).three
                go_wp2_with fail
                refine (HSC.out w21 (HT.out.2.2.1.grown G21) (HT.out.2.2.2.1.grown G21)).mono ?_
                rintro e w22 ⟨rfl, hg22⟩
                have G22 := G21.trans hg22
                clear kC kD
                go_wp2_with fail
                refine (equalPc_same AP AQ nP cP cQ pp w22 (HT.out.2.2.2.2.1.grown G22) (HT.out.2.2.2.2.2.1.grown G22) (by omega)).mono ?_
                rintro e w23 ⟨rfl, hg23⟩
                have G23 := G22.trans hg23
                have S23 := (((HG.out.2.trans hg20).trans hg21).trans hg22).trans hg23
                go_wp2_with fail
                refine (HS.out.1 w23 S23).mono ?_
                rintro e w24 ⟨vZ, rfl, hZ24, hg24⟩
                obtain ⟨AZ, cZ, rfl, _, _, rZ, _⟩ := Rd.of_own hZ24
                have G24 := G23.trans hg24
                go_wp2_with fail
                refine (equalLot_same AZ AY r cZ cY X w24 rZ (HT.out.2.1.grown G24) (by omega)).mono ?_
                rintro e w25 ⟨rfl, hg25⟩
                go_wp2_with fail
                go_ret
                exact ⟨rfl, HT.out.2.2.2.2.2.2.2.2.trans (G24.trans hg25)⟩)

end Go.Proofs.YtidfhgpjpieajaaDoor
