/- The walk of the law TakenInstead. -/
import Derived.Test.YtkfijicmeekmiaaTable
import Derived.Test.YtkfijicmeekmiaaNumbs
import Derived.Test.YtkfijicmeekmiaaInsO
import Derived.Test.YtkfijicmeekmiaaInsE
import Derived.Test.YtkfijicmeekmiaaInsR
import Derived.Test.YtkfijicmeekmiaaEqF
import Derived.Test.YtkfijicmeekmiaaIn
import Derived.Test.YtkfijicmeekmiaaEq
namespace Go.Proofs.Ytkfijicmeekmiaa
open Go.RowKit

/-- A table, what is wanted and what is there lie in the world. -/
structure TakSt (w0 wx : World) (base gT : Nat) (A AW AS : Option Addr) (c cW cS : Nat) (T : List (List Int)) (W S : List Int) : Prop where
  box : Blk wx gT 70 #[.slice A T.length c]
  tab : RdT wx base A T
  wants : Rd wx 1 AW W.length (ints W)
  stock : Rd wx 1 AS S.length (ints S)
  capW : AW = none → cW = 0
  capS : AS = none → cS = 0
  gro : w0.grownBy wx none
theorem TakSt.grown {w0 wx wy : World} {base gT : Nat} {A AW AS : Option Addr} {c cW cS : Nat} {T : List (List Int)} {W S : List Int} (h : TakSt w0 wx base gT A AW AS c cW cS T W S) (hg : wx.grownBy wy none) : TakSt w0 wy base gT A AW AS c cW cS T W S :=
  ⟨h.box.grown hg (by simp), h.tab.grown hg, h.wants.grown hg, h.stock.grown hg, h.capW, h.capS, h.gro.trans hg⟩

set_option maxRecDepth 100000 in
set_option maxHeartbeats 4000000 in
theorem takenInstead_walk (a0 : Option Addr) (len0 cap0 : Nat) (z0 : List Int) (w : World) (w0 : InRow w a0 len0 cap0 z0) :
    Calls Try.prog 7 #[.slice a0 len0 cap0] w fun e w' => e = .returned (.bool true) ∧ w.grownBy w' none := by
  obtain ⟨hlen, hs0⟩ := str_start w0
  have hg0 : w.grownBy (w.alloc (.cells #[.slice a0 len0 cap0, .int .i64 0] 25)) none := grown_alloc (grown_refl w) _
  have hz0 : (w.alloc (.cells #[.slice a0 len0 cap0, .int .i64 0] 25)).heap.size = w.heap.size + 1 := by simp
  clear hlen w0
  generalize z0.take len0 = L at *
  go_enter Try.func7, Try.ntmps7
  go_wp2_with fail
  generalize w.alloc (.cells #[.slice a0 len0 cap0, .int .i64 0] 25) = wA at *
  obtain ⟨bs, hbs⟩ : ∃ bs, bs = w.heap.size := ⟨_, rfl⟩
  rw [← hbs] at hs0 hz0 ⊢
  have HZ := Lib.hid hbs
  clear hbs
  refine (table_any bs L 0 _ hs0 (by omega)).mono ?_
  rintro e w1 ⟨A, c, rfl, hT1, hs1, hg1⟩
  obtain ⟨⟨hb1, hb2⟩, hb3⟩ := tableM_bound L 0
  generalize (tableM L 0).2 = T at *
  generalize (tableM L 0).1 = t1 at *
  rw [hz0] at hT1
  have hsz1 := hg1.size
  have hbw1 := hs1.lt
  have hB2 := Blk.new w1 70 #[.slice A T.length c]
  have hga := grown_alloc (grown_refl w1) (.cells #[.slice A T.length c] 70)
  have hT2 := hT1.grown hga
  have hs2 := hs1.grown hga (by simp)
  have hg2 := hg1.trans (hga.but (some bs))
  generalize hgT : w1.heap.size = gT at *
  go_upto_region 3 with fail
  generalize w1.alloc (.cells #[.slice A T.length c] 70) = w2 at *
  have hbT : bs < gT := by omega
  obtain ⟨hn1a, hn1b⟩ := numbersM_bound L t1 T.length 20
  obtain ⟨hn2a, hn2b⟩ := numbersM_bound L (numbersM L t1 T.length 20).1 T.length 12
  have hN1 := fun w1 (hs : Str w1 bs L t1) => numbers_any bs L t1 T.length 20 w1 hs (by omega) (by omega) (by omega)
  have hN2 := fun w1 (hs : Str w1 bs L (numbersM L t1 T.length 20).1) => numbers_any bs L (numbersM L t1 T.length 20).1 T.length 12 w1 hs (by omega) (by omega) (by omega)
  generalize (numbersM L (numbersM L t1 T.length 20).1 T.length 12).2 = S at *
  generalize (numbersM L (numbersM L t1 T.length 20).1 T.length 12).1 = t3 at *
  generalize (numbersM L t1 T.length 20).2 = W at *
  generalize (numbersM L t1 T.length 20).1 = t2 at *
  have hW5 : W.length ≤ 6 ∧ S.length ≤ 6 := by omega
  have hlt2 := hs2.lt
  have hB2lt := hB2.lt
  have HN1 := Lib.hid hN1
  have HN2 := Lib.hid hN2
  have hg3 : w.grownBy w2 (some bs) := (hg0.but _).trans hg2
  clear hN1 hN2 hn1a hn1b hn2a hn2b hga hsz1 hbw1 hg1 hs1 hT1 hb1 hz0 hs0 hgT hg0 hg2
  go_cut [5, 6] (fun vW vS wx => ∃ AW cW AS cS, vW = .slice AW W.length cW ∧ vS = .slice AS S.length cS ∧ TakSt w wx (bs + 1) gT A AW AS c cW cS T W S)
  case first =>
    have hB2d : Blk w2.drew gT 70 #[.slice A T.length c] := hB2
    have hs2d := Str.drew hs2
    have hT2d : RdT w2.drew (bs + 1) A T := by obtain ⟨h0, vals, h1, h2⟩ := hT2; exact ⟨h0, vals, h1, h2⟩
    have hg3d := grown_drew hg3
    have hbd : bs < w2.drew.heap.size := hlt2
    have k0 := hB2d.cell 0
    have HD := Lib.hid (And.intro hB2d (And.intro hs2d (And.intro hT2d hg3d)))
    clear hB2 hs2 hT2 hg3 hB2d hs2d hT2d hg3d hb3
    go_wp2_with fail
    go_region_law (first
      | (go_simp; go_at_call 27; refine (HN2.out _ hs6).mono ?_; rintro e w7 ⟨v7, rfl, hown7, hs7, hg7⟩; obtain ⟨AS, cS, rfl, _, _, hrS7, _⟩ := Rd.of_own hown7; dsimp only; have hB7 := hB6.grown hg7 (by simp; omega); have k7 := hB7.cell 0)
      | (go_simp; go_at_call 27; refine (HN1.out _ HD.out.2.1).mono ?_; rintro e w6 ⟨v6, rfl, hown6, hs6, hg6⟩; obtain ⟨AW, cW, rfl, _, _, hrW6, _⟩ := Rd.of_own hown6; dsimp only; have hB6 := HD.out.1.grown hg6 (by simp; omega); have k6 := hB6.cell 0))
    all_goals
      go_wp2_with fail
      go_meet
      have hT7 := (HD.out.2.2.1.stream hg6 (by omega)).stream hg7 (by omega)
      have hown6' := hown6.kept hg7 (own_ne hown6 hbd)
      obtain ⟨_, _, e6, _, _, hr6, _⟩ := Rd.of_own hown6'
      injection e6 with e61 e62 e63
      subst e61
      refine ⟨AW, cW, AS, cS, rfl, rfl, hB7, hT7, hr6, hrS7, own_cap hown6, own_cap hown7, ?_⟩
      exact grown_below (r := none) (grown_refl w) ((HD.out.2.2.2.trans hg6).trans hg7) (fun j hj => .inl (by cases hj; have := HZ.out; omega))
  case rest =>
    obtain ⟨AW, cW, AS, cS, rfl, rfl, H⟩ := hcut
    clear hT2 hs2 hB2 hg3 HN1 HN2 hlt2 hB2lt hbT
    have hCT := fun w1 (h : TakSt w w1 (bs + 1) gT A AW AS c cW cS T W S) => checkTable_any (bs + 1) A c T w1 h.tab (by omega)
    have hTF := fun w1 (h : TakSt w w1 (bs + 1) gT A AW AS c cW cS T W S) => refTableF_any (bs + 1) A c T w1 h.tab (by omega)
    have hIF := fun w1 (h : TakSt w w1 (bs + 1) gT A AW AS c cW cS T W S) => refInsF_any (bs + 1) A AW AS c cW cS T W S w1 h.tab (by omega) h.wants h.stock h.capW h.capS
    have HCT := Lib.hid hCT
    have HTF := Lib.hid hTF
    have HIF := Lib.hid hIF
    obtain ⟨f, hf⟩ : ∃ f, f = tabF T := ⟨_, rfl⟩
    rw [← hf] at HCT HTF
    clear hCT hTF hIF hf
    go_upto_region 4 with fail
    go_cut [32] (fun q wx => q = .bool false ∧ TakSt w wx (bs + 1) gT A AW AS c cW cS T W S)
    case first =>
      have k0 := H.box.cell 0
      have hd : TakSt w wc.drew (bs + 1) gT A AW AS c cW cS T W S := ⟨H.box, by obtain ⟨h0, vals, h1, h2⟩ := H.tab; exact ⟨h0, vals, h1, h2⟩, H.wants, H.stock, H.capW, H.capS, grown_drew H.gro⟩
      have k1 : wc.drew.cell? ⟨gT, 0, none⟩ = some (.slice A T.length c) := k0
      have HH := Lib.hid hd
      clear H hd
      go_wp2_with fail
      go_region_law (first
        | (go_simp; go_at_call 58; refine (HTF.out _ HH6.out).mono ?_; rintro e w7 ⟨rfl, hg7⟩; dsimp only; have HH7 := Lib.hid (HH6.out.grown hg7); have k7 := HH7.out.box.cell 0)
        | (go_simp; go_at_call 57; refine (HCT.out _ HH.out).mono ?_; rintro e w6 ⟨rfl, hg6⟩; dsimp only; have HH6 := Lib.hid (HH.out.grown hg6); have k6 := HH6.out.box.cell 0))
      all_goals
        have hff : (f != f) = false := by simp
        go_wp2_with fail
        go_meet
        exact ⟨rfl, HH7.out⟩
    case rest =>
      rename_i wold
      obtain ⟨rfl, H2⟩ := hcut
      clear H HCT HTF
      have k0 := H2.box.cell 0
      have hnil : ∀ w1 : World, Rd w1 1 none 0 (ints []) := fun w1 => Rd.nil_ w1 1 none
      by_cases hF : insF T W S = 0
      · have hIN := instead_any (bs + 1) A AW AS c cW cS T W S _ H2.tab (by omega) H2.wants H2.stock hF
        have hIO := fun w1 (h : TakSt w w1 (bs + 1) gT A AW AS c cW cS T W S) => insteadOf_any (bs + 1) A AW AS c cW cS T W S w1 h.tab h.wants h.stock hF
        rw [hF] at HIF
        obtain ⟨hF1, hF2, hF3, hF4, hF5⟩ := insF_ok hF
        have HIN := Lib.hid hIN
        have HIO := Lib.hid hIO
        have HH2 := Lib.hid H2
        have hlX := (ins_all hF W.length (Nat.le_refl _)).1
        have hlY := (ins_all hF W.length (Nat.le_refl _)).2.1
        generalize (insM T S (sold0 W S, lost0 W S) W.length).1 = X at *
        generalize (insM T S (sold0 W S, lost0 W S) W.length).2 = Y at *
        have hn2 : W.length ≤ 1000000 := by omega
        clear hIN hIO H2 hF hF1 hF2 hF3 hF4 hF5 hlX hlY
        go_wp2_with fail
        refine HIN.out.mono ?_
        rintro e w3 ⟨v1, v2, rfl, ho1, ho2, hg3⟩
        obtain ⟨A1, c1, rfl, _, _, r1, _⟩ := Rd.of_own ho1
        obtain ⟨A2, c2, rfl, _, _, r2, _⟩ := Rd.of_own ho2
        have H3 := HH2.out.grown hg3
        have k3 := H3.box.cell 0
        clear ho1 ho2
        go_wp2_with fail
        refine (HIF.out _ H3).mono ?_
        rintro e w4 ⟨rfl, hg4⟩
        have H4 := H3.grown hg4
        have k4 := H4.box.cell 0
        go_wp2_with fail
        refine (HIO.out _ H4).mono ?_
        rintro e w5 ⟨v3, v4, rfl, ho3, ho4, hg5⟩
        obtain ⟨A3, c3, rfl, _, _, r3, _⟩ := Rd.of_own ho3
        obtain ⟨A4, c4, rfl, _, _, r4, _⟩ := Rd.of_own ho4
        have hg35 := hg4.trans hg5
        have hgg5 := H4.gro.trans hg5
        clear ho3 ho4 H4 H3
        go_wp2_with fail
        refine (lawDemands_any _).mono ?_
        rintro e w6 ⟨rfl, hg6⟩
        go_wp2_with fail
        refine (equalInts_any A1 A3 W.length c1 W.length c3 X X _ (r1.grown (hg35.trans hg6)) (r3.grown hg6) hn2 hn2).mono ?_
        rw [show decide (X = X) = true from by simp]
        rintro e w7 ⟨rfl, hg7⟩
        go_wp2_with fail
        refine (equalInts_any A2 A4 W.length c2 W.length c4 Y Y _ (r2.grown ((hg35.trans hg6).trans hg7)) (r4.grown (hg6.trans hg7)) hn2 hn2).mono ?_
        rw [show decide (Y = Y) = true from by simp]
        rintro e w8 ⟨rfl, hg8⟩
        go_wp2_with fail
        go_ret
        exact ⟨rfl, ((hgg5.trans hg6).trans hg7).trans hg8⟩
      · have hIN := instead_bad (bs + 1) A AW AS c cW cS T W S _ H2.tab (by omega) H2.wants H2.stock (by omega) (by omega) hF
        have hne : (insF T W S != 0) = true := by rw [bne_iff_ne]; exact hF
        generalize insF T W S = F at *
        have hFF : (F == F) = true := by simp
        have HIN := Lib.hid hIN
        have HH2 := Lib.hid H2
        clear hIN H2 hF
        go_wp2_with fail
        refine HIN.out.mono ?_
        rintro e w3 ⟨rfl, hg3⟩
        have H3 := HH2.out.grown hg3
        have k3 := H3.box.cell 0
        go_wp2_with fail
        refine (HIF.out _ H3).mono ?_
        rintro e w4 ⟨rfl, hg4⟩
        have H4 := H3.grown hg4
        clear H3
        go_wp2_with fail
        refine (lawDemands_any _).mono ?_
        rintro e w5 ⟨rfl, hg5⟩
        go_wp2_with fail
        go_ret
        exact ⟨by simp, H4.gro.trans hg5⟩

end Go.Proofs.Ytkfijicmeekmiaa
