/- The walk of Due of package round. -/
import Derived.Test.YtoneebofjbnjpaaDoorDueP
namespace Go.Proofs.YtoneebofjbnjpaaDoor
open Go.RowKit

set_option maxHeartbeats 1000000 in
theorem due_bad (B0 : Nat) (A : Option Addr) (c : Nat) (V : List Sit) (d : Int) (w : World) (hr : RdSi w B0 A V) (hf : sitF V ≠ 0) :
    Calls Tryd.prog 13 #[.slice A V.length c, .int .i64 d] w fun e w' => e = .returned (.tuple #[.slice none 0 0, .int .i64 (sitF V)]) ∧ w.grownBy w' none := by
  have hck := left_bad B0 A c V w hr hf
  have hne : (sitF V != 0) = true := by rw [bne_iff_ne]; exact hf
  generalize sitF V = f at *
  have HC := Lib.hid hck
  clear hck hf
  go_enter Tryd.func13, Tryd.ntmps13
  go_wp2_with fail
  refine HC.out.mono ?_
  rintro e w1 ⟨rfl, hg1⟩
  go_wp2_with fail
  go_ret2
  exact ⟨rfl, grown_alloc hg1 _⟩

set_option maxHeartbeats 1000000 in
theorem due_arg (B0 : Nat) (A : Option Addr) (c : Nat) (V : List Sit) (d : Int) (w : World) (hr : RdSi w B0 A V) (hf : sitF V = 0) (hd : btw d 0 4000 = false) :
    Calls Tryd.prog 13 #[.slice A V.length c, .int .i64 d] w fun e w' => e = .returned (.tuple #[.slice none 0 0, .int .i64 1]) ∧ w.grownBy w' none := by
  have hck := left_any B0 A c V w hr hf
  have HC := Lib.hid hck
  have HD := Lib.hid hd
  clear hck hf hd
  go_enter Tryd.func13, Tryd.ntmps13
  go_wp2_with fail
  refine HC.out.mono ?_
  rintro e w1 ⟨v, rfl, hown, hg1⟩
  obtain ⟨AL, cL, rfl, _, _, _, _⟩ := Rd.of_own hown
  clear hown
  go_wp2_with fail
  refine (between_any _ _ _ _).mono ?_
  rw [HD.out]
  rintro e w2 ⟨rfl, rfl⟩
  go_wp2_with fail
  go_ret2
  exact ⟨rfl, grown_alloc hg1 _⟩

set_option maxRecDepth 100000 in
set_option maxHeartbeats 4000000 in
theorem due_ok (B0 : Nat) (A : Option Addr) (c : Nat) (V : List Sit) (d : Int) (w : World) (hr : RdSi w B0 A V) (hf : sitF V = 0) (hd : btw d 0 4000 = true) (hV : V.length < 20) :
    Calls Tryd.prog 13 #[.slice A V.length c, .int .i64 d] w
      fun e w' => ∃ v S, e = .returned (.tuple #[v, .int .i64 0]) ∧ (S.Perm (idxTo (leftsOf V) d V.length) ∧ S.Pairwise (LexN (leftsOf V))) ∧ w'.ownsRow w.heap.size 9 1 v S.length (strs (keysAt V S)) ∧ w.grownBy w' none := by
  have hck := left_any B0 A c V w hr hf
  have hul : (leftsOf V).length = V.length := by simp [leftsOf]
  have hkk : ∀ (i : Nat) (r : Sr), V[i]? = some (sitK r) → (V.getD i default).k = r.k := fun i r h => by rw [List.getD_eq_getElem?_getD, h]; rfl
  obtain ⟨n, hn⟩ : ∃ n, V.length = n := ⟨_, rfl⟩
  rw [hn] at hck hul hV ⊢
  have HC := Lib.hid hck
  have HD := Lib.hid hd
  have HL := Lib.hid (And.intro hn (And.intro hul (And.intro hr hkk)))
  clear hck hf hd hn hul hr hkk
  generalize leftsOf V = ls at *
  go_enter Tryd.func13, Tryd.ntmps13
  go_wp2_with fail
  refine HC.out.mono ?_
  rintro e w1 ⟨v, rfl, hown, hg1⟩
  obtain ⟨AL, cL, rfl, _, _, hrL, hbL⟩ := Rd.of_own hown
  have hbk := Blk.new w1 22 #[.slice AL n cL]
  have hgb := grown_alloc (grown_refl w1) (.cells #[.slice AL n cL] 22)
  have k0 : (w1.alloc (.cells #[.slice AL n cL] 22)).cell? ⟨w1.heap.size, 0, none⟩ = some (.slice AL n cL) := hbk.cell 0
  have hrL2 := hrL.grown hgb
  have hz : (w1.alloc (.cells #[.slice AL n cL] 22)).heap.size = w1.heap.size + 1 := by simp
  have hbL2 : ∀ a, AL = some a → a.block < w1.heap.size ∨ n = 0 := fun a ha => by
    rcases Nat.eq_zero_or_pos n with h | h
    · exact .inr h
    · obtain ⟨b, off, e, hb, _⟩ := hrL.2 h
      rw [e] at ha
      cases ha
      exact .inl hb
  have hsz1 := hg1.size
  clear hbk hown hrL hbL
  go_wp2_with fail
  obtain ⟨g6, hg6⟩ : ∃ g6, w1.heap.size = g6 := ⟨_, rfl⟩
  have hg2 := hg1.trans hgb
  obtain ⟨w2, hw2⟩ : ∃ w2, w1.alloc (.cells #[.slice AL n cL] 22) = w2 := ⟨_, rfl⟩
  rw [hw2] at k0 hrL2 hz hg2 ⊢
  rw [hg6] at k0 hz hbL2 hsz1 ⊢
  clear hw2 hgb hg1 hg6
  refine (between_any _ _ _ _).mono ?_
  rw [HD.out]
  rintro e w3 ⟨rfl, rfl⟩
  go_wp2_with fail
  go_loopg [8, 27] n (fun k o i wr => ∃ j : Nat, k + j = n ∧ i = .int .i64 j ∧ wr.ownsRow (g6 + 1) 3 1 o (natI (idxTo ls d j)).length (ints (natI (idxTo ls d j))) ∧ (idxTo ls d j = [] → o = .slice none 0 0) ∧ w2.grownBy wr none)
  case atStart => exact ⟨0, by omega, rfl, World.ownsRow_nil _ _ _ _, fun _ => rfl, grown_refl _⟩
  case round =>
    obtain ⟨j, hj, rfl, hown, hnil, hg⟩ := hrel
    by_cases hlt : j < n
    · obtain ⟨b, off, rfl, hb, x, hx, cx⟩ := int_cells (hrL2.grown hg) hlt
      have hltI : (j : Int) < n := by omega
      have hgx := getD_some hx
      have hS := idxTo_succ ls d j
      rw [hgx] at hS
      have HJ := Lib.hid hj
      have kx := hg.cell (a := ⟨g6, 0, none⟩) k0 (by simp)
      by_cases hle : x ≤ d
      · rw [if_pos hle] at hS
        have HS := Lib.hid hS
        have HN := Lib.hid hnil
        have hl1 : (natI (idxTo ls d j)).length ≤ 1000000000 := by rw [natI_len]; have := idxTo_len ls d j; omega
        have hsz := hg.size
        have hbz : g6 + 1 ≤ wr.heap.size := by omega
        clear hj hS hgx hx hnil
        go_wp2_with (at_builtin; refine ap_int wr _ rfl _ _ rfl (g6 + 1) u8 (natI (idxTo ls d j)) rfl hown rfl hl1 hbz ?_; intro v7 w7 hown7 hg7)
        have hj := HJ.out
        have hgg := ap_grown hg hown hg7 (by omega)
        go_roundg (gk - 1)
        case measure => omega
        case rel =>
          refine ⟨j + 1, by omega, by go_num, ?_, ?_, hgg⟩
          · rw [HS.out]; simpa [natI] using hown7
          · rw [HS.out]; intro h; simp at h
      · rw [if_neg hle] at hS
        have HS := Lib.hid hS
        clear hj hS hgx hx
        go_wp2_with fail
        have hj := HJ.out
        go_roundg (gk - 1)
        case measure => omega
        case rel => exact ⟨j + 1, by omega, by go_num, by rw [HS.out]; exact hown, by rw [HS.out]; exact hnil, hg⟩
    · obtain rfl : j = n := by omega
      obtain ⟨N, hN⟩ : ∃ N, (natI (idxTo ls d j)).length = N := ⟨_, rfl⟩
      rw [hN] at hown
      have hNl : N ≤ j := by rw [← hN, natI_len]; exact idxTo_len ls d j
      have hcase : Calls Tryd.prog 57 #[u8, .func (.func 58) #[] #[.pointer (some ⟨g6, 0, none⟩)]] wr
            fun e w' => e = .returned (.tuple #[]) ∧ ∃ S : List Nat, (S.Perm (idxTo ls d j) ∧ S.Pairwise (LexN ls)) ∧ w'.ownsRow (g6 + 1) 3 1 u8 N (ints (natI S)) ∧ w2.grownBy w' none := by
        by_cases hE : idxTo ls d j = []
        · rw [hE] at hN ⊢
          obtain rfl : N = 0 := by rw [← hN]; rfl
          rw [hnil hE]
          refine (sortNil_any _ wr).mono ?_
          rintro e w' ⟨rfl, rfl⟩
          exact ⟨rfl, [], ⟨List.Perm.nil, List.Pairwise.nil⟩, World.ownsRow_nil _ _ _ _, hg⟩
        · have hpos : 0 < N := by rw [← hN, natI_len]; exact List.length_pos_iff.2 hE
          obtain ⟨m, rfl⟩ : ∃ m, j = m + 1 := ⟨j - 1, by omega⟩
          obtain ⟨zs, hzs⟩ := fin_of m (idxTo ls d (m + 1)) (fun x hx => idxTo_lt hx)
          have hzN : zs.length = N := by rw [← hN, natI_len, ← hzs]; simp
          have hzp : zs.Pairwise (· < ·) := by
            have := idxTo_pw ls d (m + 1)
            rw [← hzs, List.pairwise_map] at this
            exact this
          obtain ⟨g, cap, rfl, hgb, hglt⟩ := hown.form hpos
          rw [← hzs, ← encN_map, ← hzN] at hown
          have hsz := hg.size
          have hcall := sortDue_any g6 AL cL m ls g cap (g6 + 1) zs wr hown hzp (by omega) (hg.cell (a := ⟨g6, 0, none⟩) k0 (by simp)) (hrL2.grown hg) (by omega) (by omega)
            (fun a ha => by rcases hbL2 a ha with h | h <;> omega)
          rw [hzN] at hcall
          refine hcall.mono ?_
          rintro e w' ⟨rfl, ss, ⟨hp, hs⟩, hown', hg'⟩
          refine ⟨rfl, ss.map Fin.val, ⟨?_, ?_⟩, ?_, ?_⟩
          · rw [← hzs]; exact hp.map _
          · rw [List.pairwise_map]; exact hs
          · rw [← encN_map]; exact hown'
          · exact grown_below hg hg' (fun k hk => .inl (by injection hk with hk; omega))
      obtain ⟨A8, c8, rfl, _, _, _, _⟩ := Rd.of_own hown
      have HCC := Lib.hid hcase
      have HHj := Lib.hid (And.intro hN hNl)
      have hN20 : N ≤ 1000000 := by omega
      clear hcase hown hnil hg hN hNl hbL2 hrL2 k0
      go_wp2_with fail
      refine HCC.out.mono ?_
      rintro e w5 ⟨rfl, S, hS, hown5, hg5⟩
      obtain ⟨A9, c9, hv9, _, _, hr9, _⟩ := Rd.of_own hown5
      injection hv9 with e1 e2 e3
      subst e1 e3
      clear e2
      have hSl : S.length = N := by have := hown5.1; simpa [ints, natI] using this
      have hmk := make_strs N (by omega)
      have hr5 := HL.out.2.2.1.grown (hg2.trans hg5)
      have hKl : (keysAt V S).length = N := by rw [keysAt_len]; exact hSl
      have hat : ∀ (i : Nat) (x : Nat), S[i]? = some x → x < j := fun i x hx => idxTo_lt (hS.1.mem_iff.1 (List.mem_of_getElem? hx))
      have hown0 := made_strs w5 N (by omega)
      have hga := grown_alloc (grown_refl w5) (.cells (madeCells #[.string ByteArray.empty] N) 9)
      have HQ := Lib.hid (And.intro hS (And.intro hSl (And.intro hKl (And.intro hat (hg2.trans hg5)))))
      have hsz5 := hg5.size
      clear hS hSl hKl hat hown5 hg5 HCC
      go_wp2_with fail
      obtain ⟨gk2, hgk2⟩ : ∃ gk2, w5.heap.size = gk2 := ⟨_, rfl⟩
      generalize w5.alloc (.cells (madeCells #[.string ByteArray.empty] N) 9) = w6 at *
      rw [hgk2] at hown0 ⊢
      clear hmk
      go_loopg [48] N (fun k i wr => ∃ q : Nat, k + q = N ∧ i = .int .i64 q ∧ wr.ownsRow gk2 9 1 (.slice (some ⟨gk2, 0, none⟩) N N) N (strs (fillS (keysAt V S) N q)) ∧ w5.grownBy wr none)
      case atStart => exact ⟨0, by omega, rfl, by rw [fillS_zero]; exact hown0, hga⟩
      case round =>
        clear hown0 hga
        obtain ⟨q, hq, rfl, hown, hg⟩ := hrel
        by_cases hlq : q < N
        · obtain ⟨b9, o9, rfl, hb9, x, hx, cx⟩ := int_cells (hr9.grown hg) hlq
          obtain ⟨y, hy, rfl⟩ : ∃ y : Nat, S[q]? = some y ∧ (y : Int) = x := by
            unfold natI at hx
            rw [List.getElem?_map] at hx
            cases hsq : S[q]? with
            | none => rw [hsq] at hx; cases hx
            | some y => rw [hsq] at hx; exact ⟨y, rfl, by simpa using hx⟩
          have hyj := HQ.out.2.2.2.1 q y hy
          obtain ⟨bV, oV, rfl, hbV, r, ht, hok, c0, c1, c2⟩ := (hr5.grown hg).row (k := y) (by rw [HL.out.1]; exact hyj)
          have hyjI : (y : Int) < (j : Int) := by omega
          have hlqI : (q : Int) < (N : Int) := by omega
          have hKq : (keysAt V S)[q]? = some r.k := by unfold keysAt; rw [List.getElem?_map, hy]; show some (V.getD y default).k = some r.k; rw [HL.out.2.2.2 y r ht]
          have hst := fillS_set HQ.out.2.2.1 hlq hKq
          have f5 := hown.frozenAt q
          have e5 := own_strs hown hlq
          have o5 := own_strs_set hown q r.k
          rw [hst] at o5
          have HO := Lib.hid (And.intro o5 (And.intro hg hq))
          clear hx hy hKq hst o5 hown c1 c2 ht hok hq hg
          go_wp2_with fail
          have hq := HO.out.2.2
          go_roundg (gk - 1)
          case measure => omega
          case rel => exact ⟨q + 1, by omega, by go_num, HO.out.1, grown_set (p := ⟨gk2, q, none⟩) HO.out.2.1 (.inl (by simp; omega)) _⟩
        · obtain rfl : q = N := by omega
          rw [fillS_full HQ.out.2.2.1] at hown
          go_wp2_with fail
          go_ret2
          have hgw := HQ.out.2.2.2.2
          refine ⟨_, S, rfl, HQ.out.1, ?_, hgw.trans hg⟩
          rw [HQ.out.2.1]
          exact own_mono hown (by have := hgw.size; omega)

end Go.Proofs.YtoneebofjbnjpaaDoor
