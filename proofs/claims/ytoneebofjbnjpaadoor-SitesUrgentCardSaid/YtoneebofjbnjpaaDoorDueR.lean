/- The walk of the reference DueOf. -/
import Derived.Test.YtoneebofjbnjpaaDoorDue
namespace Go.Proofs.YtoneebofjbnjpaaDoor
open Go.RowKit

theorem keysAt_app (V : List Sit) (a b : List Nat) : keysAt V (a ++ b) = keysAt V a ++ keysAt V b := by simp [keysAt]

set_option maxRecDepth 100000 in
set_option maxHeartbeats 4000000 in
theorem dueOf_any (B0 : Nat) (A : Option Addr) (c : Nat) (V : List Sit) (d : Nat) (w : World) (hr : RdSi w B0 A V) (hf : sitF V = 0) (hd : d ≤ 4000) (hV : V.length < 20) :
    Calls Tryd.prog 18 #[.slice A V.length c, .int .i64 d] w
      fun e w' => ∃ v, e = .returned v ∧ w'.ownsRow w.heap.size 9 1 v (keysAt V (dueT (leftsOf V) V.length (d + 1))).length (strs (keysAt V (dueT (leftsOf V) V.length (d + 1)))) ∧ w.grownBy w' none := by
  have hck := leftOf_any B0 A c V w hr hf
  have hul : (leftsOf V).length = V.length := by simp [leftsOf]
  have hkk : ∀ (i : Nat) (r : Sr), V[i]? = some (sitK r) → keysAt V [i] = [r.k] := fun i r h => by unfold keysAt; show [(V.getD i default).k] = [r.k]; rw [List.getD_eq_getElem?_getD, h]; rfl
  obtain ⟨n, hn⟩ : ∃ n, V.length = n := ⟨_, rfl⟩
  rw [hn] at hck hul hV ⊢
  have HC := Lib.hid hck
  have HL := Lib.hid (And.intro hn (And.intro hul (And.intro hr hkk)))
  clear hck hf hn hul hr hkk
  generalize leftsOf V = ls at *
  have hlen : ∀ t q, t ≤ 4001 → q ≤ n → (keysAt V (dueT ls n t ++ dueIn ls t q)).length ≤ 1000000 := fun t q h1 h2 => by
    rw [keysAt_len, List.length_append]
    have := dueT_len ls n t
    have := dueIn_len ls t q
    have : t * n ≤ 4001 * 20 := Nat.mul_le_mul h1 (by omega)
    omega
  have HN := Lib.hid hlen
  clear hlen
  go_enter Tryd.func18, Tryd.ntmps18
  go_wp2_with fail
  refine HC.out.mono ?_
  rintro e w1 ⟨v, rfl, hown, hg1⟩
  obtain ⟨AL, cL, rfl, _, _, hrL, hbL⟩ := Rd.of_own hown
  have hr1 := HL.out.2.2.1.grown hg1
  have hsz1 := hg1.size
  have HG1 := Lib.hid hg1
  clear hown hbL hg1
  go_wp2_with fail
  go_loopg [5, 7] (d + 1) (fun k o dv wr => ∃ t : Nat, k + t = d + 1 ∧ dv = .int .i64 t ∧ wr.ownsRow w1.heap.size 9 1 o (keysAt V (dueT ls n t)).length (strs (keysAt V (dueT ls n t))) ∧ w1.grownBy wr none)
  case atStart => exact ⟨0, by omega, rfl, World.ownsRow_nil _ _ _ _, grown_refl _⟩
  case round =>
    obtain ⟨t, ht, rfl, hown, hg⟩ := hrel
    obtain ⟨ko, hko⟩ : ∃ ko : Nat, ko = gk := ⟨_, rfl⟩
    by_cases hlt : t ≤ d
    · have hltI : (t : Int) ≤ (d : Int) := by omega
      have HT := Lib.hid (And.intro ht (And.intro hko hown))
      clear ht hko hown
      go_wp2_with fail
      go_loopg [5, 19] n (fun k o i wx => ∃ q : Nat, k + q = n ∧ i = .int .i64 q ∧ wx.ownsRow w1.heap.size 9 1 o (keysAt V (dueT ls n t ++ dueIn ls t q)).length (strs (keysAt V (dueT ls n t ++ dueIn ls t q))) ∧ w1.grownBy wx none)
      case atStart => exact ⟨0, by omega, rfl, by simpa [dueIn] using HT.out.2.2, hg⟩
      case round =>
        obtain ⟨q, hq, rfl, hown, hgx⟩ := hrel
        by_cases hlq : q < n
        · obtain ⟨b, off, rfl, hb, r, hr, hok, c0, c1, c2⟩ := (hr1.grown hgx).row (k := q) (by rw [HL.out.1]; exact hlq)
          obtain ⟨b9, o9, rfl, hb9, x, hx, cx⟩ := int_cells (hrL.grown hgx) hlq
          have hltq : (q : Int) < (n : Int) := by omega
          have hS := dueIn_succ ls t q
          rw [getD_some hx] at hS
          have HK := Lib.hid (HL.out.2.2.2 q r hr)
          have hgb := grown_alloc hgx (.cells #[.string r.k, .slice r.A r.n r.c, .slice r.A2 r.n2 r.c2] 75)
          have hown1 := hown.alloc (.cells #[.string r.k, .slice r.A r.n r.c, .slice r.A2 r.n2 r.c2] 75)
          have hz : (wr.alloc (.cells #[.string r.k, .slice r.A r.n r.c, .slice r.A2 r.n2 r.c2] 75)).heap.size = wr.heap.size + 1 := by simp
          have HQ := Lib.hid hq
          clear hr hok hx hq hown
          by_cases hxe : x = (t : Int)
          · rw [if_pos hxe] at hS
            have HS := Lib.hid hS
            have hxb : (x == (t : Int)) = true := by simp [hxe]
            have hl1 : (keysAt V (dueT ls n t ++ dueIn ls t q)).length ≤ 1000000000 := Nat.le_trans (HN.out t q (by omega) (by omega)) (by decide)
            have hsz := hgb.size
            clear hS hxe
            go_wp2_with (at_builtin; refine ap_s1_at (wr.alloc (.cells #[.string r.k, .slice r.A r.n r.c, .slice r.A2 r.n2 r.c2] 75)) (wr.heap.size + 1) hz r.k rfl _ _ rfl w1.heap.size u5 (keysAt V (dueT ls n t ++ dueIn ls t q)) rfl hown1 rfl hl1 hsz ?_; intro v7 w7 hown7 hg7)
            have hgg := ap_grown hgb hown1 hg7 (Nat.le_refl _)
            have hq := HQ.out
            go_roundg (gk - 1)
            case measure => omega
            case rel =>
              refine ⟨q + 1, by omega, by go_num, ?_, hgg⟩
              rw [HS.out, ← List.append_assoc, keysAt_app V (dueT ls n t ++ dueIn ls t q) [q], HK.out]
              exact hown7
          · rw [if_neg hxe] at hS
            have HS := Lib.hid hS
            have hxb : (x == (t : Int)) = false := by simp [hxe]
            clear hS hxe
            go_wp2_with fail
            have hq := HQ.out
            go_roundg (gk - 1)
            case measure => omega
            case rel => exact ⟨q + 1, by omega, by go_num, by rw [HS.out]; exact hown1, hgb⟩
        · obtain rfl : q = n := by omega
          rw [← dueT_succ] at hown
          have ht := HT.out.1
          have hko := HT.out.2.1
          go_wp2_with fail
          go_roundg (ko - 1)
          case measure => omega
          case rel => exact ⟨t + 1, by omega, by go_num, hown, hgx⟩
    · obtain rfl : t = d + 1 := by omega
      have hltI : ¬ ((d + 1 : Nat) : Int) ≤ (d : Int) := by omega
      go_wp2_with fail
      go_ret
      exact ⟨_, rfl, own_mono hown hsz1, HG1.out.trans hg⟩

end Go.Proofs.YtoneebofjbnjpaaDoor
