/- The walk of the reference's LayoutAt. -/
import Derived.Test.YtahmeemhclfadaaDoorVer
namespace Go.Proofs.YtahmeemhclfadaaDoor
open Go.RowKit

theorem lastV_succ_hit {l : List Ver} {d : Int} {p : Nat} {t : Ver} (ht : l[p]? = some t) (h : t.f ≤ d) : lastV l d (p + 1) = p + 1 := by
  unfold lastV
  rw [if_pos]
  simp [List.getD, ht, h]
theorem lastV_succ_miss {l : List Ver} {d : Int} {p : Nat} {t : Ver} (ht : l[p]? = some t) (h : d < t.f) : lastV l d (p + 1) = lastV l d p := by
  conv => lhs; unfold lastV
  rw [if_neg]
  simp [List.getD, ht]; omega

set_option maxRecDepth 100000 in
set_option maxHeartbeats 1000000 in
theorem layoutAt_any (B : Nat) (A : Option Addr) (c : Nat) (V : List Ver) (d : Int) (w : World) (hr : RdV w B A V) (hV : V.length ≤ 1000000) (hk : ∀ t ∈ V, t.ks.length ≤ 1000000) :
    Calls Tryd.prog 41 #[.slice A V.length c, .int .i64 d] w fun e w' => ∃ v, e = .returned (.tuple #[v, .int .i64 (atE V d)]) ∧
      w'.ownsRow w.heap.size 9 1 v (atL V d).length (strs (atL V d)) ∧ w.grownBy w' none := by
  obtain ⟨n, hn⟩ : ∃ n, V.length = n := ⟨_, rfl⟩
  obtain ⟨E, hE⟩ : ∃ E, atE V d = E := ⟨_, rfl⟩
  obtain ⟨L, hL⟩ : ∃ L, atL V d = L := ⟨_, rfl⟩
  rw [hn, hE, hL]
  have HL := Lib.hid (And.intro hn (And.intro hE (And.intro hL (And.intro hr hk))))
  have hn1 : n ≤ 1000000 := by omega
  clear hn hE hL hr hV hk
  go_enter Tryd.func41, Tryd.ntmps41
  go_wp2_with fail
  go_loopg [6] n (fun k i wr => ∃ m : Nat, k = m ∧ m ≤ n ∧ i = .int .i64 ((m : Int) - 1) ∧ w = wr ∧ Hid (lastV V d V.length = lastV V d m))
  case atStart => exact ⟨n, rfl, by omega, rfl, rfl, Lib.hid (by rw [HL.out.1])⟩
  case round =>
    obtain ⟨m, rfl, hm, rfl, rfl, H⟩ := hrel
    rcases gk with _ | p
    · simp only [Int.natCast_zero]
      go_wp2_with fail
      go_ret2
      have h0 : lastV V d V.length = 0 := by rw [H.out]; rfl
      have eE : E = 8 := by rw [← HL.out.2.1]; unfold atE; rw [if_pos h0]
      have eL : L = [] := by rw [← HL.out.2.2.1]; unfold atL; rw [if_pos h0]
      rw [eE, eL]
      exact ⟨.slice none 0 0, rfl, World.ownsRow_nil _ _ _ _, grown_refl _⟩
    · rw [show ((p + 1 : Nat) : Int) - 1 = (p : Int) from by omega]
      obtain ⟨b, off, rfl, hb, r, ht, hok, c0, c1⟩ := HL.out.2.2.2.1.row (k := p) (by rw [HL.out.1]; omega)
      have hpl : (p : Int) < (n : Int) := by omega
      have HT := Lib.hid ht
      clear ht
      by_cases hle : r.f ≤ d
      · have HK := Lib.hid (lastV_succ_hit HT.out hle)
        go_wp2_with fail
        have hlen : r.n ≤ 1000000 := by rw [← hok.len]; exact HL.out.2.2.2.2 _ (List.mem_of_getElem? HT.out)
        refine (cloneStr_any _ _ _ r.ks _ hok.1 hlen).mono ?_
        rintro e w1 ⟨v, rfl, hown, hg1⟩
        go_wp2_with fail
        go_ret2
        have h1 : lastV V d V.length = p + 1 := by rw [H.out, HK.out]
        have eE : E = 0 := by rw [← HL.out.2.1]; unfold atE; rw [if_neg (by omega)]
        rw [eE]
        refine ⟨v, rfl, ?_, hg1⟩
        · have e2 : L = r.ks := by
            rw [← HL.out.2.2.1]; unfold atL atK; rw [if_neg (by omega), h1]
            have := HT.out
            simp [List.getD, this, verK]
          rw [e2, hok.len]; exact hown
      · have hle' : d < r.f := by omega
        have HK := Lib.hid (lastV_succ_miss HT.out hle')
        clear hle
        go_wp2_with fail
        go_roundg p
        case measure => omega
        case rel => exact ⟨p, rfl, by omega, by go_num, rfl, Lib.hid (by rw [H.out, HK.out])⟩

end Go.Proofs.YtahmeemhclfadaaDoor
