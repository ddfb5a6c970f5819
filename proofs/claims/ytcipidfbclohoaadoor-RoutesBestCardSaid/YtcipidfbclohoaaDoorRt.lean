/- The walk of the stream's Route: an order of some stops. -/
import Derived.Test.YtcipidfbclohoaaDoorOrd
import Derived.Test.YtcipidfbclohoaaDoorClone
import Derived.Test.YtcipidfbclohoaaDoorPkAt
namespace Go.Proofs.YtcipidfbclohoaaDoor
open Go.RowKit
variable {Q : Nat → Prop}

/-- s[:q], and in which block it lies. -/
theorem win_hb {P : Program} {t : TypeId} {w : World} {k n c q : Nat} {A : Option Addr} {xs : List Value} (ht : P.underlying t = some (.slice (P.elem t))) (hz : ∀ w, (sizeOf (P.elem t)).run P w = .ok k w)
    (h : Rd w k A n xs) (hq : q ≤ n) (hn : n ≤ c) : ∃ A', (∀ w, (Instr.slice t (.slice A n c) none (some (.int .i64 q)) none).run P w = .ok (.slice A' q c) w) ∧ Rd w k A' q (xs.take (q * k)) ∧ ∀ a', A' = some a' → ∃ a, A = some a ∧ a'.block = a.block := by
  refine ⟨if c = 0 then A else A.map (·.add (0 * k)), fun w => ?_, ⟨?_, fun h0 => ?_⟩, fun a' ha => ?_⟩
  · rw [run_slice_h w t A n c ht .i64 (q : Int) (by omega) (by omega), hz]
    simp [Result.andThen, sliced]
  · have := h.1
    have h1 : q * k ≤ n * k := Nat.mul_le_mul_right k hq
    rw [List.length_take]; omega
  · obtain ⟨b, off, rfl, hb, hc⟩ := h.2 (by omega)
    refine ⟨b, off, ?_, hb, fun j u hu => hc j u ?_⟩
    · rw [if_neg (by omega)]; simp [Addr.add]
    · rw [List.getElem?_take] at hu
      split at hu
      · exact hu
      · cases hu
  · split at ha
    · exact ⟨a', ha, rfl⟩
    · cases A with
      | none => cases ha
      | some a => simp at ha; exact ⟨a, rfl, by rw [← ha]; unfold Addr.add; split <;> rfl⟩

def routeM (L : List Int) (t n : Nat) : Nat × List Int :=
  if (nx L ((orderM L t n).1 + 1) 15 == 0) = true then ((orderM L t n).1 + 3, (orderM L t n).2.take (nx L (orderM L t n).1 ((n : Int) + 1)).toNat ++ [pk L ((orderM L t n).1 + 2) [-1, 0, (n : Int)]])
  else ((orderM L t n).1 + 2, (orderM L t n).2.take (nx L (orderM L t n).1 ((n : Int) + 1)).toNat)
theorem routeM_b (L : List Int) (t n : Nat) : (routeM L t n).1 ≤ t + n + 3 ∧ (routeM L t n).2.length ≤ n + 1 := by
  have h := shuf_b L t n (n - 1)
  have hh : (orderM L t n).1 = t + (n - 1) ∧ (orderM L t n).2.length = n := h
  unfold routeM
  split
  · simp; omega
  · simp; omega

set_option maxRecDepth 100000 in
set_option maxHeartbeats 4000000 in
theorem route_any (bs : Nat) (L : List Int) (t n : Nat) (w : World) (hs : StrQ Q w bs L t) (ht : t ≤ 800000) (hn : n ≤ 1000) :
    Calls Tryd.prog 16 #[.pointer (some ⟨bs, 0, none⟩), .int .i64 n] w
      fun e w' => ∃ A c, e = .returned (.slice A (routeM L t n).2.length c) ∧ (routeM L t n).2.length ≤ c ∧ Rd w' 1 A (routeM L t n).2.length (ints (routeM L t n).2) ∧ (∀ a, A = some a → w.heap.size ≤ a.block) ∧ StrQ Q w' bs L (routeM L t n).1 ∧ w.grownBy w' (some bs) := by
  have hbs := hs.lt
  have hob := shuf_b L t n (n - 1)
  have hob' : (orderM L t n).1 = t + (n - 1) ∧ (orderM L t n).2.length = n := hob
  obtain ⟨M, hM⟩ : ∃ M, routeM L t n = M := ⟨_, rfl⟩
  have hMd := hM
  unfold routeM at hMd
  rw [hM]
  have hO := order_any bs L t n w hs (by omega) hn
  generalize orderM L t n = S at *
  obtain ⟨T, l⟩ := S
  simp only at hob' hO hMd
  obtain ⟨hT, hl⟩ := hob'
  obtain ⟨q0, q1⟩ := nx_in L T ((n : Int) + 1) (by omega)
  obtain ⟨q, hq⟩ := Int.eq_ofNat_of_zero_le q0
  rw [hq] at q1
  rw [hq, Int.toNat_natCast] at hMd
  have hqn : q ≤ n := by omega
  have HM := Lib.hid (And.intro hMd (And.intro hq (And.intro hl hT)))
  have HO := Lib.hid hO
  have hT2 : T ≤ 801000 := by omega
  clear hM hMd hq q0 hl hT hO hob hs
  go_enter Tryd.func16, Tryd.ntmps16
  go_wp2_with fail
  refine HO.out.mono ?_
  rintro e w1 ⟨v1, rfl, hown, hs1, hg1⟩
  obtain ⟨A, c, rfl, hnc, _, hr1, hb1⟩ := Rd.of_own hown
  clear hown
  go_wp2_with fail
  refine (next_any bs L T ((n : Int) + 1) _ hs1 (by omega) (by omega)).mono ?_
  rw [HM.out.2.1]
  rintro e w2 ⟨rfl, hs2, hg2⟩
  have hr2 := hr1.grown_ hg2 (fun a ha e => by have := hb1 a ha; injection e with e; omega)
  have hgg2 := hg1.trans hg2
  obtain ⟨A', hsl, hrw, hbw⟩ := win_hb (P := Tryd.prog) (t := 22) Tryd.underlying22 Tryd.sizeOf3 hr2 hqn hnc
  have hbA : ∀ a, A' = some a → w.heap.size ≤ a.block := fun a ha => by obtain ⟨b, hb, e⟩ := hbw a ha; have := hb1 b hb; omega
  have hslw := hsl w2
  rw [show (ints l).take (q * 1) = ints (l.take q) from by rw [Nat.mul_one]; simp [ints, List.map_take]] at hrw
  have htl : (l.take q).length = q := by rw [List.length_take, HM.out.2.2.1]; omega
  have hqc : q ≤ c := by omega
  clear hs1 hg1 hg2 hr1 hr2 hb1 hbw
  go_wp2_with fail
  refine (flip_any bs L (T + 1) 15 _ hs2 (by omega) (by omega)).mono ?_
  rintro e w3 ⟨rfl, hs3, hg3⟩
  have hr3 := hrw.grown_ hg3 (fun a ha e => by have := hbA a ha; injection e with e; omega)
  have hgg3 := hgg2.trans hg3
  clear hs2 hg3 hgg2 hrw hslw hsl
  by_cases hf : (nx L (T + 1) 15 == 0) = true
  · rw [hf]
    have hMM := HM.out.1
    rw [if_pos hf] at hMM
    obtain ⟨z, hz⟩ : ∃ z, pk L (T + 2) [-1, 0, (n : Int)] = z := ⟨_, rfl⟩
    rw [hz] at hMM
    have HF := Lib.hid (And.intro hMM (And.intro hz htl))
    clear hf hMM hz htl
    go_wp2_with fail
    refine (cloneInts_any A' q c (l.take q) _ hr3 (by omega)).mono ?_
    rintro e w4 ⟨v4, rfl, hown4, hg4⟩
    have hs4 := hs3.grown hg4 (by simp)
    have hgg4 := hgg3.trans (hg4.but (some bs))
    have hsz3 := hgg3.size
    have hz4 := hg4.size
    clear hs3 hg4 hgg3 hr3
    go_wp2_with fail
    refine (pick_lit bs L (T + 1 + 1) [-1, 0, (n : Int)] w4 hs4 (by omega) (by simp) (by simp) 3).mono ?_
    rw [show pk L (T + 1 + 1) [-1, 0, (n : Int)] = z from HF.out.2.1]
    rintro e w5 ⟨rfl, hs5, hg5⟩
    have hown5 := hown4.kept hg5 (own_ne hown4 (by omega))
    have hgg5 := hgg4.trans hg5
    have hsz5 : w3.heap.size ≤ w5.heap.size := Nat.le_trans hz4 hg5.size
    have hown6 : w5.ownsRow w3.heap.size 3 1 v4 (l.take q).length (ints (l.take q)) := by rw [HF.out.2.2]; exact hown5
    have hlen : (l.take q).length ≤ 1000000000 := by rw [HF.out.2.2]; omega
    clear hown4 hs4 hg5 hgg4 hown5 hz4
    go_wp2_with (at_builtin; refine ap_int w5 z rfl _ _ rfl w3.heap.size v4 (l.take q) rfl hown6 rfl hlen hsz5 ?_; intro v8 w8 hown8 hg8)
    have hs8 := ap_str hs5 hown6 hg8 (by omega)
    have hgg8 := ap_grown hgg5 hown6 hg8 hsz3
    obtain ⟨A9, c9, rfl, hn9, _, hr9, hb9⟩ := Rd.of_own hown8
    go_ret
    rw [← HF.out.1]
    exact ⟨A9, c9, rfl, hn9, hr9, fun a ha => Nat.le_trans hsz3 (hb9 a ha), hs8, hgg8⟩
  · have hf' : (nx L (T + 1) 15 == 0) = false := by simpa using hf
    rw [hf']
    have hMM := HM.out.1
    rw [if_neg hf] at hMM
    have HF := Lib.hid hMM
    clear hf hf' hMM
    go_wp2_with fail
    go_ret
    rw [← HF.out]
    refine ⟨A', c, ?_, ?_, ?_, hbA, hs3, hgg3⟩
    · show Ending.returned (.slice A' q c) = .returned (.slice A' (l.take q).length c)
      rw [htl]
    · show (l.take q).length ≤ c; rw [htl]; exact hqc
    · show Rd w3 1 A' (l.take q).length (ints (l.take q)); rw [htl]; exact hr3

end Go.Proofs.YtcipidfbclohoaaDoor
