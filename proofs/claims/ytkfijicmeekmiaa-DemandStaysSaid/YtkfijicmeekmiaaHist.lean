/- The walk of Histogram: a histogram made of the stream's numbers. -/
import Derived.Test.YtkfijicmeekmiaaMade
import Derived.Deep.DeepCutAuto
import Derived.Deep.CutBlock
namespace Go.Proofs.Ytkfijicmeekmiaa
open Go.RowKit
variable {Q : Nat → Prop}

def hsRow (L : List Int) (t j : Nat) : List Int := (List.range j).map fun i => pk L (t + i) [0, 1, 1, 2, 5]
theorem hsRow_succ (L : List Int) (t j : Nat) : hsRow L t (j + 1) = hsRow L t j ++ [pk L (t + j) [0, 1, 1, 2, 5]] := by simp [hsRow, List.range_succ]
theorem hsRow_len (L : List Int) (t j : Nat) : (hsRow L t j).length = j := by simp [hsRow]

/-- Histogram, of N numbers at first. -/
def hsEnd (L : List Int) (t : Nat) (l : List Int) : Nat × List Int :=
  if nx L t 20 = 0 then (t + 2, l ++ [pk L (t + 1) [-1, 1000000000, 1000000001]])
  else if nx L t 20 = 1 then (t + 2, List.replicate (pk L (t + 1) [1000, 2000, 2001]).toNat 0 ++ [1])
  else if nx L t 20 = 2 then (t + 1, l ++ [100000, 0])
  else (t + 1, l)
def histM (L : List Int) (t : Nat) : Nat × List Int := hsEnd L (t + 1 + (nx L t 8).toNat) (hsRow L (t + 1) (nx L t 8).toNat)
theorem histM_bound (L : List Int) (t : Nat) : (histM L t).1 ≤ t + 12 ∧ (histM L t).2.length ≤ 2002 := by
  have h := nx_in L t 8 (by omega)
  have hp := pk_mem L (t + 1 + (nx L t 8).toNat + 1) [1000, 2000, 2001] (by simp)
  simp only [List.mem_cons, List.not_mem_nil, or_false] at hp
  unfold histM hsEnd
  split
  · simp [hsRow_len]; omega
  · split
    · simp; omega
    · split
      · simp [hsRow_len]; omega
      · simp [hsRow_len]; omega

/-- append(out, y, z). -/
theorem ap_int2 {ops : Array Oper} {rest : List Oper} {o : Oper} {a : Act} {Q : Exit → Act → World → Prop} (w : World) (y z : Int) (hgd : o.guard = none) (s x : Operand)
    (ho : o.op = .call { callee := .builtin .append, args := #[s, x], argTypes := #[22, 22] }) (base : Nat) (v : Value) (l : List Int)
    (hs : a.eval s = v) (hown : w.ownsRow base 3 1 v l.length (ints l)) (hx : a.eval x = .slice (some ⟨w.heap.size, 0, none⟩) 2 2) (hlen : l.length ≤ 1000000000) (hbase : base ≤ w.heap.size)
    (h : ∀ v' w', w'.ownsRow base 3 1 v' (l ++ [y, z]).length (ints (l ++ [y, z])) → (w.alloc (.cells #[.int .i64 y, .int .i64 z] 3)).grownBy w' v.ownBlock → wpList Try.prog ops Q rest (a.put o.dst v') w') :
    wpList Try.prog ops Q (o :: rest) a (w.alloc (.cells #[.int .i64 y, .int .i64 z] 3)) := by
  obtain ⟨i0, hi, hz0, hz1, hz2⟩ := info_parts Try.infoInt
  refine wpList_append_own _ hgd s x 22 ho base 3 i0 (.int .i64 0) 1 8 Try.underlying22 hi hz0 hz1 hz2 rfl (by decide) v l.length (ints l) hs (hown.alloc _) ⟨w.heap.size, 0, none⟩ 2 2 (ints [y, z]) hx rfl
    (cells_new w #[.int .i64 y, .int .i64 z] _) (by simp [ints, Value.oneCell']) (by unfold maxLen; omega) (by omega) (by simp; omega) ?_
  intro v' w' h1 h2 _
  exact h v' w' (by simpa [ints] using h1) h2

set_option maxRecDepth 100000 in
set_option maxHeartbeats 1000000 in
theorem hist_any (bs : Nat) (L : List Int) (t : Nat) (w : World) (hs : StrQ Q w bs L t) (ht : t ≤ 800000) :
    Calls Try.prog 35 #[.pointer (some ⟨bs, 0, none⟩)] w
      fun e w' => ∃ v, e = .returned v ∧ w'.ownsRow w.heap.size 3 1 v (histM L t).2.length (ints (histM L t).2) ∧ StrQ Q w' bs L (histM L t).1 ∧ w.grownBy w' (some bs) := by
  have hbs := hs.lt
  obtain ⟨N, hN⟩ : ∃ N : Nat, nx L t 8 = N := ⟨(nx L t 8).toNat, by have := nx_in L t 8 (by omega); omega⟩
  have hN8 : N < 8 := by have := nx_in L t 8 (by omega); omega
  have hM : histM L t = hsEnd L (t + 1 + N) (hsRow L (t + 1) N) := by unfold histM; rw [hN]; rfl
  generalize histM L t = M at *
  have HM := Lib.hid hM
  have HN := Lib.hid hN
  clear hM hN
  go_enter Try.func35, Try.ntmps35
  go_wp2_with fail
  refine (next_any bs L t 8 _ hs (by omega) (by omega)).mono ?_
  rw [HN.out]
  rintro e w2 ⟨rfl, hs2, hg2⟩
  have hsz2 := hg2.size
  go_wp2_with fail
  go_loopg [3, 6] N (fun k v i wr => ∃ j : Nat, k + j = N ∧ i = .int .i64 j ∧ wr.ownsRow w.heap.size 3 1 v (hsRow L (t + 1) j).length (ints (hsRow L (t + 1) j)) ∧ StrQ Q wr bs L (t + 1 + j) ∧ w.grownBy wr (some bs))
  case atStart => exact ⟨0, by omega, rfl, World.ownsRow_nil _ _ _ _, hs2, hg2⟩
  case round =>
    obtain ⟨j, hj, rfl, hown, hst, hg⟩ := hrel
    by_cases hlt : j < N
    · have hsucc := hsRow_succ L (t + 1) j
      have hl := hsRow_len L (t + 1) j
      generalize hsRow L (t + 1) j = l at *
      have hl1 : l.length ≤ 1000000000 := by omega
      have HS := Lib.hid (And.intro hsucc hj)
      clear hsucc hj hl
      go_wp2_with fail
      refine (pick_lit bs L _ [0, 1, 1, 2, 5] _ hst (by omega) (by decide) (by decide) 3).mono ?_
      rintro e w3 ⟨rfl, hs3, hg3⟩
      have hown3 := hown.kept hg3 (own_ne hown (by omega))
      have hgg3 := hg.trans hg3
      have hsz3 := hgg3.size
      go_wp2_with (at_builtin; refine ap_int w3 (pk L (t + 1 + j) [0, 1, 1, 2, 5]) rfl _ _ rfl w.heap.size _ l rfl hown3 rfl hl1 hsz3 ?_; intro v5 w5 hown5 hg5)
      have hgg5 := ap_grown hgg3 hown3 hg5 (Nat.le_refl _)
      have hs5 := ap_str hs3 hown3 hg5 hbs
      obtain ⟨hsucc, hj⟩ := HS.out
      go_roundg (gk - 1)
      case measure => omega
      case rel => exact ⟨j + 1, by omega, by go_num, by rw [hsucc]; exact hown5, hs5, hgg5⟩
    · obtain rfl : j = N := by omega
      have hl := hsRow_len L (t + 1) j
      have hM2 : M = hsEnd L (t + 1 + j) (hsRow L (t + 1) j) := HM.out
      generalize hsRow L (t + 1) j = l at *
      unfold hsEnd at hM2
      have hl1 : l.length ≤ 1000000000 := by omega
      have HM2 := Lib.hid hM2
      clear hM2 HM hlt hj hs2 hg2 hsz2 hl
      go_wp2_with fail
      refine (next_any bs L _ 20 _ hst (by omega) (by omega)).mono ?_
      rintro e w4 ⟨rfl, hs4, hg4⟩
      have hown4 := hown.kept hg4 (own_ne hown hbs)
      have hgg4 := hg.trans hg4
      obtain ⟨x0, x1⟩ := nx_in L (t + 1 + j) 20 (by omega)
      generalize nx L (t + 1 + j) 20 = x at *
      have hx : x = 0 ∨ x = 1 ∨ x = 2 ∨ 2 < x := by omega
      clear hown hst hg hg4
      rcases hx with rfl | rfl | rfl | hx
      · go_wp2_with fail
        refine (pick_lit bs L _ [-1, 1000000000, 1000000001] _ hs4 (by omega) (by decide) (by decide) 3).mono ?_
        rintro e w5 ⟨rfl, hs5, hg5⟩
        have hown5 := hown4.kept hg5 (own_ne hown4 hbs)
        have hgg5 := hgg4.trans hg5
        have hsz5 := hgg5.size
        go_wp2_with (at_builtin; refine ap_int w5 (pk L (t + 1 + j + 1) [-1, 1000000000, 1000000001]) rfl _ _ rfl w.heap.size _ l rfl hown5 rfl hl1 hsz5 ?_; intro v6 w6 hown6 hg6)
        go_ret
        rw [HM2.out, if_pos (by simp)]
        exact ⟨_, rfl, hown6, ap_str hs5 hown5 hg6 hbs, ap_grown hgg5 hown5 hg6 (Nat.le_refl _)⟩
      · go_wp2_with fail
        refine (pick_lit bs L _ [1000, 2000, 2001] _ hs4 (by omega) (by decide) (by decide) 3).mono ?_
        have hp := pk_mem L (t + 1 + j + 1) [1000, 2000, 2001] (by simp)
        simp only [List.mem_cons, List.not_mem_nil, or_false] at hp
        obtain ⟨p, hpp⟩ : ∃ p : Nat, pk L (t + 1 + j + 1) [1000, 2000, 2001] = p := ⟨(pk L (t + 1 + j + 1) [1000, 2000, 2001]).toNat, by omega⟩
        rw [hpp]
        have HP := Lib.hid hpp
        rintro e w5 ⟨rfl, hs5, hg5⟩
        have hgg5 := hgg4.trans hg5
        have hsz5 := hgg5.size
        have hp1 : p ≤ 1000000 := by omega
        have hmk := make_ints p hp1
        have hown5 := made_ints w5 p hp1
        have hgA := grown_alloc hgg5 (.cells (madeCells #[.int .i64 0] p) 3)
        have hsA := hs5.grown (grown_alloc (grown_refl w5) (.cells (madeCells #[.int .i64 0] p) 3)) (by simp)
        have hNz : (w5.alloc (.cells (madeCells #[.int .i64 0] p) 3)).heap.size = w5.heap.size + 1 := by simp
        have hln : (List.replicate p (0 : Int)).length ≤ 1000000000 := by rw [List.length_replicate]; omega
        have hbz : w5.heap.size ≤ (w5.alloc (.cells (madeCells #[.int .i64 0] p) 3)).heap.size := by simp
        have hbw := hs5.lt
        have hown5' : (w5.alloc (.cells (madeCells #[.int .i64 0] p) 3)).ownsRow w5.heap.size 3 1 (.slice (some ⟨w5.heap.size, 0, none⟩) p p) (List.replicate p (0 : Int)).length (ints (List.replicate p 0)) := by rw [List.length_replicate]; exact hown5
        clear hp hpp hown4 hown5
        go_wp2_with (at_builtin; refine ap_intN (w5.alloc (.cells (madeCells #[.int .i64 0] p) 3)) 1 rfl _ _ rfl w5.heap.size _ (List.replicate p 0) rfl hown5' _ hNz rfl hln hbz ?_; intro v6 w6 hown6 hg6)
        go_ret
        rw [HM2.out, if_neg (by omega), if_pos (by simp), HP.out, Int.toNat_natCast]
        exact ⟨_, rfl, own_mono hown6 hsz5, ap_str hsA hown5' hg6 hbw, grown_below (grown_alloc hgA _) hg6 (fun j hj => .inl (by have := (hown5'.lt j hj).1; omega))⟩
      · have hsz4 := hgg4.size
        go_wp2_with (at_builtin; refine ap_int2 w4 100000 0 rfl _ _ rfl w.heap.size _ l rfl hown4 rfl hl1 hsz4 ?_; intro v6 w6 hown6 hg6)
        go_ret
        rw [HM2.out, if_neg (by omega), if_neg (by omega), if_pos (by simp)]
        exact ⟨_, rfl, hown6, ap_str hs4 hown4 hg6 hbs, ap_grown hgg4 hown4 hg6 (Nat.le_refl _)⟩
      · have e0 : (x == 0) = false := by rw [beq_eq_false_iff_ne]; omega
        have e1 : (x == 1) = false := by rw [beq_eq_false_iff_ne]; omega
        have e2 : (x == 2) = false := by rw [beq_eq_false_iff_ne]; omega
        go_wp2_with fail
        go_ret
        rw [HM2.out, if_neg (by omega), if_neg (by omega), if_neg (by omega)]
        exact ⟨_, rfl, hown4, hs4, hgg4⟩

end Go.Proofs.Ytkfijicmeekmiaa
