/- The walk of slices.Concat over numbers. -/
import Derived.Test.YtoaeflegcfecaaaLaidG
import Derived.Test.YtoaeflegcfecaaaClone
import Derived.Deep.LoopGhost
import Derived.Deep.Upon
namespace Go.Proofs.Ytoaeflegcfecaaa
open Go.RowKit

/-- append(out, l...): a slice of numbers. -/
theorem ap_slice {ops : Array Oper} {rest : List Oper} {o : Oper} {a : Act} {Q : Exit → Act → World → Prop} (w : World) (hgd : o.guard = none) (s x : Operand)
    (ho : o.op = .call { callee := .builtin .append, args := #[s, x], argTypes := #[22, 22] }) (base : Nat) (v : Value) (k : Nat) (l : List Int)
    (hs : a.eval s = v) (hown : w.ownsRow base 3 1 v k (ints l)) (B : Option Addr) (m c : Nat) (news : List Int) (hx : a.eval x = .slice B m c) (hr : Rd w 1 B m (ints news)) (hnone : B = none → c = 0)
    (hlen : k + m ≤ 1000000000) (hbase : base ≤ w.heap.size)
    (h : ∀ v' w', w'.ownsRow base 3 1 v' (k + m) (ints (l ++ news)) → w.grownBy w' v.ownBlock → wpList Try.prog ops Q rest (a.put o.dst v') w') :
    wpList Try.prog ops Q (o :: rest) a w := by
  obtain ⟨i0, hi, hz0, hz1, hz2⟩ := info_parts Try.infoInt
  cases B with
  | some ad =>
    refine wpList_append_own _ hgd s x 22 ho base 3 i0 (.int .i64 0) 1 8 Try.underlying22 hi hz0 hz1 hz2 rfl (by decide) v k (ints l) hs hown ad m c (ints news) hx hr.1
      (fun j u hu => by
        have hm : 0 < m := by
          rcases Nat.eq_zero_or_pos m with h0 | h0
          · have := (List.getElem?_eq_some_iff.1 hu).1; have := hr.1; omega
          · exact h0
        obtain ⟨b, off, e, hb, hc⟩ := hr.2 hm
        cases e
        rw [addp]; exact hc j u hu) (ints_one news) (by unfold maxLen; omega) (by omega) hbase ?_
    intro v' w' h1 h2 _
    exact h v' w' (by simpa [ints] using h1) h2
  | none =>
    have hm : m = 0 := by
      rcases Nat.eq_zero_or_pos m with h0 | h0
      · exact h0
      · obtain ⟨b, off, e, _⟩ := hr.2 h0; cases e
    have hc := hnone rfl
    subst hm hc
    have hn : news = [] := List.eq_nil_of_length_eq_zero (by have := hr.1; simpa [ints] using this)
    subst hn
    refine wpList_plain hgd fun K hK' => ?_
    have hrun := run_append_owned_none (P := Try.prog) w base 22 o.type 3 i0 1 Try.underlying22 hi v k (ints l) hown
    unfold Oper.wp
    simp [execOp, ho, resolve, invoke, builtin, hs, hx, hrun, Result.andThen]
    exact hK' _ _ (h v w (by simpa using hown) (World.grownBy.refl _ _))

theorem grow_nil_any (n : Nat) (w : World) (hn : n ≤ 1000000) :
    Calls Try.prog 76 #[.slice none 0 0, .int .i64 n] w fun e w' => ∃ v, e = .returned v ∧ w'.ownsRow w.heap.size 3 1 v 0 (ints []) ∧ w.grownBy w' none := by
  rcases Nat.eq_zero_or_pos n with h0 | h0
  · subst h0
    refine (Try.slices_Grow_room none 0 0 0 w (by omega) (by omega) (by omega) (by omega)).mono ?_
    rintro e w' ⟨rfl, rfl⟩
    exact ⟨_, rfl, World.ownsRow_nil _ _ _ _, grown_refl w'⟩
  · obtain ⟨i0, hi, hz0, hz1, hz2⟩ := info_parts Try.infoInt
    refine (Try.slices_Grow_nil i0 hi hz0 hz1 hz2 n w h0 hn).mono ?_
    rintro e w' ⟨rfl, rfl⟩
    have hge := grownCap_ge w (0 + n) 0 3
    have hle := grownCap_le_maxLen w (0 + n) 0 3 (by unfold maxLen; omega)
    generalize grownCap w (0 + n) 0 3 = cap at *
    refine ⟨_, rfl, ?_, grown_alloc (grown_drew (grown_refl w)) _⟩
    refine ⟨rfl, .inr ⟨w.heap.size, cap, _, rfl, Nat.le_refl _, heap_alloc_new w.drew _, by omega, hle, ?_, by simp [ints]⟩⟩
    simp [Builtin.zeroCells, Value.cells]
    omega

set_option maxRecDepth 100000 in
set_option maxHeartbeats 800000 in
theorem concat_any (B C : Option Addr) (np cp nt ct : Nat) (l1 l2 : List Int) (w : World) (hr1 : Rd w 1 B np (ints l1)) (hr2 : Rd w 1 C nt (ints l2)) (hB : B = none → cp = 0) (hC : C = none → ct = 0) (hnp : np ≤ 60) (hnt : nt ≤ 60) :
    Calls Try.prog 60 #[.slice (some ⟨w.heap.size, 0, none⟩) 2 2] (w.alloc (.cells #[.slice B np cp, .slice C nt ct] 22))
      fun e w' => ∃ v, e = .returned v ∧ w'.ownsRow w.heap.size 3 1 v (np + nt) (ints (l1 ++ l2)) ∧ w.grownBy w' none := by
  have c0 : (w.alloc (.cells #[.slice B np cp, .slice C nt ct] 22)).cell? ⟨w.heap.size, 0, none⟩ = some (.slice B np cp) := by rw [World.cell?_alloc_new]; rfl
  have c1 : (w.alloc (.cells #[.slice B np cp, .slice C nt ct] 22)).cell? ⟨w.heap.size, 1, none⟩ = some (.slice C nt ct) := by rw [World.cell?_alloc_new]; rfl
  have hg0 : w.grownBy (w.alloc (.cells #[.slice B np cp, .slice C nt ct] 22)) none := grown_alloc (grown_refl w) _
  have k1 := hr1.grown hg0
  have k2 := hr2.grown hg0
  generalize w.alloc (.cells #[.slice B np cp, .slice C nt ct] 22) = w0 at *
  have HB := Lib.hid (And.intro hB hC)
  clear hB hC hr1 hr2
  go_enter Try.func60, Try.ntmps60
  go_wp2_with fail
  go_loopg [3, 11] 2 (fun k sv i wr => ∃ j s : Nat, k + j = 2 ∧ i = .int .i64 j ∧ sv = .int .i64 s ∧ s ≤ 60 * j ∧ (j = 2 → s = np + nt) ∧ (j = 1 → s = np) ∧ (j = 0 → s = 0) ∧ wr = w0)
  case atStart => exact ⟨0, 0, by omega, rfl, rfl, by omega, fun h => by omega, fun h => by omega, fun _ => rfl, rfl⟩
  case round =>
    obtain ⟨j, s, hj, rfl, rfl, hs1, hs2, hs3, hs4, hw⟩ := hrel
    replace hw := hw.symm
    subst hw
    have hjc : j = 0 ∨ j = 1 ∨ j = 2 := by omega
    rcases hjc with rfl | rfl | rfl
    · obtain rfl : s = 0 := hs4 rfl
      simp only [Int.natCast_zero]
      clear hs2 hs3 hs4 hs1
      go_wp2_with fail
      go_roundg (gk - 1)
      case measure => omega
      case rel => exact ⟨1, np, by omega, by go_num, by go_num, by omega, fun h => by omega, fun _ => rfl, fun h => by omega, rfl⟩
    · obtain rfl : s = np := hs3 rfl
      simp only [Int.natCast_one]
      clear hs2 hs3 hs4 hs1
      go_wp2_with fail
      go_roundg (gk - 1)
      case measure => omega
      case rel => exact ⟨2, s + nt, by omega, by go_num, by go_num, by omega, fun _ => rfl, fun h => by omega, fun h => by omega, rfl⟩
    · have HS := Lib.hid (hs2 rfl)
      have hs120 : s ≤ 120 := by omega
      clear hs2 hs3 hs4 hs1
      go_wp2_with fail
      refine (grow_nil_any s w0 (by omega)).mono ?_
      rintro e w1 ⟨v, rfl, hown, hg⟩
      have hsz0 := hg0.size
      generalize gk = ko at *
      go_wp2_with fail
      go_loopg [6, 27] 2 (fun k vv i wr => ∃ (j m : Nat) (l : List Int), k + j = 2 ∧ i = .int .i64 j ∧ m ≤ 60 * j ∧ wr.ownsRow w0.heap.size 3 1 vv m (ints l) ∧ w0.grownBy wr none ∧
        (j = 0 → m = 0 ∧ l = []) ∧ (j = 1 → m = np ∧ l = l1) ∧ (j = 2 → m = np + nt ∧ l = l1 ++ l2))
      case atStart => exact ⟨0, 0, [], by omega, rfl, by omega, hown, hg, fun _ => ⟨rfl, rfl⟩, fun h => by omega, fun h => by omega⟩
      case round =>
        clear hown hg
        obtain ⟨j, m, l, hj, rfl, hm, hown, hg, h0, h1, h2⟩ := hrel
        have c0' := hg.cell c0 (by simp)
        have c1' := hg.cell c1 (by simp)
        have k1' := k1.grown hg
        have k2' := k2.grown hg
        have hsz := hg.size
        have hjc : j = 0 ∨ j = 1 ∨ j = 2 := by omega
        rcases hjc with rfl | rfl | rfl
        · obtain ⟨rfl, rfl⟩ := h0 rfl
          simp only [Int.natCast_zero]
          clear h0 h1 h2 hm
          go_wp2_with (at_builtin; refine ap_slice wr rfl _ _ rfl w0.heap.size _ 0 [] rfl hown B np cp l1 rfl k1' HB.out.1 (by omega) hsz ?_; intro v4 w4 hown4 hg4)
          go_roundg (gk - 1)
          case measure => omega
          case rel => exact ⟨1, 0 + np, l1, by omega, by go_num, by omega, by simpa using hown4, grown_below hg hg4 (fun i hi => .inl (hown.lt i hi).1), fun h => by omega, fun _ => ⟨by omega, rfl⟩, fun h => by omega⟩
        · obtain ⟨rfl, rfl⟩ := h1 rfl
          simp only [Int.natCast_one]
          clear h0 h1 h2 hm
          go_wp2_with (at_builtin; refine ap_slice wr rfl _ _ rfl w0.heap.size _ m l rfl hown C nt ct l2 rfl k2' HB.out.2 (by omega) hsz ?_; intro v4 w4 hown4 hg4)
          go_roundg (gk - 1)
          case measure => omega
          case rel => exact ⟨2, m + nt, l ++ l2, by omega, by go_num, by omega, hown4, grown_below hg hg4 (fun i hi => .inl (hown.lt i hi).1), fun h => by omega, fun h => by omega, fun _ => ⟨rfl, rfl⟩⟩
        · obtain ⟨rfl, rfl⟩ := h2 rfl
          clear h0 h1 h2 hm
          go_wp2_with fail
          go_ret
          exact ⟨_, rfl, own_mono hown hsz0, hg0.trans hg⟩

end Go.Proofs.Ytoaeflegcfecaaa
