/- slices.Backward over tubes: the iterator's contract. -/
import Derived.Test.YtoaeflegcfecaaaVendB
import Derived.Test.YtoaeflegcfecaaaSeq
namespace Go.Proofs.Ytoaeflegcfecaaa
open Go.RowKit Go.Shelf

attribute [local go_sem] Oper.semAt_some

/-- What a range backward over l hands to its body. -/
abbrev BackAt (l : List Tub) : Type := { x : Nat × Tub // l[x.1]? = some x.2 }
def backArgs {l : List Tub} (x : BackAt l) : Array Value := #[.int .i64 (x.1.1 : Int), .agg #[.int .i64 x.1.2.v, .int .i64 x.1.2.c, .int .i64 x.1.2.m]]
def backAll (l : List Tub) : List (BackAt l) := (List.ofFn (n := l.length) fun k => (⟨(k.1, l[k.1]), List.getElem?_eq_getElem k.2⟩ : BackAt l)).reverse

theorem backAll_len (l : List Tub) : (backAll l).length = l.length := by simp [backAll]
theorem backAll_at (l : List Tub) (p : Nat) (t : Tub) (h : l[p]? = some t) : ∃ x : BackAt l, (backAll l)[l.length - (p + 1)]? = some x ∧ x.1 = (p, t) := by
  obtain ⟨hp, e⟩ := List.getElem?_eq_some_iff.1 h
  refine ⟨⟨(p, t), h⟩, ?_, rfl⟩
  rw [List.getElem?_eq_some_iff]
  refine ⟨by rw [backAll_len]; omega, ?_⟩
  simp only [backAll, List.getElem_reverse, List.getElem_ofFn]
  apply Subtype.ext
  simp only [List.length_ofFn]
  have : l.length - 1 - (l.length - (p + 1)) = p := by omega
  simp only [this, e]

set_option maxRecDepth 100000 in
set_option maxHeartbeats 2000000 in
theorem back1_in (n : Nat) (lp Bs n₀ len cap : Nat) (A : Option Addr) (l : List Tub) (w : World) (hlen : l.length = len) (hr : Rd w 3 A len (tubFlat l)) (hn₀ : w.heap.size = n₀) (hm : len ≤ 1000000)
    (J Jx : List (BackAt l) → World → Prop)
    (hY : ∀ pre x W, J pre W → pre.length < len → YieldAt Fence.wide (n - 1) Try.prog lp (backArgs x) W fun e W' =>
      (e = .returned (.bool true) ∧ J (pre ++ [x]) W' ∧ BackKp n₀ Bs W W') ∨ (e = .returned (.bool false) ∧ Jx (pre ++ [x]) W'))
    (W : World) (hW : Below n₀ w W) (hBs : W.cell? ⟨Bs, 0, none⟩ = some (.slice A len cap)) (h0 : J [] W) (hn : 1 ≤ n) :
    CallsIn Fence.wide n Try.prog 70 #[.func (.yield lp) #[] #[], .pointer (some ⟨Bs, 0, none⟩)] W fun e W' => (∃ v, e = .returned v) ∧
      ((∃ ys, ys = backAll l ∧ J ys W') ∨ (∃ pre, True ∧ Jx pre W')) := by
  refine callsIn_of_wp Try.func70 rfl trivial ?_ rfl
  simp only [Try.ntmps70, List.size_toArray, List.length_cons, List.length_nil, Nat.reduceAdd, Nat.reduceSub, Array.replicate_succ, Array.replicate_zero, List.push_toArray, List.append_toArray, List.nil_append, List.cons_append]
  gi_wp2
  gi_loopw [3] (fun i wr => ∃ m : Nat, m ≤ len ∧ i = .int .i64 ((m : Int) - 1) ∧ J ((backAll l).take (len - m)) wr ∧ BackKp n₀ Bs W wr) (fun i _ => (intOf i + 1).toNat)
  case atStart => exact ⟨len, Nat.le_refl _, rfl, by simpa using h0, BackKp.refl _ _ _⟩
  case round =>
    obtain ⟨m, hmm, rfl, hJs, hnx⟩ := hrel
    have hBs' : wr.cell? ⟨Bs, 0, none⟩ = some (.slice A len cap) := hnx.2 _ hBs
    rcases m with _ | p
    · simp only [Int.natCast_zero]
      gi_wp2
      go_end0
      exact ⟨⟨_, rfl⟩, .inl ⟨_, rfl, by rw [Nat.sub_zero, List.take_of_length_le (by rw [backAll_len]; omega)] at hJs; exact hJs⟩⟩
    · rw [show ((p + 1 : Nat) : Int) - 1 = (p : Int) from by omega]
      have hrr : Rd wr 3 A len (tubFlat l) := ⟨hr.1, fun h => by
        obtain ⟨b, off, e, hb, hc⟩ := hr.2 h
        exact ⟨b, off, e, Nat.lt_of_lt_of_le hb (Nat.le_trans hW.size hnx.1.size), fun j u hu => ((hW.trans hnx.1).cell (p := ⟨b, off + j, none⟩) (by simp; omega)).trans (hc j u hu)⟩⟩
      obtain ⟨b, off, rfl, hb, t, ht, c0, c1, c2⟩ := tub_cells hrr (k := p) (by omega)
      obtain ⟨x, hx, hxe⟩ := backAll_at l p t ht
      obtain ⟨fn, tmps, assign, body, hy, hR⟩ := hY _ x wr hJs (by rw [List.length_take, backAll_len]; omega)
      have htk : (backAll l).take (len - p) = (backAll l).take (len - (p + 1)) ++ [x] := by
        rw [← hlen] at *
        rw [show l.length - p = (l.length - (p + 1)) + 1 from by omega]
        exact take_at hx
      have HT := Lib.hid (And.intro htk (And.intro hx ht))
      clear htk hx ht
      simp only [backArgs, hxe] at hy
      have hpl : (p : Int) < (len : Int) := by omega
      gi_wp2
      refine hR.mono ?_
      rintro e W3 (⟨rfl, hJ3, hk3⟩ | ⟨rfl, hJx3⟩)
      · gi_wp2
        go_roundw
        case rel => exact ⟨p, by omega, by rfl, by rw [HT.out.1]; exact hJ3, hnx.trans hk3⟩
        case measure => simp [intOf]
      · gi_wp2
        refine bodyPost_ret (results_none rfl _ _ _) rfl ?_
        exact ⟨⟨_, rfl⟩, .inr ⟨_, trivial, hJx3⟩⟩

theorem back_stops (n : Nat) (Bs len cap : Nat) (A : Option Addr) (l : List Tub) (w0 w : World) (hlen : l.length = len) (hr : Rd w0 3 A len (tubFlat l)) (hm : len ≤ 1000000) (hB : Below w0.heap.size w0 w)
    (hBs : w.cell? ⟨Bs, 0, none⟩ = some (.slice A len cap)) (hBlt : Bs < w.heap.size) (hn : 1 ≤ n) :
    SeqStopsK Fence.wide n Try.prog 70 #[.pointer (some ⟨Bs, 0, none⟩)] (backArgs (l := l)) (BackKp w0.heap.size Bs) (fun ys => ys = backAll l) (fun _ => True) len w :=
  fun lp J Jx W hW _ _ hY h0 => back1_in n lp Bs w0.heap.size len cap A l w0 hlen hr rfl hm J Jx hY W (hB.trans (hW.mono hB.size)) ((hW.cell (p := ⟨Bs, 0, none⟩) hBlt).trans hBs) h0 hn

set_option maxHeartbeats 1000000 in
theorem back_any (A : Option Addr) (len cap : Nat) (w : World) :
    Calls Try.prog 51 #[.slice A len cap] w fun e w' => e = .returned (.func (.func 70) #[] #[.pointer (some ⟨w.heap.size, 0, none⟩)]) ∧ w.alloc (.cells #[.slice A len cap] 26) = w' := by
  have hmf : ∀ (fn : Fn) (first cap : Array Value) (w : World), (Instr.makeFunc fn first cap).run Try.prog w = .ok (.func fn first cap) w := fun _ _ _ _ => rfl
  go_enter Try.func51, Try.ntmps51
  go_wp2_with fail
  go_ret
  exact ⟨rfl, rfl⟩

end Go.Proofs.Ytoaeflegcfecaaa
