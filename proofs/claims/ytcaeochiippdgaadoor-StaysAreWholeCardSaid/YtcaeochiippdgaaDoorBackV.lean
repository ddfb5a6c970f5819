/- slices.Backward over versions: the iterator's contract. -/
import Derived.Test.YtcaeochiippdgaaDoorLayAt
import Derived.Test.YtcaeochiippdgaaDoorSeq
namespace Go.Proofs.YtcaeochiippdgaaDoor
open Go.RowKit Go.Shelf

attribute [local go_sem] Oper.semAt_some

theorem vr_cells {w : World} {A : Option Addr} {n : Nat} {l : List Vr} (h : Rd w 2 A n (vrFlat l)) {k : Nat} (hk : k < n) :
    ∃ b off, A = some ⟨b, off, none⟩ ∧ b < w.heap.size ∧ ∃ t, l[k]? = some t ∧ w.cell? ⟨b, off + k * 2, none⟩ = some (.int .i64 t.f) ∧ w.cell? ⟨b, off + k * 2 + 1, none⟩ = some (.slice t.A t.n t.c) := by
  obtain ⟨b, off, e, hb, t, ht, hc⟩ := rows_cell vrCells_len (by decide) h hk
  exact ⟨b, off, e, hb, t, ht, hc 0 _ rfl, hc 1 _ rfl⟩

/-- What a range backward over l hands to its body. -/
abbrev BackV (l : List Vr) : Type := { x : Nat × Vr // l[x.1]? = some x.2 }
def backArgsV {l : List Vr} (x : BackV l) : Array Value := #[.int .i64 (x.1.1 : Int), .agg #[.int .i64 x.1.2.f, .slice x.1.2.A x.1.2.n x.1.2.c]]
def backAllV (l : List Vr) : List (BackV l) := (List.ofFn (n := l.length) fun k => (⟨(k.1, l[k.1]), List.getElem?_eq_getElem k.2⟩ : BackV l)).reverse

theorem backAllV_len (l : List Vr) : (backAllV l).length = l.length := by simp [backAllV]
theorem backAllV_at (l : List Vr) (p : Nat) (t : Vr) (h : l[p]? = some t) : ∃ x : BackV l, (backAllV l)[l.length - (p + 1)]? = some x ∧ x.1 = (p, t) := by
  obtain ⟨hp, e⟩ := List.getElem?_eq_some_iff.1 h
  refine ⟨⟨(p, t), h⟩, ?_, rfl⟩
  rw [List.getElem?_eq_some_iff]
  refine ⟨by rw [backAllV_len]; omega, ?_⟩
  simp only [backAllV, List.getElem_reverse, List.getElem_ofFn]
  apply Subtype.ext
  simp only [List.length_ofFn]
  have : l.length - 1 - (l.length - (p + 1)) = p := by omega
  simp only [this, e]

set_option maxRecDepth 100000 in
set_option maxHeartbeats 2000000 in
theorem backV1_in (n : Nat) (lp Bs n₀ len cap : Nat) (A : Option Addr) (l : List Vr) (w : World) (hlen : l.length = len) (hr : Rd w 2 A len (vrFlat l)) (hn₀ : w.heap.size = n₀) (hm : len ≤ 1000000)
    (J Jx : List (BackV l) → World → Prop)
    (hY : ∀ pre x W, J pre W → pre.length < len → YieldAt Fence.wide (n - 1) Tryd.prog lp (backArgsV x) W fun e W' =>
      (e = .returned (.bool true) ∧ J (pre ++ [x]) W' ∧ BackKp n₀ Bs W W') ∨ (e = .returned (.bool false) ∧ Jx (pre ++ [x]) W'))
    (W : World) (hW : Below n₀ w W) (hBs : W.cell? ⟨Bs, 0, none⟩ = some (.slice A len cap)) (h0 : J [] W) (hn : 1 ≤ n) :
    CallsIn Fence.wide n Tryd.prog 29 #[.func (.yield lp) #[] #[], .pointer (some ⟨Bs, 0, none⟩)] W fun e W' => (∃ v, e = .returned v) ∧
      ((∃ ys, ys = backAllV l ∧ J ys W') ∨ (∃ pre, (∃ k, pre = (backAllV l).take k) ∧ Jx pre W')) := by
  refine callsIn_of_wp Tryd.func29 rfl trivial ?_ rfl
  simp only [Tryd.ntmps29, List.size_toArray, List.length_cons, List.length_nil, Nat.reduceAdd, Nat.reduceSub, Array.replicate_succ, Array.replicate_zero, List.push_toArray, List.append_toArray, List.nil_append, List.cons_append]
  gi_wp2
  gi_loopw [3] (fun i wr => ∃ m : Nat, m ≤ len ∧ i = .int .i64 ((m : Int) - 1) ∧ J ((backAllV l).take (len - m)) wr ∧ BackKp n₀ Bs W wr) (fun i _ => (intOf i + 1).toNat)
  case atStart => exact ⟨len, Nat.le_refl _, rfl, by simpa using h0, BackKp.refl _ _ _⟩
  case round =>
    obtain ⟨m, hmm, rfl, hJs, hnx⟩ := hrel
    have hBs' : wr.cell? ⟨Bs, 0, none⟩ = some (.slice A len cap) := hnx.2 _ hBs
    rcases m with _ | p
    · simp only [Int.natCast_zero]
      gi_wp2
      go_end0
      exact ⟨⟨_, rfl⟩, .inl ⟨_, rfl, by rw [Nat.sub_zero, List.take_of_length_le (by rw [backAllV_len]; omega)] at hJs; exact hJs⟩⟩
    · rw [show ((p + 1 : Nat) : Int) - 1 = (p : Int) from by omega]
      have hrr : Rd wr 2 A len (vrFlat l) := ⟨hr.1, fun h => by
        obtain ⟨b, off, e, hb, hc⟩ := hr.2 h
        exact ⟨b, off, e, Nat.lt_of_lt_of_le hb (Nat.le_trans hW.size hnx.1.size), fun j u hu => ((hW.trans hnx.1).cell (p := ⟨b, off + j, none⟩) (by simp; omega)).trans (hc j u hu)⟩⟩
      obtain ⟨b, off, rfl, hb, t, ht, c0, c1⟩ := vr_cells hrr (k := p) (by omega)
      obtain ⟨x, hx, hxe⟩ := backAllV_at l p t ht
      obtain ⟨fn, tmps, assign, body, hy, hR⟩ := hY _ x wr hJs (by rw [List.length_take, backAllV_len]; omega)
      have htk : (backAllV l).take (len - p) = (backAllV l).take (len - (p + 1)) ++ [x] := by
        rw [← hlen] at *
        rw [show l.length - p = (l.length - (p + 1)) + 1 from by omega]
        exact take_at hx
      have HT := Lib.hid (And.intro htk (And.intro hx ht))
      clear htk hx ht
      simp only [backArgsV, hxe] at hy
      have hpl : (p : Int) < (len : Int) := by omega
      gi_wp2
      refine hR.mono ?_
      rintro e W3 (⟨rfl, hJ3, hk3⟩ | ⟨rfl, hJx3⟩)
      · gi_wp2
        go_roundw
        case rel => exact ⟨p, by omega, by rfl, by rw [HT.out.1]; exact hJ3, hnx.trans hk3⟩
        case measure => simp [intOf]
      · gi_wp2
        refine bodyPost_ret (results_none rfl _ _ _) rfl ?_
        exact ⟨⟨_, rfl⟩, .inr ⟨_, ⟨_, HT.out.1.symm⟩, hJx3⟩⟩

theorem backV_stops (n : Nat) (Bs len cap : Nat) (A : Option Addr) (l : List Vr) (w0 w : World) (hlen : l.length = len) (hr : Rd w0 2 A len (vrFlat l)) (hm : len ≤ 1000000) (hB : Below w0.heap.size w0 w)
    (hBs : w.cell? ⟨Bs, 0, none⟩ = some (.slice A len cap)) (hBlt : Bs < w.heap.size) (hn : 1 ≤ n) :
    SeqStopsK Fence.wide n Tryd.prog 29 #[.pointer (some ⟨Bs, 0, none⟩)] (backArgsV (l := l)) (BackKp w0.heap.size Bs) (fun ys => ys = backAllV l) (fun pre => ∃ k, pre = (backAllV l).take k) len w :=
  fun lp J Jx W hW _ _ hY h0 => backV1_in n lp Bs w0.heap.size len cap A l w0 hlen hr rfl hm J Jx hY W (hB.trans (hW.mono hB.size)) ((hW.cell (p := ⟨Bs, 0, none⟩) hBlt).trans hBs) h0 hn

set_option maxHeartbeats 1000000 in
theorem backV_any (A : Option Addr) (len cap : Nat) (w : World) :
    Calls Tryd.prog 20 #[.slice A len cap] w fun e w' => e = .returned (.func (.func 29) #[] #[.pointer (some ⟨w.heap.size, 0, none⟩)]) ∧ w.alloc (.cells #[.slice A len cap] 26) = w' := by
  have hmf : ∀ (fn : Fn) (first cap : Array Value) (w : World), (Instr.makeFunc fn first cap).run Tryd.prog w = .ok (.func fn first cap) w := fun _ _ _ _ => rfl
  go_enter Tryd.func20, Tryd.ntmps20
  go_wp2_with fail
  go_ret
  exact ⟨rfl, rfl⟩

theorem backAllV_idx {l : List Vr} {q : Nat} {x : BackV l} (h : (backAllV l)[q]? = some x) : x.1.1 = l.length - 1 - q ∧ q < l.length := by
  obtain ⟨hq, e⟩ := List.getElem?_eq_some_iff.1 h
  rw [backAllV_len] at hq
  refine ⟨?_, hq⟩
  rw [← e]
  simp [backAllV]
theorem lastV_skip {V : List Ver} {d : Int} {m : Nat} : ∀ n : Nat, m ≤ n → n ≤ V.length → (∀ i t, m ≤ i → i < n → V[i]? = some t → d < t.f) → lastV V d n = lastV V d m
  | 0, h, _, _ => by rw [show m = 0 from by omega]
  | n + 1, h, hn, hh => by
    rcases Nat.eq_or_lt_of_le h with e | e
    · rw [e]
    · have ht : V[n]? = some V[n] := List.getElem?_eq_getElem (by omega)
      rw [lastV_succ_miss ht (hh n _ (by omega) (by omega) ht)]
      exact lastV_skip n (by omega) (by omega) (fun i t h1 h2 h3 => hh i t h1 (by omega) h3)
theorem back_hit {l : List Vr} {d : Int} {k : Nat} {pre : List (BackV l)} {y : BackV l} (h : pre ++ [y] = (backAllV l).take k) (h1 : ∀ z ∈ pre, d < z.1.2.f) (h2 : y.1.2.f ≤ d) : lastV (l.map verK) d l.length = y.1.1 + 1 := by
  have hlen : pre.length + 1 ≤ l.length := by
    have := congrArg List.length h
    rw [List.length_append, List.length_take, backAllV_len] at this
    simp at this; omega
  have hy : (backAllV l)[pre.length]? = some y := by
    have : (pre ++ [y])[pre.length]? = some y := by simp
    rw [h, List.getElem?_take] at this
    split at this
    · exact this
    · cases this
  obtain ⟨hi, _⟩ := backAllV_idx hy
  have hly := y.2
  rw [lastV_skip (V := l.map verK) (d := d) (m := y.1.1 + 1) l.length (by omega) (by simp) ?_]
  · exact lastV_succ_hit (t := verK y.1.2) (by rw [List.getElem?_map, hly]; rfl) h2
  · intro i t hm hn ht
    rw [List.getElem?_map] at ht
    obtain ⟨r, hr, rfl⟩ := Option.map_eq_some_iff.1 ht
    obtain ⟨z, hz, hze⟩ := backAllV_at l i r hr
    have hlt : l.length - (i + 1) < pre.length := by omega
    have hzp : z ∈ pre := by
      have : (pre ++ [y])[l.length - (i + 1)]? = some z := by
        rw [h, List.getElem?_take, if_pos]
        · exact hz
        · have := congrArg List.length h
          rw [List.length_append, List.length_take] at this
          simp at this; omega
      rw [List.getElem?_append_left hlt] at this
      exact List.mem_of_getElem? this
    have := h1 z hzp
    rw [hze] at this
    exact this
theorem back_miss {l : List Vr} {d : Int} (h1 : ∀ z ∈ backAllV l, d < z.1.2.f) : lastV (l.map verK) d l.length = 0 := by
  rw [lastV_skip (V := l.map verK) (d := d) (m := 0) l.length (by omega) (by simp) ?_]
  · rfl
  · intro i t hm hn ht
    rw [List.getElem?_map] at ht
    obtain ⟨r, hr, rfl⟩ := Option.map_eq_some_iff.1 ht
    obtain ⟨z, hz, hze⟩ := backAllV_at l i r hr
    have := h1 z (List.mem_of_getElem? hz)
    rw [hze] at this
    exact this

end Go.Proofs.YtcaeochiippdgaaDoor
