/- slices.SortStableFunc over the numbers of sites, by how long they last. -/
import Derived.Test.YtoneebofjbnjpaaDoorStab
import Derived.Test.YtoneebofjbnjpaaDoorLaidD
import Derived.Test.YtoneebofjbnjpaaDoorCmp
import Derived.Test.YtoneebofjbnjpaaDoorSit
namespace Go.Proofs.YtoneebofjbnjpaaDoor
open Go.RowKit Go.Shelf Go.Lib Go.Sort

set_option maxHeartbeats 1000000 in
theorem dueCmp_any (gL : Nat) (AL : Option Addr) (n cL : Nat) (ls : List Int) (x y : Nat) (w : World) (hcell : w.cell? ⟨gL, 0, none⟩ = some (.slice AL n cL)) (hrd : Rd w 1 AL n (ints ls)) (hx : x < n) (hy : y < n) :
    Calls Tryd.prog 58 #[.int .i64 x, .int .i64 y, .pointer (some ⟨gL, 0, none⟩)] w fun e w' => e = .returned (.int .i64 (cpI (ls.getD x 0) (ls.getD y 0))) ∧ ∃ q, w' = w.drewN q := by
  obtain ⟨b, off, rfl, hb, u, hu, cu⟩ := int_cells hrd hx
  obtain ⟨b2, off2, e2, _, v, hv, cv⟩ := int_cells hrd hy
  obtain ⟨rfl, rfl⟩ : b = b2 ∧ off = off2 := by simpa using e2
  rw [getD_some hu, getD_some hv]
  have hxI : (x : Int) < n := by omega
  have hyI : (y : Int) < n := by omega
  have hc := fun w => compareI_any u v w
  have HC := Lib.hid hc
  clear hc hrd hu hv e2
  go_enter Tryd.func58, Tryd.ntmps58
  go_wp2_with fail
  go_quiet ((go_at_call 59; exact Calls.quiet_of_same (HC.out _)))
  go_wp2_with fail
  go_ret
  exact ⟨rfl, _, rfl⟩

section
variable {α : Type} [Inhabited α]
theorem sw_cell (enc : α → Value) (w : World) (blk off m : Nat) (dk : Array α) (os : Array Obj) (a : Addr) (h1 : a.block ≠ blk) (h2 : a.block < w.heap.size) : (sortWorld enc w blk off m dk os).cell? a = w.cell? a := by
  unfold sortWorld
  rw [cell?_grow _ _ _ (by simpa [Sort.ahead] using h2), cell?_putRow_other _ _ _ _ _ _ (.inl h1)]
  rfl
theorem sw_size (enc : α → Value) (w : World) (blk off m : Nat) (dk : Array α) (os : Array Obj) : w.heap.size ≤ (sortWorld enc w blk off m dk os).heap.size := by
  unfold sortWorld grow
  simp [Sort.ahead]
theorem sw_rd {enc : α → Value} {w : World} {blk off m n : Nat} {dk : Array α} {os : Array Obj} {A : Option Addr} {xs : List Value} (h : Rd w 1 A n xs) (hne : ∀ a, A = some a → a.block ≠ blk) : Rd (sortWorld enc w blk off m dk os) 1 A n xs :=
  ⟨h.1, fun hn => by
    obtain ⟨b, off2, e, hb, hc⟩ := h.2 hn
    exact ⟨b, off2, e, Nat.lt_of_lt_of_le hb (sw_size _ _ _ _ _ _ _), fun j u hu => (sw_cell enc w blk off m dk os ⟨b, off2 + j, none⟩ (hne ⟨b, off2, none⟩ e) hb).trans (hc j u hu)⟩⟩

theorem own_putE {enc : α → Value} {w : World} {base g cap n q : Nat} {e : TypeId} {zs ts : List α} (hown : w.ownsRow base e 1 (.slice (some ⟨g, 0, none⟩) n cap) n (zs.map enc)) (hl : ts.length = zs.length) :
    ((putRow enc w g 0 ts.toArray).drewN q).ownsRow base e 1 (.slice (some ⟨g, 0, none⟩) n cap) n (ts.map enc) ∧ w.grownBy ((putRow enc w g 0 ts.toArray).drewN q) (some g) := by
  rcases hown.2 with ⟨h0, _⟩ | ⟨g', cap', cur, hv, hg, hb, hn, hcap, hcs, ht⟩
  · cases h0
  cases hv
  have hl2 : zs.length = n := by have := hown.1; simpa using this
  have hgs : g < w.heap.size := (Array.getElem?_eq_some_iff.1 hb).1
  constructor
  · refine ⟨by simp; omega, .inr ⟨g, cap, putCells enc 0 ts.toArray cur, rfl, hg, ?_, hn, hcap, by simp [putCells, hcs], ?_⟩⟩
    · simp [putRow, mapBlock, Array.getElem?_modify, hb, onCells, World.drewN]
    · apply List.ext_getElem?
      intro j
      by_cases hj : j < n * 1
      · have h3 : j < cur.size := by rw [hcs]; omega
        have h4 : j < ts.length := by omega
        rw [List.getElem?_take_of_lt hj, Array.getElem?_toList]
        simp [putCells, h3, h4]
      · rw [List.getElem?_eq_none (by simp [putCells, hcs]; omega), List.getElem?_eq_none (by simp; omega)]
  · refine ⟨rfl, rfl, rfl, by simp [World.drewN], fun k hk hne => ?_⟩
    have : g ≠ k := fun e => hne (by rw [e])
    simp [putRow, mapBlock, Array.getElem?_modify, this, World.drewN]
theorem own_holdsE {enc : α → Value} {w : World} {base g cap n : Nat} {e : TypeId} {zs : List α} (hown : w.ownsRow base e 1 (.slice (some ⟨g, 0, none⟩) n cap) n (zs.map enc)) : Holds enc w g 0 zs.toArray := by
  rcases hown.2 with ⟨h0, _⟩ | ⟨g', cap', cur, hv, hg, hb, hn, hcap, hcs, ht⟩
  · cases h0
  cases hv
  have hl2 : zs.length = n := by have := hown.1; simpa using this
  intro j hj
  have hj' : j < zs.length := by simpa using hj
  refine ⟨?_, by simp [World.frozen?, hb]⟩
  have h1 : (cur.toList.take (n * 1))[j]? = (zs.map enc)[j]? := by rw [ht]
  rw [List.getElem?_take_of_lt (by omega), Array.getElem?_toList, List.getElem?_map, List.getElem?_eq_getElem hj'] at h1
  simp only [World.cell?, hb, Nat.zero_add, Option.isSome_none, Bool.false_eq_true, if_false]
  rw [h1, getElem!_pos _ j hj]
  simp
end

def encN (m : Nat) (x : Fin (m + 1)) : Value := .int .i64 ((x.val : Nat) : Int)
def keyF (ls : List Int) {m : Nat} (x : Fin (m + 1)) : Int := ls.getD x.val 0
def cfF (ls : List Int) {m : Nat} (x y : Fin (m + 1)) : Int := cpI (keyF ls x) (keyF ls y)
theorem cfF_lt (ls : List Int) {m : Nat} : ltOf (cfF ls (m := m)) = ltA (keyF ls) := by
  funext x y
  exact cpI_lt _ _

set_option maxRecDepth 100000 in
set_option maxHeartbeats 1000000 in
theorem sortDue_any (gL : Nat) (AL : Option Addr) (cL m : Nat) (ls : List Int) (g cap base : Nat) (zs : List (Fin (m + 1))) (w : World)
    (hown : w.ownsRow base 3 1 (.slice (some ⟨g, 0, none⟩) zs.length cap) zs.length (zs.map (encN m))) (hz : zs.Pairwise (· < ·)) (hzl : zs.length < 20)
    (hcell : w.cell? ⟨gL, 0, none⟩ = some (.slice AL (m + 1) cL)) (hrd : Rd w 1 AL (m + 1) (ints ls)) (h1 : gL ≠ g) (h1s : gL < w.heap.size) (h2 : ∀ a, AL = some a → a.block ≠ g) :
    Calls Tryd.prog 57 #[.slice (some ⟨g, 0, none⟩) zs.length cap, .func (.func 58) #[] #[.pointer (some ⟨gL, 0, none⟩)]] w
      fun e w' => e = .returned (.tuple #[]) ∧ ∃ ss : List (Fin (m + 1)), (ss.Perm zs ∧ ss.Pairwise (LexR (keyF ls))) ∧ w'.ownsRow base 3 1 (.slice (some ⟨g, 0, none⟩) zs.length cap) zs.length (ss.map (encN m)) ∧ w.grownBy w' (some g) := by
  have eg : ∀ (args : Array Value) (w : World), (callFunc 58 args).run Tryd.prog w = .ok (.enter 58 args) w := enters_of Tryd.func58 (by kernel_rfl) rfl
  have hcmp : CmpReads Tryd.prog 58 #[.pointer (some ⟨gL, 0, none⟩)] (encN m) (cfF ls) g 0 zs.toArray.size w := by
    intro k os dk _ x y
    exact dueCmp_any gL AL (m + 1) cL ls x.val y.val _ (by rw [sw_cell _ _ _ _ _ _ _ _ h1 h1s]; exact hcell) (sw_rd hrd h2) x.isLt y.isLt
  have hc := Tryd.insertion_int (encN m) (fun _ => rfl) (cfF ls) 58 #[.pointer (some ⟨gL, 0, none⟩)] g 0 cap 0 zs.length zs.toArray w eg hcmp (own_holdsE hown) (Nat.zero_le _) (by simp) (by simp; omega)
  rw [cfF_lt] at hc
  obtain ⟨hp, hs⟩ := stable_sort (keyF ls) zs.toArray (by simpa using hz)
  simp only [List.size_toArray] at hc hp hs
  generalize insertionSort (ltA (keyF ls)) zs.toArray 0 zs.length = D at *
  obtain ⟨ss, rfl⟩ : ∃ ss : List (Fin (m + 1)), D = ss.toArray := ⟨D.toList, by simp⟩
  simp only at hp hs
  have hsl : ss.length = zs.length := hp.length_eq
  have hfin := fun q => own_putE (q := q) hown hsl
  have HF := Lib.hid (And.intro hfin (And.intro hp hs))
  have HC := Lib.hid hc
  obtain ⟨n, hn⟩ : ∃ n, zs.length = n := ⟨_, rfl⟩
  rw [hn] at HF HC hzl ⊢
  have hnI : ¬ (20 : Int) ≤ (n : Int) := by omega
  have hnI2 : ¬ (20 : Int) < (n : Int) := by omega
  clear eg hcmp hc hfin hp hs hown hz hrd hcell hsl hn h1 h2
  go_enter Tryd.func57, Tryd.ntmps57
  go_wp2_with fail
  refine Calls.mono ?_ (fun e w' (h : e = .returned (.tuple #[]) ∧ ∃ q, w' = (putRow (encN m) w g 0 ss.toArray).drewN q) => ?_)
  · go_enter Tryd.func94, Tryd.ntmps94
    go_wp2_with fail
    go_loopg [7, 8] 0 (fun k a b wr => a = .int .i64 0 ∧ b = .int .i64 20 ∧ w = wr)
    case atStart => exact ⟨rfl, rfl, rfl⟩
    case round =>
      obtain ⟨rfl, rfl, rfl⟩ := hrel
      go_wp2_with fail
      refine HC.out.mono ?_
      rintro e w1 ⟨rfl, q, rfl⟩
      go_wp2_with fail
      go_loopg [6] 0 (fun k a wr => a = .int .i64 20 ∧ wr = (putRow (encN m) w g 0 ss.toArray).drewN q)
      case atStart => exact ⟨rfl, rfl⟩
      case round =>
        obtain ⟨rfl, rfl⟩ := hrel
        go_wp2_with fail
        go_end0
        exact ⟨rfl, q, rfl⟩
  · obtain ⟨rfl, q, rfl⟩ := h
    go_wp2_with fail
    go_end0
    exact ⟨rfl, ss, HF.out.2, HF.out.1 q⟩

set_option maxRecDepth 100000 in
set_option maxHeartbeats 1000000 in
theorem sortNil_any (fv : Value) (w : World) : Calls Tryd.prog 57 #[.slice none 0 0, fv] w fun e w' => e = .returned (.tuple #[]) ∧ w = w' := by
  go_enter Tryd.func57, Tryd.ntmps57
  go_wp2_with fail
  refine Calls.mono ?_ (fun e w' (h : e = .returned (.tuple #[]) ∧ w = w') => ?_)
  · go_enter Tryd.func94, Tryd.ntmps94
    go_wp2_with fail
    go_loopg [7, 8] 0 (fun k a b wr => a = .int .i64 0 ∧ b = .int .i64 20 ∧ w = wr)
    case atStart => exact ⟨rfl, rfl, rfl⟩
    case round =>
      obtain ⟨rfl, rfl, rfl⟩ := hrel
      go_wp2_with fail
      refine Calls.mono ?_ (fun e w' (h : e = .returned (.tuple #[]) ∧ w = w') => ?_)
      · go_enter Tryd.func120, Tryd.ntmps120
        go_wp2_with fail
        go_loopg [8] 0 (fun k a wr => a = .int .i64 1 ∧ w = wr)
        case atStart => exact ⟨rfl, rfl⟩
        case round =>
          obtain ⟨rfl, rfl⟩ := hrel
          go_wp2_with fail
          go_end0
          exact ⟨rfl, rfl⟩
      · obtain ⟨rfl, rfl⟩ := h
        go_wp2_with fail
        go_loopg [6] 0 (fun k a wr => a = .int .i64 20 ∧ w = wr)
        case atStart => exact ⟨rfl, rfl⟩
        case round =>
          obtain ⟨rfl, rfl⟩ := hrel
          go_wp2_with fail
          go_end0
          exact ⟨rfl, rfl⟩
  · obtain ⟨rfl, rfl⟩ := h
    go_wp2_with fail
    go_end0
    exact ⟨rfl, rfl⟩

end Go.Proofs.YtoneebofjbnjpaaDoor
