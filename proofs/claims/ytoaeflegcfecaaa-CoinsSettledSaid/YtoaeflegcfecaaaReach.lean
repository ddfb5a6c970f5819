/- The walk of Reach: the windows of what can be paid. -/
import Derived.Test.YtoaeflegcfecaaaPayer
import Derived.Test.YtoaeflegcfecaaaGreedy
namespace Go.Proofs.Ytoaeflegcfecaaa
open Go.RowKit

/-- Whether the last number was so. -/
def opnB (F : Nat → Bool) : Nat → Bool
  | 0 => false
  | j + 1 => F j
/-- Windows of the numbers below k for which something is so, as numbers. -/
def winL (F : Nat → Bool) : Nat → List Int
  | 0 => []
  | k + 1 => if F k = false then winL F k else if opnB F k then (winL F k).set ((winL F k).length - 1) ((k : Int) + 1) else winL F k ++ [(k : Int), (k : Int) + 1]
theorem winL_off {F : Nat → Bool} {k : Nat} (h : F k = false) : winL F (k + 1) = winL F k := by simp [winL, h]
theorem winL_on {F : Nat → Bool} {k : Nat} (h : F k = true) (ho : opnB F k = true) : winL F (k + 1) = (winL F k).set ((winL F k).length - 1) ((k : Int) + 1) := by
  simp [winL, h, ho]
theorem winL_new {F : Nat → Bool} {k : Nat} (h : F k = true) (ho : opnB F k = false) : winL F (k + 1) = winL F k ++ [(k : Int), (k : Int) + 1] := by
  simp [winL, h, ho]

theorem winL_even (F : Nat → Bool) (k : Nat) : ∃ m, (winL F k).length = 2 * m ∧ m ≤ k ∧ (opnB F k = true → 1 ≤ m) := by
  induction k with
  | zero => exact ⟨0, rfl, by omega, fun h => by simp [opnB] at h⟩
  | succ k ih =>
    obtain ⟨m, h1, h2, h3⟩ := ih
    by_cases hF : F k = true
    · by_cases ho : opnB F k = true
      · exact ⟨m, by rw [winL_on hF ho, List.length_set]; exact h1, by omega, fun _ => h3 ho⟩
      · exact ⟨m + 1, by rw [winL_new hF (by simpa using ho)]; simp; omega, by omega, fun _ => by omega⟩
    · exact ⟨m, by rw [winL_off (by simpa using hF)]; exact h1, by omega, fun h => by simp [opnB] at h; exact absurd h hF⟩

theorem Try.infoWin : (Try.prog.info? 53).map (fun i => (i.zero, i.size, i.bytes)) = some (some (.agg #[.int .i64 0, .int .i64 0]), 2, 16) := by kernel_rfl

/-- append(windows, Window{..}). -/
theorem ap_win {ops : Array Oper} {rest : List Oper} {o : Oper} {a : Act} {Q : Exit → Act → World → Prop} (w : World) (x y : Int) (hgd : o.guard = none) (s z : Operand)
    (ho : o.op = .call { callee := .builtin .append, args := #[s, z], argTypes := #[45, 45] }) (base : Nat) (v : Value) (m : Nat) (l : List Int) (hl : l.length = 2 * m)
    (hs : a.eval s = v) (hown : w.ownsRow base 53 2 v m (ints l)) (hx : a.eval z = .slice (some ⟨w.heap.size, 0, none⟩) 1 1) (hlen : m ≤ 1000000000) (hbase : base ≤ w.heap.size)
    (h : ∀ v' w', w'.ownsRow base 53 2 v' (m + 1) (ints (l ++ [x, y])) → (w.alloc (.cells #[.int .i64 x, .int .i64 y] 53)).grownBy w' v.ownBlock → wpList Try.prog ops Q rest (a.put o.dst v') w') :
    wpList Try.prog ops Q (o :: rest) a (w.alloc (.cells #[.int .i64 x, .int .i64 y] 53)) := by
  obtain ⟨i0, hi, hz0, hz1, hz2⟩ := info_parts Try.infoWin
  refine wpList_append_own _ hgd s z 45 ho base 53 i0 (.agg #[.int .i64 0, .int .i64 0]) 2 16 Try.underlying45 hi hz0 hz1 hz2 rfl (by decide) v m (ints l) hs (hown.alloc _) ⟨w.heap.size, 0, none⟩ 1 1 (ints [x, y]) hx rfl
    (cells_new w #[.int .i64 x, .int .i64 y] _) (ints_one _) (by unfold maxLen; omega) (by omega) (by simp; omega) ?_
  intro v' w' h1 h2 _
  exact h v' w' (by simpa [ints] using h1) h2

theorem own_win_set {w : World} {base g n cap : Nat} {l : List Int} (h : w.ownsRow base 53 2 (.slice (some ⟨g, 0, none⟩) n cap) n (ints l)) (j : Nat) (x : Int) :
    (w.setCell ⟨g, j, none⟩ (.int .i64 x)).ownsRow base 53 2 (.slice (some ⟨g, 0, none⟩) n cap) n (ints (l.set j x)) := by
  have := (h.stored j (.int .i64 x)).1
  rw [show ints (l.set j x) = (ints l).set j (.int .i64 x) from by simp [ints, List.map_set]]
  exact this

set_option maxRecDepth 100000 in
set_option maxHeartbeats 1000000 in
theorem reach_ok (A : Option Addr) (n c : Nat) (l : List Tub) (most : Nat) (w : World) (hr : Rd w 3 A n (tubFlat l)) (hf : amtFault l (most : Int) = 0) :
    Calls Try.prog 22 #[.slice A n c, .int .i64 most] w
      fun e w' => ∃ v m, e = .returned (.tuple #[v, .int .i64 0]) ∧ (winL (paysB l) (most + 1)).length = 2 * m ∧ m ≤ 20001 ∧ w'.ownsRow w.heap.size 53 2 v m (ints (winL (paysB l) (most + 1))) ∧ w.grownBy w' none := by
  have h0 : tubFault l = 0 := by
    by_cases h : tubFault l = 0
    · exact h
    · simp [amtFault, h] at hf
  have h2 : btw (most : Int) 0 20000 = true := by
    by_cases h : btw (most : Int) 0 20000 = true
    · exact h
    · simp [amtFault, h0, h] at hf
  obtain ⟨hw0, hw1⟩ := btw_true.1 h2
  have hm : most ≤ 20000 := by omega
  have hc := checkAmount_any A n c l most w hr
  rw [hf] at hc
  have HC := Lib.hid hc
  have HT0 := Lib.hid h0
  have he : ∀ (args : Array Value) (w : World), (callFunc 71 args).run Try.prog w = .ok (.enter 71 args) w := enters_of Try.func71 (by kernel_rfl) rfl
  clear hc hf h0 h2
  go_enter Try.func22, Try.ntmps22
  go_wp2_with fail
  refine HC.out.mono ?_
  rintro e w1 ⟨rfl, hg1⟩
  go_wp2_with fail
  refine (payer_any A n c l most w1 (hr.grown hg1) HT0.out hm).mono ?_
  rintro e w2 ⟨B, rfl, hpay, hg2⟩
  have hgw := hg1.trans hg2
  go_wp2_with fail
  go_loopg [7, 9, 10, 22] (most + 1) (fun k v o a i wr => ∃ j m : Nat, k + j = most + 1 ∧ i = .int .i64 j ∧ o = .bool (opnB (paysB l) j) ∧ (winL (paysB l) j).length = 2 * m ∧ m ≤ j ∧ (opnB (paysB l) j = true → 1 ≤ m) ∧ wr.ownsRow w2.heap.size 53 2 v m (ints (winL (paysB l) j)) ∧ w2.grownBy wr none)
  case atStart => exact ⟨0, 0, by omega, rfl, rfl, rfl, by omega, fun h => by simp [opnB] at h, World.ownsRow_nil _ _ _ _, grown_refl w2⟩
  case round =>
    obtain ⟨j, m, hj, rfl, rfl, hlen, hmj, hop, hown, hgj⟩ := hrel
    have hpj := hpay.grown hgj
    by_cases hlt : j < most + 1
    · have hcall := payer1_any l (most + 1) B w1.heap.size j wr hpj hlt
      have HCA := Lib.hid hcall
      have HL := Lib.hid (And.intro hj (And.intro hlen hop))
      have hlt' : (j : Int) < (most : Int) + 1 := by omega
      clear hcall hj hlen hop
      go_wp2_with fail
      refine HCA.out.mono ?_
      rintro e w3 ⟨rfl, rfl⟩
      obtain ⟨hj, hlen, hop⟩ := HL.out
      by_cases hF : paysB l j = true
      · by_cases ho : opnB (paysB l) j = true
        · obtain ⟨p, rfl⟩ : ∃ p, m = p + 1 := ⟨m - 1, by have := hop ho; omega⟩
          obtain ⟨g, cap, rfl, hgb, hglt⟩ := hown.form (by omega)
          have hon := winL_on hF ho
          rw [show (winL (paysB l) j).length - 1 = p * 2 + 1 from by omega] at hon
          have hst := own_win_set hown (p * 2 + 1) ((j : Int) + 1)
          have hcc := hown.cellAt (p * 2 + 1) (by omega)
          have hfr := hown.frozenAt (p * 2 + 1)
          rw [List.getElem?_eq_getElem (show p * 2 + 1 < (ints (winL (paysB l) j)).length from by simp [ints]; omega)] at hcc
          obtain ⟨u, hu⟩ : ∃ u, wr.cell? ⟨g, p * 2 + 1, none⟩ = some u := ⟨_, hcc⟩
          rw [← hon] at hst
          have hpb : p ≤ 20001 := by omega
          have HS := Lib.hid (And.intro hst (And.intro hon (And.intro hj (And.intro hlen hF))))
          rw [hF, ho]
          clear hst hon hcc hj hlen hop hF ho
          go_wp2_with fail
          obtain ⟨hst, hon, hj, hlen, hF⟩ := HS.out
          go_roundg (gk - 1)
          case measure => omega
          case rel => exact ⟨j + 1, p + 1, by omega, by go_num, by simp [opnB, hF], by rw [hon, List.length_set]; exact hlen, by omega, fun _ => by omega, hst, grown_set (p := ⟨g, p * 2 + 1, none⟩) hgj (.inl hgb) _⟩
        · have ho' : opnB (paysB l) j = false := by simpa using ho
          have hnew := winL_new hF ho'
          have HS := Lib.hid (And.intro hnew (And.intro hj (And.intro hlen hF)))
          rw [hF, ho']
          have hmb : m ≤ 1000000000 := by omega
          have hgs := hgj.size
          clear hnew hj hop hF ho ho'
          go_wp2_with (at_builtin; refine ap_win wr (j : Int) ((j : Int) + 1) rfl _ _ rfl w2.heap.size _ m (winL (paysB l) j) hlen rfl hown rfl hmb hgs ?_; intro v4 w4 hown4 hg4)
          obtain ⟨hnew, hj, hlen, hF⟩ := HS.out
          go_roundg (gk - 1)
          case measure => omega
          case rel => exact ⟨j + 1, m + 1, by omega, by go_num, by simp [opnB, hF], by rw [hnew]; simp; omega, by omega, fun _ => by omega, by rw [hnew]; exact hown4, ap_grown hgj hown hg4 (Nat.le_refl _)⟩
      · have hF' : paysB l j = false := by simpa using hF
        have HS := Lib.hid (And.intro hj (And.intro hlen hF'))
        rw [hF']
        clear hj hlen hop hF hF'
        go_wp2_with fail
        obtain ⟨hj, hlen, hF'⟩ := HS.out
        go_roundg (gk - 1)
        case measure => omega
        case rel => exact ⟨j + 1, m, by omega, by go_num, by simp [opnB, hF'], by rw [winL_off hF']; exact hlen, by omega, fun h => by simp [opnB, hF'] at h, by rw [winL_off hF']; exact hown, hgj⟩
    · obtain rfl : j = most + 1 := by omega
      go_wp2_with fail
      go_ret2
      exact ⟨_, m, rfl, hlen, by omega, own_mono hown hgw.size, hgw.trans hgj⟩

end Go.Proofs.Ytoaeflegcfecaaa
