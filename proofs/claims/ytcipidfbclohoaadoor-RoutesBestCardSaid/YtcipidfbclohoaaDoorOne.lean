/- The walks of the stream's one and One: one of some strings. -/
import Derived.Test.YtcipidfbclohoaaDoorTerms
namespace Go.Proofs.YtcipidfbclohoaaDoor
open Go.RowKit
variable {Q : Nat → Prop}

/-- A slice of strings. -/
def strs (l : List ByteArray) : List Value := l.map Value.string
/-- One of some strings. -/
def pkS (L : List Int) (t : Nat) (vs : List ByteArray) : ByteArray := vs.getD (nx L t vs.length).toNat ByteArray.empty

set_option maxHeartbeats 400000 in
theorem one_any (bs : Nat) (L : List Int) (t : Nat) (A : Option Addr) (c : Nat) (l : List ByteArray) (w : World) (hs : StrQ Q w bs L t) (ht : t ≤ 1000000) (hl : l ≠ []) (hl1 : l.length ≤ 100000)
    (hr : Rd w 1 A l.length (strs l)) (hne : ∀ a, A = some a → a.block ≠ bs) :
    Calls Tryd.prog 31 #[.pointer (some ⟨bs, 0, none⟩), .slice A l.length c] w
      fun e w' => e = .returned (.string (pkS L t l)) ∧ StrQ Q w' bs L (t + 1) ∧ w.grownBy w' (some bs) := by
  have hpos : 0 < l.length := by cases l with | nil => exact absurd rfl hl | cons => simp
  obtain ⟨b, off, rfl, hb, hc⟩ := hr.2 hpos
  have hbne : b ≠ bs := hne _ rfl
  have h0 : 0 ≤ nx L t l.length := by unfold nx; split <;> exact belowI_nonneg _ _
  have h1 : nx L t l.length < l.length := by unfold nx; split <;> exact belowI_lt _ _ (by omega)
  obtain ⟨k, hk⟩ := Int.eq_ofNat_of_zero_le h0
  have hk1 : k < l.length := by omega
  have hcell := hc k (.string l[k]) (by simp [strs, List.getElem?_eq_getElem hk1])
  have hv : pkS L t l = l[k] := by unfold pkS; rw [hk, Int.toNat_natCast]; simp [List.getD, hk1]
  rw [hv]
  generalize l[k] = v at *
  go_enter Tryd.func31, Tryd.ntmps31
  clear hc hr hne hl h0 h1 hv
  have HK := Lib.hid hk
  clear hk
  go_wp2_with fail
  refine (next_any bs L t _ _ hs ht (by omega)).mono ?_
  rw [HK.out]
  rintro e w' ⟨rfl, hs1, hg⟩
  have hc1 := hg.cell (a := ⟨b, off + k, none⟩) hcell (by simp; exact hbne)
  go_wp2_with fail
  go_ret
  exact ⟨rfl, hs1, hg⟩

theorem one_lit (bs : Nat) (L : List Int) (t : Nat) (vs : List ByteArray) (w : World) (hs : StrQ Q w bs L t) (ht : t ≤ 1000000) (hl : vs ≠ []) (hl1 : vs.length ≤ 100000) (T : TypeId) :
    Calls Tryd.prog 31 #[.pointer (some ⟨bs, 0, none⟩), .slice (some ⟨w.heap.size, 0, none⟩) vs.length vs.length] (w.alloc (.cells (strs vs).toArray T))
      fun e w' => e = .returned (.string (pkS L t vs)) ∧ StrQ Q w' bs L (t + 1) ∧ w.grownBy w' (some bs) := by
  have hlt := hs.lt
  have h := one_any bs L t (some ⟨w.heap.size, 0, none⟩) vs.length vs _ (hs.grown (grown_alloc (grown_refl w) (.cells (strs vs).toArray T)) (by simp)) ht hl hl1
    ⟨by simp [strs], fun _ => ⟨w.heap.size, 0, rfl, by simp, fun j u h => by rw [Nat.zero_add, World.cell?_alloc_new]; simpa using h⟩⟩
    (by intro a e; cases e; simp; omega)
  exact h.mono fun e w' ⟨he, h1, h2⟩ => ⟨he, h1, (grown_alloc (World.grownBy.refl w _) _).trans h2⟩

theorem pkS_mem (L : List Int) (t : Nat) (vs : List ByteArray) (h : vs ≠ []) : pkS L t vs ∈ vs := by
  have hp : 0 < vs.length := by cases vs with | nil => exact absurd rfl h | cons => simp
  obtain ⟨h0, h1⟩ := nx_in L t vs.length (by omega)
  unfold pkS
  have hk : (nx L t vs.length).toNat < vs.length := by omega
  simp only [List.getD, List.getElem?_eq_getElem hk, Option.getD_some]
  exact List.getElem_mem hk

end Go.Proofs.YtcipidfbclohoaaDoor
