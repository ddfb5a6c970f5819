/- The walks of the reference's made and KeyOf. -/
import Derived.Test.YtcipidfbclohoaaDoorKey
import Derived.Test.YtcipidfbclohoaaDoorLaidT
namespace Go.Proofs.YtcipidfbclohoaaDoor
open Go.RowKit

theorem dropWhile_nil {α : Type} (p : α → Bool) : ∀ l : List α, l.dropWhile p = [] ↔ ∀ x ∈ l, p x = true
  | [] => by simp
  | a :: l => by
    have ih := dropWhile_nil p l
    by_cases h : p a = true
    · rw [List.dropWhile_cons_of_pos h, ih]; simp [h]
    · rw [List.dropWhile_cons_of_neg h]; simp [h]
theorem trimS_nil (l cs : List UInt8) : Lib.trimS l cs = [] ↔ ∀ x ∈ l, cs.contains x = true := by
  unfold Lib.trimS Lib.trimLeftS Lib.trimRightS
  rw [dropWhile_nil]
  constructor
  · intro h x hx
    by_cases hn : l.reverse.dropWhile (cs.contains ·) = []
    · exact (dropWhile_nil _ _).1 hn x (by simpa using hx)
    · obtain ⟨y, ys, hy⟩ := List.exists_cons_of_ne_nil hn
      have h1 := h y (by rw [hy]; simp)
      have h2 := List.head_dropWhile_not (fun x => cs.contains x) (l := l.reverse) (by rw [hy]; simp)
      simp only [hy, List.head_cons] at h2
      rw [h1] at h2; cases h2
  · intro h x hx
    refine h x ?_
    have h1 : x ∈ l.reverse.dropWhile (cs.contains ·) := by simpa using hx
    have h2 := (List.dropWhile_suffix (p := fun x => cs.contains x) (l := l.reverse)).subset h1
    simpa using h2

def ofB (s cs : ByteArray) : Bool := s.data.toList.all fun b => cs.data.toList.contains b
theorem made_any (s cs : ByteArray) (w : World) (hs : s.size ≤ 9223372036854775807) (hcs : cs.size < 4294967281) (hascii : ∀ (j : Nat) (b : UInt8), cs.data.toList[j]? = some b → b.toNat < 128) :
    Calls Tryd.prog 84 #[.string s, .string cs] w fun e w' => e = .returned (.bool (ofB s cs)) ∧ w.grownBy w' none := by
  have hT := Tryd.strings_Trim_any s cs w hs hcs hascii
  have hn := trimS_nil s.data.toList cs.data.toList
  have ho : ofB s cs = true ↔ ∀ x ∈ s.data.toList, cs.data.toList.contains x = true := by unfold ofB; rw [List.all_eq_true]
  generalize Lib.trimS s.data.toList cs.data.toList = t at *
  generalize ofB s cs = o at *
  have HT := Lib.hid hT
  have HN := Lib.hid (hn.trans ho.symm)
  clear hT hn ho
  go_enter Tryd.func84, Tryd.ntmps84
  go_wp2_with fail
  refine HT.out.mono ?_
  rintro e w1 ⟨rfl, hb⟩
  go_wp2_with fail
  go_ret
  refine ⟨retB ?_, below_grown hb⟩
  rw [Bool.eq_iff_iff, List.isEmpty_iff]
  exact HN.out

/-- The small letters; the bytes of a key. -/
def smCs : ByteArray := ⟨#[97, 98, 99, 100, 101, 102, 103, 104, 105, 106, 107, 108, 109, 110, 111, 112, 113, 114, 115, 116, 117, 118, 119, 120, 121, 122]⟩
def kyCs : ByteArray := ⟨#[97, 98, 99, 100, 101, 102, 103, 104, 105, 106, 107, 108, 109, 110, 111, 112, 113, 114, 115, 116, 117, 118, 119, 120, 121, 122, 48, 49, 50, 51, 52, 53, 54, 55, 56, 57, 45, 95]⟩
theorem u8_all {p : UInt8 → Bool} (h : (List.range 256).all (fun n => p (UInt8.ofNat n)) = true) (b : UInt8) : p b = true := by
  rw [List.all_eq_true] at h
  have := h b.toNat (List.mem_range.2 b.toNat_lt)
  simpa using this
theorem sm_cs (b : UInt8) : smCs.data.toList.contains b = smB (b.toNat : Int) := by
  have := u8_all (p := fun b => smCs.data.toList.contains b == smB (b.toNat : Int)) (by decide +kernel) b
  simpa using this
theorem ky_cs (b : UInt8) : kyCs.data.toList.contains b = kyB (b.toNat : Int) := by
  have := u8_all (p := fun b => kyCs.data.toList.contains b == kyB (b.toNat : Int)) (by decide +kernel) b
  simpa using this
theorem ofB_ky (s : ByteArray) : ofB s kyCs = (List.range s.size).all fun i => kyB (byI s i) := by
  rw [Bool.eq_iff_iff]
  unfold ofB
  rw [List.all_eq_true, List.all_eq_true]
  constructor
  · intro h i hi
    have hi' : i < s.data.size := List.mem_range.1 hi
    unfold byI
    rw [Array.getElem?_eq_getElem hi', Option.getD_some, ← ky_cs]
    exact h _ (by simp)
  · intro h b hb
    obtain ⟨i, hi, e⟩ := List.getElem_of_mem hb
    have hi' : i < s.data.size := by simpa using hi
    have h1 := h i (List.mem_range.2 hi')
    unfold byI at h1
    rw [Array.getElem?_eq_getElem hi', Option.getD_some] at h1
    rw [ky_cs, ← e]
    simpa using h1
theorem ofB_sm {s : ByteArray} (h : 1 ≤ s.size) : ofB (s.extract 0 1) smCs = smB (byI s 0) := by
  have h' : 0 < s.data.size := h
  have e : (s.extract 0 1).data.toList = [s.data[0]] := by
    rw [ByteArray.data_extract]
    apply List.ext_getElem?
    intro i
    rcases i with _ | i
    · simp
    · simp
      omega
  unfold ofB byI
  rw [e, Array.getElem?_eq_getElem h', Option.getD_some, ← sm_cs]
  simp

set_option maxRecDepth 100000 in
set_option maxHeartbeats 1000000 in
theorem keyOf_any (s : ByteArray) (w : World) : Calls Tryd.prog 62 #[.string s] w fun e w' => e = .returned (.bool (keyB s)) ∧ w.grownBy w' none := by
  by_cases h1 : 1 ≤ s.size
  · have h1' : (1 : Int) ≤ (s.size : Int) := by omega
    by_cases h40 : s.size ≤ 40
    · have h40' : (s.size : Int) ≤ 40 := by omega
      have hm1 := fun w => made_any s kyCs w (by omega) (by decide) (Go.Proofs.ascii_of_all (by decide))
      have hm2 := fun w => made_any (s.extract 0 1) smCs w (by rw [ByteArray.size_extract]; omega) (by decide) (Go.Proofs.ascii_of_all (by decide))
      rw [ofB_ky] at hm1
      rw [ofB_sm h1] at hm2
      have hv : keyB s = (smB (byI s 0) && ((List.range s.size).all fun i => kyB (byI s i))) := by unfold keyB; simp [h1, h40]
      rw [hv]
      generalize ((List.range s.size).all fun i => kyB (byI s i)) = q at *
      generalize smB (byI s 0) = p at *
      unfold kyCs at hm1
      unfold smCs at hm2
      have HM := Lib.hid (And.intro hm1 hm2)
      clear hm1 hm2 hv
      cases q
      · go_enter Tryd.func62, Tryd.ntmps62
        go_wp2_with fail
        refine (HM.out.1 _).mono ?_
        rintro e w1 ⟨rfl, hg1⟩
        go_wp2_with fail
        go_ret
        exact ⟨retB (by simp), hg1⟩
      · go_enter Tryd.func62, Tryd.ntmps62
        go_wp2_with fail
        refine (HM.out.1 _).mono ?_
        rintro e w1 ⟨rfl, hg1⟩
        go_wp2_with fail
        refine (HM.out.2 _).mono ?_
        rintro e w2 ⟨rfl, hg2⟩
        go_wp2_with fail
        go_ret
        exact ⟨retB (by simp), hg1.trans hg2⟩
    · have h40' : ¬ (s.size : Int) ≤ 40 := by omega
      have h40d : decide ((s.size : Int) ≤ 40) = false := decide_eq_false h40'
      have HV := Lib.hid (show keyB s = false by unfold keyB; rw [decide_eq_false h40]; simp)
      clear h40
      go_enter Tryd.func62, Tryd.ntmps62
      go_wp2_with fail
      go_ret
      exact ⟨retB HV.out.symm, grown_refl w⟩
  · have h1' : ¬ (1 : Int) ≤ (s.size : Int) := by omega
    have h1d : decide ((1 : Int) ≤ (s.size : Int)) = false := decide_eq_false h1'
    have HV := Lib.hid (show keyB s = false by unfold keyB; rw [decide_eq_false h1]; simp)
    go_enter Tryd.func62, Tryd.ntmps62
    go_wp2_with fail
    go_ret
    exact ⟨retB HV.out.symm, grown_refl w⟩

end Go.Proofs.YtcipidfbclohoaaDoor
