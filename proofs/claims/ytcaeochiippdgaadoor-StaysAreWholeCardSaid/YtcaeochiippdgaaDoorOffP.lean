/- Offers as lists: what their checks say. -/
import Derived.Test.YtcaeochiippdgaaDoorSq
import Derived.Test.YtcaeochiippdgaaDoorKey
namespace Go.Proofs.YtcaeochiippdgaaDoor
open Go.RowKit

/-- An offer: its key and group, its profits, what it has, what it hates. -/
structure Off where
  key : ByteArray
  grp : ByteArray
  ps : List Int
  hs : List ByteArray
  ts : List ByteArray
instance : Inhabited Off := ⟨⟨ByteArray.empty, ByteArray.empty, [], [], []⟩⟩

/-- Rising keys, from here on. -/
def riFrom (prev : Option ByteArray) : List ByteArray → Int
  | [] => 0
  | x :: r => if keyB x = false then 5 else if prev.any (fun p => sLe x p) = true then 7 else riFrom (some x) r
/-- What an offer has, or hates. -/
def algF (l : List ByteArray) : Int := if 10 < l.length then 2 else riFrom none l
def riPrev (l : List ByteArray) (j : Nat) : Option ByteArray := if j = 0 then none else l[j-1]?
def RiInv (l : List ByteArray) (j : Nat) : Prop := riFrom (riPrev l j) (l.drop j) = riFrom none l
theorem RiInv.start (l : List ByteArray) : RiInv l 0 := by unfold RiInv; simp [riPrev]
theorem RiInv.done {l : List ByteArray} {j : Nat} (h : RiInv l j) (hj : j = l.length) : riFrom none l = 0 := by
  unfold RiInv at h; subst hj; rw [← h]; simp [riFrom]
theorem RiInv.step {l : List ByteArray} {j : Nat} {t : ByteArray} (h : RiInv l j) (ht : l[j]? = some t) :
    riFrom none l = if keyB t = false then 5 else if (riPrev l j).any (fun p => sLe t p) = true then 7 else riFrom (some t) (l.drop (j + 1)) := by
  unfold RiInv at h; rw [← h, drop_at ht]; rfl
theorem RiInv.rkey {l : List ByteArray} {j : Nat} {t : ByteArray} (h : RiInv l j) (ht : l[j]? = some t) (h1 : keyB t = false) : riFrom none l = 5 := by
  rw [h.step ht, if_pos h1]
theorem RiInv.rord {l : List ByteArray} {p : Nat} {t t' : ByteArray} (h : RiInv l (p + 1)) (ht : l[p + 1]? = some t) (ht' : l[p]? = some t') (h1 : keyB t = true) (h2 : sLe t t' = true) : riFrom none l = 7 := by
  rw [h.step ht, if_neg (by simp [h1]), if_pos (by simp [riPrev, ht', h2])]
theorem RiInv.next0 {l : List ByteArray} {t : ByteArray} (h : RiInv l 0) (ht : l[0]? = some t) (h1 : keyB t = true) : RiInv l 1 := by
  have hn : riPrev l 1 = some t := by simp [riPrev, ht]
  have := h.step ht
  unfold RiInv
  rw [hn, this, if_neg (by simp [h1]), if_neg (by simp [riPrev])]
theorem RiInv.next {l : List ByteArray} {p : Nat} {t t' : ByteArray} (h : RiInv l (p + 1)) (ht : l[p + 1]? = some t) (ht' : l[p]? = some t') (h1 : keyB t = true) (h2 : sLe t t' = false) : RiInv l (p + 1 + 1) := by
  have hn : riPrev l (p + 1 + 1) = some t := by simp [riPrev, ht]
  have := h.step ht
  unfold RiInv
  rw [hn, this, if_neg (by simp [h1]), if_neg (by simp [riPrev, ht', h2])]

/-- What is wrong with an offer behind its Key. -/
def offBF (o : Off) : Int :=
  if keyB o.grp = false then 5 else if o.ps.length = 0 then 8 else if 10 < o.ps.length then 2 else if allB o.ps (-1000000) 1000000 = false then 1 else
    if algF o.hs ≠ 0 then algF o.hs else algF o.ts
def offFrom (prev : Option ByteArray) : List Off → Int
  | [] => 0
  | x :: r => if keyB x.key = false then 5 else if prev.any (fun p => sLe x.key p) = true then 7 else if offBF x ≠ 0 then offBF x else offFrom (some x.key) r
def offsF (l : List Off) : Int := if 30 < l.length then 2 else offFrom none l
def oPrev (l : List Off) (j : Nat) : Option ByteArray := if j = 0 then none else (l[j-1]?).map (·.key)
def OffInv (l : List Off) (j : Nat) : Prop := offFrom (oPrev l j) (l.drop j) = offsF l
def OPrevOk (l : List Off) (j : Nat) (t : Off) : Prop := (oPrev l j).any (fun p => sLe t.key p) = false
theorem OffInv.start {l : List Off} (h : l.length ≤ 30) : OffInv l 0 := by
  unfold OffInv offsF; rw [if_neg (by omega)]; simp [oPrev]
theorem OffInv.done {l : List Off} {j : Nat} (h : OffInv l j) (hj : j = l.length) : offsF l = 0 := by
  unfold OffInv at h; subst hj; rw [← h]; simp [offFrom]
theorem OffInv.step {l : List Off} {j : Nat} {t : Off} (h : OffInv l j) (ht : l[j]? = some t) :
    offsF l = if keyB t.key = false then 5 else if (oPrev l j).any (fun p => sLe t.key p) = true then 7 else if offBF t ≠ 0 then offBF t else offFrom (some t.key) (l.drop (j + 1)) := by
  unfold OffInv at h; rw [← h, drop_at ht]; rfl
theorem OPrevOk.zero (l : List Off) (t : Off) : OPrevOk l 0 t := by simp [OPrevOk, oPrev]
theorem OPrevOk.succ {l : List Off} {p : Nat} {t t' : Off} (ht' : l[p]? = some t') (h : sLe t.key t'.key = false) : OPrevOk l (p + 1) t := by
  simp [OPrevOk, oPrev, ht', h]
theorem OffInv.rkey {l : List Off} {j : Nat} {t : Off} (h : OffInv l j) (ht : l[j]? = some t) (h1 : keyB t.key = false) : offsF l = 5 := by
  rw [h.step ht, if_pos h1]
theorem OffInv.rord {l : List Off} {p : Nat} {t t' : Off} (h : OffInv l (p + 1)) (ht : l[p + 1]? = some t) (ht' : l[p]? = some t') (h1 : keyB t.key = true) (h2 : sLe t.key t'.key = true) : offsF l = 7 := by
  rw [h.step ht, if_neg (by simp [h1]), if_pos (by simp [oPrev, ht', h2])]
/-- What is behind the order. -/
theorem OffInv.tail {l : List Off} {j : Nat} {t : Off} (h : OffInv l j) (ht : l[j]? = some t) (h1 : keyB t.key = true) (hp : OPrevOk l j t) :
    (offBF t ≠ 0 → offsF l = offBF t) ∧ (offBF t = 0 → OffInv l (j + 1)) := by
  have hs := h.step ht
  rw [if_neg (by simp [h1]), if_neg (by rw [show (oPrev l j).any (fun p => sLe t.key p) = false from hp]; simp)] at hs
  refine ⟨fun h2 => by rw [hs, if_pos h2], fun h2 => ?_⟩
  rw [if_neg (by simp [h2])] at hs
  have hn : oPrev l (j + 1) = some t.key := by simp [oPrev, ht]
  unfold OffInv
  rw [hn, hs]

/-- A right offer by itself. -/
def OffOk (o : Off) : Prop := keyB o.key = true ∧ offBF o = 0
theorem offFrom_ok : ∀ (l : List Off) (prev : Option ByteArray), offFrom prev l = 0 → (∀ t ∈ l, OffOk t) ∧ l.Pairwise (fun a b => sLe b.key a.key = false) ∧ ∀ p, prev = some p → ∀ t ∈ l, sLe t.key p = false
  | [], _, _ => ⟨by simp, List.Pairwise.nil, by simp⟩
  | a :: l, prev, h => by
    unfold offFrom at h
    by_cases h1 : keyB a.key = true
    · rw [if_neg (by simp [h1])] at h
      by_cases h2 : prev.any (fun p => sLe a.key p) = true
      · rw [if_pos h2] at h; cases h
      · rw [if_neg h2] at h
        by_cases h3 : offBF a = 0
        · rw [if_neg (by simp [h3])] at h
          obtain ⟨i1, i2, i3⟩ := offFrom_ok l _ h
          refine ⟨?_, List.pairwise_cons.2 ⟨fun b hb => i3 _ rfl b hb, i2⟩, ?_⟩
          · intro t ht
            rcases List.mem_cons.1 ht with rfl | ht
            · exact ⟨h1, h3⟩
            · exact i1 t ht
          · intro p hp t ht
            subst hp
            have h2' : sLe a.key p = false := by simpa using h2
            rcases List.mem_cons.1 ht with rfl | ht
            · exact h2'
            · exact sLe_trans h2' (i3 _ rfl t ht)
        · rw [if_pos h3] at h; exact absurd h h3
    · rw [if_pos (by simpa using h1)] at h; cases h
theorem offs_ok {l : List Off} (h : offsF l = 0) : l.length ≤ 30 ∧ (∀ t ∈ l, OffOk t) ∧ l.Pairwise (fun a b => sLe b.key a.key = false) := by
  unfold offsF at h
  by_cases h1 : 30 < l.length
  · rw [if_pos h1] at h; cases h
  · rw [if_neg h1] at h
    obtain ⟨h2, h3, _⟩ := offFrom_ok l none h
    exact ⟨by omega, h2, h3⟩
theorem offBF_ok {o : Off} (h : offBF o = 0) : keyB o.grp = true ∧ 1 ≤ o.ps.length ∧ o.ps.length ≤ 10 ∧ allB o.ps (-1000000) 1000000 = true ∧ algF o.hs = 0 ∧ algF o.ts = 0 := by
  unfold offBF at h
  by_cases h1 : keyB o.grp = true
  · rw [if_neg (by simp [h1])] at h
    by_cases h2 : o.ps.length = 0
    · rw [if_pos h2] at h; cases h
    · rw [if_neg h2] at h
      by_cases h3 : 10 < o.ps.length
      · rw [if_pos h3] at h; cases h
      · rw [if_neg h3] at h
        by_cases h4 : allB o.ps (-1000000) 1000000 = true
        · rw [if_neg (by simp [h4])] at h
          by_cases h5 : algF o.hs = 0
          · rw [if_neg (by simp [h5])] at h
            exact ⟨h1, by omega, by omega, h4, h5, h⟩
          · rw [if_pos h5] at h; exact absurd h h5
        · rw [if_pos (by simpa using h4)] at h; cases h
  · rw [if_pos (by simpa using h1)] at h; cases h

/-! ### Counts -/
def cntFrom : List Off → List Int → Int
  | o :: l, n :: c => if btw n 0 o.ps.length = false then 1 else cntFrom l c
  | _, _ => 0
/-- What is wrong with counts. -/
def countsF (l : List Off) (c : List Int) : Int := if c.length ≠ l.length then 3 else cntFrom l c
theorem cntFrom_bad : ∀ {l : List Off} {c : List Int} {j : Nat} {o : Off} {n : Int}, (∀ (i : Nat) (o : Off) (n : Int), i < j → l[i]? = some o → c[i]? = some n → btw n 0 o.ps.length = true) → l[j]? = some o → c[j]? = some n → btw n 0 o.ps.length = false → cntFrom l c = 1
  | [], _, _, _, _, _, h, _, _ => by simp at h
  | _ :: _, [], _, _, _, _, _, h, _ => by simp at h
  | a :: l, b :: c, 0, o, n, _, h1, h2, h3 => by
    simp at h1 h2; subst h1 h2
    rw [cntFrom, if_pos h3]
  | a :: l, b :: c, j + 1, o, n, h, h1, h2, h3 => by
    have h0 := h 0 a b (by omega) rfl rfl
    rw [cntFrom, if_neg (by simp [h0])]
    exact cntFrom_bad (j := j) (fun i o n hi ho hn => h (i + 1) o n (by omega) (by simpa using ho) (by simpa using hn)) (by simpa using h1) (by simpa using h2) h3
theorem cntFrom_ok : ∀ {l : List Off} {c : List Int}, (∀ (i : Nat) (o : Off) (n : Int), l[i]? = some o → c[i]? = some n → btw n 0 o.ps.length = true) → cntFrom l c = 0
  | [], _, _ => by simp [cntFrom]
  | _ :: _, [], _ => by simp [cntFrom]
  | a :: l, b :: c, h => by
    rw [cntFrom, if_neg (by simp [h 0 a b rfl rfl])]
    exact cntFrom_ok (fun i o n ho hn => h (i + 1) o n (by simpa using ho) (by simpa using hn))
theorem cntFrom_all : ∀ {l : List Off} {c : List Int}, cntFrom l c = 0 → ∀ (i : Nat) (o : Off) (n : Int), l[i]? = some o → c[i]? = some n → btw n 0 o.ps.length = true
  | [], _, _, i, o, n, h, _ => by simp at h
  | _ :: _, [], _, i, o, n, _, h => by simp at h
  | a :: l, b :: c, h, i, o, n, h1, h2 => by
    rw [cntFrom] at h
    by_cases hb : btw b 0 a.ps.length = true
    · rw [if_neg (by simp [hb])] at h
      cases i with
      | zero => simp at h1 h2; subst h1 h2; exact hb
      | succ i => exact cntFrom_all h i o n (by simpa using h1) (by simpa using h2)
    · rw [if_pos (by simpa using hb)] at h; cases h

/-- What counts are worth, of the first j offers. -/
def worthN (l : List Off) (c : List Int) : Nat → Int
  | 0 => 0
  | j + 1 => worthN l c j + ((l.getD j default).ps.take (c.getD j 0).toNat).sum

end Go.Proofs.YtcaeochiippdgaaDoor
