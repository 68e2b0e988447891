/- Escapes, in plain words. -/
import Derived.Test.YtoggjiblhcbmjaaDoorK1
import Derived.Lib.Bytealg
import Derived.Lib.IndexLaws
import Derived.Lib.SmallJoins
namespace Go.Proofs.YtoggjiblhcbmjaaDoor
open Go.RowKit
/-- A text by its bytes. -/
def bs (l : List UInt8) : ByteArray := ⟨l.toArray⟩
theorem bs_list (l : List UInt8) : (bs l).data.toList = l := rfl
theorem bs_size (l : List UInt8) : (bs l).size = l.length := by show l.toArray.size = _; simp
theorem bs_self (s : ByteArray) : bs s.data.toList = s := by cases s; rfl
theorem bs_inj {a b : List UInt8} (h : bs a = bs b) : a = b := by rw [← bs_list a, h, bs_list]
theorem bs_ext (s : ByteArray) (a b : Nat) (hb : b ≤ s.size) : s.extract a b = bs ((s.data.toList.take b).drop a) := by
  apply ByteArray.ext
  rw [ByteArray.data_extract]
  apply Array.toList_inj.1
  simp only [bs, Array.toList_extract, List.extract_eq_take_drop]
  rw [List.take_drop]
  by_cases h : a ≤ b
  · rw [show a + (b - a) = b by omega]
  · rw [List.drop_eq_nil_of_le (by simp; omega), List.drop_eq_nil_of_le (by simp; omega)]
/-- A byte that can be a name by itself. -/
def inSh (c : UInt8) : Bool := decide (33 ≤ c.toNat) && decide (c.toNat ≤ 126) && !(c == 40 || c == 91 || c == 43 || c == 45)
def nameS : List UInt8 → List UInt8 × Nat
  | [] => ([], 0)
  | c :: t =>
    if c = 40 then (if 2 ≤ t.length ∧ inSh (t.getD 0 0) = true ∧ inSh (t.getD 1 0) = true then (t.take 2, 3) else ([], 0))
    else if c = 91 then (if 0 < Lib.indexByte ((c :: t).take 22) 93 ∧ okNm (t.take ((Lib.indexByte ((c :: t).take 22) 93).toNat - 1)) = true then (t.take ((Lib.indexByte ((c :: t).take 22) 93).toNat - 1), (Lib.indexByte ((c :: t).take 22) 93).toNat + 1) else ([], 0))
    else if inSh c = true then ([c], 1) else ([], 0)
def quotS : List UInt8 → List UInt8 × Nat
  | [] => ([], 0)
  | c :: t => if c = 92 then ([], 0) else if Lib.indexByte t c < 0 then ([], 0) else (t.take (Lib.indexByte t c).toNat, (Lib.indexByte t c).toNat + 2)
def stepS : List UInt8 → Int × List UInt8
  | [] => (0, [])
  | c :: t => if c = 43 then (1, t) else if c = 45 then (-1, t) else (0, c :: t)
/-- A piece of a text. -/
structure Pc where
  tx : List UInt8
  kd : UInt8
  nm : List UInt8
  st : Int
def pc0 : Pc := ⟨[], 0, [], 0⟩
def fin (p : Pc) (u n : Nat) : Pc × Nat := if u = 0 then (pc0, 1) else (p, n)
def escS : List UInt8 → Pc × Nat
  | [] => (pc0, 1)
  | [_] => (pc0, 1)
  | _ :: k :: t =>
    if k = 110 then fin ⟨[], k, (nameS (stepS t).2).1, (stepS t).1⟩ (nameS (stepS t).2).2 (t.length + 2 - (stepS t).2.length + (nameS (stepS t).2).2)
    else if k = 42 ∨ k = 36 then fin ⟨[], k, (nameS t).1, 0⟩ (nameS t).2 (2 + (nameS t).2)
    else if k = 119 then fin ⟨[], k, (quotS t).1, 0⟩ (quotS t).2 (2 + (quotS t).2)
    else (⟨[], k, [], 0⟩, 2)
def cutS (l : List UInt8) : Pc × Nat :=
  if Lib.indexByte l 92 < 0 then (⟨l, 0, [], 0⟩, l.length)
  else if Lib.indexByte l 92 = 0 then (⟨l.take (escS l).2, (escS l).1.kd, (escS l).1.nm, (escS l).1.st⟩, (escS l).2)
  else (⟨l.take (Lib.indexByte l 92).toNat, 0, [], 0⟩, (Lib.indexByte l 92).toNat)
theorem ix_lt {l : List UInt8} {c : UInt8} {n : Nat} (h : Lib.indexByte l c = n) : n < l.length := by
  have := (Lib.indexByte_some h).1
  exact (List.getElem?_eq_some_iff.1 this).1
theorem ix_le (l : List UInt8) (c : UInt8) (h : ¬ Lib.indexByte l c < 0) : (Lib.indexByte l c).toNat < l.length := ix_lt (c := c) (by omega)
theorem nameS_le (l : List UInt8) : (nameS l).2 ≤ l.length ∧ (nameS l).1.length ≤ (nameS l).2 := by
  cases l with
  | nil => simp [nameS]
  | cons c t =>
    rw [nameS]
    by_cases h1 : c = 40
    · rw [if_pos h1]
      split
      · rename_i h; simp; omega
      · simp
    · rw [if_neg h1]
      by_cases h2 : c = 91
      · rw [if_pos h2]
        split
        · rename_i h
          have := ix_le ((c :: t).take 22) 93 (by omega)
          have h3 := List.length_take_le ((Lib.indexByte ((c :: t).take 22) 93).toNat - 1) t
          have h4 := List.length_take_le 22 (c :: t)
          have h5 := List.length_take_le' 22 (c :: t)
          simp only [List.length_cons] at h5 this ⊢
          omega
        · simp
      · rw [if_neg h2]
        split <;> simp
theorem quotS_le (l : List UInt8) : (quotS l).2 ≤ l.length ∧ ((quotS l).2 ≠ 0 → (quotS l).1.length + 2 = (quotS l).2) := by
  cases l with
  | nil => simp [quotS]
  | cons c t =>
    rw [quotS]
    by_cases h1 : c = 92
    · rw [if_pos h1]; simp
    · rw [if_neg h1]
      by_cases h2 : Lib.indexByte t c < 0
      · rw [if_pos h2]; simp
      · rw [if_neg h2]
        have := ix_le t c h2
        simp only [List.length_cons, List.length_take]; omega
theorem stepS_le (l : List UInt8) : (stepS l).2.length ≤ l.length := by
  cases l with
  | nil => simp [stepS]
  | cons c t =>
    rw [stepS]
    split
    · simp
    · split <;> simp
/-- What is said of a piece: how long it is. -/
structure PcOk (l : List UInt8) (p : Pc) (n : Nat) : Prop where
  n1 : 1 ≤ n
  nl : n ≤ l.length
  nd : p.kd = 110 ∨ p.kd = 42 ∨ p.kd = 36 → 3 ≤ n
  wd : p.kd = 119 → p.nm.length + 4 = n
  k2 : p.kd ≠ 0 → 2 ≤ n
  nm : p.nm.length ≤ l.length
theorem PcOk.zero {l : List UInt8} (h : l ≠ []) : PcOk l pc0 1 :=
  ⟨by omega, by cases l with | nil => exact absurd rfl h | cons a t => simp, fun h => by simp [pc0] at h, fun h => by simp [pc0] at h, fun h => absurd rfl h, by simp [pc0]⟩
theorem escS_ok (l : List UInt8) (h : l ≠ []) : PcOk l (escS l).1 (escS l).2 := by
  match l, h with
  | [a], h => exact PcOk.zero h
  | a :: k :: t, h =>
    rw [escS]
    by_cases h1 : k = 110
    · rw [if_pos h1]; unfold fin
      split
      · exact PcOk.zero h
      · have a1 := nameS_le (stepS t).2
        have a2 := stepS_le t
        exact ⟨by omega, by simp only [List.length_cons]; omega, fun _ => by omega, fun h => by rw [h1] at h; exact absurd (show (110 : UInt8) = 119 from h) (by decide), fun _ => by omega, by simp only [List.length_cons]; omega⟩
    · rw [if_neg h1]
      by_cases h2 : k = 42 ∨ k = 36
      · rw [if_pos h2]; unfold fin
        split
        · exact PcOk.zero h
        · have a1 := nameS_le t
          exact ⟨by omega, by simp only [List.length_cons]; omega, fun _ => by omega, fun h => by rcases h2 with e | e <;> exact absurd (e.symm.trans h) (by decide), fun _ => by omega, by simp only [List.length_cons]; omega⟩
      · rw [if_neg h2]
        by_cases h3 : k = 119
        · rw [if_pos h3]; unfold fin
          split
          · exact PcOk.zero h
          · rename_i hu
            have a1 := quotS_le t
            have a2 := a1.2 hu
            exact ⟨by omega, by simp only [List.length_cons]; omega, fun _ => by omega, fun h => by simp only; omega, fun _ => by omega, by simp only [List.length_cons]; omega⟩
        · rw [if_neg h3]
          refine ⟨by simp, by simp, ?_, fun h => absurd h h3, fun _ => by simp, by simp⟩
          intro h
          rcases h with h | h | h
          · exact absurd h h1
          · exact absurd (.inl h) h2
          · exact absurd (.inr h) h2
theorem cutS_ok (l : List UInt8) (h : l ≠ []) : PcOk l (cutS l).1 (cutS l).2 := by
  have hl : 1 ≤ l.length := by cases l with | nil => exact absurd rfl h | cons a t => simp
  unfold cutS
  by_cases h1 : Lib.indexByte l 92 < 0
  · rw [if_pos h1]
    exact ⟨hl, Nat.le_refl _, fun h => by simp at h, fun h => by simp at h, fun h => absurd rfl h, by simp⟩
  · rw [if_neg h1]
    by_cases h2 : Lib.indexByte l 92 = 0
    · rw [if_pos h2]
      have := escS_ok l h
      exact ⟨this.n1, this.nl, this.nd, this.wd, this.k2, this.nm⟩
    · rw [if_neg h2]
      have := ix_le l 92 h1
      exact ⟨by simp only; omega, by simp only; omega, fun h => by simp at h, fun h => by simp at h, fun h => absurd rfl h, by simp⟩
theorem cutS_tx (l : List UInt8) : (cutS l).1.tx = l.take (cutS l).2 := by
  unfold cutS
  by_cases h1 : Lib.indexByte l 92 < 0
  · rw [if_pos h1]; simp
  · rw [if_neg h1]
    by_cases h2 : Lib.indexByte l 92 = 0
    · rw [if_pos h2]
    · rw [if_neg h2]
/-- A text that is expanded with a function that always answers the same: what comes out, and how often it is asked. -/
def exStep (cp : Bool) (A : List UInt8) (R : List UInt8 → List UInt8 × Nat) (l : List UInt8) : List UInt8 × Nat :=
  if l = [] then ([], 0)
  else if (cutS l).1.kd = 34 then ([], 0)
  else if (cutS l).1.kd = 110 then (A ++ (R (l.drop (cutS l).2)).1, (R (l.drop (cutS l).2)).2 + 1)
  else if (cutS l).1.kd = 42 ∨ (cutS l).1.kd = 36 then ((R (A ++ l.drop (cutS l).2)).1, (R (A ++ l.drop (cutS l).2)).2 + 1)
  else if (cutS l).1.kd = 119 ∧ cp = false then (A ++ (R (l.drop (cutS l).2)).1, (R (cutS l).1.nm).2 + 1 + (R (l.drop (cutS l).2)).2)
  else if (cutS l).1.kd = 119 then (92 :: 119 :: (R (l.drop 2)).1, (R (l.drop 2)).2)
  else if cp = true ∧ ((cutS l).1.kd = 92 ∨ (cutS l).1.kd = 46) then ((cutS l).1.kd :: (R (l.drop (cutS l).2)).1, (R (l.drop (cutS l).2)).2)
  else ((cutS l).1.tx ++ (R (l.drop (cutS l).2)).1, (R (l.drop (cutS l).2)).2)
def exS (cp : Bool) (A : List UInt8) : Nat → List UInt8 → List UInt8 × Nat
  | 0, _ => ([], 0)
  | f + 1, l => exStep cp A (exS cp A f) l
theorem exS_succ (cp : Bool) (A : List UInt8) (f : Nat) (l : List UInt8) : exS cp A (f + 1) l = exStep cp A (exS cp A f) l := rfl
/-- It gets no longer, and every second byte asks at most. -/
theorem exS_le (cp : Bool) (A : List UInt8) (hA : A.length ≤ 1) (f : Nat) : ∀ l : List UInt8, (exS cp A f l).1.length ≤ l.length ∧ 2 * (exS cp A f l).2 ≤ l.length := by
  induction f with
  | zero => intro l; simp [exS]
  | succ f ih =>
    intro l
    rw [exS_succ, exStep]
    split
    · simp
    rename_i hl
    have ok := cutS_ok l hl
    have i1 := ih (l.drop (cutS l).2)
    have i2 := ih (A ++ l.drop (cutS l).2)
    have i3 := ih (cutS l).1.nm
    have i4 := ih (l.drop 2)
    have hn := ok.nl
    have ht := cutS_tx l
    simp only [List.length_append, List.length_drop] at i1 i2 i3 i4
    split
    · simp
    split
    · rename_i h
      have := ok.nd (.inl h)
      simp only [List.length_append]; omega
    split
    · rename_i h
      have := ok.nd (.inr h)
      simp only; omega
    split
    · rename_i h
      have := ok.wd h.1
      simp only [List.length_append]; omega
    split
    · rename_i h
      have := ok.wd h
      simp only [List.length_cons]; omega
    split
    · rename_i h
      have := ok.k2 (by rcases h.2 with e | e <;> rw [e] <;> decide)
      simp only [List.length_cons]; omega
    · rw [ht]
      simp only [List.length_append, List.length_take]
      omega
/-- More fuel changes nothing. -/
theorem exS_fuel (cp : Bool) (A : List UInt8) (hA : A.length ≤ 1) (f : Nat) : ∀ (l : List UInt8), l.length ≤ f → exS cp A (f + 1) l = exS cp A f l := by
  induction f with
  | zero =>
    intro l hl
    have : l = [] := List.length_eq_zero_iff.1 (by omega)
    rw [exS_succ, exStep, if_pos this]; rfl
  | succ f ih =>
    intro l hl
    rw [exS_succ, exS_succ cp A f, exStep, exStep]
    by_cases he : l = []
    · rw [if_pos he, if_pos he]
    rw [if_neg he, if_neg he]
    have ok := cutS_ok l he
    have hn := ok.nl
    have h1 := ok.n1
    rw [ih (l.drop (cutS l).2) (by simp only [List.length_drop]; omega)]
    by_cases h2 : (cutS l).1.kd = 34
    · rw [if_pos h2, if_pos h2]
    rw [if_neg h2, if_neg h2]
    by_cases h3 : (cutS l).1.kd = 110
    · rw [if_pos h3, if_pos h3]
    rw [if_neg h3, if_neg h3]
    by_cases h4 : (cutS l).1.kd = 42 ∨ (cutS l).1.kd = 36
    · rw [if_pos h4, if_pos h4]
      have := ok.nd (.inr h4)
      rw [ih (A ++ l.drop (cutS l).2) (by simp only [List.length_append, List.length_drop]; omega)]
    rw [if_neg h4, if_neg h4]
    by_cases h5 : (cutS l).1.kd = 119 ∧ cp = false
    · rw [if_pos h5, if_pos h5]
      have := ok.wd h5.1
      rw [ih (cutS l).1.nm (by omega)]
    rw [if_neg h5, if_neg h5]
    by_cases h6 : (cutS l).1.kd = 119
    · rw [if_pos h6, if_pos h6]
      have := ok.wd h6
      rw [ih (l.drop 2) (by simp only [List.length_drop]; omega)]
    rw [if_neg h6, if_neg h6]
end Go.Proofs.YtoggjiblhcbmjaaDoor
