/- A text protected. -/
import Derived.Test.YtoggjiblhcbmjaaDoorW9
import Derived.Lib.Replace
namespace Go.Proofs.YtoggjiblhcbmjaaDoor
open Go.RowKit Go.Shelf
/-- Each backslash twice. -/
def dbl : List UInt8 → List UInt8
  | [] => []
  | c :: t => if c = 92 then 92 :: 92 :: dbl t else c :: dbl t
theorem dbl_len (l : List UInt8) : (dbl l).length = l.length + l.count 92 := by
  induction l with
  | nil => rfl
  | cons c t ih =>
    rw [dbl]
    by_cases h : c = 92
    · rw [if_pos h, h]; simp only [List.length_cons, List.count_cons_self]; omega
    · rw [if_neg h, List.count_cons_of_ne (by simpa using fun e => h e)]; simp only [List.length_cons]; omega
theorem dbl_app (a b : List UInt8) : dbl (a ++ b) = dbl a ++ dbl b := by
  induction a with
  | nil => rfl
  | cons c t ih =>
    rw [List.cons_append, dbl, dbl]
    split <;> simp [ih]
theorem dbl_no (l : List UInt8) (h : l.count 92 = 0) : dbl l = l := by
  induction l with
  | nil => rfl
  | cons c t ih =>
    by_cases hc : c = 92
    · rw [hc] at h; simp at h
    · rw [List.count_cons_of_ne (by simpa using fun e => hc e)] at h
      rw [dbl, if_neg hc, ih h]
theorem ix_none (l : List UInt8) (h : Lib.indexByte l 92 = -1) : l.count 92 = 0 := by
  rw [List.count_eq_zero]
  intro hm
  obtain ⟨k, hk⟩ := List.mem_iff_getElem?.1 hm
  exact Lib.indexByte_none h k hk
/-- The place of the first backslash parts the text. -/
theorem ix_part (l : List UInt8) (i : Nat) (h : Lib.indexByte l 92 = i) : l = l.take i ++ 92 :: l.drop (i + 1) ∧ (l.take i).count 92 = 0 := by
  obtain ⟨h1, h2⟩ := Lib.indexByte_some h
  have hi : i < l.length := (List.getElem?_eq_some_iff.1 h1).1
  have he : l[i] = 92 := (List.getElem?_eq_some_iff.1 h1).2
  constructor
  · conv => lhs; rw [← List.take_append_drop i l]
    rw [List.drop_eq_getElem_cons hi, he]
  · rw [List.count_eq_zero]
    intro hm
    obtain ⟨k, hk⟩ := List.mem_iff_getElem?.1 hm
    rw [List.getElem?_take] at hk
    split at hk
    · exact h2 k (by assumption) hk
    · cases hk
theorem replaceK_dbl (n : Nat) : ∀ l : List UInt8, l.count 92 = n → Lib.replaceK [92] [92, 92] n l = dbl l := by
  induction n with
  | zero => intro l h; rw [dbl_no l h]; rfl
  | succ n ih =>
    intro l h
    have hge := Lib.indexByte_ge l 92
    by_cases hm : Lib.indexByte l 92 = -1
    · rw [ix_none l hm] at h; cases h
    · obtain ⟨i, hi⟩ : ∃ i : Nat, Lib.indexByte l 92 = i := ⟨(Lib.indexByte l 92).toNat, by omega⟩
      obtain ⟨h1, h2⟩ := ix_part l i hi
      rw [Lib.replaceK_hit [92] [92, 92] n l i (by rw [Lib.index_one]; exact hi)]
      have h3 : (l.drop (i + 1)).count 92 = n := by
        rw [h1, List.count_append, h2, List.count_cons_self] at h
        omega
      rw [show Lib.replaceK [92] [92, 92] n (l.drop (i + ([92] : List UInt8).length)) = dbl (l.drop (i + 1)) from ih _ h3]
      conv => rhs; rw [h1]
      rw [dbl_app, dbl_no _ h2, dbl, if_pos rfl]
      simp
theorem replaceAll_dbl (l : List UInt8) : Lib.replaceAll l [92] [92, 92] = dbl l := by
  unfold Lib.replaceAll Lib.replace
  rw [if_neg (by decide)]
  unfold Lib.replaceNum
  rw [if_pos (.inl (by decide)), Lib.count_one]
  exact replaceK_dbl _ l rfl
/-- The first piece of a protected text. -/
theorem cut_dbl (c : UInt8) (t : List UInt8) (hc : c = 92) : cutS (dbl (c :: t)) = (⟨[92, 92], 92, [], 0⟩, 2) := by
  rw [dbl, if_pos hc]
  unfold cutS
  have h1 : Lib.indexByte (92 :: 92 :: dbl t) 92 = 0 := by unfold Lib.indexByte; rw [if_pos (by decide)]
  rw [h1, if_neg (by decide), if_pos rfl]
  rfl
theorem ix_app (a r : List UInt8) (h : a.count 92 = 0) : Lib.indexByte (a ++ r) 92 = if Lib.indexByte r 92 < 0 then -1 else (a.length : Int) + Lib.indexByte r 92 := by
  induction a with
  | nil =>
    have := Lib.indexByte_ge r 92
    simp only [List.nil_append, List.length_nil]
    split <;> omega
  | cons c t ih =>
    by_cases hc : c = 92
    · rw [hc] at h; simp at h
    · rw [List.count_cons_of_ne (by simpa using fun e => hc e)] at h
      rw [List.cons_append, Lib.indexByte, if_neg (by simpa using hc), ih h]
      have := Lib.indexByte_ge r 92
      by_cases hr : Lib.indexByte r 92 < 0
      · rw [if_pos hr, if_pos hr, if_pos (by decide)]
      · rw [if_neg hr, if_neg hr, if_neg (by simp; omega)]
        simp only [List.length_cons]; omega
theorem ono0 {cp : Bool} {A l tx : List UInt8} {n : Nat} (st : ExStep cp A l ⟨tx, 0, [], 0⟩ n) : exF cp A l = (tx ++ (exF cp A (l.drop n)).1, (exF cp A (l.drop n)).2) :=
  st.ono (show (0 : UInt8) ≠ 34 by decide) (show (0 : UInt8) ≠ 110 by decide) (show (0 : UInt8) ≠ 42 by decide) (show (0 : UInt8) ≠ 36 by decide) (show (0 : UInt8) ≠ 119 by decide) (fun _ => ⟨show (0 : UInt8) ≠ 92 by decide, show (0 : UInt8) ≠ 46 by decide⟩)
/-- In copy mode a protected text is itself again, and nothing is asked. -/
theorem copy_back (A : List UInt8) (hA : A.length ≤ 1) (N : Nat) : ∀ l : List UInt8, l.length = N → exF true A (dbl l) = (l, 0) := by
  induction N using Nat.strongRecOn with
  | _ N ih =>
    intro l hl
    cases l with
    | nil => rfl
    | cons c t =>
      have hne : dbl (c :: t) ≠ [] := by rw [dbl]; split <;> simp
      have st := exF_step true A hA (dbl (c :: t)) hne
      by_cases hc : c = 92
      · rw [cut_dbl c t hc] at st
        have e : (dbl (c :: t)).drop 2 = dbl t := by rw [dbl, if_pos hc]; rfl
        have hr := ih t.length (by simp at hl; omega) t rfl
        have := st.onb (.inl rfl) rfl
        rw [this, e, hr, hc]
      · -- text up to the next backslash
        have hge := Lib.indexByte_ge (c :: t) 92
        by_cases hm : Lib.indexByte (c :: t) 92 = -1
        · have h0 := ix_none _ hm
          rw [dbl_no _ h0] at st ⊢
          have hcut : cutS (c :: t) = (⟨c :: t, 0, [], 0⟩, (c :: t).length) := by unfold cutS; rw [if_pos (by omega)]
          rw [hcut] at st
          rw [ono0 st, List.drop_length]
          simp [exF, exS]
        · obtain ⟨i, hi⟩ : ∃ i : Nat, Lib.indexByte (c :: t) 92 = i := ⟨(Lib.indexByte (c :: t) 92).toNat, by omega⟩
          obtain ⟨h1, h2⟩ := ix_part _ i hi
          have hi0 : 0 < i := by
            rcases Nat.eq_zero_or_pos i with rfl | h
            · have := (Lib.indexByte_some hi).1
              simp at this; exact absurd this hc
            · exact h
          have hil := ix_lt hi
          obtain ⟨a, ha⟩ : ∃ a, a = (c :: t).take i := ⟨_, rfl⟩
          obtain ⟨r, hr⟩ : ∃ r, r = (c :: t).drop (i + 1) := ⟨_, rfl⟩
          rw [← ha, ← hr] at h1
          rw [← ha] at h2
          have hal : a.length = i := by rw [ha, List.length_take]; omega
          have hd : dbl (c :: t) = a ++ (92 :: 92 :: dbl r) := by rw [h1, dbl_app, dbl_no a h2, dbl, if_pos rfl]
          have hrl : (92 :: r).length < N := by rw [h1] at hl; simp only [List.length_append, List.length_cons] at hl ⊢; omega
          have hrr := ih (92 :: r).length hrl (92 :: r) rfl
          rw [hd] at st ⊢
          have hix : Lib.indexByte (a ++ (92 :: 92 :: dbl r)) 92 = (i : Int) := by
            rw [ix_app a _ h2]
            have : Lib.indexByte (92 :: 92 :: dbl r) 92 = 0 := by unfold Lib.indexByte; rw [if_pos (by decide)]
            rw [this, if_neg (by decide), hal]; omega
          have hcut : cutS (a ++ (92 :: 92 :: dbl r)) = (⟨a, 0, [], 0⟩, i) := by
            unfold cutS
            rw [hix, if_neg (by omega), if_neg (by omega), Int.toNat_natCast, ← hal, List.take_left]
          rw [hcut] at st
          have e : (a ++ (92 :: 92 :: dbl r)).drop i = dbl (92 :: r) := by rw [← hal, List.drop_left, dbl, if_pos rfl]
          rw [ono0 st]
          simp only
          rw [e, hrr, h1]
end Go.Proofs.YtoggjiblhcbmjaaDoor
