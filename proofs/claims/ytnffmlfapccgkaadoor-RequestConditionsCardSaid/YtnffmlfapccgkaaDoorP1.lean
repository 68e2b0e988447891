/- Words of a text, in plain words. -/
import Derived.Lib.Bytealg
namespace Go.Proofs.YtnffmlfapccgkaaDoor
set_option maxRecDepth 100000
set_option linter.unusedSimpArgs false
set_option linter.unusedVariables false
/-- A blank. -/
def bl (c : UInt8) : Bool := c == 32 || c == 9
def skB (l : List UInt8) : List UInt8 := l.dropWhile bl
/-- How long the word is that stands ahead of a blank; a backslash has the byte behind it. -/
def tn : List UInt8 → Nat
  | [] => 0
  | [c] => if bl c then 0 else 1
  | c :: d :: t => if bl c then 0 else if c = 92 then 2 + tn t else 1 + tn (d :: t)
/-- What stands up to a closing quote, and what is behind it. -/
def qt : List UInt8 → List UInt8 × List UInt8
  | [] => ([], [])
  | [c] => if c = 34 then ([], []) else ([c], [])
  | c :: d :: t => if c = 34 then (if d = 34 then (34 :: (qt t).1, (qt t).2) else ([], d :: t)) else if c = 92 then (92 :: d :: (qt t).1, (qt t).2) else (c :: (qt (d :: t)).1, (qt (d :: t)).2)
/-- The first word, and what is behind it. -/
def wdS : List UInt8 → List UInt8 × List UInt8
  | [] => ([], [])
  | c :: t => if c = 34 then ((qt t).1 ++ (qt t).2.take (tn (qt t).2), (qt t).2.drop (tn (qt t).2)) else ((c :: t).take (tn (c :: t)), (c :: t).drop (tn (c :: t)))
def wdN : Nat → List UInt8 → List (List UInt8)
  | 0, _ => []
  | n + 1, l => match skB l with
    | [] => []
    | c :: t => (wdS (c :: t)).1 :: wdN n (wdS (c :: t)).2
def wds (l : List UInt8) : List (List UInt8) := wdN l.length l
theorem bl_iff (c : UInt8) : bl c = true ↔ c = 32 ∨ c = 9 := by simp [bl]
theorem skB_le (l : List UInt8) : (skB l).length ≤ l.length := (List.dropWhile_sublist _).length_le
theorem skB_head {l t : List UInt8} {c : UInt8} (h : skB l = c :: t) : bl c = false := by
  induction l with
  | nil => cases h
  | cons a r ih =>
    unfold skB at h ih
    rw [List.dropWhile_cons] at h
    split at h
    · exact ih h
    · rename_i hb
      obtain ⟨rfl, _⟩ := List.cons.inj h
      simpa using hb
theorem skB_cons_of {c : UInt8} {t : List UInt8} (h : bl c = false) : skB (c :: t) = c :: t := by
  unfold skB; rw [List.dropWhile_cons, if_neg (by simp [h])]
theorem skB_cons_bl {c : UInt8} {t : List UInt8} (h : bl c = true) : skB (c :: t) = skB t := by
  unfold skB; rw [List.dropWhile_cons, if_pos h]
theorem skB_idem (l : List UInt8) : skB (skB l) = skB l := by
  cases h : skB l with
  | nil => rfl
  | cons c t => exact skB_cons_of (skB_head h)
theorem tn_le : ∀ l : List UInt8, tn l ≤ l.length
  | [] => Nat.le_refl _
  | [c] => by unfold tn; split <;> simp
  | c :: d :: t => by
    have h1 := tn_le t
    have h2 := tn_le (d :: t)
    unfold tn
    simp only [List.length_cons] at h2 ⊢
    split
    · omega
    · split <;> omega
theorem tn_pos {c : UInt8} {t : List UInt8} (h : bl c = false) : 1 ≤ tn (c :: t) := by
  cases t with
  | nil => unfold tn; rw [if_neg (by simp [h])]; exact Nat.le_refl _
  | cons d t =>
    unfold tn
    rw [if_neg (by simp [h])]
    split <;> omega
theorem qt_le : ∀ l : List UInt8, (qt l).1.length + (qt l).2.length ≤ l.length
  | [] => Nat.le_refl _
  | [c] => by unfold qt; split <;> simp
  | c :: d :: t => by
    have h1 := qt_le t
    have h2 := qt_le (d :: t)
    unfold qt
    simp only [List.length_cons] at h2 ⊢
    split
    · split
      · simp only [List.length_cons]; omega
      · simp
    · split
      · simp only [List.length_cons]; omega
      · simp only [List.length_cons]; omega
theorem wdS_q (t : List UInt8) : wdS (34 :: t) = ((qt t).1 ++ (qt t).2.take (tn (qt t).2), (qt t).2.drop (tn (qt t).2)) := by simp [wdS]
theorem wdS_n {c : UInt8} (t : List UInt8) (h : c ≠ 34) : wdS (c :: t) = ((c :: t).take (tn (c :: t)), (c :: t).drop (tn (c :: t))) := by simp [wdS, h]
theorem wdS_le (c : UInt8) (t : List UInt8) (h : bl c = false) : (wdS (c :: t)).1.length + (wdS (c :: t)).2.length ≤ t.length + 1 ∧ (wdS (c :: t)).2.length ≤ t.length := by
  by_cases h34 : c = 34
  · subst h34
    rw [wdS_q]
    have h1 := qt_le t
    have h2 := tn_le (qt t).2
    simp only [List.length_append, List.length_take, List.length_drop]
    omega
  · rw [wdS_n t h34]
    have h1 := tn_le (c :: t)
    have h2 := tn_pos (t := t) h
    simp only [List.length_append, List.length_take, List.length_drop, List.length_cons] at h1 ⊢
    omega
theorem wdN_eq : ∀ (n m : Nat) (l : List UInt8), l.length ≤ n → l.length ≤ m → wdN n l = wdN m l
  | 0, 0, _, _, _ => rfl
  | 0, m + 1, l, h, _ => by
    have : l = [] := List.length_eq_zero_iff.1 (by omega)
    subst this; rfl
  | n + 1, 0, l, _, h => by
    have : l = [] := List.length_eq_zero_iff.1 (by omega)
    subst this; rfl
  | n + 1, m + 1, l, h1, h2 => by
    unfold wdN
    cases h : skB l with
    | nil => rfl
    | cons c t =>
      have hl := skB_le l
      rw [h, List.length_cons] at hl
      have hw := (wdS_le c t (skB_head h)).2
      dsimp only
      rw [wdN_eq n m _ (by omega) (by omega)]
theorem wds_nil {l : List UInt8} (h : skB l = []) : wds l = [] := by
  unfold wds
  cases hl : l.length with
  | zero => rfl
  | succ n => unfold wdN; rw [h]
theorem wds_cons {l t : List UInt8} {c : UInt8} (h : skB l = c :: t) : wds l = (wdS (c :: t)).1 :: wds (wdS (c :: t)).2 := by
  have hl := skB_le l
  rw [h, List.length_cons] at hl
  have hw := (wdS_le c t (skB_head h)).2
  unfold wds
  obtain ⟨n, hn⟩ : ∃ n, l.length = n + 1 := ⟨l.length - 1, by omega⟩
  rw [hn]
  conv => lhs; unfold wdN
  rw [h]
  dsimp only
  rw [wdN_eq n _ _ (by omega) (Nat.le_refl _)]
theorem wds_sk (l : List UInt8) : wds (skB l) = wds l := by
  cases h : skB l with
  | nil => rw [wds_nil h]; rfl
  | cons c t => rw [wds_cons h, wds_cons (by rw [← h, skB_idem, h])]
theorem wds_bl (c : UInt8) (t : List UInt8) (h : bl c = true) : wds (c :: t) = wds t := by rw [← wds_sk, skB_cons_bl h, wds_sk]
/-- All bytes of the words together. -/
def totL : List (List UInt8) → Nat
  | [] => 0
  | l :: r => l.length + totL r
theorem wdN_sum : ∀ (n : Nat) (l : List UInt8), totL (wdN n l) ≤ l.length ∧ (wdN n l).length ≤ l.length
  | 0, l => by simp [wdN, totL]
  | n + 1, l => by
    unfold wdN
    cases h : skB l with
    | nil => simp [totL]
    | cons c t =>
      have hl := skB_le l
      rw [h, List.length_cons] at hl
      have hw := wdS_le c t (skB_head h)
      have ih := wdN_sum n (wdS (c :: t)).2
      dsimp only
      simp only [totL, List.length_cons]
      omega
theorem wds_sum (l : List UInt8) : totL (wds l) ≤ l.length ∧ (wds l).length ≤ l.length := wdN_sum _ _
theorem mem_tot {x : List UInt8} : ∀ {ls : List (List UInt8)}, x ∈ ls → x.length ≤ totL ls
  | l :: r, h => by
    rw [totL]
    rcases List.mem_cons.1 h with rfl | h
    · omega
    · have := mem_tot h; omega
/-- Up to the first blank, and what is behind that. -/
def cutB : List UInt8 → List UInt8 × List UInt8
  | [] => ([], [])
  | c :: t => if bl c then ([], t) else (c :: (cutB t).1, (cutB t).2)
theorem cutB_at : ∀ (l : List UInt8) (k : Nat), (∀ j, j < k → ∀ c, l[j]? = some c → bl c = false) → (∃ c, l[k]? = some c ∧ bl c = true) → cutB l = (l.take k, l.drop (k + 1))
  | [], k, _, ⟨c, h, _⟩ => by simp at h
  | a :: t, 0, _, ⟨c, h, hb⟩ => by
    simp only [List.getElem?_cons_zero, Option.some.injEq] at h
    subst h
    unfold cutB; rw [if_pos hb]; rfl
  | a :: t, k + 1, h1, ⟨c, h, hb⟩ => by
    unfold cutB
    rw [if_neg (by rw [h1 0 (by omega) a rfl]; simp), cutB_at t k (fun j hj c hc => h1 (j + 1) (by omega) c (by simpa using hc)) ⟨c, by simpa using h, hb⟩]
    simp
theorem cutB_none : ∀ (l : List UInt8), (∀ c, c ∈ l → bl c = false) → cutB l = (l, [])
  | [], _ => rfl
  | a :: t, h => by
    unfold cutB
    rw [if_neg (by rw [h a (by simp)]; simp), cutB_none t (fun c hc => h c (by simp [hc]))]
theorem cutB_app (a : List UInt8) (h : ∀ c, c ∈ a → bl c = false) (X : List UInt8) (hX : X = [] ∨ ∃ t, X = 32 :: t) : cutB (a ++ X) = (a, X.drop 1) := by
  induction a with
  | nil =>
    rcases hX with rfl | ⟨t, rfl⟩
    · rfl
    · rfl
  | cons c t ih =>
    rw [List.cons_append]
    unfold cutB
    rw [if_neg (by rw [h c (by simp)]; simp), ih (fun x hx => h x (by simp [hx]))]
theorem wds_drop1 (X : List UInt8) (hX : X = [] ∨ ∃ t, X = 32 :: t) : wds (X.drop 1) = wds X := by
  rcases hX with rfl | ⟨t, rfl⟩
  · rfl
  · rw [List.drop_succ_cons, List.drop_zero]; exact (wds_bl 32 t rfl).symm
theorem cutB_le (l : List UInt8) : (cutB l).1.length + (cutB l).2.length ≤ l.length := by
  induction l with
  | nil => exact Nat.le_refl _
  | cons c t ih =>
    unfold cutB
    split
    · simp
    · simp only [List.length_cons]; omega
end Go.Proofs.YtnffmlfapccgkaaDoor
