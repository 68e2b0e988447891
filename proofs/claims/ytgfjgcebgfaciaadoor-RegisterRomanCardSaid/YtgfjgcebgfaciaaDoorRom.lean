/- Reading roman numbers: plain mathematics. -/
import Derived.Test.YtgfjgcebgfaciaaDoorW4
namespace Go.Proofs.YtgfjgcebgfaciaaDoor
open Go.RowKit
def rvF : Nat → List (Nat × List UInt8) → List UInt8 → Nat
  | 0, _, _ => 0
  | _ + 1, [], _ => 0
  | f + 1, (v, t) :: r, l => if t.isPrefixOf l then v + rvF f ((v, t) :: r) (l.drop t.length) else rvF f r l
/-- The sum of the numerals from the greatest down, as far as a text has them so. -/
def rv (ns : List (Nat × List UInt8)) (l : List UInt8) : Nat := rvF (ns.length + l.length + 1) ns l
theorem pre_len (t l : List UInt8) (h : t.isPrefixOf l = true) : t.length ≤ l.length := by
  obtain ⟨s, rfl⟩ := List.isPrefixOf_iff_prefix.1 h; simp
theorem rvF_more (f g : Nat) (ns : List (Nat × List UInt8)) (l : List UInt8) (hn : ∀ x ∈ ns, x.2 ≠ []) (hf : ns.length + l.length < f) (hg : ns.length + l.length < g) : rvF f ns l = rvF g ns l := by
  induction f generalizing g ns l with
  | zero => omega
  | succ f ih =>
    cases g with
    | zero => omega
    | succ g =>
      cases ns with
      | nil => rfl
      | cons x r =>
        obtain ⟨v, t⟩ := x
        simp only [rvF]
        split
        · rename_i h
          have h1 := pre_len t l h
          have h2 : 0 < t.length := List.length_pos_iff.2 (hn (v, t) (by simp))
          rw [ih g ((v, t) :: r) (l.drop t.length) hn (by simp at hf ⊢; omega) (by simp at hg ⊢; omega)]
        · exact ih g r l (fun x hx => hn x (by simp [hx])) (by simp at hf; omega) (by simp at hg; omega)
theorem rv_step (v : Nat) (t : List UInt8) (r : List (Nat × List UInt8)) (l : List UInt8) (hn : ∀ x ∈ (v, t) :: r, x.2 ≠ []) (h : t.isPrefixOf l = true) : rv ((v, t) :: r) l = v + rv ((v, t) :: r) (l.drop t.length) := by
  have h1 := pre_len t l h
  have h2 : 0 < t.length := List.length_pos_iff.2 (hn (v, t) (by simp))
  unfold rv
  rw [rvF, if_pos h, rvF_more _ (((v, t) :: r).length + (l.drop t.length).length + 1) _ _ hn (by simp; omega) (by simp)]
theorem rv_end (v : Nat) (t : List UInt8) (r : List (Nat × List UInt8)) (l : List UInt8) (hn : ∀ x ∈ r, x.2 ≠ []) (h : t.isPrefixOf l = false) : rv ((v, t) :: r) l = rv r l := by
  unfold rv
  rw [rvF, if_neg (by simp [h]), rvF_more _ (r.length + l.length + 1) _ _ hn (by simp) (by simp)]
theorem nums_ne : ∀ x ∈ nums, x.2 ≠ [] := by decide
theorem nums_ne' (k : Nat) : ∀ x ∈ nums.drop k, x.2 ≠ [] := fun x hx => nums_ne x (List.mem_of_mem_drop hx)
theorem rv_le (f : Nat) (ns : List (Nat × List UInt8)) (l : List UInt8) (hn : ∀ x ∈ ns, x.2 ≠ [] ∧ x.1 ≤ 1000) : rvF f ns l ≤ 1000 * l.length := by
  induction f generalizing ns l with
  | zero => simp [rvF]
  | succ f ih =>
    cases ns with
    | nil => simp [rvF]
    | cons x r =>
      obtain ⟨v, t⟩ := x
      simp only [rvF]
      have hx := hn (v, t) (by simp)
      split
      · rename_i h
        have h1 := pre_len t l h
        have h2 : 0 < t.length := List.length_pos_iff.2 hx.1
        have h3 := ih ((v, t) :: r) (l.drop t.length) hn
        rw [List.length_drop] at h3
        have h4 : v ≤ 1000 := hx.2
        omega
      · exact ih r l (fun x hx => hn x (by simp [hx]))
theorem nums_ok : ∀ x ∈ nums, x.2 ≠ [] ∧ x.1 ≤ 1000 := by decide
theorem rv_bd (k : Nat) (l : List UInt8) : rv (nums.drop k) l ≤ 1000 * l.length := rv_le _ _ _ fun x hx => nums_ok x (List.mem_of_mem_drop hx)
theorem rv_romL : ∀ n, n < 1000 → rv nums (romL n) = n := by
  have h : (List.range 1000).all (fun n => rv nums (romL n) == n) = true := by decide +kernel
  intro n hn
  have := List.all_eq_true.1 h n (by simpa using hn)
  simpa using this
theorem rv_m (k : Nat) (l : List UInt8) : rv nums (rept [109] k ++ l) = 1000 * k + rv nums l := by
  induction k with
  | zero => simp [rept]
  | succ k ih =>
    have e : rept [109] (k + 1) ++ l = 109 :: (rept [109] k ++ l) := rfl
    have h := rv_step 1000 [109] nums.tail (109 :: (rept [109] k ++ l)) nums_ne (by simp [List.isPrefixOf])
    rw [e]
    rw [show (nums : List (Nat × List UInt8)) = (1000, [109]) :: nums.tail from rfl] at ih ⊢
    rw [h]
    show 1000 + rv ((1000, [109]) :: nums.tail) (rept [109] k ++ l) = _
    rw [ih]; omega
theorem rv_rom (n : Nat) : rv nums (rom n) = n := by
  rw [rom_eq, rv_m, rv_romL _ (by omega)]; omega
/-- What a roman text is read as. -/
def romanS (l : List UInt8) : Int × Int :=
  if 1 ≤ rv nums (l.map loB) ∧ rv nums (l.map loB) ≤ 39999 ∧ (l = rom (rv nums (l.map loB)) ∨ l = (rom (rv nums (l.map loB))).map upB) then (rv nums (l.map loB), 0) else (0, 4)
theorem low_of (l : List UInt8) (n : Nat) (h : l = rom n ∨ l = (rom n).map upB) : l.map loB = rom n := by
  rcases h with rfl | rfl
  · exact map_lo _ (rom_range n)
  · exact map_lo_up _ (rom_range n)
theorem romanS_of (l : List UInt8) (n : Nat) (h1 : 1 ≤ n) (h2 : n ≤ 39999) (h : l = rom n ∨ l = (rom n).map upB) : romanS l = ((n : Int), 0) := by
  unfold romanS
  rw [low_of l n h, rv_rom, if_pos ⟨h1, h2, h⟩]
theorem romanS_not (l : List UInt8) (h : ∀ n, 1 ≤ n → n ≤ 39999 → ¬ (l = rom n ∨ l = (rom n).map upB)) : romanS l = (0, 4) := by
  unfold romanS
  rw [if_neg fun hh => h _ hh.1 hh.2.1 hh.2.2]
end Go.Proofs.YtgfjgcebgfaciaaDoor
