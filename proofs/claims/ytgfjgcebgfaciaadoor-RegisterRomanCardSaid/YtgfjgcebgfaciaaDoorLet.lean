/- Letters, one behind the other. -/
import Derived.Test.YtgfjgcebgfaciaaDoorNum
import Derived.Laws.Strings
namespace Go.Proofs.YtgfjgcebgfaciaaDoor
open Go.RowKit
theorem bl_asymm : ∀ a b : List UInt8, Op.bytesLess a b = true → Op.bytesLess b a = false ∧ (b == a) = false
  | [], [], h => by simp [Op.bytesLess] at h
  | [], _ :: _, _ => ⟨rfl, rfl⟩
  | _ :: _, [], h => by simp [Op.bytesLess] at h
  | a :: x, b :: y, h => by
    simp only [Op.bytesLess, Bool.or_eq_true, decide_eq_true_eq, Bool.and_eq_true, beq_iff_eq] at h
    rcases h with h | ⟨rfl, h⟩
    · have h1 : ¬ b < a := by rw [UInt8.lt_iff_toNat_lt] at h ⊢; omega
      have h2 : b ≠ a := by rintro rfl; rw [UInt8.lt_iff_toNat_lt] at h; omega
      simp [Op.bytesLess, h1, h2]
    · have h1 : ¬ a < a := by rw [UInt8.lt_iff_toNat_lt]; omega
      have ih := bl_asymm x y h
      have e : y ≠ x := by simpa using ih.2
      simp [Op.bytesLess, h1, ih.1, e]
theorem bl_snoc (p : List UInt8) (x y : UInt8) (h : x < y) : Op.bytesLess (p ++ [x]) (p ++ [y]) = true := by
  induction p with
  | nil => simp [Op.bytesLess, h]
  | cons a p ih => simp [Op.bytesLess, ih]
theorem bl_app : ∀ a b c d : List UInt8, a.length = b.length → Op.bytesLess a b = true → Op.bytesLess (a ++ c) (b ++ d) = true
  | [], [], _, _, _, h => by simp [Op.bytesLess] at h
  | [], _ :: _, _, _, hl, _ => by simp at hl
  | _ :: _, [], _, _, hl, _ => by simp at hl
  | a :: x, b :: y, c, d, hl, h => by
    simp only [Op.bytesLess, Bool.or_eq_true, decide_eq_true_eq, Bool.and_eq_true, beq_iff_eq] at h
    simp only [List.cons_append, Op.bytesLess, Bool.or_eq_true, decide_eq_true_eq, Bool.and_eq_true, beq_iff_eq]
    rcases h with h | ⟨rfl, h⟩
    · exact .inl h
    · exact .inr ⟨rfl, bl_app x y c d (by simpa using hl) h⟩
theorem lets_next (n : Nat) (h : 1 ≤ n) : (lets n).length < (lets (n + 1)).length ∨ ((lets n).length = (lets (n + 1)).length ∧ Op.bytesLess (lets n) (lets (n + 1)) = true) := by
  induction n using Nat.strongRecOn with
  | _ n ih =>
    rw [lets_pos n (by omega), lets_pos (n + 1) (by omega)]
    by_cases hr : (n - 1) % 26 = 25
    · rw [show n + 1 - 1 = n by omega, show n / 26 = (n - 1) / 26 + 1 by omega]
      by_cases hq : (n - 1) / 26 = 0
      · left; rw [hq, lets_zero, lets_pos 1 (by omega)]; simp
      · rcases ih ((n - 1) / 26) (by omega) (by omega) with h1 | ⟨h1, h2⟩
        · left; simp; omega
        · right; exact ⟨by simp; omega, bl_app _ _ _ _ h1 h2⟩
    · right
      rw [show n + 1 - 1 = n by omega, show n / 26 = (n - 1) / 26 by omega]
      refine ⟨by simp, bl_snoc _ _ _ ?_⟩
      rw [UInt8.lt_iff_toNat_lt, UInt8.toNat_ofNat', UInt8.toNat_ofNat']; omega
end Go.Proofs.YtgfjgcebgfaciaaDoor
