/- A text expanded. -/
import Derived.Test.YtoggjiblhcbmjaaDoorW8
namespace Go.Proofs.YtoggjiblhcbmjaaDoor
open Go.RowKit Go.Shelf
set_option maxRecDepth 100000
abbrev XP (xb : Nat) : Value := .pointer (some ⟨xb, 0, none⟩)
/-- Somebody who is asked, and always answers A: St n w, he was asked n times. -/
structure Env (cp : Bool) (A : List UInt8) (xb B : Nat) (St : Nat → World → Prop) : Prop where
  a1 : A.length ≤ 1
  xlt : ∀ {n w}, St n w → xb < w.heap.size
  blt : ∀ {n w}, St n w → B ≤ w.heap.size
  cpy : ∀ {n w}, St n w → w.cell? ⟨xb, 0, none⟩ = some (.bool cp)
  keep : ∀ {n w w'}, St n w → Sk w w' → St n w'
  ask : ∀ {n w} (k : UInt8) (nm : List UInt8) (st : Int) (oth : Nat), St n w → n < 500 → A.length + oth ≤ 8000 → Calls Tryd.prog 48 #[XP xb, .int .u8 (k.toNat : Int), .string (bs nm), .int .i64 st, .int .i64 (oth : Int)] w (fun e w' => e = .returned (.string (bs A)) ∧ St (n + 1) w' ∧ Fr B w w')
/-- The expansion with fuel enough. -/
def exF (cp : Bool) (A l : List UInt8) : List UInt8 × Nat := exS cp A l.length l
theorem exS_more (cp : Bool) (A : List UInt8) (hA : A.length ≤ 1) (f : Nat) (l : List UInt8) (h : l.length ≤ f) : exS cp A f l = exF cp A l := by
  obtain ⟨d, rfl⟩ : ∃ d, f = l.length + d := ⟨f - l.length, by omega⟩
  clear h
  unfold exF
  induction d with
  | zero => rfl
  | succ d ih => rw [← ih]; exact exS_fuel cp A hA (l.length + d) l (by omega)
theorem exF_le (cp : Bool) (A : List UInt8) (hA : A.length ≤ 1) (l : List UInt8) : (exF cp A l).1.length ≤ l.length ∧ 2 * (exF cp A l).2 ≤ l.length := exS_le cp A hA _ l
/-- One step, a case each. -/
structure ExStep (cp : Bool) (A l : List UInt8) (p : Pc) (n : Nat) : Prop where
  onq : p.kd = 34 → exF cp A l = ([], 0)
  onn : p.kd = 110 → exF cp A l = (A ++ (exF cp A (l.drop n)).1, (exF cp A (l.drop n)).2 + 1)
  ons : p.kd = 42 ∨ p.kd = 36 → exF cp A l = ((exF cp A (A ++ l.drop n)).1, (exF cp A (A ++ l.drop n)).2 + 1)
  onw : p.kd = 119 → cp = false → exF cp A l = (A ++ (exF cp A (l.drop n)).1, (exF cp A p.nm).2 + 1 + (exF cp A (l.drop n)).2)
  onv : p.kd = 119 → cp = true → exF cp A l = (92 :: 119 :: (exF cp A (l.drop 2)).1, (exF cp A (l.drop 2)).2)
  onb : p.kd = 92 ∨ p.kd = 46 → cp = true → exF cp A l = (p.kd :: (exF cp A (l.drop n)).1, (exF cp A (l.drop n)).2)
  ono : p.kd ≠ 34 → p.kd ≠ 110 → p.kd ≠ 42 → p.kd ≠ 36 → p.kd ≠ 119 → (cp = true → p.kd ≠ 92 ∧ p.kd ≠ 46) → exF cp A l = (p.tx ++ (exF cp A (l.drop n)).1, (exF cp A (l.drop n)).2)
theorem exF_step (cp : Bool) (A : List UInt8) (hA : A.length ≤ 1) (l : List UInt8) (h : l ≠ []) : ExStep cp A l (cutS l).1 (cutS l).2 := by
  obtain ⟨f, hf⟩ : ∃ f, l.length = f + 1 := by cases l with | nil => exact absurd rfl h | cons a t => exact ⟨_, rfl⟩
  have ok := cutS_ok l h
  have h1 := ok.n1
  have hnl := ok.nl
  have e : exF cp A l = exStep cp A (exS cp A f) l := by
    show exS cp A l.length l = _
    rw [hf, exS_succ]
  have e1 : exS cp A f (l.drop (cutS l).2) = exF cp A (l.drop (cutS l).2) := exS_more cp A hA f _ (by rw [List.length_drop]; omega)
  unfold exStep at e
  rw [if_neg h, e1] at e
  constructor <;> rw [e]
  · intro k; rw [if_pos k]
  · intro k
    rw [if_neg (by rw [k]; decide), if_pos k]
  · intro k
    have := ok.nd (.inr k)
    rw [if_neg (by rcases k with k | k <;> rw [k] <;> decide), if_neg (by rcases k with k | k <;> rw [k] <;> decide), if_pos k, exS_more cp A hA f (A ++ _) (by rw [List.length_append, List.length_drop]; omega)]
  · intro k c
    have := ok.wd k
    rw [if_neg (by rw [k]; decide), if_neg (by rw [k]; decide), if_neg (by rw [k]; decide), if_pos ⟨k, c⟩, exS_more cp A hA f (cutS l).1.nm (by omega)]
  · intro k c
    have := ok.wd k
    rw [if_neg (by rw [k]; decide), if_neg (by rw [k]; decide), if_neg (by rw [k]; decide), if_neg (by rw [c]; simp), if_pos k, exS_more cp A hA f (l.drop 2) (by rw [List.length_drop]; omega)]
  · intro k c
    have z : ∀ d : UInt8, d ≠ 92 → d ≠ 46 → (cutS l).1.kd ≠ d := fun d h1 h2 e => by rcases k with k | k <;> rw [k] at e <;> subst e <;> first | exact h1 rfl | exact h2 rfl
    rw [if_neg (z 34 (by decide) (by decide)), if_neg (z 110 (by decide) (by decide)), if_neg (fun e => e.elim (z 42 (by decide) (by decide)) (z 36 (by decide) (by decide))), if_neg (fun e => z 119 (by decide) (by decide) e.1), if_neg (z 119 (by decide) (by decide)), if_pos ⟨c, k⟩]
  · intro k1 k2 k3 k4 k5 k6
    rw [if_neg k1, if_neg k2, if_neg (fun e => e.elim k3 k4), if_neg (fun e => k5 e.1), if_neg k5, if_neg (fun e => e.2.elim (k6 e.1).1 (k6 e.1).2)]
/-- At the head of the loop. -/
def TxR (cp : Bool) (A : List UInt8) (B : Nat) (St : Nat → World → Prop) (l : List UInt8) (w : World) (n0 k : Nat) (s : Value) (wr : World) : Prop :=
  ∃ (t acc : List UInt8) (m : Nat), k = t.length ∧ s = .string (bs t) ∧ (exF cp A l).1 = acc ++ (exF cp A t).1 ∧ (exF cp A l).2 = m + (exF cp A t).2 ∧ 2 * m + t.length ≤ l.length ∧ acc.length + t.length ≤ l.length ∧
    Bu w.heap.size w.heap.size acc wr ∧ St (n0 + m) wr ∧ Fr B w wr ∧ w.heap.size ≤ wr.heap.size
/-- What a text comes to. -/
def TxP (cp : Bool) (A : List UInt8) (B : Nat) (St : Nat → World → Prop) (l : List UInt8) (w : World) (n : Nat) (e : Ending) (w' : World) : Prop := e = .returned (.string (bs (exF cp A l).1)) ∧ St (n + (exF cp A l).2) w' ∧ Fr B w w'
end Go.Proofs.YtoggjiblhcbmjaaDoor
