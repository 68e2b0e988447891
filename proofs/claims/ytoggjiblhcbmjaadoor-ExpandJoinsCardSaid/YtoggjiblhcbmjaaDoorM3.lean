/- Lines that go on. -/
import Derived.Test.YtoggjiblhcbmjaaDoorM1
namespace Go.Proofs.YtoggjiblhcbmjaaDoor
/-- Does a text, read from its end, begin with an odd number of backslashes? -/
def oddR : List UInt8 → Bool
  | [] => false
  | c :: t => if c = 92 then !oddR t else false
def oddS (l : List UInt8) : Bool := oddR l.reverse
/-- How many backslashes a text, read from its end, begins with. -/
def twR (r : List UInt8) : Nat := (r.takeWhile (· == 92)).length
theorem twR_nil : twR [] = 0 := rfl
theorem twR_cons (c : UInt8) (t : List UInt8) : twR (c :: t) = if c = 92 then twR t + 1 else 0 := by
  unfold twR
  rw [List.takeWhile]
  by_cases h : c = 92
  · rw [if_pos h, show (c == 92) = true by simpa using h]; simp
  · rw [if_neg h, show (c == 92) = false by simpa using h]; rfl
theorem twR_le (r : List UInt8) : twR r ≤ r.length := by
  induction r with
  | nil => simp [twR_nil]
  | cons c t ih => rw [twR_cons]; split <;> simp <;> omega
theorem oddR_tw (r : List UInt8) : oddR r = (twR r % 2 == 1) := by
  induction r with
  | nil => rfl
  | cons c t ih =>
    rw [oddR, twR_cons]
    by_cases h : c = 92
    · rw [if_pos h, if_pos h, ih]
      have : twR t % 2 = 0 ∨ twR t % 2 = 1 := by omega
      rcases this with e | e
      · rw [e, show (twR t + 1) % 2 = 1 by omega]; rfl
      · rw [e, show (twR t + 1) % 2 = 0 by omega]; rfl
    · rw [if_neg h, if_neg h]; rfl
theorem oddR_app (a b : List UInt8) (h : oddR b = false) : oddR (a ++ b) = oddR a := by
  induction a with
  | nil => exact h
  | cons c t ih => rw [List.cons_append, oddR, oddR, ih]
theorem oddS_app (acc l : List UInt8) (h : oddS acc = false) : oddS (acc ++ l) = oddS l := by
  unfold oddS at *
  rw [List.reverse_append]
  exact oddR_app _ _ h
theorem odd_ne {l : List UInt8} (h : oddS l = true) : l ≠ [] := by
  rintro rfl; cases h
theorem odd_last {l : List UInt8} (h : oddS l = true) : oddS l.dropLast = false := by
  unfold oddS at *
  obtain ⟨r, hr⟩ : ∃ r, r = l.reverse := ⟨_, rfl⟩
  have hl : l.dropLast.reverse = r.tail := by rw [hr, List.tail_reverse]
  rw [hl]
  rw [← hr] at h
  cases r with
  | nil => cases h
  | cons c t =>
    rw [oddR] at h
    split at h
    · simpa using h
    · cases h
theorem drop_last_app (acc l : List UInt8) (h : l ≠ []) : (acc ++ l).dropLast = acc ++ l.dropLast := List.dropLast_append_of_ne_nil h
/-- Lines joined; acc is what has been put together so far. -/
def joinC : List (List UInt8) → List UInt8 → List (List UInt8)
  | [], _ => []
  | l :: r, acc => if r ≠ [] ∧ oddS l = true then joinC r (acc ++ l.dropLast) else (acc ++ l) :: joinC r []
theorem joinC_on (l : List UInt8) (r : List (List UInt8)) (acc : List UInt8) (h : r ≠ []) (ho : oddS l = true) : joinC (l :: r) acc = joinC r (acc ++ l.dropLast) := by
  rw [joinC, if_pos ⟨h, ho⟩]
theorem joinC_end (l : List UInt8) (r : List (List UInt8)) (acc : List UInt8) (h : r = [] ∨ oddS l = false) : joinC (l :: r) acc = (acc ++ l) :: joinC r [] := by
  rw [joinC, if_neg]
  rintro ⟨h1, h2⟩
  rcases h with h | h
  · exact h1 h
  · rw [h] at h2; cases h2
theorem trim_len (l : List UInt8) : l.length = twR l.reverse + (l.reverse.dropWhile (· == 92)).length := by
  have := List.takeWhile_append_dropWhile (p := (· == (92 : UInt8))) (l := l.reverse)
  have h := congrArg List.length this
  rw [List.length_append, List.length_reverse] at h
  unfold twR
  omega
end Go.Proofs.YtoggjiblhcbmjaaDoor
