/- The plain mathematics of layer 2's texts: decimal numerals, roman numerals, letters, formats. -/
import Derived.WalkKit
import Derived.Below
import Derived.Lib.Hide
namespace Go.Proofs.YtedbdpklliaoaaaGreatDoor
open Go.RowKit
def dgB (d : Nat) : UInt8 := UInt8.ofNat (48 + d)
def decAll (n : Nat) : Nat → List UInt8
  | 0 => []
  | f + 1 => if n < 10 then [dgB n] else decAll (n / 10) f ++ [dgB (n % 10)]
/-- A numeral. -/
def dec (n : Nat) : List UInt8 := decAll n (n + 1)
theorem decAll_more (n f g : Nat) (hf : n < f) (hg : n < g) : decAll n f = decAll n g := by
  induction f generalizing n g with
  | zero => omega
  | succ f ih =>
    cases g with
    | zero => omega
    | succ g =>
      simp only [decAll]
      split
      · rfl
      · rw [ih (n / 10) g (by omega) (by omega)]
theorem dec_small (n : Nat) (h : n < 10) : dec n = [dgB n] := by simp [dec, decAll, h]
theorem dec_big (n : Nat) (h : ¬ n < 10) : dec n = dec (n / 10) ++ [dgB (n % 10)] := by
  unfold dec
  rw [decAll, if_neg h, decAll_more (n / 10) n (n / 10 + 1) (by omega) (by omega)]
theorem dec_len (k n : Nat) (hk : 0 < k) (h : n < 10 ^ k) : (dec n).length ≤ k := by
  induction k generalizing n with
  | zero => omega
  | succ k ih =>
    by_cases h10 : n < 10
    · rw [dec_small n h10]; simp
    · rw [dec_big n h10]
      have hk0 : 0 < k := by cases k with | zero => simp at h; omega | succ k => omega
      have := ih (n / 10) hk0 (by rw [Nat.pow_succ] at h; omega)
      simp; omega
theorem dec_pos (n : Nat) : 1 ≤ (dec n).length := by
  by_cases h10 : n < 10
  · rw [dec_small n h10]; simp
  · rw [dec_big n h10]; simp
/- Letters. -/
def letAll : Nat → Nat → List UInt8
  | 0, _ => []
  | f + 1, n => if n = 0 then [] else letAll f ((n - 1) / 26) ++ [UInt8.ofNat (97 + (n - 1) % 26)]
/-- The letters of a number from 1 on. -/
def lets (n : Nat) : List UInt8 := letAll (n + 1) n
theorem letAll_more (n f g : Nat) (hf : n < f) (hg : n < g) : letAll f n = letAll g n := by
  induction f generalizing n g with
  | zero => omega
  | succ f ih =>
    cases g with
    | zero => omega
    | succ g =>
      simp only [letAll]
      split
      · rfl
      · rw [ih ((n - 1) / 26) g (by omega) (by omega)]
theorem lets_zero : lets 0 = [] := by simp [lets, letAll]
theorem lets_pos (n : Nat) (h : 0 < n) : lets n = lets ((n - 1) / 26) ++ [UInt8.ofNat (97 + (n - 1) % 26)] := by
  unfold lets
  rw [letAll, if_neg (by omega), letAll_more ((n - 1) / 26) n ((n - 1) / 26 + 1) (by omega) (by omega)]
theorem lets_len (k n : Nat) (h : n < 26 ^ k) : (lets n).length ≤ k := by
  induction k generalizing n with
  | zero => simp at h; subst h; simp [lets_zero]
  | succ k ih =>
    by_cases h0 : n = 0
    · subst h0; simp [lets_zero]
    · rw [lets_pos n (by omega)]
      have := ih ((n - 1) / 26) (by rw [Nat.pow_succ] at h; omega)
      simp; omega
theorem lets_range (n : Nat) : ∀ c ∈ lets n, 97 ≤ c.toNat ∧ c.toNat ≤ 122 := by
  induction n using Nat.strongRecOn with
  | _ n ih =>
    by_cases h0 : n = 0
    · subst h0; simp [lets_zero]
    · rw [lets_pos n (by omega)]
      intro c hc
      rcases List.mem_append.1 hc with hc | hc
      · exact ih _ (by omega) c hc
      · obtain rfl : c = _ := List.mem_singleton.1 hc
        rw [UInt8.toNat_ofNat']; omega
/- Roman. -/
def nums : List (Nat × List UInt8) := [(1000, [109]), (900, [99, 109]), (500, [100]), (400, [99, 100]), (100, [99]), (90, [120, 99]), (50, [108]), (40, [120, 108]), (10, [120]), (9, [105, 120]), (5, [118]), (4, [105, 118]), (1, [105])]
def rept (t : List UInt8) : Nat → List UInt8
  | 0 => []
  | k + 1 => t ++ rept t k
/-- What stands of n by the numerals of a list, the greater ones ahead. -/
def greedy : List (Nat × List UInt8) → Nat → List UInt8
  | [], _ => []
  | (v, t) :: r, n => rept t (n / v) ++ greedy r (n % v)
def rom (n : Nat) : List UInt8 := greedy nums n
theorem rept_len (t : List UInt8) (k : Nat) : (rept t k).length = t.length * k := by
  induction k with
  | zero => simp [rept]
  | succ k ih => rw [rept, List.length_append, ih, Nat.mul_succ]; omega
theorem rept_snoc (t : List UInt8) (k : Nat) : rept t k ++ t = t ++ rept t k := by
  induction k with
  | zero => simp [rept]
  | succ k ih => rw [rept, List.append_assoc, ih]
/-- Below a thousand. -/
def romL (n : Nat) : List UInt8 := greedy nums.tail n
theorem rom_eq (n : Nat) : rom n = rept [109] (n / 1000) ++ romL (n % 1000) := rfl
theorem romL_small : ∀ n, n < 1000 → (romL n).length ≤ 12 ∧ (romL n).all (fun c => decide (97 ≤ c.toNat ∧ c.toNat ≤ 122)) = true ∧ (0 < n → (romL n).head? ≠ some 109) ∧ (0 < n → romL n ≠ []) := by
  have h : (List.range 1000).all (fun n => decide ((romL n).length ≤ 12) && (romL n).all (fun c => decide (97 ≤ c.toNat ∧ c.toNat ≤ 122)) && ((romL n).head? != some 109) && (n == 0 || !(romL n).isEmpty)) = true := by decide +kernel
  intro n hn
  have := List.all_eq_true.1 h n (by simpa using hn)
  simp only [Bool.and_eq_true, decide_eq_true_eq, bne_iff_ne, ne_eq, Bool.or_eq_true, beq_iff_eq, Bool.not_eq_true', List.isEmpty_eq_false_iff] at this
  obtain ⟨⟨⟨h1, h2⟩, h3⟩, h4⟩ := this
  exact ⟨h1, h2, fun _ => h3, fun hp => by rcases h4 with h4 | h4; omega; exact h4⟩
theorem rom_len (n : Nat) (h : n ≤ 39999) : (rom n).length ≤ 51 := by
  rw [rom_eq, List.length_append, rept_len]
  have := (romL_small (n % 1000) (by omega)).1
  simp; omega
theorem rept_range (k : Nat) : ∀ c ∈ rept [109] k, c = 109 := by
  induction k with
  | zero => simp [rept]
  | succ k ih => simp only [rept, List.mem_append, List.mem_singleton]; rintro c (h | h); exact h; exact ih c h
theorem rom_range (n : Nat) : ∀ c ∈ rom n, 97 ≤ c.toNat ∧ c.toNat ≤ 122 := by
  rw [rom_eq]
  intro c hc
  rcases List.mem_append.1 hc with hc | hc
  · rw [rept_range _ c hc]; decide
  · have := List.all_eq_true.1 (romL_small (n % 1000) (by omega)).2.1 c hc
    simpa using this
theorem rom_ne (n : Nat) (h : 0 < n) : rom n ≠ [] := by
  rw [rom_eq]
  intro hc
  obtain ⟨h1, h2⟩ := List.append_eq_nil_iff.1 hc
  have : n / 1000 = 0 := by
    cases e : n / 1000 with
    | zero => rfl
    | succ k => rw [e] at h1; simp [rept] at h1
  exact (romL_small (n % 1000) (by omega)).2.2.2 (by omega) h2
/- Small and great. -/
def upB (c : UInt8) : UInt8 := if 97 ≤ c.toNat ∧ c.toNat ≤ 122 then c - 32 else c
def loB (c : UInt8) : UInt8 := if 65 ≤ c.toNat ∧ c.toNat ≤ 90 then c + 32 else c
theorem lo_up (c : UInt8) (h : 97 ≤ c.toNat ∧ c.toNat ≤ 122) : loB (upB c) = c := by
  unfold upB loB
  rw [if_pos h]
  have e : (c - 32).toNat = c.toNat - 32 := by rw [UInt8.toNat_sub_of_le _ _ (by rw [UInt8.le_iff_toNat_le]; simp; omega)]; simp
  rw [if_pos (by rw [e]; omega)]
  simp
theorem lo_lo (c : UInt8) (h : 97 ≤ c.toNat ∧ c.toNat ≤ 122) : loB c = c := by unfold loB; rw [if_neg (by omega)]
theorem map_lo_up (l : List UInt8) (h : ∀ c ∈ l, 97 ≤ c.toNat ∧ c.toNat ≤ 122) : (l.map upB).map loB = l := by
  rw [List.map_map]
  conv => rhs; rw [← List.map_id l]
  exact List.map_congr_left fun c hc => lo_up c (h c hc)
theorem map_lo (l : List UInt8) (h : ∀ c ∈ l, 97 ≤ c.toNat ∧ c.toNat ≤ 122) : l.map loB = l := by
  conv => rhs; rw [← List.map_id l]
  exact List.map_congr_left fun c hc => lo_lo c (h c hc)
/- Formats. -/
def isDg (c : UInt8) : Bool := decide (48 ≤ c.toNat ∧ c.toNat ≤ 57)
def isForm (l : List UInt8) : Bool := l == [105] || l == [73] || l == [97] || l == [65] || (decide (1 ≤ l.length) && decide (l.length ≤ 9) && l.all isDg)
def okN (n : Int) : Bool := decide (-1000000000 ≤ n) && decide (n ≤ 1000000000)
/-- The text of a number from 0 on by a format. -/
def txtN (n : Nat) (l : List UInt8) : List UInt8 :=
  if l = [105] then (if n = 0 ∨ 39999 < n then dec n else rom n)
  else if l = [73] then (if n = 0 ∨ 39999 < n then dec n else (rom n).map upB)
  else if l = [97] then (if n = 0 then [48] else lets n)
  else if l = [65] then (if n = 0 then [48] else (lets n).map upB)
  else List.replicate (l.length - (dec n).length) 48 ++ dec n
def txt (n : Int) (l : List UInt8) : List UInt8 := if n < 0 then 45 :: txtN n.natAbs l else txtN n.natAbs l
def eForm (l : List UInt8) : Int := if isForm l then 0 else 4
def eRange (n : Int) : Int := if okN n then 0 else 5
def writeS (n : Int) (l : List UInt8) : List UInt8 × Int := if isForm l = false then ([], 4) else if okN n = false then ([], 5) else (txt n l, 0)
theorem dec_digit (n : Nat) : ∀ c ∈ dec n, 48 ≤ c.toNat ∧ c.toNat ≤ 57 := by
  induction n using Nat.strongRecOn with
  | _ n ih =>
    by_cases h : n < 10
    · rw [dec_small n h]; intro c hc; obtain rfl := List.mem_singleton.1 hc; unfold dgB; rw [UInt8.toNat_ofNat']; omega
    · rw [dec_big n h]
      intro c hc
      rcases List.mem_append.1 hc with hc | hc
      · exact ih _ (by omega) c hc
      · obtain rfl := List.mem_singleton.1 hc; unfold dgB; rw [UInt8.toNat_ofNat']; omega
theorem map_up_dec (n : Nat) : (dec n).map upB = dec n := by
  conv => rhs; rw [← List.map_id (dec n)]
  refine List.map_congr_left fun c hc => ?_
  have := dec_digit n c hc
  unfold upB; rw [if_neg (by omega)]; rfl
end Go.Proofs.YtedbdpklliaoaaaGreatDoor
