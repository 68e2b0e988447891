/- Contracts: the code's letters, the ranges, the specification's formats and great letters. -/
import Derived.Test.YtedbdpklliaoaaaGreatDoorW1
namespace Go.Proofs.YtedbdpklliaoaaaGreatDoor
open Go.RowKit
set_option maxRecDepth 100000
theorem enc_let (r : Nat) (h : r < 26) : Utf8.encode (97 + (r : Int)) = ⟨#[ltB r]⟩ := by
  have : ∀ r : Nat, r < 26 → Utf8.encode (97 + (r : Int)) = ⟨#[ltB r]⟩ := by decide +kernel
  exact this r h
theorem enc_let' (x : Int) : Utf8.encode (97 + x % 26) = ⟨#[ltB (x % 26).toNat]⟩ := by
  have h0 := Int.emod_nonneg x (show (26 : Int) ≠ 0 by decide)
  have h1 := Int.emod_lt_of_pos x (show (0 : Int) < 26 by decide)
  rw [← enc_let _ (show (x % 26).toNat < 26 by omega), Int.toNat_of_nonneg h0]
def LcR (N : Nat) (w : World) (k : Nat) (n s : Value) (wr : World) : Prop :=
  ∃ m l, k = m ∧ m ≤ N ∧ n = .int .i64 m ∧ s = .string ⟨l.toArray⟩ ∧ lets N = lets m ++ l ∧ w = wr
theorem letters_any (N : Nat) (hN : N ≤ 9223372036854775807) (w : World) : Calls Tryz.prog 61 #[.int .i64 N] w fun e w' => e = .returned (.string ⟨(if N = 0 then [48] else lets N).toArray⟩) ∧ w = w' := by
  by_cases hN0 : N = 0
  · subst hN0
    go_enter Tryz.func61, Tryz.ntmps61
    go_wp2_with fail
    go_ret
    exact ⟨rfl, rfl⟩
  have hNi : ((N : Int) == 0) = false := by simpa using hN0
  have HN0 := Lib.hid hN0
  clear hN0
  have hcv := enc_let'
  go_enter Tryz.func61, Tryz.ntmps61
  go_wp2_with fail
  go_loopg [0, 3] N (fun k n s wr => LcR N w k n s wr)
  case atStart => exact ⟨N, [], rfl, Nat.le_refl _, rfl, rfl, (List.append_nil _).symm, rfl⟩
  case round =>
    obtain ⟨m, l, rfl, hmN, rfl, rfl, hd, hb⟩ := hrel
    have hgN : (gk : Int) ≤ 9223372036854775807 := by omega
    have HD := Lib.hid hd
    have HB := Lib.hid hb
    have hln : l.length ≤ 14 := by
      have h1 := lets_len 14 N (by omega)
      rw [hd] at h1; simp at h1; omega
    clear hd hb
    by_cases h0 : gk = 0
    · subst h0
      go_wp2_with fail
      go_ret
      have hd := HD.out
      rw [lets_zero, List.nil_append] at hd
      exact ⟨by rw [hd]; rfl, HB.out⟩
    · obtain ⟨q, rfl⟩ : ∃ q, gk = q + 1 := ⟨gk - 1, by omega⟩
      have hgt : (0 : Int) < ((q + 1 : Nat) : Int) := by omega
      go_wp2_with fail
      go_roundg (q / 26)
      case measure => omega
      case rel =>
        refine ⟨q / 26, ltB (q % 26) :: l, rfl, by omega, by go_num, congrArg Value.string (bytes_cons _ _), ?_, HB.out⟩
        rw [HD.out, lets_pos (q + 1) (by omega)]; simp [ltB]
/- Ranges. -/
theorem rangeError_any (n : Int) (w : World) : Calls Tryz.prog 39 #[.int .i64 n] w fun e w' => e = .returned (.int .i64 (eRange n)) ∧ w = w' := by
  unfold eRange okN
  by_cases h1 : -1000000000 ≤ n
  · by_cases h2 : n ≤ 1000000000
    · have e1 : decide (n < -1000000000) = false := decide_eq_false (by omega)
      have e2 : decide (1000000000 < n) = false := decide_eq_false (by omega)
      rw [decide_eq_true h1, decide_eq_true h2]
      clear h1 h2
      go_enter Tryz.func39, Tryz.ntmps39
      go_wp2_with fail
      go_ret
      exact ⟨rfl, rfl⟩
    · have e1 : decide (n < -1000000000) = false := decide_eq_false (by omega)
      have e2 : decide (1000000000 < n) = true := decide_eq_true (by omega)
      rw [decide_eq_true h1, decide_eq_false h2]
      clear h1 h2
      go_enter Tryz.func39, Tryz.ntmps39
      go_wp2_with fail
      go_ret
      exact ⟨rfl, rfl⟩
  · have e1 : decide (n < -1000000000) = true := decide_eq_true (by omega)
    rw [decide_eq_false h1]
    clear h1
    go_enter Tryz.func39, Tryz.ntmps39
    go_wp2_with fail
    go_ret
    exact ⟨rfl, rfl⟩
theorem rfits_any (n : Int) (w : World) : Calls Tryz.prog 49 #[.int .i64 n] w fun e w' => e = .returned (.bool (okN n)) ∧ w = w' := by
  unfold okN
  by_cases h1 : -1000000000 ≤ n
  · have e1 : decide (-1000000000 ≤ n) = true := decide_eq_true h1
    rw [e1]
    go_enter Tryz.func49, Tryz.ntmps49
    go_wp2_with fail
    go_ret
    exact ⟨rfl, rfl⟩
  · have e1 : decide (-1000000000 ≤ n) = false := decide_eq_false h1
    rw [e1]
    clear h1
    go_enter Tryz.func49, Tryz.ntmps49
    go_wp2_with fail
    go_ret
    exact ⟨rfl, rfl⟩
end Go.Proofs.YtedbdpklliaoaaaGreatDoor
