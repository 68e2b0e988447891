/- Contracts: the fixed example, decimal numerals. -/
import Derived.Test.YteihpeffaeahlaaDoorWF
import Derived.Laws.IdiomStrings
namespace Go.Proofs.YteihpeffaeahlaaDoor
open Go.RowKit
set_option maxRecDepth 100000
def dgB (d : Nat) : UInt8 := UInt8.ofNat (48 + d)
def decAll (n : Nat) : Nat → List UInt8
  | 0 => []
  | f + 1 => if n < 10 then [dgB n] else decAll (n / 10) f ++ [dgB (n % 10)]
/-- A numeral. -/
def dec (n : Nat) : List UInt8 := decAll n (n + 1)
theorem decAll_more (n f g : Nat) (hf : n < f) (hg : n < g) : decAll n f = decAll n g := by
  induction f generalizing n g with
  | zero => omega
  | succ f ih =>
    cases g with
    | zero => omega
    | succ g =>
      simp only [decAll]
      split
      · rfl
      · rw [ih (n / 10) g (by omega) (by omega)]
theorem dec_small (n : Nat) (h : n < 10) : dec n = [dgB n] := by simp [dec, decAll, h]
theorem dec_big (n : Nat) (h : ¬ n < 10) : dec n = dec (n / 10) ++ [dgB (n % 10)] := by
  unfold dec
  rw [decAll, if_neg h, decAll_more (n / 10) n (n / 10 + 1) (by omega) (by omega)]
theorem sane_val : evalS ⟨#[49, 105, 43, 50, 112, 42, 51]⟩ 117 0 0 0 = (2220, 0) := by kernel_rfl
theorem sane_any (w : World) (hT : Tab w) : Calls Tryd.prog 9 #[] w fun e w' => e = .returned (.bool true) ∧ Below w.heap.size w w' := by
  have hE := eval_any (w := w) ⟨#[49, 105, 43, 50, 112, 42, 51]⟩ 117 0 0 0 (by decide) hT
  rw [sane_val] at hE
  have HE := Lib.hid hE
  clear hE hT
  go_enter Tryd.func9, Tryd.ntmps9
  go_wp2_with fail
  refine HE.out.mono ?_
  rintro e w1 ⟨rfl, hb⟩
  have HB := Lib.hid hb
  clear hb
  go_wp2_with fail
  go_ret
  exact ⟨rfl, HB.out⟩
def DcR (N : Nat) (w : World) (k : Nat) (n s : Value) (wr : World) : Prop :=
  ∃ m l, k = m ∧ m ≤ N ∧ n = .int .i64 m ∧ s = .string ⟨l.toArray⟩ ∧ dec N = (if m < 10 then [] else dec (m / 10)) ++ l ∧ Below w.heap.size w wr
theorem dec_len (k n : Nat) (hk : 0 < k) (h : n < 10 ^ k) : (dec n).length ≤ k := by
  induction k generalizing n with
  | zero => omega
  | succ k ih =>
    by_cases h10 : n < 10
    · rw [dec_small n h10]; simp
    · rw [dec_big n h10]
      have hk0 : 0 < k := by cases k with | zero => simp at h; omega | succ k => omega
      have := ih (n / 10) hk0 (by rw [Nat.pow_succ] at h; omega)
      simp; omega
theorem bytes_cons (a : UInt8) (l : List UInt8) : ((⟨#[a]⟩ : ByteArray) ++ ⟨l.toArray⟩) = ⟨(a :: l).toArray⟩ := by
  apply ByteArray.ext; simp
/-- A string of one byte, made of a slice of one byte. -/
theorem conv1 (W : World) (a : Int) : (convert 59 9 (.slice (some ⟨W.heap.size, 0, none⟩) 1 1)).run Tryd.prog (W.alloc (.cells #[.int .u8 (48 + a % 10)] 5)) =
    .ok (.string ⟨[dgB (a % 10).toNat].toArray⟩) (W.alloc (.cells #[.int .u8 (48 + a % 10)] 5)) := by
  refine run_convert_bytes_back (P := Tryd.prog) _ 59 9 5 ⟨W.heap.size, 0, none⟩ 1 [dgB (a % 10).toNat] Tryd.underlying59 Tryd.underlying5 Tryd.underlying9 ?_
  intro j hj
  obtain rfl : j = 0 := by simpa using hj
  have h0 := Int.emod_nonneg a (show (10 : Int) ≠ 0 by decide)
  have h1 := Int.emod_lt_of_pos a (show (0 : Int) < 10 by decide)
  have e2 : ((dgB (a % 10).toNat).toNat : Int) = 48 + a % 10 := by
    unfold dgB; rw [UInt8.toNat_ofNat']; omega
  simp [Addr.add, World.cell?_alloc_new, e2]
theorem digits_str (N : Nat) (hN : N ≤ 9223372036854775807) (w : World) : Calls Tryd.prog 19 #[.int .i64 N] w fun e w' => e = .returned (.string ⟨(dec N).toArray⟩) ∧ Below w.heap.size w w' := by
  have hcv := conv1
  go_enter Tryd.func19, Tryd.ntmps19
  go_wp2_with fail
  go_loopg [0, 3] N (fun k n s wr => DcR N w k n s wr)
  case atStart =>
    refine ⟨N, [dgB (N % 10)], rfl, Nat.le_refl _, rfl, rfl, ?_, (Below.refl _ _).alloc (Nat.le_refl _) _⟩
    by_cases h : N < 10
    · rw [if_pos h, dec_small N h, show N % 10 = N by omega]; rfl
    · rw [if_neg h]; exact dec_big N h
  case round =>
    obtain ⟨m, l, rfl, hmN, rfl, rfl, hd, hb⟩ := hrel
    have hgN : (gk : Int) ≤ 9223372036854775807 := by omega
    have HD := Lib.hid hd
    have HB := Lib.hid hb
    have hsz := hb.size
    have hln : l.length ≤ 19 := by
      have h1 := dec_len 19 N (by omega) (by omega)
      rw [hd] at h1; simp at h1; omega
    clear hd hb
    by_cases h9 : gk < 10
    · go_wp2_with fail
      go_ret
      have hd := HD.out
      rw [if_pos h9, List.nil_append] at hd
      exact ⟨by rw [hd]; rfl, HB.out⟩
    · have hgt : (9 : Int) < (gk : Int) := by omega
      go_wp2_with fail
      go_roundg (gk / 10)
      case measure => omega
      case rel =>
        refine ⟨gk / 10, dgB (gk / 10 % 10) :: l, rfl, by omega, by go_num, congrArg Value.string (bytes_cons _ _), ?_, HB.out.alloc (by omega) _⟩
        rw [HD.out, if_neg h9]
        by_cases h : gk / 10 < 10
        · rw [if_pos h, dec_small _ h, show gk / 10 % 10 = gk / 10 by omega]; rfl
        · rw [if_neg h, dec_big (gk / 10) h]; simp
end Go.Proofs.YteihpeffaeahlaaDoor
