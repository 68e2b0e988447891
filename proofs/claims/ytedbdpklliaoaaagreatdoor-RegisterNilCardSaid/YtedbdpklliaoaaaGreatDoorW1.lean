/- Contracts: small functions of numbers: the specification's digits and letters, the code's letters, the ranges. -/
import Derived.Test.YtedbdpklliaoaaaGreatDoorNum
import Derived.Test.YtedbdpklliaoaaaGreatDoorProg
import Derived.WalkKit
import Derived.WalkLawsBesides
import Derived.WalkSpells
import Derived.Below
import Derived.IntWalk
import Derived.Deep.QuietTactic
import Derived.BigQuiet
import Derived.Deep.LoopGhost
import Derived.LoopTactic
import Derived.Outline
import Derived.Lib.Hide
import Derived.Laws.IdiomStrings
import Derived.Laws.Runes
namespace Go.Proofs.YtedbdpklliaoaaaGreatDoor
open Go.RowKit
set_option maxRecDepth 100000
theorem ret_int {k : IntKind} {a b : Int} (h : a = b) : Ending.returned (.int k a) = .returned (.int k b) := by rw [h]
theorem below_drewN {B : Nat} {w w' : World} (h : Below B w w') (n : Nat) : Below B w (w'.drewN n) := ⟨h.os, h.tape, h.output, h.size, h.block⟩
theorem bytes_cons (a : UInt8) (l : List UInt8) : ((⟨#[a]⟩ : ByteArray) ++ ⟨l.toArray⟩) = ⟨(a :: l).toArray⟩ := by
  apply ByteArray.ext; simp
theorem bytes_app (a l : List UInt8) : ((⟨a.toArray⟩ : ByteArray) ++ ⟨l.toArray⟩) = ⟨(a ++ l).toArray⟩ := by
  apply ByteArray.ext; simp
/-- A string of one byte, made of a slice of one byte. -/
theorem conv1 (x : Int) (c : UInt8) (hx : x = c.toNat) (W : World) : (convert 84 9 (.slice (some ⟨W.heap.size, 0, none⟩) 1 1)).run Tryz.prog (W.alloc (.cells #[.int .u8 x] 5)) =
    .ok (.string ⟨[c].toArray⟩) (W.alloc (.cells #[.int .u8 x] 5)) := by
  subst hx
  refine run_convert_bytes_back (P := Tryz.prog) _ 84 9 5 ⟨W.heap.size, 0, none⟩ 1 [c] Tryz.underlying84 Tryz.underlying5 Tryz.underlying9 ?_
  intro j hj
  obtain rfl : j = 0 := by simpa using hj
  simp [go_sem]
def DcR (N : Nat) (w : World) (k : Nat) (n s : Value) (wr : World) : Prop :=
  ∃ m l, k = m ∧ m ≤ N ∧ n = .int .i64 m ∧ s = .string ⟨l.toArray⟩ ∧ dec N = dec m ++ l ∧ Below w.heap.size w wr
theorem conv1d (W : World) (a : Int) : (convert 84 9 (.slice (some ⟨W.heap.size, 0, none⟩) 1 1)).run Tryz.prog (W.alloc (.cells #[.int .u8 (48 + a % 10)] 5)) =
    .ok (.string ⟨[dgB (a % 10).toNat].toArray⟩) (W.alloc (.cells #[.int .u8 (48 + a % 10)] 5)) :=
  conv1 _ _ (by have h0 := Int.emod_nonneg a (show (10 : Int) ≠ 0 by decide); have h1 := Int.emod_lt_of_pos a (show (0 : Int) < 10 by decide); unfold dgB; rw [UInt8.toNat_ofNat']; omega) W
theorem conv1e (W : World) (a : Nat) (h : a < 10) : (convert 84 9 (.slice (some ⟨W.heap.size, 0, none⟩) 1 1)).run Tryz.prog (W.alloc (.cells #[.int .u8 (48 + (a : Int))] 5)) =
    .ok (.string ⟨[dgB a].toArray⟩) (W.alloc (.cells #[.int .u8 (48 + (a : Int))] 5)) :=
  conv1 _ _ (by unfold dgB; rw [UInt8.toNat_ofNat']; omega) W
theorem digits_str (N : Nat) (hN : N ≤ 9223372036854775807) (w : World) : Calls Tryz.prog 47 #[.int .i64 N] w fun e w' => e = .returned (.string ⟨(dec N).toArray⟩) ∧ Below w.heap.size w w' := by
  have hcv := conv1d
  go_enter Tryz.func47, Tryz.ntmps47
  go_wp2_with fail
  go_loopg [0, 3] N (fun k n s wr => DcR N w k n s wr)
  case atStart => exact ⟨N, [], rfl, Nat.le_refl _, rfl, rfl, (List.append_nil _).symm, Below.refl _ _⟩
  case round =>
    obtain ⟨m, l, rfl, hmN, rfl, rfl, hd, hb⟩ := hrel
    have hgN : (gk : Int) ≤ 9223372036854775807 := by omega
    have HD := Lib.hid hd
    have HB := Lib.hid hb
    have hsz := hb.size
    have hln : l.length ≤ 19 := by
      have h1 := dec_len 19 N (by omega) (by omega)
      rw [hd] at h1; simp at h1; omega
    clear hd hb
    by_cases h9 : gk < 10
    · have hgt : ¬ (9 : Int) < (gk : Int) := by omega
      have hcv2 := fun W => conv1e W gk h9
      go_wp2_with fail
      go_ret
      have hd := HD.out
      rw [dec_small gk h9] at hd
      exact ⟨by rw [hd]; exact congrArg (fun x => Ending.returned (.string x)) (bytes_cons _ _), HB.out.alloc (by omega) _⟩
    · have hgt : (9 : Int) < (gk : Int) := by omega
      go_wp2_with fail
      go_roundg (gk / 10)
      case measure => omega
      case rel =>
        refine ⟨gk / 10, dgB (gk % 10) :: l, rfl, by omega, by go_num, congrArg Value.string (bytes_cons _ _), ?_, HB.out.alloc (by omega) _⟩
        rw [HD.out, dec_big gk h9]; simp
/- Letters. -/
def ltB (r : Nat) : UInt8 := UInt8.ofNat (97 + r)
theorem conv1l (W : World) (a : Int) : (convert 84 9 (.slice (some ⟨W.heap.size, 0, none⟩) 1 1)).run Tryz.prog (W.alloc (.cells #[.int .u8 (97 + a % 26)] 5)) =
    .ok (.string ⟨[ltB (a % 26).toNat].toArray⟩) (W.alloc (.cells #[.int .u8 (97 + a % 26)] 5)) :=
  conv1 _ _ (by have h0 := Int.emod_nonneg a (show (26 : Int) ≠ 0 by decide); have h1 := Int.emod_lt_of_pos a (show (0 : Int) < 26 by decide); unfold ltB; rw [UInt8.toNat_ofNat']; omega) W
def LtR (N : Nat) (w : World) (k : Nat) (n s : Value) (wr : World) : Prop :=
  ∃ m l, k = m ∧ m ≤ N ∧ n = .int .i64 m ∧ s = .string ⟨l.toArray⟩ ∧ lets N = lets m ++ l ∧ Below w.heap.size w wr
theorem rletters_any (N : Nat) (hN : N ≤ 9223372036854775807) (w : World) : Calls Tryz.prog 90 #[.int .i64 N] w fun e w' => e = .returned (.string ⟨(lets N).toArray⟩) ∧ Below w.heap.size w w' := by
  have hcv := conv1l
  go_enter Tryz.func90, Tryz.ntmps90
  go_wp2_with fail
  go_loopg [0, 3] N (fun k n s wr => LtR N w k n s wr)
  case atStart => exact ⟨N, [], rfl, Nat.le_refl _, rfl, rfl, (List.append_nil _).symm, Below.refl _ _⟩
  case round =>
    obtain ⟨m, l, rfl, hmN, rfl, rfl, hd, hb⟩ := hrel
    have hgN : (gk : Int) ≤ 9223372036854775807 := by omega
    have HD := Lib.hid hd
    have HB := Lib.hid hb
    have hsz := hb.size
    have hln : l.length ≤ 14 := by
      have h1 := lets_len 14 N (by omega)
      rw [hd] at h1; simp at h1; omega
    clear hd hb
    by_cases h0 : gk = 0
    · subst h0
      go_wp2_with fail
      go_ret
      have hd := HD.out
      rw [lets_zero, List.nil_append] at hd
      exact ⟨by rw [hd]; rfl, HB.out⟩
    · obtain ⟨q, rfl⟩ : ∃ q, gk = q + 1 := ⟨gk - 1, by omega⟩
      have hgt : (0 : Int) < ((q + 1 : Nat) : Int) := by omega
      go_wp2_with fail
      go_roundg (q / 26)
      case measure => omega
      case rel =>
        refine ⟨q / 26, ltB (q % 26) :: l, rfl, by omega, by go_num, congrArg Value.string (bytes_cons _ _), ?_, HB.out.alloc (by omega) _⟩
        rw [HD.out, lets_pos (q + 1) (by omega)]; simp [ltB]
end Go.Proofs.YtedbdpklliaoaaaGreatDoor
