/- The fixed example. -/
import Derived.Test.YtedbdpklliaoaaaGreatDoorW5
namespace Go.Proofs.YtedbdpklliaoaaaGreatDoor
open Go.RowKit Go.Shelf
set_option maxRecDepth 100000
theorem umod (A m : Int) (hm : 0 < m) (_hm2 : m ≤ 4611686018427387904) : ∃ a : Nat, (a : Int) < m ∧ (IntKind.u64.wrap A).tmod m = a := by
  have h0 : 0 ≤ IntKind.u64.wrap A := by rw [IntKind.wrap_u64]; exact Int.emod_nonneg _ (by decide)
  refine ⟨((IntKind.u64.wrap A).tmod m).toNat, ?_, ?_⟩
  · rw [Int.toNat_of_nonneg (Int.tmod_nonneg _ h0)]; exact Int.tmod_lt_of_pos _ hm
  · rw [Int.toNat_of_nonneg (Int.tmod_nonneg _ h0)]
theorem write_a (N : Nat) (hN : N ≤ 999999999) (w : World) (hT : TB w) :
    Calls Tryz.prog 25 #[.int .i64 N, .string ⟨#[97]⟩] w fun e w' => e = .returned (.tuple #[.string ⟨(if N = 0 then [48] else lets N).toArray⟩, .int .i64 0]) ∧ Below w.heap.size w w' := by
  have := write_any N ⟨#[97]⟩ (by decide) w hT
  have hn : okN (N : Int) = true := by unfold okN; simp; omega
  rw [show writeS (N : Int) (⟨#[97]⟩ : ByteArray).data.toList = (if N = 0 then [48] else lets N, 0) by
    unfold writeS
    rw [if_neg (by decide), if_neg (by rw [hn]; decide)]
    unfold txt; rw [if_neg (by omega)]; rfl] at this
  exact this
theorem lets28 : (if (28 : Nat) = 0 then [48] else lets 28) = [97, 98] := by decide +kernel
theorem sane_any (w : World) (hT : TB w) : Calls Tryz.prog 7 #[] w fun e w' => e = .returned (.bool true) ∧ Below w.heap.size w w' := by
  have HW := write_a 28 (by omega) w hT
  rw [lets28] at HW
  have H := Lib.hid HW
  clear HW hT
  go_enter Tryz.func7, Tryz.ntmps7
  go_wp2_with fail
  refine H.out.mono ?_
  rintro e w1 ⟨rfl, hb⟩
  have HB := Lib.hid hb
  clear hb
  go_wp2_with fail
  go_ret
  exact ⟨rfl, HB.out⟩
end Go.Proofs.YtedbdpklliaoaaaGreatDoor
