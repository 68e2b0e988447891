/- Both books: any deed; deeds that came in. -/
import Derived.Test.YtedbdpklliaoaaaGreatDoorX40
import Derived.Test.YtedbdpklliaoaaaGreatDoorX41
import Derived.Test.YtedbdpklliaoaaaGreatDoorX42
import Derived.Test.YtedbdpklliaoaaaGreatDoorX44
import Derived.Test.YtedbdpklliaoaaaGreatDoorX45
import Derived.Test.YtedbdpklliaoaaaGreatDoorX6
namespace Go.Proofs.YtedbdpklliaoaaaGreatDoor
open Go.RowKit Go.Shelf Go.Maps
set_option maxRecDepth 100000
theorem umod7 (D : Int) : (IntKind.u64.wrap D).tmod 7 = 0 ∨ (IntKind.u64.wrap D).tmod 7 = 1 ∨ (IntKind.u64.wrap D).tmod 7 = 2 ∨ (IntKind.u64.wrap D).tmod 7 = 3 ∨ (IntKind.u64.wrap D).tmod 7 = 4 ∨ (IntKind.u64.wrap D).tmod 7 = 5 ∨ (IntKind.u64.wrap D).tmod 7 = 6 := by
  have h0 : 0 ≤ IntKind.u64.wrap D := by rw [IntKind.wrap_u64]; omega
  rw [Int.tmod_eq_emod_of_nonneg h0]
  omega
theorem does_any {T bb mb B bx : Nat} {v : Value} {L : List Reg} {w : World} (h : Two T bb mb B bx v L w) (hT : TB w) (D n : Int) (nm fm : ByteArray) (hfm : fm.size ≤ 9223372036854775807) :
    Calls Tryz.prog 9 #[BP bb, BP bx, .agg #[.int .i64 D, .string nm, .string fm, .int .i64 n]] w fun e w' => ∃ v' L', e = .returned (.bool true) ∧ Two T bb mb B bx v' L' w' ∧ Dn mb bx v v' w w' := by
  rcases umod7 D with e | e | e | e | e | e | e
  · exact does_0 h D n nm fm e
  · exact does_1 h D n nm fm e
  · exact does_2 h D n nm fm hfm e
  · exact does_3 h D n nm fm e (decide (0 ≤ n)) rfl
  · exact does_4 h D n nm fm e
  · exact does_5 h D n nm fm e
  · exact does_6 h hT D n nm fm e
/-- Deeds in memory, where there are any. -/
def DeedsIn (a : Option Addr) (n : Nat) (w : World) : Prop := ∀ i, i < n → ∃ b off, a = some ⟨b, off, none⟩ ∧ b < w.heap.size ∧ ∃ (D m : Int) (nm fm : ByteArray), fm.size ≤ 9223372036854775807 ∧ w.cell? ⟨b, off + i * 4, none⟩ = some (.int .i64 D) ∧ w.cell? ⟨b, off + i * 4 + 1, none⟩ = some (.string nm) ∧ w.cell? ⟨b, off + i * 4 + 2, none⟩ = some (.string fm) ∧ w.cell? ⟨b, off + i * 4 + 3, none⟩ = some (.int .i64 m)
theorem DeedsIn.below {a : Option Addr} {n : Nat} {w w' : World} (h : DeedsIn a n w) (k : Below w.heap.size w w') : DeedsIn a n w' := by
  intro i hi
  obtain ⟨b, off, ha, hb, D, m, nm, fm, hf, c0, c1, c2, c3⟩ := h i hi
  have e := fun o => k.cell (p := ⟨b, o, none⟩) hb
  exact ⟨b, off, ha, Nat.lt_of_lt_of_le hb k.size, D, m, nm, fm, hf, (e _).trans c0, (e _).trans c1, (e _).trans c2, (e _).trans c3⟩
end Go.Proofs.YtedbdpklliaoaaaGreatDoor
