/- A list of deeds that came in. -/
import Derived.Test.YtedbdpklliaoaaaGreatDoorRow
import Derived.Deep.Slices
namespace Go.Proofs.YtedbdpklliaoaaaGreatDoor
open Go.RowKit Go.Deep Go.ChangeShapes Go.WideShapes
set_option maxRecDepth 100000
/-- One deed in memory, from address a on. -/
def DeedAt (w : World) (a : Addr) : Prop := ∃ (D n : Int) (nm fm : ByteArray), fm.size ≤ 9223372036854775807 ∧ w.cell? a = some (.int .i64 D) ∧ w.cell? (a.add 1) = some (.string nm) ∧ w.cell? (a.add 2) = some (.string fm) ∧ w.cell? (a.add 3) = some (.int .i64 n)
theorem cellsDeed : Tryz.prog.cellsOf 32 = 4 := by kernel_rfl
theorem open_deeds {H : Type} {enc : TypeId × Value → H} {w : World} {base : Nat} {spare : Nat → Bool} {held : Bool} {fuel : Nat} {cs : List Value} {x : DataW H × List MemPlace}
    (h : DataW.trod enc Tryz.prog w base spare held fuel 22 cs = some x) :
    cs = [.slice none 0 0] ∨ ∃ (a : Addr) (len cap : Nat), cs = [.slice (some a) len cap] ∧ len ≤ cap ∧ cap ≤ maxLen ∧ ∀ i, i < len → DeedAt w (a.add (i * 4)) := by
  rcases open_slice Tryz.underlying22 h with h0 | ⟨a, len, cap, m, n, D, Pl, rfl, hb, hl, hm, hmm, rfl, hx⟩
  · exact .inl h0.1
  refine .inr ⟨a, len, cap, rfl, hl, hm, fun i hi => ?_⟩
  have hlm : len ≤ m := by rw [hmm]; split <;> omega
  obtain ⟨cs', h1, h2⟩ := hx i (by omega)
  rw [cellsDeed] at h1
  obtain ⟨_, hlen, hcell⟩ := World.cells?_some h1
  obtain ⟨xs, k, hk, hxy, _, hxl, hf⟩ := DataW.trod_struct Tryz.underlying32 h2
  have hxl4 : xs.length = 4 := hxl
  match xs, hxl4, cs', hlen with
  | [y0, y1, y2, y3], _, [v0, v1, v2, v3], _ =>
    have g0 := hf 0 _ rfl
    have g1 := hf 1 _ rfl
    have g2 := hf 2 _ rfl
    have g3 := hf 3 _ rfl
    simp [cellsInt, cellsStr] at g0 g1 g2 g3
    obtain ⟨z0, hz0, _⟩ := DataW.trod_int Tryz.underlying3 g0
    obtain ⟨s1, hs1, _⟩ := DataW.trod_string Tryz.underlying9 g1
    obtain ⟨s2, hs2, _, hs2z⟩ := DataW.trod_string Tryz.underlying9 g2
    obtain ⟨z3, hz3, _⟩ := DataW.trod_int Tryz.underlying3 g3
    have e0 := hcell 0 (by omega)
    have e1 := hcell 1 (by omega)
    have e2 := hcell 2 (by omega)
    have e3 := hcell 3 (by omega)
    simp at hz0 hs1 hs2 hz3
    simp [hz0, hs1, hs2, hz3] at e0 e1 e2 e3
    exact ⟨z0, z3, s1, s2, by unfold maxLen at hs2z; omega, e0, e1, e2, e3⟩
end Go.Proofs.YtedbdpklliaoaaaGreatDoor
