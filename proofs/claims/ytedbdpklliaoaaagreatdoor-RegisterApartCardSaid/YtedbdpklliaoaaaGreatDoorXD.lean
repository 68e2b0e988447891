/- Deeds that came in: what the walk asks of them. -/
import Derived.Test.YtedbdpklliaoaaaGreatDoorX5
import Derived.Test.YtedbdpklliaoaaaGreatDoorX7
namespace Go.Proofs.YtedbdpklliaoaaaGreatDoor
open Go.RowKit Go.Deep Go.ChangeShapes Go.WideShapes
set_option maxRecDepth 100000
theorem spot_none {w : World} {a : Addr} {v : Value} (h : w.cell? a = some v) : a = ⟨a.block, a.off, none⟩ ∧ a.block < w.heap.size := by
  have hb := World.block_lt_of_cell? w a h
  obtain ⟨b, o, s⟩ := a
  cases s with
  | none => exact ⟨rfl, hb⟩
  | some k =>
    unfold World.cell? at h
    split at h <;> simp at h
theorem cell_add (b off j : Nat) : (⟨b, off, none⟩ : Addr).add j = ⟨b, off + j, none⟩ := by
  unfold Addr.add; split <;> simp_all
theorem deeds_arg {H : Type} {enc : TypeId × Value → H} {W : World} {base : Nat} {v : Value} {d : DataW H} {p : List MemPlace} (hv : Value.okWide Tryz.prog W .any base 22 v) (h : DataW.Trod enc Tryz.prog W 0 (fun _ => true) true 22 v d p) :
    ∃ a n c, v = .slice a n c ∧ DeedsIn a n W := by
  obtain ⟨a0, len, cap, rfl⟩ := okWide_slice Tryz.underlying22 hv
  obtain ⟨fuel, hf⟩ := h
  refine ⟨a0, len, cap, rfl, ?_⟩
  rcases open_deeds hf with hcs | ⟨a, len', cap', hcs, _, _, hd⟩
  · simp [Value.cells] at hcs
    obtain ⟨rfl, rfl, rfl⟩ := hcs
    intro i hi; omega
  · simp [Value.cells] at hcs
    obtain ⟨rfl, rfl, rfl⟩ := hcs
    intro i hi
    obtain ⟨D0, _, _, _, _, z0, _, _, _⟩ := hd 0 (by omega)
    have hs := spot_none z0
    have ha : a = ⟨a.block, a.off, none⟩ := by
      have h0 : a.add (0 * 4) = a := by simp [Addr.add]
      rw [h0] at hs; exact hs.1
    have hb : a.block < W.heap.size := by
      have h0 : a.add (0 * 4) = a := by simp [Addr.add]
      rw [h0] at hs; exact hs.2
    obtain ⟨D, m, nm, fm, hfm, c0, c1, c2, c3⟩ := hd i hi
    rw [ha, cell_add] at c0 c1 c2 c3
    rw [cell_add] at c1 c2 c3
    exact ⟨a.block, a.off, by rw [← ha], hb, D, m, nm, fm, hfm, c0, c1, c2, c3⟩
end Go.Proofs.YtedbdpklliaoaaaGreatDoor
