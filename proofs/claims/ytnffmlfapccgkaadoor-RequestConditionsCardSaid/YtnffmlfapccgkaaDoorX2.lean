/- Slices of bytes that came in. -/
import Derived.Test.YtnffmlfapccgkaaDoorX1
import Derived.ChangeSlices
namespace Go.Proofs.YtnffmlfapccgkaaDoor
open Go.RowKit Go.Shelf Go.ChangeShapes Go.WideShapes
set_option maxRecDepth 100000
set_option linter.unusedSimpArgs false
set_option linter.unusedVariables false
theorem wf8 {y : Int} (h : (Lit.int .u8 y).wf = true) : 0 ≤ y ∧ y < 256 := by
  simp [Lit.wf] at h
  have h1 : IntKind.u8.min = 0 := by decide
  have h2 : IntKind.u8.max = 255 := by decide
  omega
section
variable {H : Type} {enc : TypeId × Value → H} {W : World}
theorem open_byts {base : Nat} {spare : Nat → Bool} {held : Bool} {fuel : Nat} {v : Value} {d : DataW H} {ps : List MemPlace} (h : DataW.trod enc Tryd.prog W base spare held fuel 27 [v] = some (d, ps)) :
    ∃ (A : Option Addr) (n c : Nat) (xs : List Nat), v = .slice A n c ∧ n ≤ c ∧ (c : Int) ≤ 9223372036854775807 ∧ BytsAt W A n xs ∧ ∀ x ∈ xs, x < 256 := by
  rcases open_ints Tryd.underlying27 Tryd.underlying5 (by kernel_rfl) h with ⟨hcs, hx⟩ | ⟨a, len, cap, zs, hcs, _, hl, hm, hz, hx, hcell, hwf⟩
  · simp only [List.cons.injEq, and_true] at hcs
    exact ⟨none, 0, 0, [], hcs, Nat.le_refl _, by omega, ⟨rfl, fun h => absurd h (Nat.lt_irrefl 0)⟩, fun s hs => by cases hs⟩
  · simp only [List.cons.injEq, and_true] at hcs
    have hle : len ≤ zs.length := by rw [hz]; split <;> omega
    have htl : ((zs.take len).map Int.toNat).length = len := by rw [List.length_map, List.length_take]; omega
    refine ⟨some a, len, cap, (zs.take len).map Int.toNat, hcs, hl, by unfold maxLen at hm; omega, ⟨htl.symm, fun hn => ?_⟩, fun x hx' => ?_⟩
    · have h0 := hcell 0 (by omega)
      have ha := spot_none h0
      have e0 : a.add 0 = a := by unfold Addr.add; rw [if_pos rfl]
      rw [e0] at ha
      refine ⟨a.block, a.off, by rw [← ha.1], ha.2, fun j x hj => ?_⟩
      have hjl := lt_of_some hj
      rw [htl] at hjl
      have := hcell j (by omega)
      rw [ha.1, add_eq] at this
      rw [this]
      rw [List.getElem?_map, List.getElem?_take, if_pos hjl, List.getElem?_eq_getElem (by omega), Option.map_some] at hj
      have hj := Option.some.inj hj
      have hw := wf8 (hwf _ (List.getElem_mem (show j < zs.length by omega)))
      rw [List.getD_eq_getElem?_getD, List.getElem?_eq_getElem (by omega), Option.getD_some]
      congr 2
      omega
    · obtain ⟨z, hz', rfl⟩ := List.mem_map.1 hx'
      have hw := wf8 (hwf z (List.mem_of_mem_take hz'))
      omega
end
end Go.Proofs.YtnffmlfapccgkaaDoor
