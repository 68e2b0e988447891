/- Both books: one deed. -/
import Derived.Test.YtedbdpklliaoaaaGreatDoorX2
import Derived.Test.YtedbdpklliaoaaaGreatDoorSane
namespace Go.Proofs.YtedbdpklliaoaaaGreatDoor
open Go.RowKit Go.Shelf Go.Maps
set_option maxRecDepth 100000
/-- Both books hold the same registers, in blocks of their own, from block T on. -/
structure Two (T bb mb B bx : Nat) (v : Value) (L : List Reg) (w : World) : Prop where
  bk : BK bb mb L w
  rk : RK B bx v L w
  ne1 : bx ≠ bb
  ne2 : bx ≠ mb
  ne3 : ∀ k, v.ownBlock = some k → k ≠ bb ∧ k ≠ mb
  lo1 : T ≤ bb
  lo2 : T ≤ mb
  lo3 : T ≤ B
/-- What a deed turns: the map's block, the document's book and its row; what that has now is its row or new. -/
structure Dn (mb bx : Nat) (v v' : Value) (u w : World) : Prop where
  kept : Kept (fun k => k = mb ∨ k = bx ∨ v.ownBlock = some k) u w
  own : ∀ k, v'.ownBlock = some k → v.ownBlock = some k ∨ u.heap.size ≤ k
theorem Dn.of {mb bx : Nat} {v : Value} {u w : World} (h : Below u.heap.size u w) : Dn mb bx v v u w := ⟨.of h, fun _ h => .inl h⟩
theorem Dn.trans {mb bx : Nat} {v v' v'' : Value} {u w x : World} (h : Dn mb bx v v' u w) (k : Dn mb bx v' v'' w x) : Dn mb bx v v'' u x := by
  have h1 := h.kept
  have h2 := k.kept
  refine ⟨⟨h2.os.trans h1.os, h2.tape.trans h1.tape, h2.output.trans h1.output, Nat.le_trans h1.size h2.size, fun i hi hs => ?_⟩, fun i hi => ?_⟩
  · refine (h2.block i (Nat.lt_of_lt_of_le hi h1.size) ?_).trans (h1.block i hi hs)
    rintro (e | e | e)
    · exact hs (.inl e)
    · exact hs (.inr (.inl e))
    · rcases h.own i e with e | e
      · exact hs (.inr (.inr e))
      · omega
  · rcases k.own i hi with e | e
    · exact h.own i e
    · have := h1.size; exact .inr (by omega)
theorem Two.below {T bb mb B bx : Nat} {v : Value} {L : List Reg} {w w' : World} (h : Two T bb mb B bx v L w) (k : Below w.heap.size w w') : Two T bb mb B bx v L w' :=
  ⟨h.bk.below k, h.rk.below k, h.ne1, h.ne2, h.ne3, h.lo1, h.lo2, h.lo3⟩
theorem Two.hi {T bb mb B bx : Nat} {v : Value} {L : List Reg} {w : World} (h : Two T bb mb B bx v L w) : T ≤ w.heap.size := by
  have := h.bk.lt; have := h.lo1; omega
theorem Two.rk1 {T bb mb B bx : Nat} {v : Value} {L : List Reg} {w w1 : World} (h : Two T bb mb B bx v L w) (k : Kept (· = mb) w w1) : RK B bx v L w1 :=
  h.rk.kept k h.ne2 (fun g hg e => (h.ne3 g hg).2 e)
theorem Two.step {T bb mb B bx : Nat} {v v' : Value} {L L' : List Reg} {w w1 w2 : World} (h : Two T bb mb B bx v L w) (k1 : Kept (· = mb) w w1) (b1 : BK bb mb L' w1) (r2 : RK B bx v' L' w2) (f2 : Fr bx v v' w1 w2) :
    Two T bb mb B bx v' L' w2 ∧ Dn mb bx v v' w w2 := by
  have hlt := h.bk.lt
  have hz := k1.size
  refine ⟨⟨b1.kept f2.kept ?_ ?_, r2, h.ne1, h.ne2, fun k hk => ?_, h.lo1, h.lo2, h.lo3⟩, ⟨?_, fun k hk => ?_⟩⟩
  · rintro (e | e)
    · exact h.ne1 e.symm
    · exact (h.ne3 _ e).1 rfl
  · rintro (e | e)
    · exact h.ne2 e.symm
    · exact (h.ne3 _ e).2 rfl
  · rcases f2.own k hk with e | e
    · exact h.ne3 k e
    · omega
  · exact (k1.mono (fun k e => .inl e)).trans (f2.kept.mono (fun k e => .inr e))
  · rcases f2.own k hk with e | e
    · exact .inl e
    · exact .inr (by omega)
theorem Two.to {T bb mb B bx : Nat} {v v' : Value} {L : List Reg} {w w' : World} (h : Two T bb mb B bx v L w) (d : Dn mb bx v v' w w') : Below T w w' := by
  refine d.kept.to h.hi ?_
  rintro k (e | e | e)
  · have := h.lo2; omega
  · have := h.rk.bx; have := h.lo3; omega
  · have := (h.rk.row.lt k e).1; have := h.lo3; omega
theorem fresh_dd {b : Nat} {x y z u : Value} {w : World} (h : w.heap[b]? = some (.cells #[x, y, z, u] 32 (0, 0))) : (w.cell? ⟨b, 0, none⟩ = some x ∧ w.cell? ⟨b, 1, none⟩ = some y ∧ w.cell? ⟨b, 2, none⟩ = some z ∧ w.cell? ⟨b, 3, none⟩ = some u) ∧ True := by
  simp [World.cell?, h]
end Go.Proofs.YtedbdpklliaoaaaGreatDoor
