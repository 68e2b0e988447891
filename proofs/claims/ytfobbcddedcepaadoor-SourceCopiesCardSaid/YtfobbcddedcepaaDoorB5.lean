/- cut. -/
import Derived.Test.YtfobbcddedcepaaDoorB4
namespace Go.Proofs.YtfobbcddedcepaaDoor
open Go.RowKit
set_option maxRecDepth 100000
set_option linter.unusedSimpArgs false
set_option linter.unusedVariables false
/-- Same memory, drawn on. -/
structure Eqw (w W : World) : Prop where
  heap : W.heap = w.heap
  os : W.os = w.os
  tape : W.tape = w.tape
  output : W.output = w.output
theorem Eqw.refl (w : World) : Eqw w w := ⟨rfl, rfl, rfl, rfl⟩
theorem Eqw.drew (w : World) : Eqw w w.drew := ⟨rfl, rfl, rfl, rfl⟩
theorem Eqw.below {w W : World} (h : Eqw w W) : Below w.heap.size w W := ⟨h.os, h.tape, h.output, by rw [h.heap]; exact Nat.le_refl _, fun k _ => by rw [h.heap]⟩
theorem Eqw.ck {w W : World} (h : Eqw w W) {sb g c : Nat} {F : List Fr} {rs : List RF} (k : CK sb g c F rs w) : CK sb g c F rs W := k.below h.below
theorem Dt.st {w w' : World} {sb g c : Nat} {F : List Fr} {rs : List RF} (h : CK sb g c F rs w) (k : Kept (fun b => b = sb ∨ b = g) w w') : Dt w w' := by
  refine Dt.kept k fun b hb e he ht => ?_
  rcases hb with rfl | rfl
  · exact ht.ne h.tg.1 (by rcases he with rfl | rfl | rfl | rfl <;> decide) rfl
  · exact ht.ne h.tg.2 (by rcases he with rfl | rfl | rfl | rfl <;> decide) rfl
theorem All2.take {α β : Type} {R : α → β → Prop} {xs : List α} {ys : List β} (h : All2 R xs ys) (k : Nat) : All2 R (xs.take k) (ys.take k) := by
  refine ⟨by rw [List.length_take, List.length_take, h.1], fun i a b ha hb => ?_⟩
  rw [List.getElem?_take] at ha hb
  split at ha
  · rename_i hi
    rw [if_pos hi] at hb
    exact h.2 i a b ha hb
  · cases ha
theorem CK.cutS {sb g c k : Nat} {F : List Fr} {rs : List RF} {w w2 : World} (h : CK sb g c F rs w) (hk : k ≤ F.length) (ho : w2.ownsRow 0 64 5 (.slice (some ⟨g, 0, none⟩) k c) k ((rs.flatMap rfCs).take (k * 5))) (hkp : Kept (· = g) w w2) :
    CK sb g c (F.take k) (rs.take k) (w2.setCell ⟨sb, 0, none⟩ (.slice (some ⟨g, 0, none⟩) k c)) ∧ Kept (fun b => b = sb ∨ b = g) w (w2.setCell ⟨sb, 0, none⟩ (.slice (some ⟨g, 0, none⟩) k c)) := by
  have hlen : (F.take k).length = k := by rw [List.length_take]; omega
  have hs : w2.heap[sb]? = some (.cells #[.slice (some ⟨g, 0, none⟩) F.length c] 49 (0, 0)) := (hkp.block sb h.lt.1 h.ne).trans h.cell
  have hK : Kept (fun b => b = sb ∨ b = g) w (w2.setCell ⟨sb, 0, none⟩ (.slice (some ⟨g, 0, none⟩) k c)) := (hkp.mono fun _ e => .inr e).setCell (p := ⟨sb, 0, none⟩) (.inl rfl) _
  rw [take_fm rf_len] at ho
  refine ⟨⟨?_, ?_, ?_, fun f hf => h.ok f (List.mem_of_mem_take hf), by rw [hlen]; have := h.len; omega, fun i f hi hf => ?_⟩, hK⟩
  · rw [hlen]; simp [World.setCell, Array.getElem?_modify, hs]
  · rw [hlen]
    refine own_far ho fun g' hg' => Below.heap_setCell _ _ _ _ ?_
    have e : g' = g := (by simpa [Value.ownBlock, eq_comm] using hg')
    rw [e]; exact Ne.symm h.ne
  · exact (h.fr.take k).mono fun _ _ hr => hr.dt (Dt.st h hK)
  · rw [hlen] at hi
    rw [List.getElem?_take, if_pos (by omega)] at hf
    exact h.inv i f (by omega) hf
/-- What cut leaves. -/
def CutP (sb g c k : Nat) (F : List Fr) (rs : List RF) (w : World) (e : Ending) (w' : World) : Prop :=
  e = .returned (.tuple #[]) ∧ CK sb g c (F.take k) (rs.take k) w' ∧ Kept (fun b => b = sb ∨ b = g) w w'
set_option maxHeartbeats 1000000 in
theorem cut_any {sb g c : Nat} {F : List Fr} {rs : List RF} {w : World} (h : CK sb g c F rs w) (k : Nat) (hk : k ≤ F.length) :
    Calls Tryd.prog 48 #[BP sb, .int .i64 k] w (CutP sb g c k F rs w) := by
  have hc := h.c0.1
  have hD : Hid (∀ W, Eqw w W → Calls Tryd.prog 70 #[.slice (some ⟨g, 0, none⟩) F.length c, .int .i64 k, .int .i64 F.length] W (CutL g c k (rs.flatMap rfCs) W)) := Lib.hid fun W hW => delete_any (hW.ck h).row hk h.len
  have hz := h.ne
  have H := Lib.hid h
  have HK := Lib.hid hk
  clear h hk
  go_enter Tryd.func48, Tryd.ntmps48
  go_wp2_with fail
  go_region_with (first
    | (go_at_call 70; refine (hD.out _ ?_).mono ?_
       · first | exact Eqw.refl _ | exact Eqw.drew _
       rintro e w2 ⟨rfl, ho, hkp⟩
       have HC := Lib.hid (H.out.cutS HK.out ho ⟨hkp.os, hkp.tape, hkp.output, hkp.size, hkp.block⟩)
       have hs2 := (hkp.block sb H.out.lt.1 H.out.ne).trans H.out.cell
       have e1 : w2.cell? ⟨sb, 0, none⟩ = some (.slice (some ⟨g, 0, none⟩) F.length c) := by simp [World.cell?, hs2]
       have e2 : w2.frozen? ⟨sb, 0, none⟩ = false := by simp [World.frozen?, hs2]
       clear ho hkp hs2))
  all_goals
    go_wp2_with fail
    go_end0
    exact ⟨rfl, HC.out.1, HC.out.2⟩
end Go.Proofs.YtfobbcddedcepaaDoor
