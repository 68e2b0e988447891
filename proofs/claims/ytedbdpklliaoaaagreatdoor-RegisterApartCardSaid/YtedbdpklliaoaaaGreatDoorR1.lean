/- The document's book: its registers in a row; where a name stands. -/
import Derived.Test.YtedbdpklliaoaaaGreatDoorB9
import Derived.Laws.AppendOwn
namespace Go.Proofs.YtedbdpklliaoaaaGreatDoor
open Go.RowKit Go.Shelf Go.Maps
set_option maxRecDepth 100000
def ixS : List Reg → List UInt8 → Nat
  | [], _ => 0
  | x :: t, nm => if Op.bytesLess x.nm nm = true then ixS t nm + 1 else 0
theorem ix_le : ∀ (L : List Reg) (nm : List UInt8), ixS L nm ≤ L.length
  | [], _ => Nat.le_refl _
  | x :: t, nm => by unfold ixS; split; have := ix_le t nm; simp; omega; simp
theorem ix_lt : ∀ (L : List Reg) (nm : List UInt8) (i : Nat) (h : i < ixS L nm) (h2 : i < L.length), Op.bytesLess (L[i]).nm nm = true
  | [], _, i, h, h2 => by simp at h2
  | x :: t, nm, i, h, h2 => by
    unfold ixS at h
    split at h
    · rename_i hx
      cases i with
      | zero => simpa using hx
      | succ i => simpa using ix_lt t nm i (by omega) (by simpa using h2)
    · omega
theorem ix_not : ∀ (L : List Reg) (nm : List UInt8) (h : ixS L nm < L.length), Op.bytesLess (L[ixS L nm]).nm nm = false
  | [], _, h => by simp at h
  | x :: t, nm, h => by
    by_cases hx : Op.bytesLess x.nm nm = true
    · have e : ixS (x :: t) nm = ixS t nm + 1 := by unfold ixS; rw [if_pos hx]; cases t <;> rfl
      have h2 : ixS t nm < t.length := by rw [e] at h; simpa using h
      have := ix_not t nm h2
      simp only [e, List.getElem_cons_succ]; exact this
    · have e : ixS (x :: t) nm = 0 := by unfold ixS; rw [if_neg hx]
      simp only [e, List.getElem_cons_zero]; simpa using hx
def atS (L : List Reg) (nm : List UInt8) : Bool := match L[ixS L nm]? with | some r => r.nm == nm | none => false
theorem ix_cons (x : Reg) (t : List Reg) (nm : List UInt8) : ixS (x :: t) nm = if Op.bytesLess x.nm nm = true then ixS t nm + 1 else 0 := rfl
theorem at_has : ∀ (L : List Reg) (nm : List UInt8), Asc L → atS L nm = hasS L nm
  | [], _, _ => rfl
  | x :: t, nm, h => by
    obtain ⟨h1, h2⟩ := List.pairwise_cons.1 h
    by_cases hx : Op.bytesLess x.nm nm = true
    · have ih := at_has t nm h2
      unfold atS at ih ⊢
      rw [ix_cons, if_pos hx, List.getElem?_cons_succ, ih]
      have : (x.nm == nm) = false := by simpa using blt_ne hx
      simp [hasS, this]
    · unfold atS
      rw [ix_cons, if_neg hx, List.getElem?_cons_zero]
      by_cases e : x.nm = nm
      · simp [hasS, e]
      · have hlt := blt_total _ _ e (by simpa using hx)
        rw [not_has_of_lt x t nm h hlt]
        simpa using e
theorem get_at : ∀ (L : List Reg) (nm : List UInt8), Asc L → hasS L nm = true → L[ixS L nm]? = some (getS L nm)
  | [], _, _, h => by cases h
  | x :: t, nm, h, hh => by
    obtain ⟨h1, h2⟩ := List.pairwise_cons.1 h
    by_cases hx : Op.bytesLess x.nm nm = true
    · have hne := blt_ne hx
      have ht : hasS t nm = true := by simpa [hasS, hne] using hh
      have ih := get_at t nm h2 ht
      rw [ix_cons, if_pos hx, List.getElem?_cons_succ, ih]
      unfold getS; rw [List.find?_cons_of_neg (by simp [hne])]
    · rw [ix_cons, if_neg hx, List.getElem?_cons_zero]
      by_cases e : x.nm = nm
      · unfold getS; rw [List.find?_cons_of_pos (by simp [e])]; rfl
      · have hlt := blt_total _ _ e (by simpa using hx)
        rw [not_has_of_lt x t nm h hlt] at hh; cases hh
theorem put_ix_new : ∀ (L : List Reg) (r : Reg), Asc L → hasS L r.nm = false → putS L r = L.take (ixS L r.nm) ++ r :: L.drop (ixS L r.nm)
  | [], r, _, _ => rfl
  | x :: t, r, h, hh => by
    obtain ⟨h1, h2⟩ := List.pairwise_cons.1 h
    have hne : x.nm ≠ r.nm := by intro e; simp [hasS, e] at hh
    have ht : hasS t r.nm = false := by simpa [hasS, hne] using hh
    unfold putS
    rw [if_neg hne, ix_cons]
    split
    · rw [put_ix_new t r h2 ht]; simp
    · simp
theorem put_ix_old : ∀ (L : List Reg) (r : Reg), Asc L → hasS L r.nm = true → putS L r = L.set (ixS L r.nm) r
  | [], r, _, hh => by cases hh
  | x :: t, r, h, hh => by
    obtain ⟨h1, h2⟩ := List.pairwise_cons.1 h
    unfold putS
    rw [ix_cons]
    by_cases e : x.nm = r.nm
    · rw [if_pos e, e, blt_irrefl, if_neg (by decide)]; simp
    · have ht : hasS t r.nm = true := by simpa [hasS, e] using hh
      rw [if_neg e]
      by_cases hx : Op.bytesLess x.nm r.nm = true
      · rw [if_pos hx, if_pos hx, put_ix_old t r h2 ht]; simp
      · have hlt := blt_total _ _ e (by simpa using hx)
        rw [not_has_of_lt x t r.nm h hlt] at hh; cases hh
theorem del_ix : ∀ (L : List Reg) (nm : List UInt8), Asc L → hasS L nm = true → delS L nm = L.take (ixS L nm) ++ L.drop (ixS L nm + 1)
  | [], _, _, hh => by cases hh
  | x :: t, nm, h, hh => by
    obtain ⟨h1, h2⟩ := List.pairwise_cons.1 h
    by_cases hx : Op.bytesLess x.nm nm = true
    · have hne := blt_ne hx
      have ht : hasS t nm = true := by simpa [hasS, hne] using hh
      have ih := del_ix t nm h2 ht
      rw [ix_cons, if_pos hx]
      unfold delS at ih ⊢
      rw [List.filter_cons_of_pos (by simp [hne]), ih]; simp
    · rw [ix_cons, if_neg hx]
      by_cases e : x.nm = nm
      · have : hasS t nm = false := by
          unfold hasS; rw [List.any_eq_false]
          intro y hy
          have := blt_ne (h1 y hy)
          rw [e] at this
          simpa using Ne.symm this
        unfold delS
        rw [List.filter_cons_of_neg (by simp [e])]
        simp only [List.take_zero, List.nil_append, List.drop_succ_cons, List.drop_zero]
        rw [List.filter_eq_self]
        intro y hy
        unfold hasS at this
        rw [List.any_eq_false] at this
        simpa using this y hy
      · have hlt := blt_total _ _ e (by simpa using hx)
        rw [not_has_of_lt x t nm h hlt] at hh; cases hh
theorem del_not (L : List Reg) (nm : List UInt8) (h : hasS L nm = false) : delS L nm = L := by
  unfold delS
  rw [List.filter_eq_self]
  intro y hy
  unfold hasS at h
  rw [List.any_eq_false] at h
  simpa using h y hy
/- The row. -/
def regCs (r : Reg) : List Value := [.string ⟨r.nm.toArray⟩, .int .i64 r.v, .int .i64 r.st, .string ⟨r.fm.toArray⟩]
def rowOf (L : List Reg) : List Value := L.flatMap regCs
theorem row_len : ∀ L : List Reg, (rowOf L).length = L.length * 4
  | [] => rfl
  | x :: t => by have := row_len t; unfold rowOf at this ⊢; rw [List.flatMap_cons, List.length_append, this]; simp [regCs]; omega
theorem row_app (A B : List Reg) : rowOf (A ++ B) = rowOf A ++ rowOf B := List.flatMap_append
theorem row_take : ∀ (L : List Reg) (n : Nat), rowOf (L.take n) = (rowOf L).take (n * 4)
  | [], n => by simp [rowOf]
  | x :: t, 0 => by simp [rowOf]
  | x :: t, n + 1 => by
    have := row_take t n
    unfold rowOf at this ⊢
    rw [List.take_succ_cons, List.flatMap_cons, List.flatMap_cons, this]
    rw [show (n + 1) * 4 = 4 + n * 4 by omega]
    unfold regCs
    simp [List.take_append, show 4 + n * 4 - 4 = n * 4 by omega]
    rw [show 4 + n * 4 = n * 4 + 4 by omega]; rfl
theorem row_drop : ∀ (L : List Reg) (n : Nat), rowOf (L.drop n) = (rowOf L).drop (n * 4)
  | [], n => by simp [rowOf]
  | x :: t, 0 => by simp [rowOf]
  | x :: t, n + 1 => by
    have := row_drop t n
    unfold rowOf at this ⊢
    rw [List.drop_succ_cons, List.flatMap_cons, this]
    rw [show (n + 1) * 4 = 4 + n * 4 by omega]
    unfold regCs
    rw [List.drop_append]
    simp
/-- The cells of register i. -/
theorem row_at : ∀ (L : List Reg) (i : Nat) (h : i < L.length), (rowOf L)[i * 4]? = some (.string ⟨(L[i]).nm.toArray⟩) ∧ (rowOf L)[i * 4 + 1]? = some (.int .i64 (L[i]).v) ∧ (rowOf L)[i * 4 + 2]? = some (.int .i64 (L[i]).st) ∧ (rowOf L)[i * 4 + 3]? = some (.string ⟨(L[i]).fm.toArray⟩)
  | [], i, h => by simp at h
  | x :: t, 0, h => by simp [rowOf, regCs]
  | x :: t, i + 1, h => by
    have := row_at t i (by simpa using h)
    unfold rowOf at this ⊢
    simp only [List.flatMap_cons, List.getElem_cons_succ]
    rw [show (i + 1) * 4 = i * 4 + 4 by omega]
    have e : ∀ k, (regCs x ++ List.flatMap regCs t)[i * 4 + 4 + k]? = (List.flatMap regCs t)[i * 4 + k]? := by
      intro k
      rw [List.getElem?_append_right (by simp [regCs]; omega)]
      congr 1; simp [regCs]; omega
    have e0 := e 0
    simp only [Nat.add_zero] at e0
    rw [e0, e 1, e 2, e 3]; exact this
end Go.Proofs.YtedbdpklliaoaaaGreatDoor
