/- Frames are taken away. -/
import Derived.Test.YtfobbcddedcepaaDoorB3isFile
import Derived.Test.YtfobbcddedcepaaDoorB3isMacro
import Derived.Test.YtfobbcddedcepaaDoorB3hasName
import Derived.Test.YtfobbcddedcepaaDoorB3hasMore
import Derived.Test.YtfobbcddedcepaaDoorB3stays
import Derived.Lib.SliceRun
import Derived.Deep.RegionLaw
namespace Go.Proofs.YtfobbcddedcepaaDoor
open Go.RowKit
set_option maxRecDepth 100000
set_option linter.unusedSimpArgs false
set_option linter.unusedVariables false
theorem setCells_row {g : Nat} {e : TypeId} {m s : Nat} {X : List Value} : ∀ (vs : List Value) (o : Nat) (w : World), m ≤ o → (∃ cur, w.heap[g]? = some (.cells cur e (0, 0)) ∧ cur.size = s ∧ cur.toList.take m = X) →
    ∃ cur, (w.setCells g o vs).heap[g]? = some (.cells cur e (0, 0)) ∧ cur.size = s ∧ cur.toList.take m = X
  | [], _, _, _, h => h
  | v :: vs, o, w, ho, ⟨cur, h1, h2, h3⟩ => by
    refine setCells_row vs (o + 1) (w.setCell ⟨g, o, none⟩ v) (by omega) ⟨cur.setIfInBounds o v, ?_, by simpa using h2, ?_⟩
    · simp [World.setCell, Array.getElem?_modify, h1]
    · rw [Array.toList_setIfInBounds, ← h3]
      apply List.ext_getElem?
      intro i
      rw [List.getElem?_take, List.getElem?_take]
      split
      · rw [List.getElem?_set_ne (by omega)]
      · rfl
theorem setCells_far {g b : Nat} (hb : b ≠ g) : ∀ (vs : List Value) (o : Nat) (w : World), (w.setCells g o vs).heap[b]? = w.heap[b]?
  | [], _, _ => rfl
  | v :: vs, o, w => by rw [World.setCells, setCells_far hb vs (o + 1)]; exact Below.heap_setCell _ _ _ _ hb
theorem setCells_kept (g : Nat) : ∀ (vs : List Value) (o : Nat) (w : World), Kept (· = g) w (w.setCells g o vs)
  | [], _, w => Kept.refl _ w
  | v :: vs, o, w => ((Kept.refl (· = g) w).setCell (p := ⟨g, o, none⟩) rfl v).trans (setCells_kept g vs (o + 1) _)
theorem own_cut {w : World} {base g size n c k : Nat} {e : TypeId} {xs vs : List Value} (h : w.ownsRow base e size (.slice (some ⟨g, 0, none⟩) n c) n xs) (hk : k ≤ n) :
    (w.setCells g (k * size) vs).ownsRow base e size (.slice (some ⟨g, 0, none⟩) k c) k (xs.take (k * size)) := by
  have hl : (xs.take (k * size)).length = k * size := by
    rw [List.length_take, h.1]; exact Nat.min_eq_left (Nat.mul_le_mul_right _ hk)
  refine ⟨hl, ?_⟩
  rcases h.2 with ⟨hv, _⟩ | ⟨g', cap, cur, hv, hb, hg, h1, h2, h3, h4⟩
  · cases hv
  · injection hv with e1 e2 e3
    injection e1 with e1; injection e1 with e1
    subst e1 e3
    obtain ⟨cur', i1, i2, i3⟩ := setCells_row (s := c * size) (X := xs.take (k * size)) vs (k * size) w (Nat.le_refl _) ⟨cur, hg, h3, by rw [← h4, List.take_take, Nat.min_eq_left (Nat.mul_le_mul_right _ hk)]⟩
    exact .inr ⟨g, c, cur', rfl, hb, i1, Nat.le_trans hk h1, h2, i2, i3⟩
theorem take_fm {α : Type} {f : α → List Value} {m : Nat} (hf : ∀ x, (f x).length = m) : ∀ (l : List α) (k : Nat), (l.flatMap f).take (k * m) = (l.take k).flatMap f
  | [], k => by simp
  | x :: t, 0 => by simp
  | x :: t, k + 1 => by
    rw [List.flatMap_cons, List.take_succ_cons, List.flatMap_cons, ← take_fm hf t k, Nat.add_mul, Nat.one_mul, Nat.add_comm, ← hf x, List.take_length_add_append]
theorem run_clear_row (w : World) (t e ty : TypeId) (z : Value) (m : Nat) (ht : Tryd.prog.underlying t = some (.slice e)) (hv : ∀ w, (zeroValue e).run Tryd.prog w = .ok z w) (hz : z.cells.size = m) (h1 : ∀ u ∈ z.cells.toList, u.oneCell' = true) (hm : 0 < m) (b o n c : Nat) (hn : 0 < n)
    (hc : ∀ j, j < n * m → (w.cell? ⟨b, o + j, none⟩).isSome = true) (hf : ∀ j, j < n * m → w.frozen? ⟨b, o + j, none⟩ = false) :
    (Builtin.clear_ #[t] ty #[.slice (some ⟨b, o, none⟩) n c]).run Tryd.prog w = .ok (.tuple #[]) (w.setCells b o (Builtin.zeroCells z.cells n).toList) := by
  have hl : (Builtin.zeroCells z.cells n).toList.length = n * m := by simp [Builtin.zeroCells, hz]
  have hone : ∀ u ∈ (Builtin.zeroCells z.cells n).toList, u.oneCell' = true := by
    intro u hu
    simp only [Builtin.zeroCells, Array.toList_map, List.mem_map] at hu
    obtain ⟨i, _, rfl⟩ := hu
    have hi : i % z.cells.size < z.cells.size := Nat.mod_lt _ (by omega)
    rw [getElem!_pos z.cells (i % z.cells.size) hi]
    exact h1 _ (by simp)
  have hst := run_storeCells_cells (P := Tryd.prog) b o _ 0 w (by rw [hl]; simpa using hc) (by rw [hl]; simpa using hf) hone
  simp only [Nat.add_zero] at hst
  obtain ⟨k, rfl⟩ : ∃ k, n = k + 1 := ⟨n - 1, by omega⟩
  simp [Builtin.clear_, run_underlying ht, hv, hst]
theorem zero_frame (w : World) : (zeroValue 64).run Tryd.prog w = .ok (.agg #[.int .i64 0, .string ⟨#[]⟩, .slice none 0 0, .slice none 0 0, .int .i64 0]) w := by kernel_rfl
theorem info_frame : (Tryd.prog.info? 64).map (fun i => (i.zero, i.size, i.bytes)) = some (some (.agg #[.int .i64 0, .string ⟨#[]⟩, .slice none 0 0, .slice none 0 0, .int .i64 0]), 5, 80) := by kernel_rfl
/-- What is left behind a cut. -/
def CutL (g c k : Nat) (xs : List Value) (w : World) (e : Ending) (w' : World) : Prop :=
  e = .returned (.slice (some ⟨g, 0, none⟩) k c) ∧ w'.ownsRow 0 64 5 (.slice (some ⟨g, 0, none⟩) k c) k (xs.take (k * 5)) ∧ Kept (· = g) w w'
set_option maxHeartbeats 1000000 in
theorem delete_any {w : World} {g c n k : Nat} {xs : List Value} (h : w.ownsRow 0 64 5 (.slice (some ⟨g, 0, none⟩) n c) n xs) (hk : k ≤ n) (hn : n ≤ 50) :
    Calls Tryd.prog 70 #[.slice (some ⟨g, 0, none⟩) n c, .int .i64 k, .int .i64 n] w (CutL g c k xs w) := by
  obtain ⟨o, cap, hv, hcap1, hcap2⟩ := row_shape h
  injection hv with hv1 hv2 hv3
  subst hv1 hv3
  clear hv2
  have hk0 : (0 : Int) ≤ (k : Int) := by omega
  have hkn : (k : Int) ≤ (n : Int) := by omega
  have hnc : (n : Int) ≤ (c : Int) := by omega
  have hkc : (k : Int) ≤ (c : Int) := by omega
  by_cases heq : k = n
  · subst heq
    have HE : Hid (CutL g c k xs w (.returned (.slice (some ⟨g, 0, none⟩) k c)) w) := Lib.hid ⟨rfl, by rw [← h.1, List.take_length]; exact h, Kept.refl _ _⟩
    have d1 : ((k : Int) == (k : Int)) = true := by simp
    clear h
    go_enter Tryd.func70, Tryd.ntmps70
    go_wp2_with fail
    go_ret
    exact HE.out
  · have hlt : k < n := by omega
    have d1 : ((k : Int) == (n : Int)) = false := by simp; omega
    obtain ⟨i0, hi0, hz0, hz1, hz2⟩ := info_parts info_frame
    obtain ⟨A, hA⟩ : ∃ A : Addr, (if c = n then (some ⟨g, 0, none⟩ : Option Addr) else some ⟨g, n * 5, none⟩) = some A := by split <;> exact ⟨_, rfl⟩
    have hsp : ∀ j, j < (n - k) * 5 → (w.drew.cell? ⟨g, k * 5 + j, none⟩).isSome = true ∧ w.drew.frozen? ⟨g, k * 5 + j, none⟩ = false := by
      intro j hj
      have hu : xs[k * 5 + j]? = some (xs[k * 5 + j]'(by rw [h.1]; omega)) := List.getElem?_eq_getElem (by rw [h.1]; omega)
      have h2 := own_cell h _ _ hu
      exact ⟨by show (w.cell? _).isSome = true; rw [h2.1]; rfl, h2.2⟩
    have hcl : ∀ ty, (Builtin.clear_ #[47] ty #[.slice (some ⟨g, k * 5, none⟩) (n - k) (c - k)]).run Tryd.prog w.drew = .ok (.tuple #[]) (w.drew.setCells g (k * 5) (Builtin.zeroCells (Value.agg #[.int .i64 0, .string ⟨#[]⟩, .slice none 0 0, .slice none 0 0, .int .i64 0]).cells (n - k)).toList) := fun ty =>
      run_clear_row w.drew 47 64 ty _ 5 Tryd.underlying47 zero_frame rfl (by intro u hu; simp only [Value.cells, List.mem_cons, List.not_mem_nil, or_false] at hu; rcases hu with rfl | rfl | rfl | rfl | rfl <;> rfl) (by omega) g (k * 5) (n - k) (c - k) (by omega) (fun j hj => (hsp j hj).1) (fun j hj => (hsp j hj).2)
    generalize (Builtin.zeroCells (Value.agg #[.int .i64 0, .string ⟨#[]⟩, .slice none 0 0, .slice none 0 0, .int .i64 0]).cells (n - k)).toList = vs at hcl
    have HE : Hid (CutL g c k xs w (.returned (.slice (some ⟨g, 0, none⟩) k c)) (w.drew.setCells g (k * 5) vs)) := Lib.hid
      ⟨rfl, own_cut (w := w.drew) (n := n) ⟨h.1, h.2⟩ (by omega), ((Kept.refl (· = g) w).drew).trans (setCells_kept g vs (k * 5) w.drew)⟩
    clear h hsp
    go_enter Tryd.func70, Tryd.ntmps70
    go_wp2_with fail
    go_region_law (refine step_append_room rfl (.tmp 22) (.tmp 25) 47 rfl 64 i0 5 Tryd.underlying47 hi0 hz1 g 0 k c (by simp [Act.eval, Act.put]) A 0 (c - n) [] (by simp [Act.eval, Act.put]) rfl (fun j u hu => by simp at hu) (fun u hu => by simp at hu) (by omega) (fun j hj => by simp at hj) ?_)
    rw [show w.drew.setCells g (k * 5) [] = w.drew from rfl]
    go_wp2_with fail
    go_ret
    exact HE.out
end Go.Proofs.YtfobbcddedcepaaDoor
