/- Texts in a slice; a clone. -/
import Derived.Test.YtfobbcddedcepaaDoorA5
namespace Go.Proofs.YtfobbcddedcepaaDoor
open Go.RowKit
set_option maxRecDepth 100000
set_option linter.unusedSimpArgs false
set_option linter.unusedVariables false
theorem info_str : (Tryd.prog.info? 9).map (fun i => (i.zero, i.size, i.bytes)) = some (some (.string ⟨#[]⟩), 1, 16) := by kernel_rfl
def strCs (xs : List ByteArray) : List Value := xs.map Value.string
set_option maxHeartbeats 1000000 in
theorem cloneS_any {P : Nat → Prop} {w : World} {A : Option Addr} {n c : Nat} {xs : List Value} (h : ReadsP P w 1 A n xs) (h1 : ∀ u ∈ xs, u.oneCell' = true) (hA : A = none → n = 0) (hn : n * 16 ≤ 140737488355328) :
    Calls Tryd.prog 53 #[.slice A n c] w fun e w' => ∃ A' c', e = .returned (.slice A' n c') ∧ w'.ownsRow w.heap.size 9 1 (.slice A' n c') n xs ∧ Below w.heap.size w w' := by
  obtain ⟨i0, hi0, hz0, hz1, hz2⟩ := info_parts info_str
  have heq := fun (w : World) (o : Option Addr) (n c : Nat) => Lib.run_eql_slice_nil (P := Tryd.prog) w 36 9 o n c 0 0 Tryd.underlying36
  rcases A with _ | a
  · obtain rfl := hA rfl
    have hx : xs = [] := List.eq_nil_of_length_eq_zero (by simpa using h.1)
    subst hx
    clear h h1 hA
    go_enter Tryd.func53, Tryd.ntmps53
    go_wp2_with fail
    go_ret
    exact ⟨none, 0, rfl, World.ownsRow_nil _ _ _ _, Below.refl _ _⟩
  · have HROW0 := Lib.hid (World.ownsRow_made (base := w.heap.size) (e := 9) (size := 1) w #[] 0 (Nat.le_refl _) (by unfold maxLen; omega) rfl)
    have HL := Lib.hid h.1
    have HONE := Lib.hid h1
    have HSRC : Hid (∀ j u, xs[j]? = some u → (w.alloc (.cells #[] 9)).cell? (a.add j) = some u) := by
      refine Lib.hid (fun j u hu => ?_)
      have hpos : 0 < n := by
        rcases Nat.eq_zero_or_pos n with h0 | h0
        · rw [h0] at h
          have := h.1
          have hx : xs = [] := List.eq_nil_of_length_eq_zero (by simpa using this)
          rw [hx] at hu; simp at hu
        · exact h0
      obtain ⟨b, off, e, _, hc⟩ := h.2 hpos
      injection e with e
      subst e
      rw [cell_add]
      exact (World.cell?_alloc_lt w _ ⟨b, off + j, none⟩ (World.block_lt_of_cell? w _ (hc j u hu))).trans (hc j u hu)
    have hn9 : n ≤ 140737488355328 := by omega
    clear h h1 hA
    go_enter Tryd.func53, Tryd.ntmps53
    go_wp2_with (at_builtin; refine wpList_append_own _ rfl _ _ 36 rfl w.heap.size 9 i0 _ 1 16 Tryd.underlying36 hi0 hz0 hz1 hz2 rfl (by decide) _ _ _ rfl HROW0.out a n c xs rfl HL.out HSRC.out HONE.out (by unfold maxLen; omega) (by omega) (by simp) ?_
                 intro v3 w4 hown3 hgrow3 _
                 obtain ⟨o3, cap3, rfl, _, _⟩ := row_shape hown3
                 rw [Nat.zero_add, List.nil_append] at hown3
                 have hg3 : (w.alloc (.cells #[] 9)).grownBy w4 (some w.heap.size) := hgrow3
                 have HB4 := Lib.hid (((Below.refl w.heap.size w).alloc (Nat.le_refl _) (.cells #[] 9)).grown hg3 (by simp) (fun g e => by cases e; exact Nat.le_refl _))
                 have HO3 := Lib.hid hown3
                 clear hgrow3 hg3 hown3)
    go_ret
    exact ⟨o3, cap3, by simp, by have := HO3.out; simpa using this, HB4.out⟩

end Go.Proofs.YtfobbcddedcepaaDoor
