/- Slices that are read, and their clones. -/
import Derived.Test.YtfobbcddedcepaaDoorA0
import Derived.Laws.AppendOwnNone
namespace Go.Proofs.YtfobbcddedcepaaDoor
open Go.RowKit
set_option maxRecDepth 100000
set_option linter.unusedSimpArgs false
set_option linter.unusedVariables false
/-- A slice reads as these cells, in a block of kind P. -/
def ReadsP (P : Nat → Prop) (w : World) (size : Nat) (A : Option Addr) (n : Nat) (xs : List Value) : Prop :=
  xs.length = n * size ∧ (0 < n → ∃ b off, A = some ⟨b, off, none⟩ ∧ P b ∧ ∀ j u, xs[j]? = some u → w.cell? ⟨b, off + j, none⟩ = some u)
theorem ReadsP.keep {P P' : Nat → Prop} {w w' : World} {size n : Nat} {A : Option Addr} {xs : List Value} (h : ReadsP P w size A n xs) (k : ∀ b, P b → w'.heap[b]? = w.heap[b]? ∧ P' b) : ReadsP P' w' size A n xs :=
  ⟨h.1, fun hn => by
    obtain ⟨b, off, e, hp, hc⟩ := h.2 hn
    exact ⟨b, off, e, (k b hp).2, fun j u hu => (World.cell?_of_block (w := w) (a := ⟨b, off + j, none⟩) (k b hp).1).trans (hc j u hu)⟩⟩
theorem ReadsP.of_own {P : Nat → Prop} {w : World} {base size n c : Nat} {e : TypeId} {A : Option Addr} {xs : List Value} (h : w.ownsRow base e size (.slice A n c) n xs) (hP : ∀ g cs, w.heap[g]? = some (.cells cs e (0, 0)) → base ≤ g → P g) : ReadsP P w size A n xs := by
  refine ⟨h.1, fun hn => ?_⟩
  rcases h.2 with ⟨hv, h0⟩ | ⟨g, cap, cur, hv, hb, hh, h1, h2, h3, h4⟩
  · omega
  · have hA : A = some ⟨g, 0, none⟩ := by injection hv
    subst hA
    refine ⟨g, 0, rfl, hP g cur hh hb, fun j u hu => ?_⟩
    rw [← h4, List.getElem?_take] at hu
    split at hu
    · rw [Array.getElem?_toList] at hu
      simp [World.cell?, hh, hu]
    · cases hu
theorem cell_add (b off j : Nat) : (⟨b, off, none⟩ : Addr).add j = ⟨b, off + j, none⟩ := by
  unfold Addr.add; split <;> simp_all
theorem row_shape {w : World} {base : Nat} {e : TypeId} {size n : Nat} {v : Value} {xs : List Value} (h : w.ownsRow base e size v n xs) : ∃ o cap, v = .slice o n cap ∧ n ≤ cap ∧ (cap : Int) ≤ 9223372036854775807 := by
  rcases h.2 with ⟨hv, hn⟩ | ⟨g, cap, cur, hv, _, _, h1, h2, _⟩
  · exact ⟨none, 0, by rw [hv, hn], by omega, by omega⟩
  · exact ⟨_, _, hv, h1, by unfold maxLen at h2; omega⟩
theorem own_kept {S : Nat → Prop} {w w' : World} {base : Nat} {e : TypeId} {size n : Nat} {v : Value} {xs : List Value} (h : w.ownsRow base e size v n xs) (k : Kept S w w') (hS : ∀ g, v.ownBlock = some g → ¬ S g) : w'.ownsRow base e size v n xs := by
  refine ⟨h.1, ?_⟩
  rcases h.2 with hn | ⟨g, cap, cur, hv, hb, hg, rest⟩
  · exact .inl hn
  · exact .inr ⟨g, cap, cur, hv, hb, (k.block g (lt_of_block hg) (hS g (by rw [hv]; rfl))).trans hg, rest⟩
theorem own_base {w : World} {base base' : Nat} {e : TypeId} {size n : Nat} {v : Value} {xs : List Value} (h : w.ownsRow base e size v n xs) (hb : base' ≤ base) : w.ownsRow base' e size v n xs := by
  refine ⟨h.1, ?_⟩
  rcases h.2 with hn | ⟨g, cap, cur, hv, hg, rest⟩
  · exact .inl hn
  · exact .inr ⟨g, cap, cur, hv, Nat.le_trans hb hg, rest⟩
theorem info_line : (Tryd.prog.info? 31).map (fun i => (i.zero, i.size, i.bytes)) = some (some (.agg #[.string ⟨#[]⟩, .bool false, .int .i64 0, .int .i64 0, .slice none 0 0]), 5, 64) := by kernel_rfl
theorem info_box : (Tryd.prog.info? 85).map (fun i => (i.zero, i.size, i.bytes)) = some (some (.agg #[.int .i64 0, .int .i64 0, .int .i64 0, .int .i64 0, .string ⟨#[]⟩, .string ⟨#[]⟩, .slice none 0 0]), 7, 88) := by kernel_rfl
theorem info_int : (Tryd.prog.info? 3).map (fun i => (i.zero, i.size, i.bytes)) = some (some (.int .i64 0), 1, 8) := by kernel_rfl

set_option maxHeartbeats 1000000 in
theorem cloneI_any {P : Nat → Prop} {w : World} {A : Option Addr} {n c : Nat} {xs : List Value} (h : ReadsP P w 1 A n xs) (h1 : ∀ u ∈ xs, u.oneCell' = true) (hA : A = none → n = 0) (hn : n * 8 ≤ 140737488355328) :
    Calls Tryd.prog 79 #[.slice A n c] w fun e w' => ∃ A' c', e = .returned (.slice A' n c') ∧ w'.ownsRow w.heap.size 3 1 (.slice A' n c') n xs ∧ Below w.heap.size w w' := by
  obtain ⟨i0, hi0, hz0, hz1, hz2⟩ := info_parts info_int
  have heq := fun (w : World) (o : Option Addr) (n c : Nat) => Lib.run_eql_slice_nil (P := Tryd.prog) w 83 3 o n c 0 0 Tryd.underlying83
  rcases A with _ | a
  · obtain rfl := hA rfl
    have hx : xs = [] := List.eq_nil_of_length_eq_zero (by simpa using h.1)
    subst hx
    clear h h1 hA
    go_enter Tryd.func79, Tryd.ntmps79
    go_wp2_with fail
    go_ret
    exact ⟨none, 0, rfl, World.ownsRow_nil _ _ _ _, Below.refl _ _⟩
  · have HROW0 := Lib.hid (World.ownsRow_made (base := w.heap.size) (e := 3) (size := 1) w #[] 0 (Nat.le_refl _) (by unfold maxLen; omega) rfl)
    have HL := Lib.hid h.1
    have HONE := Lib.hid h1
    have HSRC : Hid (∀ j u, xs[j]? = some u → (w.alloc (.cells #[] 3)).cell? (a.add j) = some u) := by
      refine Lib.hid (fun j u hu => ?_)
      have hpos : 0 < n := by
        rcases Nat.eq_zero_or_pos n with h0 | h0
        · rw [h0] at h
          have := h.1
          have hx : xs = [] := List.eq_nil_of_length_eq_zero (by simpa using this)
          rw [hx] at hu; simp at hu
        · exact h0
      obtain ⟨b, off, e, _, hc⟩ := h.2 hpos
      injection e with e
      subst e
      rw [cell_add]
      exact (World.cell?_alloc_lt w _ ⟨b, off + j, none⟩ (World.block_lt_of_cell? w _ (hc j u hu))).trans (hc j u hu)
    have hn9 : n ≤ 140737488355328 := by omega
    clear h h1 hA
    go_enter Tryd.func79, Tryd.ntmps79
    go_wp2_with (at_builtin; refine wpList_append_own _ rfl _ _ 83 rfl w.heap.size 3 i0 _ 1 8 Tryd.underlying83 hi0 hz0 hz1 hz2 rfl (by decide) _ _ _ rfl HROW0.out a n c xs rfl HL.out HSRC.out HONE.out (by unfold maxLen; omega) (by omega) (by simp) ?_
                 intro v3 w4 hown3 hgrow3 _
                 obtain ⟨o3, cap3, rfl, _, _⟩ := row_shape hown3
                 rw [Nat.zero_add, List.nil_append] at hown3
                 have hg3 : (w.alloc (.cells #[] 3)).grownBy w4 (some w.heap.size) := hgrow3
                 have HB4 := Lib.hid (((Below.refl w.heap.size w).alloc (Nat.le_refl _) (.cells #[] 3)).grown hg3 (by simp) (fun g e => by cases e; exact Nat.le_refl _))
                 have HO3 := Lib.hid hown3
                 clear hgrow3 hg3 hown3)
    go_ret
    exact ⟨o3, cap3, by simp, by have := HO3.out; simpa using this, HB4.out⟩

set_option maxHeartbeats 1000000 in
theorem cloneB_any {P : Nat → Prop} {w : World} {A : Option Addr} {n c : Nat} {xs : List Value} (h : ReadsP P w 7 A n xs) (h1 : ∀ u ∈ xs, u.oneCell' = true) (hA : A = none → n = 0) (hn : n * 88 ≤ 140737488355328) :
    Calls Tryd.prog 78 #[.slice A n c] w fun e w' => ∃ A' c', e = .returned (.slice A' n c') ∧ w'.ownsRow w.heap.size 85 7 (.slice A' n c') n xs ∧ Below w.heap.size w w' := by
  obtain ⟨i0, hi0, hz0, hz1, hz2⟩ := info_parts info_box
  have heq := fun (w : World) (o : Option Addr) (n c : Nat) => Lib.run_eql_slice_nil (P := Tryd.prog) w 29 85 o n c 0 0 Tryd.underlying29
  rcases A with _ | a
  · obtain rfl := hA rfl
    have hx : xs = [] := List.eq_nil_of_length_eq_zero (by simpa using h.1)
    subst hx
    clear h h1 hA
    go_enter Tryd.func78, Tryd.ntmps78
    go_wp2_with fail
    go_ret
    exact ⟨none, 0, rfl, World.ownsRow_nil _ _ _ _, Below.refl _ _⟩
  · have HROW0 := Lib.hid (World.ownsRow_made (base := w.heap.size) (e := 85) (size := 7) w #[] 0 (Nat.le_refl _) (by unfold maxLen; omega) rfl)
    have HL := Lib.hid h.1
    have HONE := Lib.hid h1
    have HSRC : Hid (∀ j u, xs[j]? = some u → (w.alloc (.cells #[] 85)).cell? (a.add j) = some u) := by
      refine Lib.hid (fun j u hu => ?_)
      have hpos : 0 < n := by
        rcases Nat.eq_zero_or_pos n with h0 | h0
        · rw [h0] at h
          have := h.1
          have hx : xs = [] := List.eq_nil_of_length_eq_zero (by simpa using this)
          rw [hx] at hu; simp at hu
        · exact h0
      obtain ⟨b, off, e, _, hc⟩ := h.2 hpos
      injection e with e
      subst e
      rw [cell_add]
      exact (World.cell?_alloc_lt w _ ⟨b, off + j, none⟩ (World.block_lt_of_cell? w _ (hc j u hu))).trans (hc j u hu)
    have hn9 : n ≤ 140737488355328 := by omega
    clear h h1 hA
    go_enter Tryd.func78, Tryd.ntmps78
    go_wp2_with (at_builtin; refine wpList_append_own _ rfl _ _ 29 rfl w.heap.size 85 i0 _ 7 88 Tryd.underlying29 hi0 hz0 hz1 hz2 rfl (by decide) _ _ _ rfl HROW0.out a n c xs rfl HL.out HSRC.out HONE.out (by unfold maxLen; omega) (by omega) (by simp) ?_
                 intro v3 w4 hown3 hgrow3 _
                 obtain ⟨o3, cap3, rfl, _, _⟩ := row_shape hown3
                 rw [Nat.zero_add, List.nil_append] at hown3
                 have hg3 : (w.alloc (.cells #[] 85)).grownBy w4 (some w.heap.size) := hgrow3
                 have HB4 := Lib.hid (((Below.refl w.heap.size w).alloc (Nat.le_refl _) (.cells #[] 85)).grown hg3 (by simp) (fun g e => by cases e; exact Nat.le_refl _))
                 have HO3 := Lib.hid hown3
                 clear hgrow3 hg3 hown3)
    go_ret
    exact ⟨o3, cap3, by simp, by have := HO3.out; simpa using this, HB4.out⟩

set_option maxHeartbeats 1000000 in
theorem cloneL_any {P : Nat → Prop} {w : World} {A : Option Addr} {n c : Nat} {xs : List Value} (h : ReadsP P w 5 A n xs) (h1 : ∀ u ∈ xs, u.oneCell' = true) (hA : A = none → n = 0) (hn : n * 64 ≤ 140737488355328) :
    Calls Tryd.prog 72 #[.slice A n c] w fun e w' => ∃ A' c', e = .returned (.slice A' n c') ∧ w'.ownsRow w.heap.size 31 5 (.slice A' n c') n xs ∧ Below w.heap.size w w' := by
  obtain ⟨i0, hi0, hz0, hz1, hz2⟩ := info_parts info_line
  have heq := fun (w : World) (o : Option Addr) (n c : Nat) => Lib.run_eql_slice_nil (P := Tryd.prog) w 35 31 o n c 0 0 Tryd.underlying35
  rcases A with _ | a
  · obtain rfl := hA rfl
    have hx : xs = [] := List.eq_nil_of_length_eq_zero (by simpa using h.1)
    subst hx
    clear h h1 hA
    go_enter Tryd.func72, Tryd.ntmps72
    go_wp2_with fail
    go_ret
    exact ⟨none, 0, rfl, World.ownsRow_nil _ _ _ _, Below.refl _ _⟩
  · have HROW0 := Lib.hid (World.ownsRow_made (base := w.heap.size) (e := 31) (size := 5) w #[] 0 (Nat.le_refl _) (by unfold maxLen; omega) rfl)
    have HL := Lib.hid h.1
    have HONE := Lib.hid h1
    have HSRC : Hid (∀ j u, xs[j]? = some u → (w.alloc (.cells #[] 31)).cell? (a.add j) = some u) := by
      refine Lib.hid (fun j u hu => ?_)
      have hpos : 0 < n := by
        rcases Nat.eq_zero_or_pos n with h0 | h0
        · rw [h0] at h
          have := h.1
          have hx : xs = [] := List.eq_nil_of_length_eq_zero (by simpa using this)
          rw [hx] at hu; simp at hu
        · exact h0
      obtain ⟨b, off, e, _, hc⟩ := h.2 hpos
      injection e with e
      subst e
      rw [cell_add]
      exact (World.cell?_alloc_lt w _ ⟨b, off + j, none⟩ (World.block_lt_of_cell? w _ (hc j u hu))).trans (hc j u hu)
    have hn9 : n ≤ 140737488355328 := by omega
    clear h h1 hA
    go_enter Tryd.func72, Tryd.ntmps72
    go_wp2_with (at_builtin; refine wpList_append_own _ rfl _ _ 35 rfl w.heap.size 31 i0 _ 5 64 Tryd.underlying35 hi0 hz0 hz1 hz2 rfl (by decide) _ _ _ rfl HROW0.out a n c xs rfl HL.out HSRC.out HONE.out (by unfold maxLen; omega) (by omega) (by simp) ?_
                 intro v3 w4 hown3 hgrow3 _
                 obtain ⟨o3, cap3, rfl, _, _⟩ := row_shape hown3
                 rw [Nat.zero_add, List.nil_append] at hown3
                 have hg3 : (w.alloc (.cells #[] 31)).grownBy w4 (some w.heap.size) := hgrow3
                 have HB4 := Lib.hid (((Below.refl w.heap.size w).alloc (Nat.le_refl _) (.cells #[] 31)).grown hg3 (by simp) (fun g e => by cases e; exact Nat.le_refl _))
                 have HO3 := Lib.hid hown3
                 clear hgrow3 hg3 hown3)
    go_ret
    exact ⟨o3, cap3, by simp, by have := HO3.out; simpa using this, HB4.out⟩
end Go.Proofs.YtfobbcddedcepaaDoor
