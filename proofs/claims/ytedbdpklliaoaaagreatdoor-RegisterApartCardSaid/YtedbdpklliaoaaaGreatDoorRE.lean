/- The document's book: Copy. -/
import Derived.Test.YtedbdpklliaoaaaGreatDoorRD
namespace Go.Proofs.YtedbdpklliaoaaaGreatDoor
open Go.RowKit Go.Shelf Go.Maps
set_option maxRecDepth 100000
set_option maxHeartbeats 1000000 in
theorem rCopy_any {B bx : Nat} {v : Value} {L : List Reg} {w : World} (h : RK B bx v L w) (hl : L.length ≤ 500) :
    Calls Tryz.prog 12 #[BP bx] w fun e w' => ∃ cx v', e = .returned (BP cx) ∧ RK w.heap.size cx v' L w' ∧ Below w.heap.size w w' := by
  obtain ⟨i0, hi0, hz0, hz1, hz2⟩ := info_rr
  have H := Lib.hid h
  have hc := h.c0
  have hbx := h.lt
  have HROW0 := Lib.hid (World.ownsRow_made (base := w.heap.size) (e := 74) (size := 4) w #[] 0 (Nat.le_refl _) (by unfold maxLen; omega) rfl)
  have HNL := Lib.hid (row_len L)
  rcases h.row.2 with ⟨hv, hn⟩ | ⟨g, cap, cur, hv, _⟩
  · subst hv
    have hL : L = [] := List.eq_nil_of_length_eq_zero hn
    subst hL
    clear h hn
    go_enter Tryz.func12, Tryz.ntmps12
    go_wp2_with (at_builtin; refine wpList_append_own_none rfl _ _ 27 rfl w.heap.size 74 i0 4 Tryz.underlying27 hi0 _ _ _ rfl HROW0.out rfl ?_)
    go_ret
    refine ⟨_, _, rfl, ⟨?_, HROW0.out.alloc _, fun e => ?_, by simp⟩, ((Below.refl w.heap.size w).alloc (Nat.le_refl _) _).alloc (by simp) _⟩
    · have := heap_alloc_new (w.alloc (.cells #[] 74)) (.cells #[.slice (some ⟨w.heap.size, 0, none⟩) 0 0] 29)
      simpa using this
    · simp [Value.ownBlock] at e
  · subst hv
    have HSRC := Lib.hid (fun (j : Nat) (u : Value) (hu : (rowOf L)[j]? = some u) => (H.out.row.alloc (.cells #[] 74)).cells (g := g) rfl j u hu)
    clear h
    go_enter Tryz.func12, Tryz.ntmps12
    go_wp2_with (at_builtin; refine wpList_append_own _ rfl _ _ 27 rfl w.heap.size 74 i0 ZR 4 48 Tryz.underlying27 hi0 hz0 hz1 hz2 rfl (by decide) _ _ _ rfl HROW0.out ⟨g, 0, none⟩ L.length cap (rowOf L) rfl HNL.out HSRC.out (fun u hu => row_one L u hu) (by unfold maxLen; omega) (by omega) (by simp) ?_
                 intro v3 w4 hown3 hgrow3 _
                 obtain ⟨o3, cap3, rfl⟩ := row_shape hown3
                 rw [Nat.zero_add, List.nil_append] at hown3
                 have hg3 : (w.alloc (.cells #[] 74)).grownBy w4 (some w.heap.size) := hgrow3
                 have K4 := Lib.hid (((Kept.refl (fun _ => False) w).alloc (.cells #[] 74)).grownNew hg3 (fun g e => by cases e; exact Nat.le_refl _))
                 have HO3 := Lib.hid hown3
                 clear hgrow3 hg3 hown3)
    go_ret
    have hz := K4.out.size
    refine ⟨_, _, rfl, ⟨heap_alloc_new _ _, HO3.out.alloc _, fun e => ?_, hz⟩, (K4.out.to (Nat.le_refl _) (fun _ h => h.elim)).alloc hz _⟩
    have := (HO3.out.lt _ e).2
    omega
end Go.Proofs.YtedbdpklliaoaaaGreatDoor
