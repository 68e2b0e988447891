/- The document's book: put, whole. -/
import Derived.Test.YtedbdpklliaoaaaGreatDoorR5
import Derived.Laws.AppendOwnNone
namespace Go.Proofs.YtedbdpklliaoaaaGreatDoor
open Go.RowKit Go.Shelf Go.Maps
set_option maxRecDepth 100000
set_option maxHeartbeats 1000000 in
theorem rput_first {B bx : Nat} {w : World} (h : RK B bx (.slice none 0 0) [] w) (r : Reg) :
    Calls Tryz.prog 51 #[BP bx, .agg #[.string ⟨r.nm.toArray⟩, .int .i64 r.v, .int .i64 r.st, .string ⟨r.fm.toArray⟩]] w fun e w' => ∃ v', e = .returned (.int .i64 0) ∧ RK B bx v' [r] w' ∧ Kept (· = bx) w w' ∧ ∀ k, v'.ownBlock = some k → w.heap.size ≤ k := by
  have HB0 := Lib.hid ((Below.refl w.heap.size w).alloc (Nat.le_refl _) (.cells #[.string ⟨r.nm.toArray⟩, .int .i64 r.v, .int .i64 r.st, .string ⟨r.fm.toArray⟩] 74))
  have HF := Lib.hid (rat_any (h.below HB0.out) (by simp) ⟨r.nm.toArray⟩)
  rw [at_has [] _ List.Pairwise.nil, show (⟨r.nm.toArray⟩ : ByteArray).data.toList = r.nm from rfl, hasS_nil, show ixS [] r.nm = 0 from rfl] at HF
  have H := Lib.hid h
  clear h
  obtain ⟨i0, hi0, hz0, hz1, hz2⟩ := info_rr
  obtain ⟨s, hs⟩ : ∃ s : ByteArray, s = ⟨r.nm.toArray⟩ := ⟨_, rfl⟩
  obtain ⟨f, hf⟩ : ∃ f : ByteArray, f = ⟨r.fm.toArray⟩ := ⟨_, rfl⟩
  have HRC := Lib.hid (show rowOf [r] = [.string s, .int .i64 r.v, .int .i64 r.st, .string f] by rw [hs, hf]; rfl)
  rw [← hs, ← hf] at HF HB0 ⊢
  clear hs hf
  go_enter Tryz.func51, Tryz.ntmps51
  go_wp2_with fail
  refine HF.out.mono ?_
  rintro e w1 ⟨rfl, hb⟩
  have hb1 := HB0.out.trans (hb.mono HB0.out.size)
  have HB := Lib.hid hb1
  have h1 := H.out.below hb1
  have H1 := Lib.hid h1
  have hc := h1.c0
  have hbx := h1.lt
  have hbz := hb1.size
  have hblk : w1.heap[w.heap.size]? = some (.cells #[.string s, .int .i64 r.v, .int .i64 r.st, .string f] 74 (0, 0)) := (hb.block w.heap.size (by simp)).trans (heap_alloc_new _ _)
  have hw0 : w.heap.size < w1.heap.size := by have := hb.size; simp at this; omega
  have HBLK := Lib.hid hblk
  have HROW0 := Lib.hid (World.ownsRow_made (base := w1.heap.size) (e := 74) (size := 4) w1 #[] 0 (Nat.le_refl _) (by unfold maxLen; omega) rfl)
  obtain ⟨W2, hW2⟩ : ∃ W2, W2 = w1.alloc (.cells #[] 74) := ⟨_, rfl⟩
  have hz2' : w1.heap.size < W2.heap.size := by rw [hW2]; simp
  have K2 : Hid (Kept (fun _ => False) w1 W2) := Lib.hid (by rw [hW2]; exact (Kept.refl (fun _ => False) w1).alloc (.cells #[] 74))
  obtain ⟨⟨c0, c1, c2, c3⟩, _⟩ := fresh_rr ((K2.out.block w.heap.size hw0 (fun h => h)).trans HBLK.out)
  have HSRC2 := Lib.hid (cell_four_new W2 (.string s) (.int .i64 r.v) (.int .i64 r.st) (.string f))
  have HO1A : Hid ((W2.alloc (.cells #[.string s, .int .i64 r.v, .int .i64 r.st, .string f] 74)).ownsRow w1.heap.size 74 4 (.slice (some ⟨w1.heap.size, 0, none⟩) 0 0) 0 []) := Lib.hid ((show W2.ownsRow w1.heap.size 74 4 (.slice (some ⟨w1.heap.size, 0, none⟩) 0 0) 0 [] from by rw [hW2]; exact HROW0.out).alloc _)
  have HW2 := Lib.hid hW2
  rw [show W2.heap.size = w1.heap.size + 1 by rw [hW2]; simp] at HSRC2
  rw [hW2] at c0 c1 c2 c3 HSRC2 HO1A
  clear hb hb1 h1 hblk hW2
  go_wp2_with (first
    | (at_builtin; refine wpList_append_own_none rfl _ _ 27 rfl w1.heap.size 74 i0 4 Tryz.underlying27 hi0 _ _ _ rfl HROW0.out rfl ?_)
    | (at_builtin; refine wpList_append_own _ rfl _ _ 27 rfl w1.heap.size 74 i0 ZR 4 48 Tryz.underlying27 hi0 hz0 hz1 hz2 rfl (by decide) _ _ _ rfl HO1A.out ⟨w1.heap.size + 1, 0, none⟩ 1 1 [.string s, .int .i64 r.v, .int .i64 r.st, .string f] rfl rfl HSRC2.out (fun u hu => by simp at hu; rcases hu with rfl | rfl | rfl | rfl <;> rfl) (by unfold maxLen; omega) (by omega) (by simp; omega) ?_
       intro v2 w3 hown2 hgrow2 _
       obtain ⟨o3, cap3, rfl⟩ := row_shape hown2
       have hg2 : ((w1.alloc (.cells #[] 74)).alloc (.cells #[.string s, .int .i64 r.v, .int .i64 r.st, .string f] 74)).grownBy w3 (some w1.heap.size) := hgrow2
       have K3 := Lib.hid ((((Kept.refl (fun _ => False) w1).alloc (.cells #[] 74)).alloc (.cells #[.string s, .int .i64 r.v, .int .i64 r.st, .string f] 74)).grownNew hg2 (fun g e => by cases e; exact Nat.le_refl _))
       have HO2 := Lib.hid hown2
       have hb4 := (K3.out.block bx hbx (fun h => h)).trans H1.out.cell
       have HB4 := Lib.hid hb4
       have hc4 : w3.cell? ⟨bx, 0, none⟩ = some (.slice none 0 0) := by simp [World.cell?, hb4]
       have hf4 : w3.frozen? ⟨bx, 0, none⟩ = false := by simp [World.frozen?, hb4]
       clear hgrow2 hg2 hown2 hb4)
    | (at_builtin; refine wpList_append_own_none rfl _ _ 27 rfl w1.heap.size 74 i0 4 Tryz.underlying27 hi0 _ _ _ rfl HO2.out rfl ?_))
  go_ret
  have hle := H.out.bx
  have hfar := fun k hk => (HO2.out.lt k hk).1
  refine ⟨_, rfl, ⟨?_, ?_, fun e => ?_, H.out.bx⟩, ?_, fun k hk => Nat.le_trans hbz (hfar k hk)⟩
  · simp [World.setCell, Array.getElem?_modify, HB4.out]
  · rw [HRC.out]
    exact ownsRow_base (ownsRow_kept HO2.out (setCell_kept w3 bx 0 _) (fun k hk e => by have := hfar k hk; omega)) (by omega)
  · have := hfar bx e; omega
  · exact ((Kept.of (S := (· = bx)) HB.out).trans (K3.out.mono (fun k h => h.elim))).trans (setCell_kept w3 bx 0 _)
def ptS (L : List Reg) (r : Reg) : Int × List Reg := if hasS L r.nm = false ∧ L.length = 500 then (9, L) else (0, putS L r)
theorem rput_any {B bx : Nat} {v : Value} {L : List Reg} {w : World} (h : RK B bx v L w) (hA : Asc L) (hl : L.length ≤ 500) (r : Reg) :
    Calls Tryz.prog 51 #[BP bx, regX r] w fun e w' => ∃ v', e = .returned (.int .i64 (ptS L r).1) ∧ RK B bx v' (ptS L r).2 w' ∧ Kept (fun k => k = bx ∨ v.ownBlock = some k) w w' ∧ ∀ k, v'.ownBlock = some k → v.ownBlock = some k ∨ w.heap.size ≤ k := by
  unfold ptS
  cases ht : hasS L r.nm with
  | true =>
    rw [if_neg (by simp)]
    exact (rput_old h hA hl r ht).mono fun e w' ⟨he, hr, hk⟩ => ⟨v, he, hr, hk.mono (fun k h => .inr h), fun k hk => .inl hk⟩
  | false =>
    by_cases h5 : L.length = 500
    · rw [if_pos ⟨rfl, h5⟩]
      exact (rput_full h hA h5 r ht).mono fun e w' ⟨he, hb⟩ => ⟨v, he, h.below hb, .of hb, fun k hk => .inl hk⟩
    · rw [if_neg (by rintro ⟨_, h⟩; exact h5 h)]
      rcases h.row.2 with ⟨hv, hn⟩ | ⟨g, cap, cur, hv, _⟩
      · have hL : L = [] := List.eq_nil_of_length_eq_zero hn
        subst hL
        rw [hv] at h
        exact (rput_first h r).mono fun e w' ⟨v', he, hr, hk, hf⟩ => ⟨v', he, hr, hk.mono (fun k h => .inl h), fun k hk => .inr (hf k hk)⟩
      · rw [hv] at h
        exact (rput_new h hA (by omega) r ht).mono fun e w' ⟨v', he, hr, hk, hf⟩ => ⟨v', he, hr, hk.mono (fun k h => .inl h), fun k hk => .inr (hf k hk)⟩
end Go.Proofs.YtedbdpklliaoaaaGreatDoor
