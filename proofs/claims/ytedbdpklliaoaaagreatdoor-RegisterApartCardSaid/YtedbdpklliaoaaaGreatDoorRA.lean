/- The document's book: Remove. -/
import Derived.Test.YtedbdpklliaoaaaGreatDoorR9
namespace Go.Proofs.YtedbdpklliaoaaaGreatDoor
open Go.RowKit Go.Shelf Go.Maps
set_option maxRecDepth 100000
set_option maxHeartbeats 2000000 in
theorem rRemove_hit {B bx g n cap : Nat} {L : List Reg} {w : World} (h : RK B bx (.slice (some ⟨g, 0, none⟩) n cap) L w) (hA : Asc L) (hl : L.length ≤ 500) (s : ByteArray) (hn : okNm s.data.toList = true) (ht : hasS L s.data.toList = true) :
    Calls Tryz.prog 30 #[BP bx, .string s] w fun e w' => ∃ v', e = .returned (.int .i64 0) ∧ RK B bx v' (delS L s.data.toList) w' ∧ Kept (· = bx) w w' ∧ ∀ k, v'.ownBlock = some k → w.heap.size ≤ k := by
  have HDEL := Lib.hid (del_ix L s.data.toList hA ht)
  have HN := Lib.hid (rIsName_any s w)
  rw [hn] at HN
  have HF := Lib.hid (rat_any h hl s)
  rw [at_has L _ hA, ht] at HF
  have hi : ixS L s.data.toList < L.length := by
    have hg := get_at L _ hA ht
    rcases Nat.lt_or_ge (ixS L s.data.toList) L.length with h | h
    · exact h
    · rw [List.getElem?_eq_none h] at hg; cases hg
  obtain ⟨cur, hcur, hlc, hcm, hcs, hrow, hB, rfl⟩ := h.blk
  have hcap : (cap : Int) ≤ 9223372036854775807 := by unfold maxLen at hcm; omega
  have H := Lib.hid h
  obtain ⟨i, hi'⟩ : ∃ i, i = ixS L s.data.toList := ⟨_, rfl⟩
  rw [← hi'] at HF HDEL hi
  rw [HDEL.out]
  clear h ht hi' HDEL hcur hcs hrow hcm hn
  obtain ⟨i0, hi0, hz0, hz1, hz2⟩ := info_rr
  have hile : i ≤ L.length := by omega
  have hile1 : i + 1 ≤ L.length := by omega
  have hi5 : i < 500 := by omega
  go_enter Tryz.func30, Tryz.ntmps30
  go_wp2_with fail
  refine HN.out.mono ?_
  rintro e w0 ⟨rfl, rfl⟩
  go_wp2_with fail
  refine HF.out.mono ?_
  rintro e w1 ⟨rfl, hb⟩
  have HB := Lib.hid hb
  have h1 := H.out.below hb
  have H1 := Lib.hid h1
  have hc := h1.c0
  have hbx := h1.lt
  have hbz := hb.size
  have HROW0 := Lib.hid (World.ownsRow_made (base := w1.heap.size) (e := 74) (size := 4) w1 #[] 0 (Nat.le_refl _) (by unfold maxLen; omega) rfl)
  have HSRC := Lib.hid (fun (j : Nat) (u : Value) (hu : ((rowOf L).take (i * 4))[j]? = some u) => (H1.out.row.alloc (.cells #[] 74)).cells (g := g) rfl j u (by rw [List.getElem?_take] at hu; split at hu; exact hu; cases hu))
  have HNL := Lib.hid (show ((rowOf L).take (i * 4)).length = i * 4 by rw [List.length_take, row_len]; omega)
  have HND := Lib.hid (show ((rowOf L).drop ((i + 1) * 4)).length = (L.length - (i + 1)) * 4 by rw [List.length_drop, row_len]; omega)
  clear hb h1
  go_wp2_with (first
    | (at_builtin; refine wpList_append_own _ rfl _ _ 27 rfl w1.heap.size 74 i0 ZR 4 48 Tryz.underlying27 hi0 hz0 hz1 hz2 rfl (by decide) _ _ _ rfl HROW0.out ⟨g, 0, none⟩ i cap ((rowOf L).take (i * 4)) rfl HNL.out HSRC.out (fun u hu => row_one L u (List.mem_of_mem_take hu)) (by unfold maxLen; omega) (by omega) (by simp) ?_
       intro v1 w2 hown1 hgrow1 _
       have hg1 : (w1.alloc (.cells #[] 74)).grownBy w2 (some w1.heap.size) := hgrow1
       have hz2' : w1.heap.size < w2.heap.size := by have := hg1.size; simp at this; omega
       have K2 := Lib.hid (((Kept.refl (fun _ => False) w1).alloc (.cells #[] 74)).grownNew hg1 (fun g e => by cases e; exact Nat.le_refl _))
       have HO2 := Lib.hid hown1
       have hcr2 : RK B bx (.slice (some ⟨g, 0, none⟩) L.length cap) L w2 := H1.out.kept K2.out (fun h => h) (fun _ _ h => h)
       have H2 := Lib.hid hcr2
       have hc2 := hcr2.c0
       have hbx2 := hcr2.lt
       clear hgrow1 hg1 hown1 hcr2)
    | (at_builtin; refine wpList_append_if rfl _ _ 27 rfl w1.heap.size 74 i0 ZR 4 48 Tryz.underlying27 hi0 hz0 hz1 hz2 rfl (by decide) _ _ _ rfl HO2.out cap (i + 1) ⟨g, 0, none⟩ ⟨g, (i + 1) * 4, none⟩ (L.length - (i + 1)) (cap - (i + 1)) ((rowOf L).drop ((i + 1) * 4)) rfl HND.out (src_tail H2.out hile1 hlc) (fun u hu => row_one L u (List.mem_of_mem_drop hu)) (by unfold maxLen; omega) (by omega) (by omega) ?_
       intro v3 w4 hown3 hgrow3
       obtain ⟨o3, cap3, rfl⟩ := row_shape hown3
       rw [Nat.zero_add] at hown3
       have hg3 : w2.grownBy w4 v1.ownBlock := hgrow3
       have K4 := Lib.hid (K2.out.grownNew hg3 (fun g e => (HO2.out.lt g e).1))
       have HO3 := Lib.hid hown3
       have hb4 := (K4.out.block bx hbx (fun h => h)).trans H1.out.cell
       have HB4 := Lib.hid hb4
       have hc4 : w4.cell? ⟨bx, 0, none⟩ = some (.slice (some ⟨g, 0, none⟩) L.length cap) := by simp [World.cell?, hb4]
       have hf4 : w4.frozen? ⟨bx, 0, none⟩ = false := by simp [World.frozen?, hb4]
       clear hgrow3 hg3 hown3 hb4))
  all_goals
    go_ret
    have hle := H.out.bx
    have hfar := fun k hk => (HO3.out.lt k hk).1
    refine ⟨rfl, _, ⟨?_, ?_, fun e => ?_, H.out.bx⟩, ?_, fun k hk => Nat.le_trans hbz (hfar k hk)⟩
    · simp [World.setCell, Array.getElem?_modify, HB4.out]
    · have e1 : (L.take i ++ L.drop (i + 1)).length = i + (L.length - (i + 1)) := by simp; omega
      have e2 : rowOf (L.take i ++ L.drop (i + 1)) = [] ++ (rowOf L).take (i * 4) ++ (rowOf L).drop ((i + 1) * 4) := by
        rw [row_app, row_take, row_drop]; simp
      rw [e1, e2]
      exact ownsRow_base (ownsRow_kept HO3.out (setCell_kept w4 bx 0 _) (fun k hk e => by have := hfar k hk; omega)) (by omega)
    · have := hfar bx e; omega
    · exact ((Kept.of (S := (· = bx)) HB.out).trans (K4.out.mono (fun k h => h.elim))).trans (setCell_kept w4 bx 0 _)
end Go.Proofs.YtedbdpklliaoaaaGreatDoor
