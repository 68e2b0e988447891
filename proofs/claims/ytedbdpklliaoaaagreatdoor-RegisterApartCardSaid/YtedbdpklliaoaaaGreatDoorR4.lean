/- The document's book: put, where the register is there already. -/
import Derived.Test.YtedbdpklliaoaaaGreatDoorR3
import Derived.StillTailTactics
namespace Go.Proofs.YtedbdpklliaoaaaGreatDoor
open Go.RowKit Go.Shelf Go.Maps
set_option maxRecDepth 100000
def set4 (l : List Value) (i : Nat) (a b c d : Value) : List Value := (((l.set i a).set (i + 1) b).set (i + 2) c).set (i + 3) d
theorem row_set : ∀ (L : List Reg) (j : Nat) (r : Reg), j < L.length → rowOf (L.set j r) = set4 (rowOf L) (j * 4) (.string ⟨r.nm.toArray⟩) (.int .i64 r.v) (.int .i64 r.st) (.string ⟨r.fm.toArray⟩)
  | [], j, r, h => by simp at h
  | x :: t, 0, r, _ => by simp [rowOf, regCs, set4]
  | x :: t, j + 1, r, h => by
    have ih := row_set t j r (by simpa using h)
    rw [List.set_cons_succ]
    have e : ∀ (y : Reg) (u : List Reg), rowOf (y :: u) = regCs y ++ rowOf u := fun y u => by simp [rowOf]
    rw [e, e, ih]
    unfold set4
    have k : ∀ (i : Nat) (v : Value) (u : List Value), (regCs x ++ u).set (i + 4) v = regCs x ++ u.set i v := fun i v u => by simp [regCs]
    rw [show (j + 1) * 4 = j * 4 + 4 by omega, show j * 4 + 4 + 1 = (j * 4 + 1) + 4 by omega, show j * 4 + 4 + 2 = (j * 4 + 2) + 4 by omega, show j * 4 + 4 + 3 = (j * 4 + 3) + 4 by omega, k, k, k, k]
theorem take_set4 (l : List Value) (n i : Nat) (a b c d : Value) : (set4 l i a b c d).take n = set4 (l.take n) i a b c d := by
  unfold set4; simp only [List.take_set]
abbrev put4 (w : World) (g i : Nat) (a b c d : Value) : World := (((w.setCell ⟨g, i, none⟩ a).setCell ⟨g, i + 1, none⟩ b).setCell ⟨g, i + 2, none⟩ c).setCell ⟨g, i + 3, none⟩ d
theorem put4_kept (w : World) (g i : Nat) (a b c d : Value) : Kept (· = g) w (put4 w g i a b c d) := by
  refine ⟨rfl, rfl, rfl, by simp [put4, World.setCell], fun k _ hk => ?_⟩
  have hne : g ≠ k := fun e => hk e.symm
  simp [put4, World.setCell, Array.getElem?_modify, hne]
theorem RK.blk {B bx g n cap : Nat} {L : List Reg} {w : World} (h : RK B bx (.slice (some ⟨g, 0, none⟩) n cap) L w) : ∃ cur, w.heap[g]? = some (.cells cur 74 (0, 0)) ∧ L.length ≤ cap ∧ cap ≤ maxLen ∧ cur.size = cap * 4 ∧ cur.toList.take (L.length * 4) = rowOf L ∧ B ≤ g ∧ n = L.length := by
  rcases h.row.2 with ⟨hv, _⟩ | ⟨g', cap', cur, hv, hB, hh, h1, h2, h3, h4⟩
  · cases hv
  · obtain ⟨rfl, rfl, rfl⟩ : g = g' ∧ n = L.length ∧ cap = cap' := by simpa using hv
    exact ⟨cur, hh, h1, h2, h3, h4, hB, rfl⟩
theorem RK.store {B bx g n cap : Nat} {L : List Reg} {w : World} (h : RK B bx (.slice (some ⟨g, 0, none⟩) n cap) L w) (j : Nat) (hj : j < L.length) (r : Reg) :
    RK B bx (.slice (some ⟨g, 0, none⟩) n cap) (L.set j r) (put4 w g (j * 4) (.string ⟨r.nm.toArray⟩) (.int .i64 r.v) (.int .i64 r.st) (.string ⟨r.fm.toArray⟩)) := by
  obtain ⟨cur, hh, h1, h2, h3, h4, hB, rfl⟩ := h.blk
  have hne : g ≠ bx := fun e => h.ne (by rw [e]; rfl)
  refine ⟨?_, ⟨by rw [row_len], .inr ⟨g, cap, ⟨set4 cur.toList (j * 4) (.string ⟨r.nm.toArray⟩) (.int .i64 r.v) (.int .i64 r.st) (.string ⟨r.fm.toArray⟩)⟩, by simp, hB, ?_, by simpa using h1, h2, ?_, ?_⟩⟩, h.ne, h.bx⟩
  · have := (put4_kept w g (j * 4) (.string ⟨r.nm.toArray⟩) (.int .i64 r.v) (.int .i64 r.st) (.string ⟨r.fm.toArray⟩)).block bx h.lt (fun e => hne e.symm)
    rw [this]; exact h.cell
  · have e : ∀ (c : Array Value), c = ⟨c.toList⟩ := fun c => rfl
    simp [put4, World.setCell, Array.getElem?_modify, hh]
    apply Array.ext'
    simp [set4]
  · show (set4 cur.toList _ _ _ _ _).length = _
    unfold set4; simp [h3]
  · show (set4 cur.toList _ _ _ _ _).take _ = _
    rw [List.length_set, take_set4, h4, row_set L j r hj]
theorem RK.froz {B bx g n cap : Nat} {L : List Reg} {w : World} (h : RK B bx (.slice (some ⟨g, 0, none⟩) n cap) L w) (k : Nat) : w.frozen? ⟨g, k, none⟩ = false := by
  obtain ⟨cur, hh, _⟩ := h.blk
  simp [World.frozen?, hh]
theorem RK.drew {B bx : Nat} {v : Value} {L : List Reg} {w : World} (h : RK B bx v L w) : RK B bx v L w.drew := ⟨h.cell, h.row, h.ne, h.bx⟩
set_option maxHeartbeats 1000000 in
theorem rput_old {B bx : Nat} {v : Value} {L : List Reg} {w : World} (h : RK B bx v L w) (hA : Asc L) (hl : L.length ≤ 500) (r : Reg) (ht : hasS L r.nm = true) :
    Calls Tryz.prog 51 #[BP bx, .agg #[.string ⟨r.nm.toArray⟩, .int .i64 r.v, .int .i64 r.st, .string ⟨r.fm.toArray⟩]] w fun e w' => e = .returned (.int .i64 0) ∧ RK B bx v (putS L r) w' ∧ Kept (fun k => v.ownBlock = some k) w w' := by
  have HPUT := Lib.hid (put_ix_old L r hA ht)
  have HB0 := Lib.hid ((Below.refl w.heap.size w).alloc (Nat.le_refl _) (.cells #[.string ⟨r.nm.toArray⟩, .int .i64 r.v, .int .i64 r.st, .string ⟨r.fm.toArray⟩] 74))
  have HF := Lib.hid (rat_any (h.below HB0.out) hl ⟨r.nm.toArray⟩)
  rw [at_has L _ hA, show (⟨r.nm.toArray⟩ : ByteArray).data.toList = r.nm from rfl, ht] at HF
  have hi : ixS L r.nm < L.length := by
    have hg := get_at L _ hA ht
    rcases Nat.lt_or_ge (ixS L r.nm) L.length with h | h
    · exact h
    · rw [List.getElem?_eq_none h] at hg; cases hg
  obtain ⟨o, cap, rfl, hcap, hlc⟩ := h.val
  obtain ⟨g, rfl, _⟩ := h.at_ _ hi
  have H := Lib.hid h
  obtain ⟨j, hj⟩ : ∃ j, j = ixS L r.nm := ⟨_, rfl⟩
  rw [← hj] at HF HPUT hi
  rw [HPUT.out]
  have d1 : decide (j < L.length) = true := decide_eq_true (by omega)
  clear h ht hj HPUT
  obtain ⟨s, hs⟩ : ∃ s : ByteArray, s = ⟨r.nm.toArray⟩ := ⟨_, rfl⟩
  obtain ⟨f, hf⟩ : ∃ f : ByteArray, f = ⟨r.fm.toArray⟩ := ⟨_, rfl⟩
  have HST := Lib.hid (fun (W : World) (hW : RK B bx (.slice (some ⟨g, 0, none⟩) L.length cap) L W) => hW.store j hi r)
  rw [← hs, ← hf] at HST HF HB0 ⊢
  clear hs hf
  go_enter Tryz.func51, Tryz.ntmps51
  go_wp2_with fail
  refine HF.out.mono ?_
  rintro e w1 ⟨rfl, hb⟩
  have hb1 := HB0.out.trans (hb.mono HB0.out.size)
  have HB := Lib.hid hb1
  have h1 := H.out.below hb1
  have H1 := Lib.hid h1
  have hc := h1.c0
  have hz := fun k => h1.froz k
  obtain ⟨⟨c0, c1, c2, c3⟩, f0, f1, f2, f3⟩ := fresh_rr (show w1.heap[w.heap.size]? = some (.cells #[.string s, .int .i64 r.v, .int .i64 r.st, .string f] 74 (0, 0)) from (hb.block w.heap.size (by simp)).trans (heap_alloc_new _ _))
  obtain ⟨g', hg', a0, a1, a2, a3⟩ := h1.at_ j hi
  obtain rfl : g = g' := by simpa using hg'
  clear hb hb1 h1 hg'
  go_wp2_with fail
  go_still_tail 6, (by kernel_rfl)
  change wpList _ _ _ _ _ w1.drew
  go_wp2_with fail
  go_ret
  refine ⟨rfl, HST.out w1.drew H1.out.drew, ?_⟩
  exact (((Kept.of (S := (· = g)) HB.out).drew).trans (put4_kept w1.drew g (j * 4) _ _ _ _)).mono fun k hk => by rw [hk]; rfl
end Go.Proofs.YtedbdpklliaoaaaGreatDoor
