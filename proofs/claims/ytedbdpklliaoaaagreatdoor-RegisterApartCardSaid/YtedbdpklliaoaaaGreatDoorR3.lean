/- The document's book: Has, get. -/
import Derived.Test.YtedbdpklliaoaaaGreatDoorR2
namespace Go.Proofs.YtedbdpklliaoaaaGreatDoor
open Go.RowKit Go.Shelf Go.Maps
set_option maxRecDepth 100000
theorem ownsRow_kept {B n : Nat} {v : Value} {xs : List Value} {w w' : World} {S : Nat → Prop} (h : w.ownsRow B 74 4 v n xs) (k : Kept S w w') (hS : ∀ g, v.ownBlock = some g → ¬ S g) : w'.ownsRow B 74 4 v n xs := by
  refine ⟨h.1, ?_⟩
  rcases h.2 with hn | ⟨g, cap, cur, hv, hb, hg, rest⟩
  · exact .inl hn
  · refine .inr ⟨g, cap, cur, hv, hb, ?_, rest⟩
    have hlt : g < w.heap.size := by
      rcases Nat.lt_or_ge g w.heap.size with h | h
      · exact h
      · rw [Array.getElem?_eq_none h] at hg; cases hg
    rw [k.block g hlt (hS g (by rw [hv]; rfl))]; exact hg
theorem RK.lt {B bx : Nat} {v : Value} {L : List Reg} {w : World} (h : RK B bx v L w) : bx < w.heap.size := by
  rcases Nat.lt_or_ge bx w.heap.size with h' | h'
  · exact h'
  · have := h.cell; rw [Array.getElem?_eq_none h'] at this; cases this
theorem RK.kept {B bx : Nat} {v : Value} {L : List Reg} {w w' : World} {S : Nat → Prop} (h : RK B bx v L w) (k : Kept S w w') (h1 : ¬ S bx) (hS : ∀ g, v.ownBlock = some g → ¬ S g) : RK B bx v L w' :=
  ⟨(k.block bx h.lt h1).trans h.cell, ownsRow_kept h.row k hS, h.ne, h.bx⟩
theorem RK.below {B bx : Nat} {v : Value} {L : List Reg} {w w' : World} (h : RK B bx v L w) (k : Below w.heap.size w w') : RK B bx v L w' :=
  h.kept (Kept.of (S := fun _ => False) k) (fun h => h) (fun _ _ h => h)
theorem rHas_any {B bx : Nat} {v : Value} {L : List Reg} {w : World} (h : RK B bx v L w) (hA : Asc L) (hl : L.length ≤ 500) (s : ByteArray) : Calls Tryz.prog 53 #[BP bx, .string s] w fun e w' => e = .returned (.bool (hasS L s.data.toList)) ∧ Below w.heap.size w w' := by
  have HF := Lib.hid (rat_any h hl s)
  rw [at_has L s.data.toList hA] at HF
  clear h
  go_enter Tryz.func53, Tryz.ntmps53
  go_wp2_with fail
  refine HF.out.mono ?_
  rintro e w1 ⟨rfl, hb⟩
  have HB := Lib.hid hb
  clear hb
  go_wp2_with fail
  go_ret
  exact ⟨rfl, HB.out⟩
theorem fresh_rr {b : Nat} {x y z u : Value} {w : World} (h : w.heap[b]? = some (.cells #[x, y, z, u] 74 (0, 0))) : (w.cell? ⟨b, 0, none⟩ = some x ∧ w.cell? ⟨b, 1, none⟩ = some y ∧ w.cell? ⟨b, 2, none⟩ = some z ∧ w.cell? ⟨b, 3, none⟩ = some u) ∧ (w.frozen? ⟨b, 0, none⟩ = false ∧ w.frozen? ⟨b, 1, none⟩ = false ∧ w.frozen? ⟨b, 2, none⟩ = false ∧ w.frozen? ⟨b, 3, none⟩ = false) := by
  simp [World.cell?, World.frozen?, h]
def regX (r : Reg) : Value := .agg #[.string ⟨r.nm.toArray⟩, .int .i64 r.v, .int .i64 r.st, .string ⟨r.fm.toArray⟩]
theorem rget_end {a : Act} {W' : World} {g : Nat} {x y z u : Value} {Q : Ending → World → Prop} (hd : a.defers = []) (h4 : a.tmps.getD 4 undef = .pointer (some ⟨g, 0, none⟩))
    (hg : W'.heap[g]? = some (.cells #[x, y, z, u] 74 (0, 0))) (hQ : Q (.returned (.agg #[x, y, z, u])) W') : bodyPost Tryz.prog Tryz.f50 Q Exit.ret a W' := by
  have h4' : a.tmps[4]?.getD undef = .pointer (some ⟨g, 0, none⟩) := by simpa using h4
  refine bodyPost_ret (v := .agg #[x, y, z, u]) ?_ hd hQ
  obtain ⟨⟨c0, c1, c2, c3⟩, _⟩ := fresh_rr hg
  simp [results, Tryz.results50, h4', go_sem, c0, c1, c2, c3]
set_option maxHeartbeats 1000000 in
theorem rget_any {B bx : Nat} {v : Value} {L : List Reg} {w : World} (h : RK B bx v L w) (hA : Asc L) (hl : L.length ≤ 500) (s : ByteArray) : Calls Tryz.prog 50 #[BP bx, .string s] w fun e w' => e = .returned (regX (getS L s.data.toList)) ∧ Below w.heap.size w w' := by
  have HB0 := Lib.hid ((Below.refl w.heap.size w).alloc (Nat.le_refl _) (.cells #[.string ⟨#[]⟩, .int .i64 0, .int .i64 0, .string ⟨#[]⟩] 74))
  have HF := Lib.hid (rat_any (h.below HB0.out) hl s)
  rw [at_has L s.data.toList hA] at HF
  cases ht : hasS L s.data.toList with
  | false =>
    rw [ht] at HF
    rw [getS_of_not L _ ht]
    clear h
    go_enter Tryz.func50, Tryz.ntmps50
    go_wp2_with fail
    refine HF.out.mono ?_
    rintro e w1 ⟨rfl, hb⟩
    have HB := Lib.hid (HB0.out.trans (hb.mono HB0.out.size))
    have HBLK := Lib.hid (show w1.heap[w.heap.size]? = some (.cells #[.string ⟨#[]⟩, .int .i64 0, .int .i64 0, .string ⟨#[]⟩] 74 (0, 0)) from (hb.block w.heap.size (by simp)).trans (heap_alloc_new _ _))
    obtain ⟨⟨c0, c1, c2, c3⟩, f0, f1, f2, f3⟩ := fresh_rr HBLK.out
    clear hb
    go_wp2_with fail
    refine rget_end rfl rfl ?_ ⟨rfl, ?_⟩
    · simp [World.setCell, Array.getElem?_modify, HBLK.out]
    · repeat (with_reducible refine Below.setCell ?_ (Nat.le_refl w.heap.size) _)
      exact HB.out
  | true =>
    rw [ht] at HF
    have hg := get_at L _ hA ht
    have hi : ixS L s.data.toList < L.length := by
      rcases Nat.lt_or_ge (ixS L s.data.toList) L.length with h | h
      · exact h
      · rw [List.getElem?_eq_none h] at hg; cases hg
    rw [List.getElem?_eq_getElem hi] at hg
    have hg' := Option.some.inj hg
    obtain ⟨o, cap, rfl, hcap, hlc⟩ := h.val
    have H := Lib.hid h
    clear h
    obtain ⟨j, hj⟩ : ∃ j, j = ixS L s.data.toList := ⟨_, rfl⟩
    have HX : Hid (∀ W, Below w.heap.size w W → ∃ g, o = some ⟨g, 0, none⟩ ∧ W.cell? ⟨g, j * 4, none⟩ = some (.string ⟨(getS L s.data.toList).nm.toArray⟩) ∧ W.cell? ⟨g, j * 4 + 1, none⟩ = some (.int .i64 (getS L s.data.toList).v) ∧ W.cell? ⟨g, j * 4 + 2, none⟩ = some (.int .i64 (getS L s.data.toList).st) ∧ W.cell? ⟨g, j * 4 + 3, none⟩ = some (.string ⟨(getS L s.data.toList).fm.toArray⟩)) := Lib.hid fun W hW => by
      have := (H.out.below hW).at_ _ hi
      rw [hg', ← hj] at this; exact this
    have d1 : decide (j < L.length) = true := decide_eq_true (by omega)
    have hjL : j < L.length := by omega
    rw [← hj] at HF
    clear hg hg' hi hj
    generalize getS L s.data.toList = r at HX ⊢
    clear ht
    have hbk := fun W hW => (H.out.below (w' := W) hW).c0
    have HBK := Lib.hid hbk
    clear hbk
    go_enter Tryz.func50, Tryz.ntmps50
    go_wp2_with fail
    refine HF.out.mono ?_
    rintro e w1 ⟨rfl, hb⟩
    have hb1 := HB0.out.trans (hb.mono HB0.out.size)
    have HB := Lib.hid hb1
    have HBLK := Lib.hid (show w1.heap[w.heap.size]? = some (.cells #[.string ⟨#[]⟩, .int .i64 0, .int .i64 0, .string ⟨#[]⟩] 74 (0, 0)) from (hb.block w.heap.size (by simp)).trans (heap_alloc_new _ _))
    obtain ⟨⟨z0, z1, z2, z3⟩, f0, f1, f2, f3⟩ := fresh_rr HBLK.out
    have hc := HBK.out w1 hb1
    obtain ⟨g, rfl, c0, c1, c2, c3⟩ := HX.out w1 hb1
    clear hb hb1
    go_wp2_with fail
    refine rget_end rfl rfl ?_ ⟨rfl, ?_⟩
    · simp [World.setCell, Array.getElem?_modify, HBLK.out]
    · repeat (with_reducible refine Below.setCell ?_ (Nat.le_refl w.heap.size) _)
      exact HB.out
end Go.Proofs.YtedbdpklliaoaaaGreatDoor
