/- Next. -/
import Derived.Test.YtfobbcddedcepaaDoorB9
namespace Go.Proofs.YtfobbcddedcepaaDoor
open Go.RowKit
set_option maxRecDepth 100000
set_option linter.unusedSimpArgs false
set_option linter.unusedVariables false
abbrev bump (f : Fr) : Fr := { f with tk := f.tk + 1 }
abbrev bumpR (r : RF) : RF := { r with tk := r.tk + 1 }
def nextF (F : List Fr) : Nat → List Fr
  | 0 => []
  | k + 1 => match F[k]? with
    | some f => (F.take (k + 1)).set k (bump f)
    | none => F
/-- Next in plain words. -/
def nextS (F : List Fr) : (Ln × Int) × List Fr := (peekS F, nextF F (topS hasMore F))
structure NxP (sb g : Nat) (R : (Ln × Int) × List Fr) (w : World) (e : Ending) (w' : World) : Prop where
  e : ∃ r, e = .returned (.tuple #[lvA r, .int .i64 R.1.2]) ∧ RlIs (Tg w') w' r R.1.1
  st : ∃ g', CS sb g' R.2 w' ∧ Dl sb g g' w w'
/-- Next puts nothing into the frames: what they read is what they read before. -/
def NxO (sb g : Nat) (F : List Fr) (rs : List RF) (R : List Fr) (w w' : World) : Prop :=
  ∃ g' c' rs', CK sb g' c' R rs' w' ∧ Dl sb g g' w w' ∧ ∀ (P : TypeId → Nat → Prop) (w0 : World), All2 (RfIs P w0) rs F → All2 (RfIs P w0) rs' R
theorem CK.setF {sb g c j : Nat} {F : List Fr} {rs : List RF} {w w' : World} {r : RF} {f f' : Fr} {k : Nat} {u : Value} {r' : RF} (h : CK sb g c F rs w) (hr : rs[j]? = some r) (hf : F[j]? = some f) (hk : k < 5) (hu : rfCs r' = (rfCs r).set k u) (he : w' = w.setCell ⟨g, j * 5 + k, none⟩ u)
    (hi : RfIs (Tg w) w r' f') (hok : okFr f') (hst : j + 1 < F.length → stays f' = true) :
    CK sb g c (F.set j f') (rs.set j r') w' ∧ Kept (fun b => b = sb ∨ b = g) w w' := by
  subst he
  have hK : Kept (fun b => b = sb ∨ b = g) w (w.setCell ⟨g, j * 5 + k, none⟩ u) := (Kept.refl _ w).setCell (p := ⟨g, j * 5 + k, none⟩) (.inr rfl) _
  have hdt := Dt.st h hK
  have hjl := (List.getElem?_eq_some_iff.1 hf).1
  have hrow := own_set h.row (j * 5 + k) (by omega) u
  rw [← fm_set rf_len rs j k r r' u hr hk hu] at hrow
  refine ⟨⟨?_, ?_, ⟨by simp [h.rl], fun i a b ha hb => ?_⟩, fun x hx => ?_, by rw [List.length_set]; exact h.len, fun i x hi' hx => ?_⟩, hK⟩
  · rw [List.length_set]; exact (Below.heap_setCell _ _ _ _ h.ne).trans h.cell
  · rw [List.length_set]; exact hrow
  · rw [List.getElem?_set] at ha hb
    by_cases e : j = i
    · subst e
      rw [if_pos rfl, if_pos (by rw [h.rl]; exact hjl)] at ha
      rw [if_pos rfl, if_pos hjl] at hb
      rw [← Option.some.inj ha, ← Option.some.inj hb]
      exact hi.dt hdt
    · rw [if_neg e] at ha hb
      exact (h.fr.2 i a b ha hb).dt hdt
  · rcases List.mem_or_eq_of_mem_set hx with hx | hx
    · exact h.ok x hx
    · rw [hx]; exact hok
  · rw [List.length_set] at hi'
    rw [List.getElem?_set] at hx
    by_cases e : j = i
    · subst e
      rw [if_pos rfl, if_pos hjl] at hx
      rw [← Option.some.inj hx]
      exact hst hi'
    · rw [if_neg e] at hx
      exact h.inv i x hi' hx
set_option maxHeartbeats 1000000 in
theorem next0_any {sb g c : Nat} {F : List Fr} {rs : List RF} {w : World} (h : CK sb g c F rs w) (hk : topS hasMore F = 0) : Calls Tryd.prog 17 #[BP sb] w fun e w' => NxP sb g (nextS F) w e w' ∧ NxO sb g F rs (nextS F).2 w w' := by
  have hb0 := (Below.refl w.heap.size w).alloc (Nat.le_refl _) (.cells #[.string ⟨#[]⟩, .bool false, .int .i64 0, .int .i64 0, .slice none 0 0] 31)
  have h0 := h.below hb0
  have hm := made_any h0
  have ht := top_hasMore h0
  unfold TopP at ht
  rw [h0.top q_more, hk] at ht
  have hP : nextS F = ((Ln0, 3), []) := by unfold nextS peekS; rw [hk]; rfl
  have HM := Lib.hid hm
  have HP := Lib.hid hP
  have HB0 := Lib.hid hb0
  have H := Lib.hid h
  have HX0 := Lib.hid (heap_alloc_new w (.cells #[.string ⟨#[]⟩, .bool false, .int .i64 0, .int .i64 0, .slice none 0 0] 31))
  rw [show ((0 : Nat) : Int) - 1 = -1 by rfl] at ht
  generalize gotR rs 0 = r at ht
  have HT := Lib.hid ht
  have d1 : decide ((-1 : Int) < 0) = true := by decide
  clear ht hP hb0 h0 h hm hk
  go_enter Tryd.func17, Tryd.ntmps17
  go_wp2_with fail
  refine HM.out.mono ?_
  rintro e w1 ⟨rfl, rfl⟩
  go_wp2_with fail
  refine HT.out.mono ?_
  rintro e w1 ⟨rfl, hb1⟩
  have HB1 := Lib.hid (HB0.out.trans (hb1.mono (by simp)))
  have hx1 := (hb1.block w.heap.size (by simp)).trans HX0.out
  have hx2 := (Below.heap_alloc w1 (.cells #[.int .i64 r.kd, .string r.nm, .slice r.lo r.ln r.lc, .slice r.ao r.an r.ac, .int .i64 r.tk] 64) w.heap.size (lt_of_block hx1)).trans hx1
  have HX2 := Lib.hid hx2
  have hb2 := HB1.out.alloc HB1.out.size (.cells #[.int .i64 r.kd, .string r.nm, .slice r.lo r.ln r.lc, .slice r.ao r.an r.ac, .int .i64 r.tk] 64)
  have HB2 := Lib.hid hb2
  have hc := cut_any (H.out.below hb2) 0 (Nat.zero_le _)
  have HC := Lib.hid hc
  clear hb1 hx1 hx2 hb2 hc
  go_wp2_with fail
  refine HC.out.mono ?_
  rintro e w3 ⟨rfl, hck, hkp⟩
  have hlt := H.out.lt
  have hx3 := (hkp.block w.heap.size (lt_of_block HX2.out) (fun e => by rcases e with e | e <;> omega)).trans HX2.out
  have HX3 := Lib.hid hx3
  have HCK := Lib.hid hck
  have HKP := Lib.hid hkp
  obtain ⟨⟨p0, p1, p2, p3, p4⟩, q0, q1, q2, q3, q4⟩ := fresh_ln hx3
  clear hck hkp hx3 hlt
  go_wp2_with fail
  have hlw := lnW_at (tx := ⟨#[]⟩) (md := false) (up := 0) (dn := 0) (o := none) (n := 0) (c := 0) HX3.out
  refine lnerr_end (t := 2) (u := 3) (g := w.heap.size) rfl rfl rfl rfl (by rw [← hlw]; rfl) ?_
  rw [HP.out]
  have hK5 : Kept (fun b => b = sb ∨ b = g) w (LnW w3 w.heap.size ⟨#[]⟩ false 0 0 none 0 0) := lnW_kept ((Kept.of HB2.out).trans HKP.out) (Nat.le_refl _)
  have hlt0 := H.out.lt
  have hck := HCK.out
  simp only [List.take_zero] at hck
  have hfin := hck.re (lnW_far (g := w.heap.size) (tx := ⟨#[]⟩) (md := false) (up := 0) (dn := 0) (o := none) (n := 0) (c := 0) (by omega)) (lnW_far (by omega)) (⟨rfl, fun i a b ha _ => by simp at ha⟩ : All2 _ ([] : List RF) ([] : List Fr))
  exact ⟨⟨⟨RL0, rfl, rl_none _⟩, g, ⟨c, [], hfin⟩, hK5, .inl rfl⟩, g, c, [], hfin, ⟨hK5, .inl rfl⟩, fun P w0 _ => ⟨rfl, fun i a b ha _ => by simp at ha⟩⟩
end Go.Proofs.YtfobbcddedcepaaDoor
