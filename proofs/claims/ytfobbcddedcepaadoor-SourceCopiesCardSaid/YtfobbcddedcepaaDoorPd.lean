/- The document's Next. -/
import Derived.Test.YtfobbcddedcepaaDoorPc
import Derived.StillTailTactics
import Derived.Deep.RegionLaw
import Derived.BigQuiet
import Derived.Laws.AppendOwnNone
namespace Go.Proofs.YtfobbcddedcepaaDoor
open Go.RowKit
set_option maxRecDepth 100000
set_option linter.unusedSimpArgs false
set_option linter.unusedVariables false
section
variable {X xb : Nat} {A : Option Addr} {c : Nat} {F : List Fr} {rs : List RF} {w : World}
theorem RK.re {w' : World} (h : RK X xb A c F rs w) (h1 : w'.heap[xb]? = w.heap[xb]?) (h2 : ∀ g, A = some ⟨g, 0, none⟩ → w'.heap[g]? = w.heap[g]?) (fr : All2 (RfIs (Tg w') w') rs F) : RK X xb A c F rs w' := by
  refine ⟨h1.trans h.cell, own_far h.row (fun g hg => ?_), fr, h.ok, h.len, h.inv, h.bx⟩
  rcases h.row.2 with ⟨hv, _⟩ | ⟨g', cap, cur, hv, _, hh, _⟩
  · rw [hv] at hg; simp [Value.ownBlock] at hg
  · injection hv with e1
    subst e1
    have : g' = g := by simpa [Value.ownBlock] using hg
    subst this
    exact h2 g' rfl
/-- Fewer frames, in a new row: the frames lie as they lay. -/
theorem RK.cutRow (h : RK X xb A c F rs w) {m : Nat} (hm : m ≤ F.length) {w5 : World} {v5 : Value}
    (hown : w5.ownsRow w.heap.size 61 5 v5 m ((rs.take m).flatMap rfCs)) (hb : Below w.heap.size w w5) : ∃ o cap, (∀ g, o = some ⟨g, 0, none⟩ → w.heap.size ≤ g) ∧ RK X xb o cap (F.take m) (rs.take m) (w5.setCell ⟨xb, 1, none⟩ v5) ∧ Kept (fun b => b = xb) w (w5.setCell ⟨xb, 1, none⟩ v5) := by
  have hK : Kept (fun b => b = xb) w (w5.setCell ⟨xb, 1, none⟩ v5) := (Kept.of (S := fun b => b = xb) hb).setCell (p := ⟨xb, 1, none⟩) rfl v5
  have hs := (hb.block xb h.lt).trans h.cell
  have hdt := (Dr.st h (hK.mono (T := fun b => b = xb ∨ A = some ⟨b, 0, none⟩) fun _ hb => .inl hb)).dt
  obtain ⟨o, cap, rfl, hc1, hc2⟩ := row_shape hown
  have hlt : ∀ g, (Value.slice o m cap).ownBlock = some g → g ≠ xb := fun g hg e => by
    have := (own_tag hown hg).2
    have := h.lt
    omega
  have hlm : (F.take m).length = m := by rw [List.length_take]; omega
  refine ⟨o, cap, fun g hg => (own_tag hown (by subst hg; rfl)).2, ⟨?_, ?_, (h.fr.take m).mono fun _ _ hr => hr.dt hdt, fun x hx => h.ok x (List.mem_of_mem_take hx), by rw [hlm]; have := h.len; omega, fun i x hi hx => ?_, h.bx⟩, hK⟩
  · rw [hlm]; simp [World.setCell, Array.getElem?_modify, hs]
  · rw [hlm]
    exact own_far (own_base hown (by have := h.bx; have := h.lt; omega)) fun b hb => Below.heap_setCell _ _ _ _ (by exact hlt b hb)
  · rw [hlm] at hi
    rw [List.getElem?_take, if_pos (by omega)] at hx
    exact h.inv i x (by omega) hx
theorem Kept.drewN {S : Nat → Prop} {u w : World} {q : Nat} (h : Kept S u w) : Kept S u (w.drewN q) := ⟨h.os, h.tape, h.output, h.size, h.block⟩
/-- What Next leaves: what the frames read is what they read before. -/
structure NxR (X xb : Nat) (A : Option Addr) (F : List Fr) (rs : List RF) (R : (Ln × Int) × List Fr) (w : World) (e : Ending) (w' : World) : Prop where
  e : ∃ r, e = .returned (.tuple #[lvA r, .int .i64 R.1.2]) ∧ RlIs (Tg w') w' r R.1.1
  st : ∃ A' c' rs', RK X xb A' c' R.2 rs' w' ∧ (A' = A ∨ ∀ g, A' = some ⟨g, 0, none⟩ → w.heap.size ≤ g) ∧ ∀ (P : TypeId → Nat → Prop) (w0 : World), All2 (RfIs P w0) rs F → All2 (RfIs P w0) rs' R.2
  kept : Kept (fun b => b = xb ∨ A = some ⟨b, 0, none⟩) w w'
set_option maxHeartbeats 4000000 in
theorem rNext_any (h : RK X xb A c F rs w) : Calls Tryd.prog 27 #[BP xb] w (NxR X xb A F rs (nextS F) w) := by
  obtain ⟨i0, hi0, hz0, hz1, hz2⟩ := info_parts info_rframe
  obtain ⟨w0, hw0⟩ : ∃ w0, w0 = w.alloc (.cells #[.string ⟨#[]⟩, .bool false, .int .i64 0, .int .i64 0, .slice none 0 0] 31) := ⟨_, rfl⟩
  have hb0 := (Below.refl w.heap.size w).alloc (Nat.le_refl _) (.cells #[.string ⟨#[]⟩, .bool false, .int .i64 0, .int .i64 0, .slice none 0 0] 31)
  have hx0 := heap_alloc_new w (.cells #[.string ⟨#[]⟩, .bool false, .int .i64 0, .int .i64 0, .slice none 0 0] 31)
  rw [← hw0] at hb0 hx0
  have h0 := h.below hb0
  have HM := Lib.hid (rno_any h0)
  have hlen : F.length ≤ 50 := h.len
  have hsz : w0.heap.size = w.heap.size + 1 := by rw [hw0]; simp
  have HSZ := Lib.hid hsz
  have HB0 := Lib.hid hb0
  have HX0 := Lib.hid hx0
  have H := Lib.hid h
  have H0 := Lib.hid h0
  have HW0 := Lib.hid hw0
  have HNX := Lib.hid (show nextS F = (peekS F, nextF F (topS hasMore F)) from rfl)
  have HPK := Lib.hid (show peekS F = pickS F (topS hasMore F) from rfl)
  clear h hb0 hx0 h0 hsz hw0
  go_enter Tryd.func27, Tryd.ntmps27
  go_wp2_with fail
  rw [← HW0.out]
  refine HM.out.mono ?_
  rintro e w1 ⟨rfl, rfl⟩
  go_wp2_with fail
  go_loopg [28] F.length (fun q p wr => ∃ j : Nat, q = j ∧ j ≤ F.length ∧ topS hasMore F = topN hasMore F j ∧ (∃ A' c', RK X xb A' c' (F.take j) (rs.take j) wr ∧ (A' = A ∨ ∀ g, A' = some ⟨g, 0, none⟩ → w.heap.size ≤ g)) ∧ Kept (fun b => b = xb) w0 wr)
  case atStart => exact ⟨F.length, rfl, Nat.le_refl _, rfl, ⟨A, c, by rw [List.take_length, List.take_of_length_le (by have := H.out.rl; omega)]; exact H0.out, .inl rfl⟩, Kept.refl _ _⟩
  case round =>
    obtain ⟨j, rfl, hj, ht, ⟨A', c', hk, hA⟩, hkp⟩ := hrel
    have HKP := Lib.hid hkp
    have HT := Lib.hid ht
    have HKK := Lib.hid hk
    have HAA := Lib.hid hA
    have HJ := Lib.hid hj
    have hlj : (F.take gk).length = gk := by rw [List.length_take]; omega
    have hxr : wr.heap[w.heap.size]? = _ := (hkp.block w.heap.size (by rw [HSZ.out]; omega) (by have := H.out.lt; omega)).trans HX0.out
    cases gk with
    | zero =>
      have c9 : wr.cell? ⟨xb, 1, none⟩ = some (.slice A' 0 c') := hk.c0.2
      have d0 : decide ((0 : Int) < ((0 : Nat) : Int)) = false := by decide
      obtain ⟨⟨p0, p1, p2, p3, p4⟩, q0, q1, q2, q3, q4⟩ := fresh_ln hxr
      have HXR : Hid (∀ q : Nat, (wr.drewN q).heap[w.heap.size]? = some (.cells #[.string ⟨#[]⟩, .bool false, .int .i64 0, .int .i64 0, .slice none 0 0] 31 (0, 0))) := Lib.hid (fun _ => hxr)
      clear hj ht hk hA hkp hlj hxr
      go_wp2_with fail
      go_quiet (fail)
      go_wp2_with fail
      have hlw := lnW_at (tx := ⟨#[]⟩) (md := false) (up := 0) (dn := 0) (o := none) (n := 0) (c := 0) (HXR.out nq)
      refine lnerr_end (t := 2) (u := 3) (g := w.heap.size) rfl rfl rfl rfl (by rw [← hlw]; rfl) ?_
      have hK5 : Kept (fun b => b = xb ∨ A = some ⟨b, 0, none⟩) w (LnW (wr.drewN nq) w.heap.size ⟨#[]⟩ false 0 0 none 0 0) := lnW_kept ((Kept.of HB0.out).trans (HKP.out.mono fun _ hb => .inl hb)).drewN (Nat.le_refl _)
      have hlt := H.out.lt
      have hk0 : RK X xb A' c' [] [] wr := by have := HKK.out; simpa using this
      have hk1 : RK X xb A' c' [] [] (wr.drewN nq) := hk0.below ⟨rfl, rfl, rfl, Nat.le_refl _, fun _ _ => rfl⟩
      have hn : nextS F = ((Ln0, 3), []) := by rw [HNX.out, HPK.out, HT.out]; rfl
      rw [hn]
      refine ⟨⟨RL0, rfl, rl_none _⟩, ⟨A', c', [], hk1.re (lnW_far (by omega)) (fun g hg => lnW_far ((hk1.tgr hg).1.ne ⟨_, _, (HXR.out nq)⟩ (by decide))) ⟨rfl, fun i a b ha _ => by simp at ha⟩, HAA.out, fun P w0 _ => ⟨rfl, fun i a b ha _ => by simp at ha⟩⟩, hK5⟩
    | succ k =>
      have hr : rs[k]? = some (rs[k]'(by have := H.out.rl; omega)) := List.getElem?_eq_getElem (by have := H.out.rl; omega)
      obtain ⟨r, hre⟩ : ∃ r, r = rs[k]'(by have := H.out.rl; omega) := ⟨_, rfl⟩
      rw [← hre] at hr
      have hf : F[k]? = some (F[k]'(by omega)) := List.getElem?_eq_getElem (by omega)
      obtain ⟨f, hfe⟩ : ∃ f, f = F[k]'(by omega) := ⟨_, rfl⟩
      rw [← hfe] at hf
      have hrk : (rs.take (k + 1))[k]? = some r := by rw [List.getElem?_take, if_pos (by omega)]; exact hr
      have hfk : (F.take (k + 1))[k]? = some f := by rw [List.getElem?_take, if_pos (by omega)]; exact hf
      have hri := hk.fr.2 k r f hrk hfk
      have hq := q_more r f hri
      have c9 := hk.c0.2
      rw [hlj] at c9
      obtain ⟨g, rfl, htg, ⟨c0, c1, c2, c3, c4⟩, _⟩ := hk.fc k r hrk
      have hov := rover_any r wr.drew
      rw [hq] at hov
      have HF := Lib.hid hf
      have HR := Lib.hid hr
      have HRK := Lib.hid hrk
      have HFK := Lib.hid hfk
      have HRI := Lib.hid hri
      have HXR := Lib.hid hxr
      have hj0 : (0 : Int) ≤ (k : Int) := by omega
      have hj1 : (k : Int) < ((k + 1 : Nat) : Int) := by omega
      have hj2 : ((k + 1 : Nat) : Int) - 1 = (k : Int) := by omega
      have hj3 : (k : Int) < (k : Int) + 1 := by omega
      have hj5 : (k : Int) < 50 := by omega
      have hwk : IntKind.i64.wrap (k : Int) = (k : Int) := by simp [IntKind.wrap, IntKind.bits, IntKind.signed]; omega
      have d0 : decide ((0 : Int) < ((k + 1 : Nat) : Int)) = true := decide_eq_true (by omega)
      have d0b : decide ((0 : Int) < (k : Int) + 1) = true := decide_eq_true (by omega)
      cases hm : hasMore f with
      | false =>
        rw [hm] at hov
        have HO := Lib.hid hov
        have HMO := Lib.hid hm
        obtain ⟨kd, nm, lo, ln, lc, ao, an, ac, tk⟩ := r
        simp only at c0 c1 c2 c3 c4
        clear hj ht hk hA hkp hlj hxr hre hr hfe hf hrk hfk hri hq hov hm htg
        go_wp2_with fail
        go_still_tail 19, (by kernel_rfl)
        change wpList _ _ _ _ _ wr.drew
        go_wp2_with fail
        refine HO.out.mono ?_
        rintro e w2 ⟨rfl, hb2⟩
        have hkF : k + 1 ≤ F.length := HJ.out
        have hbw : Below wr.heap.size wr w2 := ⟨hb2.os, hb2.tape, hb2.output, hb2.size, hb2.block⟩
        have hk2 := HKK.out.below hbw
        have c9 := hk2.c0.2
        rw [List.length_take, Nat.min_eq_left (by omega)] at c9
        have htg := (hk2.tgr rfl).1
        have hglt := htg.lt
        have hxlt := hk2.lt
        have HR0 : Hid ((w2.drew.alloc (.cells #[] 61)).ownsRow w2.heap.size 61 5 (.slice (some ⟨w2.heap.size, 0, none⟩) 0 0) 0 []) := Lib.hid (World.ownsRow_made (base := w2.heap.size) (e := 61) (size := 5) w2.drew #[] 0 (Nat.le_refl _) (by unfold maxLen; omega) rfl)
        have hbx : Below w2.heap.size w2 (w2.drew.alloc (.cells #[] 61)) := (show Below w2.heap.size w2 w2.drew from ⟨rfl, rfl, rfl, Nat.le_refl _, fun _ _ => rfl⟩).trans ((Below.refl w2.heap.size w2.drew).alloc (Nat.le_refl _) (.cells #[] 61))
        have hsrc := rows_short hk2.row (m := k) (by rw [List.length_take, Nat.min_eq_left (by omega)]; omega)
        have HSRC : Hid (∀ j u, (((rs.take (k + 1)).take k).flatMap rfCs)[j]? = some u → (w2.drew.alloc (.cells #[] 61)).cell? ((⟨g, 0, none⟩ : Addr).add j) = some u) := Lib.hid (fun j u hu => by
          rw [cell_add, Nat.zero_add]
          exact (hbx.cell (p := ⟨g, j, none⟩) hglt).trans (own_cell hsrc j u hu).1)
        have HRL : Hid ((((rs.take (k + 1)).take k).flatMap rfCs).length = k * 5) := Lib.hid hsrc.1
        have hxz : (w2.drew.alloc (.cells #[] 61)).heap[xb]? = _ := (hbx.block xb hxlt).trans hk2.cell
        have HXZ := Lib.hid hxz
        have c9a : (w2.drew.alloc (.cells #[] 61)).cell? ⟨xb, 1, none⟩ = some (.slice (some ⟨g, 0, none⟩) (k + 1) c') := (hbx.cell (p := ⟨xb, 1, none⟩) hxlt).trans c9
        have HBX := Lib.hid hbx
        have HK2 := Lib.hid hk2
        have HB2 := Lib.hid hbw
        have hkc : (k : Int) ≤ (c' : Int) := by
          obtain ⟨_, _, hv, h1, _⟩ := row_shape hk2.row
          injection hv with _ _ hv
          rw [List.length_take, Nat.min_eq_left (by omega)] at h1
          omega
        clear hb2 hbw hk2 htg hbx hsrc hxz c0 c1 c2 c3 c4
        go_wp2_with fail
        go_region_law (first
          | (refine step_append_own rfl (.tmp 30) (.tmp 41) 50 rfl w2.heap.size 61 i0 _ 5 80 Tryd.underlying50 hi0 hz0 hz1 hz2 rfl (by decide) (.slice (some ⟨w2.heap.size, 0, none⟩) 0 0) 0 [] (by simp [Act.eval, Act.put]) HR0.out ⟨g, 0, none⟩ k c' (((rs.take (k + 1)).take k).flatMap rfCs) (by simp [Act.eval, Act.put]) HRL.out HSRC.out (rf_all_one _) (by unfold maxLen; omega) (by omega) (by simp) ?_
             intro v5 w5 hown5 hgrow5 hat5
             rw [Nat.zero_add, List.nil_append] at hown5
             obtain ⟨o5, cap5, rfl, _, _⟩ := row_shape hown5
             have hg5 : (w2.drew.alloc (.cells #[] 61)).grownBy w5 (some w2.heap.size) := hgrow5
             have hb5 : Below w2.heap.size w2 w5 := HBX.out.grown hg5 HBX.out.size (fun q e => by cases e; exact Nat.le_refl _)
             have HCUT := Lib.hid (HK2.out.cutRow (m := k) (by rw [List.length_take, Nat.min_eq_left (by omega)]; omega) hown5 hb5)
             have hs5 := (hb5.block xb HK2.out.lt).trans HK2.out.cell
             have e1 : w5.cell? ⟨xb, 1, none⟩ = some (.slice (some ⟨g, 0, none⟩) (F.take (k + 1)).length c') := by simp [World.cell?, hs5]
             have e2 : w5.frozen? ⟨xb, 1, none⟩ = false := by simp [World.frozen?, hs5]
             clear hown5 hgrow5 hat5 hg5 hb5 hs5))
        all_goals
          go_wp2_with fail
          go_roundg k
          case measure => omega
          case rel =>
            obtain ⟨o, cap, hnew, hrk9, hkp9⟩ := HCUT.out
            rw [List.take_take, List.take_take, Nat.min_eq_left (Nat.le_succ k)] at hrk9
            refine ⟨k, rfl, by have := HJ.out; omega, by rw [HT.out, topN_no hasMore F k f HF.out HMO.out], ⟨o, cap, hrk9, .inr fun q hq => ?_⟩, HKP.out.trans ((Kept.of HB2.out).trans hkp9)⟩
            have h1 := hnew q hq
            have h2 := HB2.out.size
            have h3 := HKP.out.size
            have h4 := HSZ.out
            omega
      | true =>
        rw [hm] at hov
        have HO := Lib.hid hov
        have HMO := Lib.hid hm
        obtain ⟨l, hl⟩ := more_line hm
        have HL := Lib.hid hl
        have hn1 : (((k + 1 : Nat) : Int) == 0) = false := by rw [beq_eq_false_iff_ne]; omega
        have hn2 : ((k : Int) + 1 == 0) = false := by rw [beq_eq_false_iff_ne]; omega
        obtain ⟨kd, nm, lo, ln, lc, ao, an, ac, tk⟩ := r
        simp only at c0 c1 c2 c3 c4
        clear hj ht hk hA hkp hlj hxr hre hr hfe hf hrk hfk hri hq hov hm htg hl
        go_wp2_with fail
        go_still_tail 19, (by kernel_rfl)
        change wpList _ _ _ _ _ wr.drew
        go_wp2_with fail
        refine HO.out.mono ?_
        rintro e w2 ⟨rfl, hb2⟩
        have hkF : k + 1 ≤ F.length := HJ.out
        have hbw : Below wr.heap.size wr w2 := ⟨hb2.os, hb2.tape, hb2.output, hb2.size, hb2.block⟩
        have hk2 := HKK.out.below hbw
        have HK2 := Lib.hid hk2
        have HBW := Lib.hid hbw
        have c9 := hk2.c0.2
        rw [List.length_take, Nat.min_eq_left (by omega)] at c9
        clear hb2 hbw hk2 c0 c1 c2 c3 c4
        go_wp2_with fail
        go_quiet (fail)
        obtain ⟨w3, hw3⟩ : ∃ w3, w3 = w2.drewN nq := ⟨_, rfl⟩
        rw [← hw3]
        have hb3 : Below w2.heap.size w2 w3 := by rw [hw3]; exact ⟨rfl, rfl, rfl, Nat.le_refl _, fun _ _ => rfl⟩
        have hk3 := HK2.out.below hb3
        have hrk := HRK.out
        have hfk := HFK.out
        have hri3 := HRI.out.dt ((Dt.below HBW.out).trans (Dt.below hb3))
        obtain ⟨_, hge, htg, ⟨c0, c1, c2, c3, c4⟩, fz3, fz4⟩ := hk3.fc k _ hrk
        obtain rfl : g = _ := by injection hge with e; injection e with e
        have hok := hk3.ok f (List.mem_of_getElem? hfk)
        have hlt := (List.getElem?_eq_some_iff.1 HL.out).1
        have htk : tk < 20000 := by have := hri3.tk; simp only at this; have := hok.len; omega
        have htl : (tk : Int) < (ln : Int) := by have h1 := hri3.tk; have h2 := hri3.ls.len; simp only at h1 h2; omega
        have ht0 : (0 : Int) ≤ (tk : Int) := by omega
        have htlc : (ln : Int) ≤ (lc : Int) := by have := hri3.lle; simp only at this; omega
        have hlc9 := hri3.lcap
        have hwt1 : IntKind.i64.wrap ((tk : Int) + 1) = (tk : Int) + 1 := by simp [IntKind.wrap, IntKind.bits, IntKind.signed]; omega
        have hwt : IntKind.i64.wrap (tk : Int) = (tk : Int) := by simp [IntKind.wrap, IntKind.bits, IntKind.signed]; omega
        have hset := hk3.setF (k := 4) (u := .int .i64 ((tk + 1 : Nat) : Int)) (r' := ⟨kd, nm, lo, ln, lc, ao, an, ac, tk + 1⟩) (f' := bump f) (w' := w3.setCell ⟨g, k * 5 + 4, none⟩ (.int .i64 ((tk + 1 : Nat) : Int))) rfl hrk hfk (by omega) rfl rfl ⟨hri3.kd, hri3.nm, by show tk + 1 = f.tk + 1; have := hri3.tk; simp only at this; omega, hri3.ls, hri3.lnil, hri3.lle, hri3.lcap, hri3.ar, hri3.anil, hri3.ale, hri3.acap, hri3.afit⟩ ⟨hok.ls, hok.len, by show f.tk + 1 ≤ f.ls.length; omega, hok.kd⟩ (by intro hi; rw [List.length_take, Nat.min_eq_left (by omega)] at hi; omega)
        rw [show ((tk + 1 : Nat) : Int) = (tk : Int) + 1 by omega] at hset
        obtain ⟨w4, hw4⟩ : ∃ w4, w4 = w3.setCell ⟨g, k * 5 + 4, none⟩ (.int .i64 ((tk : Int) + 1)) := ⟨_, rfl⟩
        rw [← hw4] at hset
        have HW4 := Lib.hid hw4
        have HSET := Lib.hid hset
        have HB3 := Lib.hid hb3
        have HRI4 := Lib.hid (HRI.out.dt ((Dt.below HBW.out).trans ((Dt.below hb3).trans (Dr.st hk3 hset.2).dt)))
        have HOK := Lib.hid hok
        clear hw3 hb3 hrk hfk hri3 hge htg hset hw4 hlt hok hk3 c9
        go_wp2_with fail
        rw [← HW4.out]
        clear c0 c1 c2 c3 c4 fz3 fz4
        obtain ⟨_, hge, _, ⟨c0, c1, c2, c3, c4⟩, _, _⟩ := HSET.out.1.fc k ⟨kd, nm, lo, ln, lc, ao, an, ac, tk + 1⟩ (by rw [List.getElem?_set_self (by rw [List.length_take]; have := HKK.out.rl; rw [List.length_take, List.length_take] at this; omega)])
        obtain rfl : g = _ := by injection hge with e; injection e with e
        simp only at c0 c1 c2 c3 c4
        rw [show ((tk + 1 : Nat) : Int) = (tk : Int) + 1 by omega] at c4
        have hri4 := HRI4.out
        obtain ⟨⟨qs, hqr, hqa⟩, hqlen⟩ := hri4.ls
        have hql : qs.length = ln := by have h1 := hqa.1; have h2 : ln = f.ls.length := hqlen; omega
        have hqj : qs[tk]? = some (qs[tk]'(by omega)) := List.getElem?_eq_getElem (by omega)
        obtain ⟨q, hqe⟩ : ∃ q, q = qs[tk]'(by omega) := ⟨_, rfl⟩
        rw [← hqe] at hqj
        have hqi := hqa.2 tk q l hqj (by have := hri4.tk; simp only at this; rw [this]; exact HL.out)
        obtain ⟨b, off, hlo, hp, y0, y1, y2, y3, y4⟩ := reads_ln hqr tk q hqj
        have how := rown_ln (P := Tg w4) (w := w4.drew) (hqi.keep fun e _ b hb' => ⟨rfl, hb'⟩) (fun e b hb' => by have := Tg.lt hb'; exact this) (okLn_bx HOK.out.ls l (List.mem_of_getElem? HL.out))
        have HOW := Lib.hid how
        have hk4 := HSET.out.1
        have HXR4 : Hid (w4.heap[w.heap.size]? = some (.cells #[.string ⟨#[]⟩, .bool false, .int .i64 0, .int .i64 0, .slice none 0 0] 31 (0, 0))) := Lib.hid (by
          have h1 := (HBW.out.block w.heap.size (lt_of_block HXR.out)).trans HXR.out
          have h2 := (HB3.out.block w.heap.size (lt_of_block h1)).trans h1
          rw [HW4.out]
          exact (Below.heap_setCell _ _ _ _ (fun e => by
            have ht := (hk4.tgr rfl).1
            have h3 : Tg w3 31 w.heap.size := ⟨_, _, h2⟩
            have h4 : Tg w3 61 g := ((HK2.out.below HB3.out).tgr rfl).1
            exact h3.ne h4 (by decide) e)).trans h2)
        subst hlo
        clear hge hri4 hqr hqa hqlen hql hqj hqe hqi hp how hk4
        go_still_tail 11, (by kernel_rfl)
        change wpList _ _ _ _ _ w4.drew
        go_wp2_with fail
        refine HOW.out.mono ?_
        rintro e w5 ⟨t, rfl, htd⟩
        have hx5 := (htd.below.block w.heap.size (lt_of_block HXR4.out)).trans HXR4.out
        have HX5 := Lib.hid hx5
        have HTD := Lib.hid htd
        obtain ⟨⟨p0, p1, p2, p3, p4⟩, q0, q1, q2, q3, q4⟩ := fresh_ln hx5
        clear hx5 htd
        go_wp2_with fail
        have hlw := lnW_at (tx := t.tx) (md := t.md) (up := t.up) (dn := t.dn) (o := t.bo) (n := t.bn) (c := t.bc) HX5.out
        refine lnerr_end (t := 2) (u := 3) (g := w.heap.size) rfl rfl rfl rfl (by rw [← hlw]; rfl) ?_
        have hpk : nextS F = ((l, 0), (F.take (k + 1)).set k (bump f)) := by
          have ht := HT.out
          rw [topN_yes hasMore F k f HF.out HMO.out] at ht
          rw [HNX.out, HPK.out, ht]; simp [pickS, nextF, HF.out, HL.out]
        rw [hpk]
        have hlt := H.out.lt
        have hz := HSZ.out
        have hb5 : Below w4.heap.size w4 w5 := ⟨HTD.out.below.os, HTD.out.below.tape, HTD.out.below.output, HTD.out.below.size, HTD.out.below.block⟩
        have hkA : Kept (fun b => b = xb) w w3 := (((Kept.of HB0.out).trans HKP.out).trans (Kept.of HBW.out)).trans (Kept.of HB3.out)
        have hgA : A = some ⟨g, 0, none⟩ ∨ w.heap.size ≤ g := by
          rcases HAA.out with e | e
          · exact .inl e.symm
          · exact .inr (e g rfl)
        have hkB : Kept (fun b => b = xb ∨ A = some ⟨b, 0, none⟩) w w4 := by
          refine ⟨HSET.out.2.os.trans hkA.os, HSET.out.2.tape.trans hkA.tape, HSET.out.2.output.trans hkA.output, Nat.le_trans hkA.size HSET.out.2.size, fun b hb hs => ?_⟩
          refine (HSET.out.2.block b (Nat.lt_of_lt_of_le hb hkA.size) fun hc => ?_).trans (hkA.block b hb fun e => hs (.inl e))
          rcases hc with e | e
          · exact hs (.inl e)
          · obtain rfl : g = b := by injection e with e; injection e with e
            rcases hgA with e | e
            · exact hs (.inr e)
            · omega
        have hK6 : Kept (fun b => b = xb ∨ A = some ⟨b, 0, none⟩) w (LnW w5 w.heap.size t.tx t.md t.up t.dn t.bo t.bn t.bc) := lnW_kept (hkB.trans (Kept.of hb5)) (Nat.le_refl _)
        have hdt := (Dr.st H.out hK6).dt
        have hall : ∀ (P : TypeId → Nat → Prop) (w0 : World), All2 (RfIs P w0) rs F → All2 (RfIs P w0) ((rs.take (k + 1)).set k ⟨kd, nm, some ⟨b, off, none⟩, ln, lc, ao, an, ac, tk + 1⟩) ((F.take (k + 1)).set k (bump f)) := fun P w0 h => (h.take (k + 1)).setAt k _ (bump f) (by
          have hri := h.2 k _ f HR.out HF.out
          exact ⟨hri.kd, hri.nm, by show tk + 1 = f.tk + 1; have := hri.tk; simp only at this; omega, hri.ls, hri.lnil, hri.lle, hri.lcap, hri.ar, hri.anil, hri.ale, hri.acap, hri.afit⟩)
        have hk5 := HSET.out.1.below hb5
        have hne : g ≠ w.heap.size := ((hk5.tgr rfl).1.ne ⟨_, _, HX5.out⟩ (by decide))
        refine ⟨⟨t, rfl, ?_⟩, ⟨some ⟨g, 0, none⟩, c', _, hk5.re (lnW_far (by omega)) (fun q hq => by
            obtain rfl : g = q := by injection hq with e; injection e with e
            exact lnW_far hne) (hall _ _ (H.out.fr.mono fun _ _ h => h.dt hdt)), HAA.out, hall⟩, hK6⟩
        refine HTD.out.is.keep fun e he b hb => ?_
        have hne : b ≠ w.heap.size := hb.ne ⟨_, _, HX5.out⟩ (by rcases he with rfl | rfl <;> decide)
        exact ⟨lnW_far hne, hb.keep (lnW_far hne)⟩
end
end Go.Proofs.YtfobbcddedcepaaDoor
/- The document's Shift. -/
namespace Go.Proofs.YtfobbcddedcepaaDoor
open Go.RowKit
set_option maxRecDepth 100000
set_option linter.unusedSimpArgs false
set_option linter.unusedVariables false
theorem run_append_nil {P : Program} {w : World} (base : Nat) (t ty e : TypeId) (i : TypeInfo) (size : Nat) (ht : P.underlying t = some (.slice e)) (hi : P.info? e = some i)
    (v : Value) (n q : Nat) (xs : List Value) (hown : w.ownsRow base e size v n xs) :
    (Builtin.append_ #[t, t] ty #[v, .slice none 0 q]).run P w = .ok v w := by
  rcases hown.2 with ⟨rfl, rfl⟩ | ⟨g, cap, cur, rfl, _, _, hnc, _⟩
  · simp [Builtin.append_, run_underlying ht, sizeOf, typeInfo, hi, Builtin.lenOf, Builtin.firstCells]
  · simp [Builtin.append_, run_underlying ht, sizeOf, typeInfo, hi, Builtin.lenOf, Builtin.firstCells, hnc, storeCells]
/-- append of nothing, as one step of a region that draws. -/
theorem step_append_none {ops : Array Oper} {o : Oper} {a : Act} {w : World} {K : Act → World → Prop} {Q : Exit → Act → World → Prop} {E : Prop}
    (hg : o.guard = none) (s x : Operand) (t : TypeId) (hop : o.op = Op.call { callee := Callee.builtin Builtin.append, args := #[s, x], argTypes := #[t, t] })
    (base : Nat) (e : TypeId) (i : TypeInfo) (size : Nat) (ht : Tryd.prog.underlying t = some (.slice e)) (hi : Tryd.prog.info? e = some i)
    (v : Value) (n : Nat) (xs : List Value) (hs : a.eval s = v) (hown : w.ownsRow base e size v n xs) (q : Nat) (hx : a.eval x = .slice none 0 q)
    (hK : K (a.put o.dst v) w) :
    if Region.wanted o (yielded ops a.tmps) = true then Oper.wp Tryd.prog o a w K Q else E := by
  have hw : Region.wanted o (yielded ops a.tmps) = true := by simp [Region.wanted, hg]
  rw [if_pos hw]
  have hrun := run_append_nil (P := Tryd.prog) (w := w) base t o.type e i size ht hi v n q xs hown
  unfold Oper.wp
  simp [execOp, hop, resolve, invoke, builtin, hs, hx, hrun, Result.andThen]
  exact hK
section
variable {X xb : Nat} {A : Option Addr} {c : Nat} {F : List Fr} {rs : List RF} {w : World}
theorem RK.shiftF (h : RK X xb A c F rs w) {g k : Nat} (hA : A = some ⟨g, 0, none⟩) {r : RF} (hr : rs[k]? = some r) (hk : k < F.length) (hri : RfIs (Tg w) w r (gotF F (k + 1))) {o2 : Option Addr} {m2 cap2 : Nat} {ar' : List ByteArray} (hs : StrsAt (Tg w) w o2 m2 ar') (hnil : o2 = none → m2 = 0) (hle : m2 ≤ cap2) (hc : (cap2 : Int) ≤ 9223372036854775807) (hf : m2 * 16 ≤ 140737488351232) :
    RK X xb A c (F.set k { gotF F (k + 1) with ar := ar' }) (rs.set k { r with ao := o2, an := m2, ac := cap2 }) (w.setCell ⟨g, k * 5 + 3, none⟩ (.slice o2 m2 cap2)) ∧ Kept (fun b => b = xb ∨ A = some ⟨b, 0, none⟩) w (w.setCell ⟨g, k * 5 + 3, none⟩ (.slice o2 m2 cap2)) := by
  have hfk : F[k]? = some (gotF F (k + 1)) := by
    unfold gotF; rw [if_neg (by omega), Nat.add_sub_cancel, List.getElem?_eq_getElem hk]; rfl
  have hok := h.ok _ (List.mem_of_getElem? hfk)
  exact h.setF (k := 3) (r := r) (f := gotF F (k + 1)) (u := .slice o2 m2 cap2) hA hr hfk (by omega) rfl rfl ⟨hri.kd, hri.nm, hri.tk, hri.ls, hri.lnil, hri.lle, hri.lcap, hs, hnil, hle, hc, hf⟩ ⟨hok.ls, hok.len, hok.tk, hok.kd⟩ (fun hi => by have e := h.inv k (gotF F (k + 1)) hi hfk; exact e)
theorem rshift_out (h : RK X xb A c F rs w) (n : Int) (hn : n < 0 ∨ 100 < n) : Calls Tryd.prog 31 #[BP xb, .int .i64 n] w (RnP X xb (shiftS F n) w) := by
  have HM := Lib.hid (rno_any h)
  have HP := Lib.hid (show shiftS F n = (1, F) by unfold shiftS; rw [if_pos hn])
  have HR : Hid (RnP X xb ((1 : Int), F) w (.returned (.int .i64 1)) w) := Lib.hid ⟨rfl, ⟨_, _, _, h⟩, Below.refl _ _, Dr.below (Below.refl _ _)⟩
  clear h
  by_cases h1 : n < 0
  · clear hn
    have d1 : decide (n < 0) = true := decide_eq_true h1
    go_enter Tryd.func31, Tryd.ntmps31
    go_wp2_with fail
    refine HM.out.mono ?_
    rintro e w1 ⟨rfl, rfl⟩
    go_wp2_with fail
    go_ret
    rw [HP.out]
    exact HR.out
  · have h2 : 100 < n := by omega
    have d1 : decide (n < 0) = false := decide_eq_false h1
    have d2 : decide (100 < n) = true := decide_eq_true h2
    clear hn
    go_enter Tryd.func31, Tryd.ntmps31
    go_wp2_with fail
    refine HM.out.mono ?_
    rintro e w1 ⟨rfl, rfl⟩
    go_wp2_with fail
    go_ret
    rw [HP.out]
    exact HR.out
theorem rshift_none (h : RK X xb A c F rs w) (n : Int) (h1 : 0 ≤ n) (h2 : n ≤ 100) (hk : topS isMacro F = 0) : Calls Tryd.prog 31 #[BP xb, .int .i64 n] w (RnP X xb (shiftS F n) w) := by
  have HM := Lib.hid (rno_any h)
  have HP := Lib.hid (show shiftS F n = (8, F) by unfold shiftS; rw [if_neg (by omega), hk])
  have ht := rtop_any h 2
  change Calls _ _ _ _ (fun e w' => e = .returned (.int .i64 ((topS isMacro F : Nat) - 1 : Int)) ∧ Below w.heap.size w w') at ht
  rw [hk] at ht
  have HT := Lib.hid ht
  have H := Lib.hid h
  have HX : Hid (X ≤ w.heap.size) := Lib.hid (by have := h.bx; have := h.lt; omega)
  have d1 : decide (n < 0) = false := decide_eq_false (by omega)
  have d2 : decide (100 < n) = false := decide_eq_false (by omega)
  have d3 : decide (((0 : Nat) : Int) - 1 < 0) = true := by decide
  clear h ht hk
  go_enter Tryd.func31, Tryd.ntmps31
  go_wp2_with fail
  refine HM.out.mono ?_
  rintro e w1 ⟨rfl, rfl⟩
  go_wp2_with fail
  refine HT.out.mono ?_
  rintro e w1 ⟨rfl, hb1⟩
  have HB := Lib.hid hb1
  clear hb1
  go_wp2_with fail
  go_ret
  rw [HP.out]
  exact ⟨rfl, ⟨_, _, _, H.out.below HB.out⟩, HB.out.mono HX.out, Dr.below HB.out⟩
set_option maxHeartbeats 4000000 in
theorem rshift_some (h : RK X xb A c F rs w) (n : Int) (h1 : 0 ≤ n) (h2 : n ≤ 100) (k : Nat) (hk : topS isMacro F = k + 1) : Calls Tryd.prog 31 #[BP xb, .int .i64 n] w (RnP X xb (shiftS F n) w) := by
  obtain ⟨i0, hi0, hz0, hz1, hz2⟩ := info_parts info_str
  have HM := Lib.hid (rno_any h)
  have HP := Lib.hid (show shiftS F n = (0, F.set k { gotF F (k + 1) with ar := (gotF F (k + 1)).ar.drop n.toNat }) by unfold shiftS; rw [if_neg (by omega), hk])
  have ht := rtop_any h 2
  change Calls _ _ _ _ (fun e w' => e = .returned (.int .i64 ((topS isMacro F : Nat) - 1 : Int)) ∧ Below w.heap.size w w') at ht
  rw [hk] at ht
  have hkl : k < F.length := by have := topS_le isMacro F; omega
  rw [show ((k + 1 : Nat) : Int) - 1 = (k : Int) by omega] at ht
  obtain ⟨f, r, hg, hf, hr, hri⟩ := h.got (k + 1) (by omega) (by omega)
  rw [← hg] at hri
  rw [Nat.add_sub_cancel] at hf hr
  obtain ⟨m, hm⟩ : ∃ m, m = min n.toNat r.an := ⟨_, rfl⟩
  have hmin : min n (r.an : Int) = (m : Int) := by omega
  have hma : m ≤ r.an := by omega
  have hi1 : (0 : Int) ≤ (m : Int) := by omega
  have hi2 : (m : Int) ≤ (r.an : Int) := by omega
  have hi3 : (m : Int) ≤ (r.ac : Int) := by have := hri.ale; omega
  have hi4 : (r.an : Int) ≤ (r.ac : Int) := by have := hri.ale; omega
  have hcap := hri.acap
  have hfit := hri.afit
  have HDR := Lib.hid (show (gotF F (k + 1)).ar.drop n.toNat = (gotF F (k + 1)).ar.drop m by
    have hl := hri.ar.len
    by_cases e : n.toNat ≤ r.an
    · rw [hm, Nat.min_eq_left e]
    · rw [List.drop_eq_nil_of_le (by omega), List.drop_eq_nil_of_le (by omega)])
  have HT := Lib.hid ht
  have H := Lib.hid h
  have HRI := Lib.hid hri
  have HR := Lib.hid hr
  have HX : Hid (X ≤ w.heap.size) := Lib.hid (by have := h.bx; have := h.lt; omega)
  have d1 : decide (n < 0) = false := decide_eq_false (by omega)
  have d2 : decide (100 < n) = false := decide_eq_false (by omega)
  have d3 : decide ((k : Int) < 0) = false := by simp
  have hj0 : (0 : Int) ≤ (k : Int) := by omega
  have hj1 : (k : Int) < (F.length : Int) := by omega
  clear h ht hk hm hri hr hf hg
  go_enter Tryd.func31, Tryd.ntmps31
  go_wp2_with fail
  refine HM.out.mono ?_
  rintro e w1 ⟨rfl, rfl⟩
  go_wp2_with fail
  refine HT.out.mono ?_
  rintro e w1 ⟨rfl, hb1⟩
  have hc1 := H.out.below hb1
  have hri1 := HRI.out.dt (Dt.below hb1)
  have c9 := hc1.c0.2
  obtain ⟨g, rfl, htg, ⟨c0, c1, c2, c3, c4⟩, fz3, fz4⟩ := hc1.fc k r HR.out
  have hglt := htg.lt
  have HB := Lib.hid hb1
  have HC1 := Lib.hid hc1
  have HRI1 := Lib.hid hri1
  clear hb1 hc1 htg
  have HR0 : Hid ((w1.drew.alloc (.cells #[] 9)).ownsRow w1.heap.size 9 1 (.slice (some ⟨w1.heap.size, 0, none⟩) 0 0) 0 []) := Lib.hid (World.ownsRow_made (base := w1.heap.size) (e := 9) (size := 1) w1.drew #[] 0 (Nat.le_refl _) (by unfold maxLen; omega) rfl)
  have hbx : Below w1.heap.size w1 (w1.drew.alloc (.cells #[] 9)) := (show Below w1.heap.size w1 w1.drew from ⟨rfl, rfl, rfl, Nat.le_refl _, fun _ _ => rfl⟩).trans ((Below.refl w1.heap.size w1.drew).alloc (Nat.le_refl _) (.cells #[] 9))
  have HBX := Lib.hid hbx
  obtain ⟨kd, nm, lo, ln, lc, ao, an, ac, tk⟩ := r
  simp only at c0 c1 c2 c3 c4 hmin hma hi2 hi3 hi4 hcap hfit
  have c39 : (w1.drew.alloc (.cells #[] 9)).cell? ⟨g, k * 5 + 3, none⟩ = some (.slice ao an ac) := (hbx.cell (p := ⟨g, k * 5 + 3, none⟩) hglt).trans c3
  clear hbx
  cases ao with
  | none =>
    obtain rfl : an = 0 := hri1.anil rfl
    obtain rfl : m = 0 := by omega
    have har : (gotF F (k + 1)).ar = [] := List.eq_nil_of_length_eq_zero (by have := hri1.ar.len; simp only at this; omega)
    clear hri1
    have hc2 := HC1.out.below HBX.out
    have hsh := hc2.shiftF (o2 := some ⟨w1.heap.size, 0, none⟩) (m2 := 0) (cap2 := 0) (ar' := (gotF F (k + 1)).ar.drop 0) rfl HR.out hkl (HRI1.out.dt (Dt.below HBX.out)) (by rw [har]; exact ⟨⟨rfl, fun h => absurd h (Nat.lt_irrefl 0)⟩, rfl⟩) (fun h => by cases h) (Nat.le_refl _) (by decide) (by decide)
    have HSH := Lib.hid hsh
    have HC2 := Lib.hid hc2
    have fz39 : (w1.drew.alloc (.cells #[] 9)).frozen? ⟨g, k * 5 + 3, none⟩ = false := by
      obtain ⟨g', e, _, _, f3, _⟩ := hc2.fc k _ HR.out
      obtain rfl : g = g' := by injection e with e; injection e
      exact f3
    have hm0 : min n (0 : Int) = 0 := by omega
    clear hc2 hsh har
    go_wp2_with fail
    go_region_law (first
      | (refine step_append_none rfl (.tmp 28) (.tmp 40) 36 rfl w1.heap.size 9 i0 1 Tryd.underlying36 hi0 (.slice (some ⟨w1.heap.size, 0, none⟩) 0 0) 0 [] (by simp [Act.eval, Act.put]) HR0.out ac (by simp [Act.eval, Act.put]) ?_))
    all_goals
      go_wp2_with fail
      go_ret
      rw [HP.out, HDR.out]
      have hbt : Below X w w1 := HB.out.mono HX.out
      have hbt2 := hbt.trans (HBX.out.mono (by have := HB.out.size; have := HX.out; omega))
      have hww : ((w1.setCell ⟨g, k * 5 + 3, none⟩ (.slice (some ⟨w1.heap.size, 0, none⟩) 0 0)).alloc (.cells #[] 9)).drew = (w1.drew.alloc (.cells #[] 9)).setCell ⟨g, k * 5 + 3, none⟩ (.slice (some ⟨w1.heap.size, 0, none⟩) 0 0) := by
        rw [World.alloc_drew, World.setCell_drew, World.setCell_alloc_past _ _ _ _ hglt]
      rw [hww]
      exact ⟨rfl, ⟨_, _, _, HSH.out.1⟩, hbt2.trans (HC2.out.to HSH.out.2), (Dr.below HB.out).trans ((Dr.below HBX.out).trans (Dr.st HC2.out HSH.out.2))⟩
  | some a =>
    obtain ⟨AD, hAD⟩ : ∃ AD, (if ac = m then some a else some (a.add m)) = some AD := by
      split
      · exact ⟨_, rfl⟩
      · exact ⟨_, rfl⟩
    have hsa : ∀ j u, (strCs ((gotF F (k + 1)).ar.drop m))[j]? = some u → (w1.drew.alloc (.cells #[] 9)).cell? (AD.add j) = some u := by
      intro j u hu
      have hl := hri1.ar.len
      simp only at hl
      have hjl := (List.getElem?_eq_some_iff.1 hu).1
      unfold strCs at hjl
      rw [List.length_map, List.length_drop] at hjl
      have hale := hri1.ale
      simp only at hale
      rw [if_neg (by omega)] at hAD
      obtain rfl := Option.some.inj hAD
      have hd := hri1.ar.drop m hma
      obtain ⟨b, off, e, _, hc⟩ := hd.rd.2 (by simp only; omega)
      have e2 : a.add m = ⟨b, off, none⟩ := Option.some.inj e
      rw [e2, cell_add]
      have h0 := hc j u hu
      exact (HBX.out.cell (p := ⟨b, off + j, none⟩) (World.block_lt_of_cell? w1 _ h0)).trans h0
    have HSRC := Lib.hid hsa
    have HLEN : Hid ((strCs ((gotF F (k + 1)).ar.drop m)).length = (an - m) * 1) := Lib.hid (by have hl := hri1.ar.len; simp only at hl; unfold strCs; rw [List.length_map, List.length_drop]; omega)
    have HLD : Hid (an - m = ((gotF F (k + 1)).ar.drop m).length) := Lib.hid (by have hl := hri1.ar.len; simp only at hl; rw [List.length_drop]; omega)
    clear hri1 hsa
    go_wp2_with fail
    go_region_law (first
      | (refine step_append_own rfl (.tmp 28) (.tmp 40) 36 rfl w1.heap.size 9 i0 _ 1 16 Tryd.underlying36 hi0 hz0 hz1 hz2 rfl (by decide) (.slice (some ⟨w1.heap.size, 0, none⟩) 0 0) 0 [] (by simp [Act.eval, Act.put]) HR0.out AD (an - m) (ac - m) (strCs ((gotF F (k + 1)).ar.drop m)) (by simp [Act.eval, Act.put, hAD]) HLEN.out HSRC.out (str_one _) (by unfold maxLen; omega) (by omega) (by simp) ?_
         intro v2 w2 hown2 hgrow2 hat2
         rw [Nat.zero_add, List.nil_append] at hown2
         obtain ⟨o2, cap2, rfl, h21, h22⟩ := row_shape hown2
         have hg2 : (w1.drew.alloc (.cells #[] 9)).grownBy w2 (some w1.heap.size) := hgrow2
         have hb2 : Below w1.heap.size w1 w2 := HBX.out.grown hg2 HBX.out.size (fun q e => by cases e; exact Nat.le_refl _)
         have hc2 := HC1.out.below hb2
         have hsh := hc2.shiftF (o2 := o2) (m2 := an - m) (cap2 := cap2) (ar' := (gotF F (k + 1)).ar.drop m) rfl HR.out hkl (HRI1.out.dt (Dt.below hb2)) ⟨ReadsP.of_own hown2 (fun g cs hg _ => ⟨cs, _, hg⟩), HLD.out⟩ (own_none hown2) h21 h22 (by omega)
         have HSH := Lib.hid hsh
         have HC2 := Lib.hid hc2
         have HB2 := Lib.hid hb2
         have e0 := hc2.fc k _ HR.out
         obtain ⟨g', e, _, ⟨_, _, _, e1, _⟩, e2, _⟩ := e0
         obtain rfl : g = g' := by injection e with e; injection e
         clear hown2 hgrow2 hat2 hg2 hb2 hc2 hsh e h21 h22))
    all_goals
      go_wp2_with fail
      go_ret
      rw [HP.out, HDR.out]
      have hbt : Below X w w1 := HB.out.mono HX.out
      have hbt2 := hbt.trans (HB2.out.mono (by have := HB.out.size; have := HX.out; omega))
      exact ⟨rfl, ⟨_, _, _, HSH.out.1⟩, hbt2.trans (HC2.out.to HSH.out.2), (Dr.below HB.out).trans ((Dr.below HB2.out).trans (Dr.st HC2.out HSH.out.2))⟩
theorem rShift_any (h : RK X xb A c F rs w) (n : Int) : Calls Tryd.prog 31 #[BP xb, .int .i64 n] w (RnP X xb (shiftS F n) w) := by
  by_cases ho : n < 0 ∨ 100 < n
  · exact rshift_out h n ho
  · cases hk : topS isMacro F with
    | zero => exact rshift_none h n (by omega) (by omega) hk
    | succ k => exact rshift_some h n (by omega) (by omega) k hk
end
end Go.Proofs.YtfobbcddedcepaaDoor
/- The document's Copy. -/
namespace Go.Proofs.YtfobbcddedcepaaDoor
open Go.RowKit
set_option maxRecDepth 100000
set_option linter.unusedSimpArgs false
set_option linter.unusedVariables false
theorem run_append_nilc {P : Program} {w : World} (base : Nat) (t ty e : TypeId) (i : TypeInfo) (size : Nat) (ht : P.underlying t = some (.slice e)) (hi : P.info? e = some i)
    (v : Value) (n q : Nat) (xs : List Value) (hown : w.ownsRow base e size v n xs) :
    (Builtin.append_ #[t, t] ty #[v, .slice none 0 q]).run P w = .ok v w := by
  rcases hown.2 with ⟨rfl, rfl⟩ | ⟨g, cap, cur, rfl, _, _, hnc, _⟩
  · simp [Builtin.append_, run_underlying ht, sizeOf, typeInfo, hi, Builtin.lenOf, Builtin.firstCells]
  · simp [Builtin.append_, run_underlying ht, sizeOf, typeInfo, hi, Builtin.lenOf, Builtin.firstCells, hnc, storeCells]
theorem wpList_append_nilc {P : Program} {w : World} {ops : Array Oper} {rest : List Oper} {o : Oper} {a : Act} {Q : Exit → Act → World → Prop} (hgd : o.guard = none) (s x : Operand) (t : TypeId)
    (ho : o.op = .call { callee := .builtin .append, args := #[s, x], argTypes := #[t, t] })
    (base : Nat) (e : TypeId) (i : TypeInfo) (size : Nat) (ht : P.underlying t = some (.slice e)) (hi : P.info? e = some i)
    (v : Value) (n : Nat) (xs : List Value) (hs : a.eval s = v) (hown : w.ownsRow base e size v n xs) (q : Nat) (hx : a.eval x = .slice none 0 q)
    (h : wpList P ops Q rest (a.put o.dst v) w) : wpList P ops Q (o :: rest) a w := by
  refine wpList_plain hgd fun K hK => ?_
  have hrun := run_append_nilc (P := P) (w := w) base t o.type e i size ht hi v n q xs hown
  unfold Oper.wp
  simp [execOp, ho, resolve, invoke, builtin, hs, hx, hrun, Result.andThen]
  exact hK _ _ h
/-- A frame's block, its lines and arguments set anew. -/
theorem rfX_set2 {w : World} {b : Nat} {r : RF} (h : w.heap[b]? = some (rfX r)) (A : Option Addr) (n c : Nat) : (w.setCell ⟨b, 2, none⟩ (.slice A n c)).heap[b]? = some (rfX { r with lo := A, ln := n, lc := c }) := by
  simp [World.setCell, Array.getElem?_modify, h]
theorem rfX_set3 {w : World} {b : Nat} {r : RF} (h : w.heap[b]? = some (rfX r)) (A : Option Addr) (n c : Nat) : (w.setCell ⟨b, 3, none⟩ (.slice A n c)).heap[b]? = some (rfX { r with ao := A, an := n, ac := c }) := by
  simp [World.setCell, Array.getElem?_modify, h]
theorem rfX_fz {w : World} {b : Nat} {r : RF} (h : w.heap[b]? = some (rfX r)) (k : Nat) : w.frozen? ⟨b, k, none⟩ = false := by
  simp [World.frozen?, h]
section
variable {X xb : Nat} {A : Option Addr} {c : Nat} {F : List Fr} {rs : List RF} {w : World}
/-- A frame more, in the stack's own row. -/
theorem RK.app (h : RK X xb A c F rs w) {r : RF} {f : Fr} (hr : RfIs (Tg w) w r f) (hf : okFr f) (h50 : F.length < 50) (hst : ∀ (i : Nat) (x : Fr), F[i]? = some x → stays x = true) {w5 : World} {v5 : Value}
    (hown : w5.ownsRow X 61 5 v5 (F.length + 1) (rs.flatMap rfCs ++ rfCs r)) (hg : w.grownBy w5 (Value.slice A F.length c).ownBlock) :
    RS X xb (F ++ [f]) (w5.setCell ⟨xb, 1, none⟩ v5) ∧ Below X w (w5.setCell ⟨xb, 1, none⟩ v5) := by
  have hX : X ≤ w.heap.size := by have := h.bx; have := h.lt; omega
  have htag : ∀ g, (Value.slice A F.length c).ownBlock = some g → Tg w 61 g ∧ X ≤ g := fun g hg => own_tag h.row hg
  have hs : w5.heap[xb]? = _ := (hg.block xb h.lt (fun e => (h.tg.ne (htag xb e.symm).1 (by decide)) rfl)).trans h.cell
  have hb5 : Below X w w5 := (Below.refl X w).grown hg hX (fun g e => (htag g e).2)
  have hb6 : Below X w (w5.setCell ⟨xb, 1, none⟩ v5) := hb5.setCell (p := ⟨xb, 1, none⟩) h.bx _
  have hlt : ∀ g, v5.ownBlock = some g → g ≠ xb := fun g e => ((own_tag hown e).1.ne (show Tg w5 52 xb from ⟨_, _, hs⟩) (by decide))
  have hdt : Dt w (w5.setCell ⟨xb, 1, none⟩ v5) := fun e b he hb' => by
    have hne : b ≠ xb := hb'.ne h.tg (by rcases he with rfl | rfl | rfl | rfl <;> decide)
    refine (Below.heap_setCell _ _ _ _ (by exact hne)).trans (hg.block b hb'.lt fun e' => ?_)
    exact (hb'.ne (htag b e'.symm).1 (by rcases he with rfl | rfl | rfl | rfl <;> decide)) rfl
  obtain ⟨o, cap, rfl, hc1, hc2⟩ := row_shape hown
  refine ⟨⟨o, cap, rs ++ [r], ⟨?_, ?_, ⟨by simp [h.rl], fun i a b ha hb => ?_⟩, fun x hx => ?_, by simp; omega, fun i x hi hx => ?_, h.bx⟩⟩, hb6⟩
  · rw [List.length_append]; simp [World.setCell, Array.getElem?_modify, hs]
  · rw [List.length_append, List.flatMap_append]
    have e : [r].flatMap rfCs = rfCs r := by simp
    rw [e]
    exact own_far hown fun b hb => Below.heap_setCell _ _ _ _ (by exact hlt b hb)
  · by_cases hi : i < F.length
    · rw [List.getElem?_append_left (by rw [h.rl]; exact hi)] at ha
      rw [List.getElem?_append_left hi] at hb
      exact (h.fr.2 i a b ha hb).dt hdt
    · have hl1 := (List.getElem?_eq_some_iff.1 ha).1
      have hi' : i = F.length := by simp [h.rl] at hl1; omega
      subst hi'
      rw [List.getElem?_append_right (by rw [h.rl]; exact Nat.le_refl _), h.rl, Nat.sub_self] at ha
      rw [List.getElem?_append_right (Nat.le_refl _), Nat.sub_self] at hb
      simp only [List.getElem?_cons_zero, Option.some.injEq] at ha hb
      subst ha hb
      exact hr.dt hdt
  · rcases List.mem_append.1 hx with hx | hx
    · exact h.ok x hx
    · simp only [List.mem_cons, List.not_mem_nil, or_false] at hx
      subst hx; exact hf
  · rw [List.length_append] at hi
    rw [List.getElem?_append_left (by simp at hi; omega)] at hx
    exact hst i x hx
set_option maxHeartbeats 4000000 in
theorem rCopy_any (h : RK X xb A c F rs w) : Calls Tryd.prog 15 #[BP xb] w fun e w' => e = .returned (BP w.heap.size) ∧ RS w.heap.size w.heap.size F w' ∧ Below w.heap.size w w' := by
  obtain ⟨i0, hi0, hz0, hz1, hz2⟩ := info_parts info_rframe
  obtain ⟨i1, hi1, hy0, hy1, hy2⟩ := info_parts info_str
  have HM := Lib.hid (rno_any h)
  have HN := Lib.hid (rNew_any (X := w.heap.size) w (Nat.le_refl _))
  have hlen := h.len
  have H := Lib.hid h
  clear h
  go_enter Tryd.func15, Tryd.ntmps15
  go_wp2_with fail
  refine HM.out.mono ?_
  rintro e w1 ⟨rfl, rfl⟩
  go_wp2_with fail
  refine HN.out.mono ?_
  rintro e w1 ⟨rfl, hst, hb1⟩
  have HST := Lib.hid hst
  have HB1 := Lib.hid hb1
  clear hst hb1
  go_wp2_with fail
  go_loopg [4, 5] F.length (fun k i p wr => ∃ j : Nat, k + j = F.length ∧ i = .int .i64 j ∧ RS w.heap.size w.heap.size (F.take j) wr ∧ Below w.heap.size w wr)
  case atStart => exact ⟨0, rfl, rfl, by rw [List.take_zero]; exact HST.out, HB1.out⟩
  case round =>
    obtain ⟨j, hk, rfl, ⟨A', c', rs', hq⟩, hb⟩ := hrel
    have HK := Lib.hid hk
    have HQ := Lib.hid hq
    have HB := Lib.hid hb
    have hh := H.out.below hb
    have c0 := hh.c0.2
    by_cases hj : j < F.length
    · have dj : decide (j < F.length) = true := decide_eq_true hj
      have hr : rs[j]? = some (rs[j]'(by have := H.out.rl; omega)) := List.getElem?_eq_getElem (by have := H.out.rl; omega)
      obtain ⟨r, hre⟩ : ∃ r, r = rs[j]'(by have := H.out.rl; omega) := ⟨_, rfl⟩
      rw [← hre] at hr
      have hf : F[j]? = some (F[j]'(by omega)) := List.getElem?_eq_getElem (by omega)
      obtain ⟨f, hfe⟩ : ∃ f, f = F[j]'(by omega) := ⟨_, rfl⟩
      rw [← hfe] at hf
      have hri := hh.fr.2 j r f hr hf
      obtain ⟨g, rfl, htg, ⟨c10, c11, c12, c13, c14⟩, _⟩ := hh.fc j r hr
      have HRI := Lib.hid hri
      have HF := Lib.hid hf
      have HJ := Lib.hid hj
      have hj0 : (0 : Int) ≤ (j : Int) := by omega
      have hj1 : (j : Int) < (F.length : Int) := by omega
      have hj5 : (j : Int) < 50 := by omega
      obtain ⟨kd, nm, lo, ln, lc, ao, an, ac, tk⟩ := r
      simp only at c10 c11 c12 c13 c14
      clear hk hq hb hh hj hre hr hfe hf hri htg
      go_wp2_with fail
      have hxa := heap_alloc_new wr (rfX ⟨kd, nm, lo, ln, lc, ao, an, ac, tk⟩)
      have hba := (Below.refl wr.heap.size wr).alloc (Nat.le_refl _) (rfX ⟨kd, nm, lo, ln, lc, ao, an, ac, tk⟩)
      have hra := HRI.out.dt (Dt.below hba)
      have hok := H.out.ok f (List.mem_of_getElem? HF.out)
      have hoa := rOwnAll_any (c := lc) hra.ls (fun e b hb => Tg.lt hb) (by have h1 := hra.ls.len; have h2 := hok.len; simp only at h1 ⊢; omega) (okLn_bx hok.ls)
      have HOA := Lib.hid hoa
      have HXA := Lib.hid hxa
      have HBA := Lib.hid hba
      have HOK := Lib.hid hok
      clear hxa hba hra hok hoa c10 c11 c12 c13 c14
      refine HOA.out.mono ?_
      rintro e w2 ⟨⟨A2, c2, rfl, hl2, hn2, hle2, hcap2⟩, hb2⟩
      have hz2 := hb2.size
      have hx2 := (hb2.block wr.heap.size (lt_of_block HXA.out)).trans HXA.out
      have hx3 := rfX_set2 hx2 A2 ln c2
      obtain ⟨_, _, p2, p3, _⟩ := rfX_cells hx2
      have f2 := rfX_fz hx2 2
      have hbw2 := HBA.out.trans (hb2.mono HBA.out.size)
      have hbw3 := hbw2.setCell (p := ⟨wr.heap.size, 2, none⟩) (Nat.le_refl _) (.slice A2 ln c2)
      have HL2 := Lib.hid (hl2.keep (P' := Tg w2) fun e b hb' => ⟨rfl, hb'.2⟩)
      have HN2 := Lib.hid hn2
      have HLE2 := Lib.hid hle2
      have HCAP2 := Lib.hid hcap2
      have HX2 := Lib.hid hx2
      have HBW2 := Lib.hid hbw2
      obtain ⟨w3, hw3⟩ : ∃ w3, w3 = w2.setCell ⟨wr.heap.size, 2, none⟩ (.slice A2 ln c2) := ⟨_, rfl⟩
      rw [← hw3] at hx3 hbw3
      have HX3 := Lib.hid hx3
      have HBW3 := Lib.hid hbw3
      have HW3 := Lib.hid hw3
      have HK23 : Hid (Kept (fun b => b = wr.heap.size) w2 w3) := Lib.hid (by rw [hw3]; exact (Kept.refl (fun b => b = wr.heap.size) w2).setCell (p := ⟨wr.heap.size, 2, none⟩) rfl _)
      clear hl2 hn2 hle2 hcap2 hb2 hx2 hbw2 hbw3 hw3
      have hxb := (Below.heap_alloc w3 (.cells #[] 9) wr.heap.size (lt_of_block hx3)).trans hx3
      obtain ⟨_, _, _, r3, _⟩ := rfX_cells hxb
      have f3 := rfX_fz hxb 3
      have hs3 : w3.heap.size = w2.heap.size := by rw [HW3.out]; simp [World.setCell]
      have hr0 := World.ownsRow_made (base := w2.heap.size) (e := 9) (size := 1) w3 #[] 0 (by omega) (by unfold maxLen; omega) rfl
      rw [hs3] at hr0
      have hK3 : Kept (fun b => b = wr.heap.size) w2 (w3.alloc (.cells #[] 9)) := HK23.out.below ((Below.refl w3.heap.size w3).alloc (Nat.le_refl _) (.cells #[] 9))
      have har2 := HRI.out.ar
      have hfit := HRI.out.afit
      have hacap := HRI.out.acap
      have hale := HRI.out.ale
      have hanil := HRI.out.anil
      simp only at hfit hacap hale hanil
      have hsrc0 : ∀ a, ao = some a → ∀ j u, (strCs f.ar)[j]? = some u → (w3.alloc (.cells #[] 9)).cell? (a.add j) = some u := by
        intro a ha j u hu
        have hl := har2.len
        simp only at hl
        have hjl := (List.getElem?_eq_some_iff.1 hu).1
        unfold strCs at hjl
        rw [List.length_map] at hjl
        obtain ⟨b, off, e, hp, hc⟩ := har2.rd.2 (by simp only; omega)
        simp only at e
        rw [ha] at e
        have e2 : a = ⟨b, off, none⟩ := Option.some.inj e
        rw [e2, cell_add]
        have h0 := hc j u hu
        have h1 : w3.heap[b]? = wr.heap[b]? := HBW3.out.block b hp.lt
        have h2 := (Below.heap_alloc w3 (.cells #[] 9) b (by have := HBW3.out.size; have := hp.lt; omega)).trans h1
        unfold World.cell? at h0 ⊢
        rw [h2]; exact h0
      have HSRC := Lib.hid hsrc0
      have HLA : Hid ((strCs f.ar).length = an * 1) := Lib.hid (by have hl := har2.len; simp only at hl; unfold strCs; rw [List.length_map]; omega)
      have HLF : Hid (an = f.ar.length) := Lib.hid (by have hl := har2.len; simp only at hl; exact hl)
      have HXB := Lib.hid hxb
      have HR0 := Lib.hid hr0
      have HK3 := Lib.hid hK3
      have hfit2 : an * 16 ≤ 140737488351232 := hfit
      rw [HW3.out] at r3 f3
      have HA3 : Hid (w3.alloc (.cells #[] 9) = (w2.setCell ⟨wr.heap.size, 2, none⟩ (.slice A2 ln c2)).alloc (.cells #[] 9)) := Lib.hid (by rw [HW3.out])
      clear hx3 hxb hr0 hK3 har2 hfit hsrc0
      cases ao with
      | none =>
        obtain rfl : an = 0 := hanil rfl
        have HF0 : Hid (f.ar = []) := Lib.hid (List.eq_nil_of_length_eq_zero HLF.out.symm)
        have hx4 := HXB.out
        have hk4 := HK3.out
        obtain ⟨w4, hw4⟩ : ∃ w4, w4 = w3.alloc (.cells #[] 9) := ⟨_, rfl⟩
        rw [← hw4] at hx4 hk4
        have hr4 := HR0.out
        rw [← hw4] at hr4
        have HW4 : Hid (w4 = (w2.setCell ⟨wr.heap.size, 2, none⟩ (.slice A2 ln c2)).alloc (.cells #[] 9)) := Lib.hid (hw4.trans HA3.out)
        have HS4 : Hid (∃ o3 n3 cap3, Value.slice (some ⟨w2.heap.size, 0, none⟩) 0 0 = .slice o3 n3 cap3 ∧ StrsAt (Tg w4) w4 o3 n3 f.ar ∧ (o3 = none → n3 = 0) ∧ n3 ≤ cap3 ∧ (cap3 : Int) ≤ 9223372036854775807 ∧ n3 * 16 ≤ 140737488351232) := Lib.hid ⟨_, _, _, rfl, by rw [HF0.out]; exact ⟨⟨rfl, fun h => absurd h (Nat.lt_irrefl 0)⟩, rfl⟩, (fun h => by cases h), Nat.le_refl _, by decide, by decide⟩
        have HX4 := Lib.hid hx4
        have HK4 := Lib.hid hk4
        have HR4 := Lib.hid hr4
        obtain ⟨_, _, _, t3, _⟩ := rfX_cells hx4
        have g3 := rfX_fz hx4 3
        have HRX := HR0.out
        rw [HA3.out] at HRX
        have HRY := Lib.hid HRX
        clear hw4 hx4 hk4 hr4 HRX
        go_wp2_with (first
          | (at_builtin; refine wpList_append_nilc rfl _ _ 36 rfl w2.heap.size 9 i1 1 Tryd.underlying36 hi1 _ 0 [] rfl HRY.out ac rfl ?_
             rw [← HW4.out]))
        obtain ⟨o3, n3, cap3, hv3, hs3⟩ := HS4.out
        injection hv3 with hv1 hv2 hv3
        subst hv1 hv2 hv3
        have HS3 := Lib.hid hs3
        clear hs3
        obtain ⟨w5, hw5⟩ : ∃ w5, w5 = w4.setCell ⟨wr.heap.size, 3, none⟩ (.slice (some ⟨w2.heap.size, 0, none⟩) 0 0) := ⟨_, rfl⟩
        rw [← hw5]
        have hx5 := rfX_set3 HX4.out (some ⟨w2.heap.size, 0, none⟩) 0 0
        rw [← hw5] at hx5
        have hk5 : Kept (fun b => b = wr.heap.size) w2 w5 := by rw [hw5]; exact HK4.out.setCell (p := ⟨wr.heap.size, 3, none⟩) rfl _
        have hk45 : Kept (fun b => b = wr.heap.size) w4 w5 := by rw [hw5]; exact (Kept.refl (fun b => b = wr.heap.size) w4).setCell (p := ⟨wr.heap.size, 3, none⟩) rfl _
        have hdt : Dt w2 w5 := fun e b he hb => hk5.block b hb.lt (hb.ne ⟨_, _, HX2.out⟩ (by rcases he with rfl | rfl | rfl | rfl <;> decide))
        have hdt4 : Dt w4 w5 := fun e b he hb => hk45.block b hb.lt (hb.ne ⟨_, _, HX4.out⟩ (by rcases he with rfl | rfl | rfl | rfl <;> decide))
        have hbw5 : Below wr.heap.size wr w5 := HBW2.out.trans (hk5.to HBW2.out.size (fun k e => by omega))
        obtain ⟨R, hR⟩ : ∃ R : RF, R = ⟨kd, nm, A2, ln, c2, (some ⟨w2.heap.size, 0, none⟩), 0, 0, tk⟩ := ⟨_, rfl⟩
        have hri5 : RfIs (Tg w5) w5 ⟨kd, nm, A2, ln, c2, (some ⟨w2.heap.size, 0, none⟩), 0, 0, tk⟩ f := ⟨HRI.out.kd, HRI.out.nm, HRI.out.tk, HL2.out.dt hdt, HN2.out, HLE2.out, HCAP2.out, HS3.out.1.dt hdt4, HS3.out.2.1, HS3.out.2.2.1, HS3.out.2.2.2.1, HS3.out.2.2.2.2⟩
        rw [← hR] at hri5
        have hq5 := HQ.out.below hbw5
        have hlj : (F.take j).length = j := by rw [List.length_take]; have := HJ.out; omega
        have c9 := hq5.c0.2
        rw [hlj] at c9
        obtain ⟨s0, s1, s2, s3, s4⟩ := rfX_cells hx5
        simp only at s0 s1 s2 s3 s4
        have hfb := lt_of_block hx5
        have hyb := hq5.lt
        have hb6 : Below w5.heap.size w5 (w5.drew.alloc (rfX R)) := (show Below w5.heap.size w5 w5.drew from ⟨rfl, rfl, rfl, Nat.le_refl _, fun _ _ => rfl⟩).trans ((Below.refl w5.heap.size w5.drew).alloc (Nat.le_refl _) (rfX R))
        have hq6 := hq5.below hb6
        have hrow6 := hq6.row
        rw [hlj] at hrow6
        have hsrc6 := cell_five_rf w5.drew R
        have HQ6 := Lib.hid hq6
        have HRI6 := Lib.hid (hri5.dt (Dt.below hb6))
        have HB6 := Lib.hid (hbw5.trans (hb6.mono hbw5.size))
        have HROW6 := Lib.hid hrow6
        have HSRC6 := Lib.hid hsrc6
        have HONE := Lib.hid (rf_one R)
        have HRC : Hid (rfCs R = [.int .i64 kd, .string nm, .slice A2 ln c2, .slice (some ⟨w2.heap.size, 0, none⟩) 0 0, .int .i64 tk]) := Lib.hid (by rw [hR]; rfl)
        have HRX : Hid (rfX R = .cells #[.int .i64 kd, .string nm, .slice A2 ln c2, .slice (some ⟨w2.heap.size, 0, none⟩) 0 0, .int .i64 tk] 61) := Lib.hid (by rw [hR])
        rw [HRX.out] at HROW6 HSRC6
        have HSTA : Hid (∀ (i : Nat) (x : Fr), (F.take j)[i]? = some x → stays x = true) := Lib.hid (fun i x hx => by
          rw [List.getElem?_take] at hx
          split at hx
          · exact H.out.inv i x (by have := HJ.out; omega) hx
          · cases hx)
        have hj50 : j < 50 := by have := HJ.out; omega
        have HLJ := Lib.hid hlj
        have hwz : w.heap.size ≤ w5.heap.size := Nat.le_trans HB.out.size hbw5.size
        clear hw5 hx5 hk5 hk45 hdt hdt4 hbw5 hri5 hq5 hlj hb6 hq6 hrow6 hsrc6 hR
        go_wp2_with fail
        go_region_law (first
          | (refine step_append_own rfl (.tmp 38) (.tmp 40) 50 rfl w.heap.size 61 i0 _ 5 80 Tryd.underlying50 hi0 hz0 hz1 (by assumption) rfl (by decide) (.slice A' j c') j (rs'.flatMap rfCs) (by simp [Act.eval, Act.put]) HROW6.out ⟨w5.heap.size, 0, none⟩ 1 1 (rfCs R) (by simp [Act.eval, Act.put]) rfl HSRC6.out HONE.out (by unfold maxLen; omega) (by omega) (by simp; omega) ?_
             intro v7 w7 hown7 hgrow7 _
             rw [← HRX.out] at hgrow7
             have hg7 : (w5.drew.alloc (rfX R)).grownBy w7 (Value.slice A' (F.take j).length c').ownBlock := by rw [HLJ.out]; exact hgrow7
             have HAPP := Lib.hid (HQ6.out.app HRI6.out HOK.out (by rw [HLJ.out]; omega) HSTA.out (by rw [HLJ.out]; exact hown7) hg7)
             have hs7 : w7.heap[w.heap.size]? = _ := (hg7.block w.heap.size HQ6.out.lt (fun e => (HQ6.out.tg.ne (own_tag HQ6.out.row e.symm).1 (by decide)) rfl)).trans HQ6.out.cell
             obtain ⟨o7, cap7, rfl, _, _⟩ := row_shape hown7
             have e1 : w7.cell? ⟨w.heap.size, 1, none⟩ = some (.slice A' (F.take j).length c') := by simp [World.cell?, hs7]
             have e2 : w7.frozen? ⟨w.heap.size, 1, none⟩ = false := by simp [World.frozen?, hs7]
             clear hown7 hgrow7 hg7 hs7))
        all_goals
          go_wp2_with fail
          go_roundg (gk - 1)
          case measure => have := HK.out; have := HJ.out; omega
          case rel =>
            have := HK.out
            have := HJ.out
            refine ⟨j + 1, by omega, by first | go_num | (congr 1; rw [IntWalk.wrap64_in _ (by omega)]; omega), ?_, ?_⟩
            · have e : F.take (j + 1) = F.take j ++ [f] := by rw [List.take_add_one, HF.out]; rfl
              rw [e]
              exact HAPP.out.1
            · exact HB.out.trans ((HB6.out.mono HB.out.size).trans HAPP.out.2)

      | some a =>
        have HRX := HR0.out
        rw [HA3.out] at HRX
        have HRY := Lib.hid HRX
        have hsrc := HSRC.out a rfl
        rw [HA3.out] at hsrc
        have HSX := Lib.hid hsrc
        have hbase : w2.heap.size ≤ (w3.alloc (.cells #[] 9)).heap.size := by simp; omega
        rw [HA3.out] at hbase
        have HBASE := Lib.hid hbase
        have hlt2 : wr.heap.size < w2.heap.size := lt_of_block HX2.out
        clear hsrc HRX hbase
        go_wp2_with (first
          | (at_builtin; refine wpList_append_own _ rfl _ _ 36 rfl w2.heap.size 9 i1 _ 1 16 Tryd.underlying36 hi1 hy0 hy1 hy2 rfl (by decide) _ 0 [] rfl HRY.out a an ac (strCs f.ar) rfl HLA.out HSX.out (str_one f.ar) (by unfold maxLen; omega) (by omega) HBASE.out ?_
             intro v3 w4 hown3 hgrow3 _
             obtain ⟨o3, cap3, rfl, h31, h32⟩ := row_shape hown3
             rw [Nat.zero_add, List.nil_append] at hown3
             rw [Nat.zero_add] at h31
             rw [Nat.zero_add]
             rw [← HA3.out] at hgrow3
             have hg3 : (w3.alloc (.cells #[] 9)).grownBy w4 (some w2.heap.size) := hgrow3
             have HX4 := Lib.hid ((hg3.block wr.heap.size (lt_of_block HXB.out) (by intro e; injection e with e; omega)).trans HXB.out)
             have HK4 : Hid (Kept (fun b => b = wr.heap.size) w2 w4) := Lib.hid ⟨hg3.os.trans HK3.out.os, hg3.tape.trans HK3.out.tape, hg3.output.trans HK3.out.output, Nat.le_trans HK3.out.size hg3.size, fun b hb hs => (hg3.block b (Nat.lt_of_lt_of_le hb HK3.out.size) (by intro e; injection e with e; omega)).trans (HK3.out.block b hb hs)⟩
             obtain ⟨_, _, _, t3, _⟩ := rfX_cells HX4.out
             have g3 := rfX_fz HX4.out 3
             have HS3 : Hid (StrsAt (Tg w4) w4 o3 an f.ar ∧ (o3 = none → an = 0) ∧ an ≤ cap3 ∧ (cap3 : Int) ≤ 9223372036854775807 ∧ an * 16 ≤ 140737488351232) := Lib.hid ⟨⟨ReadsP.of_own hown3 (fun g cs hg _ => ⟨cs, _, hg⟩), HLF.out⟩, own_none hown3, h31, h32, hfit2⟩
             clear hown3 hgrow3 hg3 h31 h32))
        rename World => w4
        rename Nat => cap3
        rename Option Addr => o3
        obtain ⟨w5, hw5⟩ : ∃ w5, w5 = w4.setCell ⟨wr.heap.size, 3, none⟩ (.slice o3 an cap3) := ⟨_, rfl⟩
        rw [← hw5]
        have hx5 := rfX_set3 HX4.out o3 an cap3
        rw [← hw5] at hx5
        have hk5 : Kept (fun b => b = wr.heap.size) w2 w5 := by rw [hw5]; exact HK4.out.setCell (p := ⟨wr.heap.size, 3, none⟩) rfl _
        have hk45 : Kept (fun b => b = wr.heap.size) w4 w5 := by rw [hw5]; exact (Kept.refl (fun b => b = wr.heap.size) w4).setCell (p := ⟨wr.heap.size, 3, none⟩) rfl _
        have hdt : Dt w2 w5 := fun e b he hb => hk5.block b hb.lt (hb.ne ⟨_, _, HX2.out⟩ (by rcases he with rfl | rfl | rfl | rfl <;> decide))
        have hdt4 : Dt w4 w5 := fun e b he hb => hk45.block b hb.lt (hb.ne ⟨_, _, HX4.out⟩ (by rcases he with rfl | rfl | rfl | rfl <;> decide))
        have hbw5 : Below wr.heap.size wr w5 := HBW2.out.trans (hk5.to HBW2.out.size (fun k e => by omega))
        obtain ⟨R, hR⟩ : ∃ R : RF, R = ⟨kd, nm, A2, ln, c2, o3, an, cap3, tk⟩ := ⟨_, rfl⟩
        have hri5 : RfIs (Tg w5) w5 ⟨kd, nm, A2, ln, c2, o3, an, cap3, tk⟩ f := ⟨HRI.out.kd, HRI.out.nm, HRI.out.tk, HL2.out.dt hdt, HN2.out, HLE2.out, HCAP2.out, HS3.out.1.dt hdt4, HS3.out.2.1, HS3.out.2.2.1, HS3.out.2.2.2.1, HS3.out.2.2.2.2⟩
        rw [← hR] at hri5
        have hq5 := HQ.out.below hbw5
        have hlj : (F.take j).length = j := by rw [List.length_take]; have := HJ.out; omega
        have c9 := hq5.c0.2
        rw [hlj] at c9
        obtain ⟨s0, s1, s2, s3, s4⟩ := rfX_cells hx5
        simp only at s0 s1 s2 s3 s4
        have hfb := lt_of_block hx5
        have hyb := hq5.lt
        have hb6 : Below w5.heap.size w5 (w5.drew.alloc (rfX R)) := (show Below w5.heap.size w5 w5.drew from ⟨rfl, rfl, rfl, Nat.le_refl _, fun _ _ => rfl⟩).trans ((Below.refl w5.heap.size w5.drew).alloc (Nat.le_refl _) (rfX R))
        have hq6 := hq5.below hb6
        have hrow6 := hq6.row
        rw [hlj] at hrow6
        have hsrc6 := cell_five_rf w5.drew R
        have HQ6 := Lib.hid hq6
        have HRI6 := Lib.hid (hri5.dt (Dt.below hb6))
        have HB6 := Lib.hid (hbw5.trans (hb6.mono hbw5.size))
        have HROW6 := Lib.hid hrow6
        have HSRC6 := Lib.hid hsrc6
        have HONE := Lib.hid (rf_one R)
        have HRC : Hid (rfCs R = [.int .i64 kd, .string nm, .slice A2 ln c2, .slice o3 an cap3, .int .i64 tk]) := Lib.hid (by rw [hR]; rfl)
        have HRX : Hid (rfX R = .cells #[.int .i64 kd, .string nm, .slice A2 ln c2, .slice o3 an cap3, .int .i64 tk] 61) := Lib.hid (by rw [hR])
        rw [HRX.out] at HROW6 HSRC6
        have HSTA : Hid (∀ (i : Nat) (x : Fr), (F.take j)[i]? = some x → stays x = true) := Lib.hid (fun i x hx => by
          rw [List.getElem?_take] at hx
          split at hx
          · exact H.out.inv i x (by have := HJ.out; omega) hx
          · cases hx)
        have hj50 : j < 50 := by have := HJ.out; omega
        have HLJ := Lib.hid hlj
        have hwz : w.heap.size ≤ w5.heap.size := Nat.le_trans HB.out.size hbw5.size
        clear hw5 hx5 hk5 hk45 hdt hdt4 hbw5 hri5 hq5 hlj hb6 hq6 hrow6 hsrc6 hR
        go_wp2_with fail
        go_region_law (first
          | (refine step_append_own rfl (.tmp 38) (.tmp 40) 50 rfl w.heap.size 61 i0 _ 5 80 Tryd.underlying50 hi0 hz0 hz1 (by assumption) rfl (by decide) (.slice A' j c') j (rs'.flatMap rfCs) (by simp [Act.eval, Act.put]) HROW6.out ⟨w5.heap.size, 0, none⟩ 1 1 (rfCs R) (by simp [Act.eval, Act.put]) rfl HSRC6.out HONE.out (by unfold maxLen; omega) (by omega) (by simp; omega) ?_
             intro v7 w7 hown7 hgrow7 _
             rw [← HRX.out] at hgrow7
             have hg7 : (w5.drew.alloc (rfX R)).grownBy w7 (Value.slice A' (F.take j).length c').ownBlock := by rw [HLJ.out]; exact hgrow7
             have HAPP := Lib.hid (HQ6.out.app HRI6.out HOK.out (by rw [HLJ.out]; omega) HSTA.out (by rw [HLJ.out]; exact hown7) hg7)
             have hs7 : w7.heap[w.heap.size]? = _ := (hg7.block w.heap.size HQ6.out.lt (fun e => (HQ6.out.tg.ne (own_tag HQ6.out.row e.symm).1 (by decide)) rfl)).trans HQ6.out.cell
             obtain ⟨o7, cap7, rfl, _, _⟩ := row_shape hown7
             have e1 : w7.cell? ⟨w.heap.size, 1, none⟩ = some (.slice A' (F.take j).length c') := by simp [World.cell?, hs7]
             have e2 : w7.frozen? ⟨w.heap.size, 1, none⟩ = false := by simp [World.frozen?, hs7]
             clear hown7 hgrow7 hg7 hs7))
        all_goals
          go_wp2_with fail
          go_roundg (gk - 1)
          case measure => have := HK.out; have := HJ.out; omega
          case rel =>
            have := HK.out
            have := HJ.out
            refine ⟨j + 1, by omega, by first | go_num | (congr 1; rw [IntWalk.wrap64_in _ (by omega)]; omega), ?_, ?_⟩
            · have e : F.take (j + 1) = F.take j ++ [f] := by rw [List.take_add_one, HF.out]; rfl
              rw [e]
              exact HAPP.out.1
            · exact HB.out.trans ((HB6.out.mono HB.out.size).trans HAPP.out.2)

    · have dj : decide (j < F.length) = false := decide_eq_false hj
      obtain rfl : j = F.length := by omega
      have HFIN : Hid (RS w.heap.size w.heap.size F wr) := Lib.hid (by rw [List.take_length] at hq; exact ⟨A', c', rs', hq⟩)
      clear hk hq hb hh hj
      go_wp2_with fail
      go_ret
      exact ⟨rfl, HFIN.out, HB.out⟩
end
end Go.Proofs.YtfobbcddedcepaaDoor
