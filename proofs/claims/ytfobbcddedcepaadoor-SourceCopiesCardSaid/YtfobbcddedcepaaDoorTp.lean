/- A deed on the document's stack: it comes to what it names. -/
import Derived.Test.YtfobbcddedcepaaDoorPa
import Derived.Test.YtfobbcddedcepaaDoorPd
import Derived.Deep.RegionLaw
import Derived.Test.YtfobbcddedcepaaDoorLT
import Derived.Test.YtfobbcddedcepaaDoorOa
namespace Go.Proofs.YtfobbcddedcepaaDoor
open Go.RowKit
set_option maxRecDepth 100000
set_option linter.unusedSimpArgs false
set_option linter.unusedVariables false
theorem told_0 {q : Option Addr} {nm tx : ByteArray} {A : Option Addr} {n c : Nat} {B : Option Addr} {m e : Nat} {a : Int} {w : World} {R : Int → World → Prop} (h : Calls Tryd.prog 24 #[.pointer q, .string nm, .string tx] (dw w 0 nm tx A n c B m e a) (Nb w R)) :
    Calls Tryd.prog 10 #[.pointer q, DV 0 nm tx A n c B m e a] w (Nl R) := by
  have H := Lib.hid h
  clear h
  go_enter Tryd.func10, Tryd.ntmps10
  go_wp2_with fail
  refine H.out.mono ?_
  rintro e w1 ⟨x, rfl, hx, hr⟩
  have HR := Lib.hid hr
  have HX := Lib.hid hx
  obtain ⟨⟨p0, p1, p2, p3, p4⟩, q0, q1, q2, q3, q4⟩ := fresh_ln hx
  clear hr hx
  go_wp2_with fail
  have hlw := lnW_at (tx := ⟨#[]⟩) (md := false) (up := 0) (dn := 0) (o := none) (n := 0) (c := 0) HX.out
  refine lnerr_end (t := 4) (u := 5) (g := w.heap.size + 1) rfl rfl rfl rfl (by rw [← hlw]; rfl) ?_
  refine ⟨x, rfl, ?_⟩
  have hid := lnW_id HX.out
  unfold LnW at hid
  rw [hid]
  exact HR.out
theorem told_1 {q : Option Addr} {nm tx : ByteArray} {A : Option Addr} {n c : Nat} {B : Option Addr} {m e : Nat} {a : Int} {w : World} {R : Int → World → Prop} (h : Calls Tryd.prog 25 #[.pointer q, .string nm, .slice A n c, .slice B m e] (dw w 1 nm tx A n c B m e a) (Nb w R)) :
    Calls Tryd.prog 10 #[.pointer q, DV 1 nm tx A n c B m e a] w (Nl R) := by
  have H := Lib.hid h
  clear h
  go_enter Tryd.func10, Tryd.ntmps10
  go_wp2_with fail
  refine H.out.mono ?_
  rintro e w1 ⟨x, rfl, hx, hr⟩
  have HR := Lib.hid hr
  have HX := Lib.hid hx
  obtain ⟨⟨p0, p1, p2, p3, p4⟩, q0, q1, q2, q3, q4⟩ := fresh_ln hx
  clear hr hx
  go_wp2_with fail
  have hlw := lnW_at (tx := ⟨#[]⟩) (md := false) (up := 0) (dn := 0) (o := none) (n := 0) (c := 0) HX.out
  refine lnerr_end (t := 4) (u := 5) (g := w.heap.size + 1) rfl rfl rfl rfl (by rw [← hlw]; rfl) ?_
  refine ⟨x, rfl, ?_⟩
  have hid := lnW_id HX.out
  unfold LnW at hid
  rw [hid]
  exact HR.out
theorem told_2 {q : Option Addr} {nm tx : ByteArray} {A : Option Addr} {n c : Nat} {B : Option Addr} {m e : Nat} {a : Int} {w : World} {R : Int → World → Prop} (h : Calls Tryd.prog 26 #[.pointer q, .slice A n c] (dw w 2 nm tx A n c B m e a) (Nb w R)) :
    Calls Tryd.prog 10 #[.pointer q, DV 2 nm tx A n c B m e a] w (Nl R) := by
  have H := Lib.hid h
  clear h
  go_enter Tryd.func10, Tryd.ntmps10
  go_wp2_with fail
  refine H.out.mono ?_
  rintro e w1 ⟨x, rfl, hx, hr⟩
  have HR := Lib.hid hr
  have HX := Lib.hid hx
  obtain ⟨⟨p0, p1, p2, p3, p4⟩, q0, q1, q2, q3, q4⟩ := fresh_ln hx
  clear hr hx
  go_wp2_with fail
  have hlw := lnW_at (tx := ⟨#[]⟩) (md := false) (up := 0) (dn := 0) (o := none) (n := 0) (c := 0) HX.out
  refine lnerr_end (t := 4) (u := 5) (g := w.heap.size + 1) rfl rfl rfl rfl (by rw [← hlw]; rfl) ?_
  refine ⟨x, rfl, ?_⟩
  have hid := lnW_id HX.out
  unfold LnW at hid
  rw [hid]
  exact HR.out
theorem told_5 {q : Option Addr} {nm tx : ByteArray} {A : Option Addr} {n c : Nat} {B : Option Addr} {m e : Nat} {a : Int} {w : World} {R : Int → World → Prop} (h : Calls Tryd.prog 29 #[.pointer q, .bool (a.tmod 2 != 0)] (dw w 5 nm tx A n c B m e a) (Nb w R)) :
    Calls Tryd.prog 10 #[.pointer q, DV 5 nm tx A n c B m e a] w (Nl R) := by
  have H := Lib.hid h
  clear h
  go_enter Tryd.func10, Tryd.ntmps10
  go_wp2_with fail
  refine H.out.mono ?_
  rintro e w1 ⟨x, rfl, hx, hr⟩
  have HR := Lib.hid hr
  have HX := Lib.hid hx
  obtain ⟨⟨p0, p1, p2, p3, p4⟩, q0, q1, q2, q3, q4⟩ := fresh_ln hx
  clear hr hx
  go_wp2_with fail
  have hlw := lnW_at (tx := ⟨#[]⟩) (md := false) (up := 0) (dn := 0) (o := none) (n := 0) (c := 0) HX.out
  refine lnerr_end (t := 4) (u := 5) (g := w.heap.size + 1) rfl rfl rfl rfl (by rw [← hlw]; rfl) ?_
  refine ⟨x, rfl, ?_⟩
  have hid := lnW_id HX.out
  unfold LnW at hid
  rw [hid]
  exact HR.out
theorem told_6 {q : Option Addr} {nm tx : ByteArray} {A : Option Addr} {n c : Nat} {B : Option Addr} {m e : Nat} {a : Int} {w : World} {R : Int → World → Prop} (h : Calls Tryd.prog 30 #[.pointer q, .string nm, .string tx] (dw w 6 nm tx A n c B m e a) (Nb w R)) :
    Calls Tryd.prog 10 #[.pointer q, DV 6 nm tx A n c B m e a] w (Nl R) := by
  have H := Lib.hid h
  clear h
  go_enter Tryd.func10, Tryd.ntmps10
  go_wp2_with fail
  refine H.out.mono ?_
  rintro e w1 ⟨x, rfl, hx, hr⟩
  have HR := Lib.hid hr
  have HX := Lib.hid hx
  obtain ⟨⟨p0, p1, p2, p3, p4⟩, q0, q1, q2, q3, q4⟩ := fresh_ln hx
  clear hr hx
  go_wp2_with fail
  have hlw := lnW_at (tx := ⟨#[]⟩) (md := false) (up := 0) (dn := 0) (o := none) (n := 0) (c := 0) HX.out
  refine lnerr_end (t := 4) (u := 5) (g := w.heap.size + 1) rfl rfl rfl rfl (by rw [← hlw]; rfl) ?_
  refine ⟨x, rfl, ?_⟩
  have hid := lnW_id HX.out
  unfold LnW at hid
  rw [hid]
  exact HR.out
theorem told_7 {q : Option Addr} {nm tx : ByteArray} {A : Option Addr} {n c : Nat} {B : Option Addr} {m e : Nat} {a : Int} {w : World} {R : Int → World → Prop} (h : Calls Tryd.prog 31 #[.pointer q, .int .i64 a] (dw w 7 nm tx A n c B m e a) (Nb w R)) :
    Calls Tryd.prog 10 #[.pointer q, DV 7 nm tx A n c B m e a] w (Nl R) := by
  have H := Lib.hid h
  clear h
  go_enter Tryd.func10, Tryd.ntmps10
  go_wp2_with fail
  refine H.out.mono ?_
  rintro e w1 ⟨x, rfl, hx, hr⟩
  have HR := Lib.hid hr
  have HX := Lib.hid hx
  obtain ⟨⟨p0, p1, p2, p3, p4⟩, q0, q1, q2, q3, q4⟩ := fresh_ln hx
  clear hr hx
  go_wp2_with fail
  have hlw := lnW_at (tx := ⟨#[]⟩) (md := false) (up := 0) (dn := 0) (o := none) (n := 0) (c := 0) HX.out
  refine lnerr_end (t := 4) (u := 5) (g := w.heap.size + 1) rfl rfl rfl rfl (by rw [← hlw]; rfl) ?_
  refine ⟨x, rfl, ?_⟩
  have hid := lnW_id HX.out
  unfold LnW at hid
  rw [hid]
  exact HR.out
theorem told_3 {q : Option Addr} {nm tx : ByteArray} {A : Option Addr} {n c : Nat} {B : Option Addr} {m e : Nat} {a : Int} {w : World} {R : RL → Int → World → Prop} (h : Calls Tryd.prog 27 #[.pointer q] (dw w 3 nm tx A n c B m e a) (Tb w R)) :
    Calls Tryd.prog 10 #[.pointer q, DV 3 nm tx A n c B m e a] w (Tl w R) := by
  have H := Lib.hid h
  clear h
  go_enter Tryd.func10, Tryd.ntmps10
  go_wp2_with fail
  refine H.out.mono ?_
  rintro e w1 ⟨⟨rt, rm, ru, rd, rb, rn, rc⟩, x, rfl, hx, hr⟩
  have HR := Lib.hid hr
  have HX := Lib.hid hx
  obtain ⟨⟨p0, p1, p2, p3, p4⟩, q0, q1, q2, q3, q4⟩ := fresh_ln hx
  clear hr hx
  go_wp2_with fail
  have hlw := lnW_at (tx := rt) (md := rm) (up := ru) (dn := rd) (o := rb) (n := rn) (c := rc) HX.out
  refine lnerr_end (t := 4) (u := 5) (g := w.heap.size + 1) rfl rfl rfl rfl hlw ?_
  exact ⟨⟨rt, rm, ru, rd, rb, rn, rc⟩, x, w1, rfl, HR.out, HX.out, rfl⟩
theorem told_4 {q : Option Addr} {nm tx : ByteArray} {A : Option Addr} {n c : Nat} {B : Option Addr} {m e : Nat} {a : Int} {w : World} {R : RL → Int → World → Prop} (h : Calls Tryd.prog 28 #[.pointer q] (dw w 4 nm tx A n c B m e a) (Tb w R)) :
    Calls Tryd.prog 10 #[.pointer q, DV 4 nm tx A n c B m e a] w (Tl w R) := by
  have H := Lib.hid h
  clear h
  go_enter Tryd.func10, Tryd.ntmps10
  go_wp2_with fail
  refine H.out.mono ?_
  rintro e w1 ⟨⟨rt, rm, ru, rd, rb, rn, rc⟩, x, rfl, hx, hr⟩
  have HR := Lib.hid hr
  have HX := Lib.hid hx
  obtain ⟨⟨p0, p1, p2, p3, p4⟩, q0, q1, q2, q3, q4⟩ := fresh_ln hx
  clear hr hx
  go_wp2_with fail
  have hlw := lnW_at (tx := rt) (md := rm) (up := ru) (dn := rd) (o := rb) (n := rn) (c := rc) HX.out
  refine lnerr_end (t := 4) (u := 5) (g := w.heap.size + 1) rfl rfl rfl rfl hlw ?_
  exact ⟨⟨rt, rm, ru, rd, rb, rn, rc⟩, x, w1, rfl, HR.out, HX.out, rfl⟩
theorem told_8 {q : Option Addr} {nm tx : ByteArray} {A : Option Addr} {n c : Nat} {B : Option Addr} {m e : Nat} {a : Int} {w : World} (k : Int) (h : ¬ (0 ≤ k ∧ k ≤ 7)) :
    Calls Tryd.prog 10 #[.pointer q, DV k nm tx A n c B m e a] w fun e2 w' => e2 = .returned (.tuple #[LZ, .int .i64 0]) ∧ Below w.heap.size w w' := by
  have d0 : (k == 0) = false := by rw [beq_eq_false_iff_ne]; omega
  have d1 : (k == 1) = false := by rw [beq_eq_false_iff_ne]; omega
  have d2 : (k == 2) = false := by rw [beq_eq_false_iff_ne]; omega
  have d3 : (k == 3) = false := by rw [beq_eq_false_iff_ne]; omega
  have d4 : (k == 4) = false := by rw [beq_eq_false_iff_ne]; omega
  have d5 : (k == 5) = false := by rw [beq_eq_false_iff_ne]; omega
  have d6 : (k == 6) = false := by rw [beq_eq_false_iff_ne]; omega
  have d7 : (k == 7) = false := by rw [beq_eq_false_iff_ne]; omega
  obtain ⟨_, hx, hb⟩ := two_alloc w (ddA k nm tx A n c B m e a) #[.string ⟨#[]⟩, .bool false, .int .i64 0, .int .i64 0, .slice none 0 0] 38 31
  have HX := Lib.hid hx
  have HB := Lib.hid hb
  clear h hx hb
  go_enter Tryd.func10, Tryd.ntmps10
  go_wp2_with fail
  refine lnerr_end (t := 4) (u := 5) (g := w.heap.size + 1) rfl rfl rfl rfl HX.out ?_
  exact ⟨rfl, HB.out⟩
end Go.Proofs.YtfobbcddedcepaaDoor
/- A deed, whichever it is: what it does to the document's stack. -/
namespace Go.Proofs.YtfobbcddedcepaaDoor
open Go.RowKit
set_option maxRecDepth 100000
set_option linter.unusedSimpArgs false
set_option linter.unusedVariables false
/-- What a deed leaves of the document's stack. -/
abbrev DrP (X xb : Nat) (R : (Ln × Int) × List Fr) (W : World) : Ending → World → Prop := fun e W' => ∃ r, e = .returned (.tuple #[lvA r, .int .i64 R.1.2]) ∧ RlIs (Tg W') W' r R.1.1 ∧ RS X xb R.2 W' ∧ Below X W W' ∧ Dr W W'
theorem RS.below {X xb : Nat} {F : List Fr} {W W' : World} (h : RS X xb F W) (hb : Below W.heap.size W W') : RS X xb F W' := by
  obtain ⟨A, c, rs, hc⟩ := h
  exact ⟨A, c, rs, hc.below hb⟩
theorem RS.lt {X xb : Nat} {F : List Fr} {W : World} (h : RS X xb F W) : X ≤ W.heap.size := by
  obtain ⟨A, c, rs, hc⟩ := h
  have := hc.bx; have := hc.lt; omega
theorem step_told {X : Nat} {W : World} {xb : Nat} {F : List Fr} (h : RS X xb F W) (k : Int) (nm tx : ByteArray) {A : Option Addr} {n c : Nat} {B : Option Addr} {m e : Nat} (a : Int) {ls : List Ln} {ss : List ByteArray} (hl : LsIn W A n c ls) (hs : SsIn W B m e ss) (htx : tx.size ≤ 1000000) (hls : ∀ l ∈ ls, l.tx.size ≤ 9223372036854775807) :
    Calls Tryd.prog 10 #[BP xb, DV k nm tx A n c B m e a] W (DrP X xb (deedF F k nm tx a ls ss) W) := by
  have hb : ∀ k, Below W.heap.size W (dw W k nm tx A n c B m e a) := fun k => (two_alloc W (ddA k nm tx A n c B m e a) #[.string ⟨#[]⟩, .bool false, .int .i64 0, .int .i64 0, .slice none 0 0] 38 31).2.2
  have hx : ∀ k, (dw W k nm tx A n c B m e a).heap[W.heap.size + 1]? = some LZb := fun k => (two_alloc W (ddA k nm tx A n c B m e a) #[.string ⟨#[]⟩, .bool false, .int .i64 0, .int .i64 0, .slice none 0 0] 38 31).2.1
  have hz : ∀ k, (dw W k nm tx A n c B m e a).heap.size = W.heap.size + 2 := fun k => by simp [dw]
  have hX := h.lt
  have fin : ∀ R : Int × List Fr, ∀ e2 w', Nl (fun x w' => x = R.1 ∧ RS X xb R.2 w' ∧ Below X W w' ∧ Dr W w') e2 w' → DrP X xb ((Ln0, R.1), R.2) W e2 w' := by
    rintro R e2 w' ⟨x, he, rfl, h1, h2⟩
    exact ⟨RL0, he, rl_none _, h1, h2⟩
  have key : ∀ (k : Int) (R : Int × List Fr) (e2 : Ending) (w' : World), RnP X xb R (dw W k nm tx A n c B m e a) e2 w' → Nb W (fun x w' => x = R.1 ∧ RS X xb R.2 w' ∧ Below X W w' ∧ Dr W w') e2 w' := by
    rintro k R e2 w' p
    have p2 := p.to2 (hb k) hX
    exact ⟨R.1, p.e, p.dr.dt.ln (hx k), rfl, p.st, p2.bl, p2.dr⟩
  obtain ⟨A0, c0, rs, hc⟩ := h
  have dop : ∀ (k : Int) (R : Int × List Fr) (e2 : Ending) (w' : World), RpP X xb R (dw W k nm tx A n c B m e a) e2 w' → Nb W (fun x w' => x = R.1 ∧ RS X xb R.2 w' ∧ Below X W w' ∧ Dr W w') e2 w' := fun k R e2 w' p => key k R e2 w' (p.rn (hc.below (hb k)))
  unfold deedF
  by_cases h0 : k = 0
  · subst h0; rw [if_pos rfl]
    exact (told_0 ((rFile_any (hc.below (hb 0)) nm tx htx).mono fun e2 w' x => dop 0 _ e2 w' x)).mono (fin _)
  rw [if_neg h0]
  by_cases h1 : k = 1
  · subst h1; rw [if_pos rfl]
    exact (told_1 ((rMacro_any (hc.below (hb 1)) nm (hl.below (hb 1)) hls (hs.below (hb 1))).mono fun e2 w' x => dop 1 _ e2 w' x)).mono (fin _)
  rw [if_neg h1]
  by_cases h2 : k = 2
  · subst h2; rw [if_pos rfl]
    exact (told_2 ((rWait_any (hc.below (hb 2)) (hl.below (hb 2)) hls).mono fun e2 w' x => dop 2 _ e2 w' x)).mono (fin _)
  rw [if_neg h2]
  by_cases h3 : k = 3
  · subst h3; rw [if_pos rfl]
    have hcb := hc.below (hb 3)
    refine (told_3 (R := fun r x w1 => x = (nextS F).1.2 ∧ RlIs (Tg w1) w1 r (nextS F).1.1 ∧ (∃ A' c' rs', RK X xb A' c' (nextS F).2 rs' w1 ∧ (A' = A0 ∨ ∀ g, A' = some ⟨g, 0, none⟩ → W.heap.size + 2 ≤ g) ∧ ∀ (P : TypeId → Nat → Prop) (w0 : World), All2 (RfIs P w0) rs F → All2 (RfIs P w0) rs' (nextS F).2) ∧ Kept (fun b => b = xb ∨ A0 = some ⟨b, 0, none⟩) (dw W 3 nm tx A n c B m e a) w1) ((rNext_any hcb).mono fun e2 w1 p => ?_)).mono ?_
    · obtain ⟨r, he, hr⟩ := p.e
      have hst := p.st
      rw [hz 3] at hst
      exact ⟨r, _, he, (Dr.st hcb p.kept).dt.ln (hx 3), rfl, hr, hst, p.kept⟩
    · rintro e2 w' ⟨r, x, w1, he, ⟨rfl, hr, ⟨A', c', rs', hck, hblk, hall⟩, hkp⟩, hz1, rfl⟩
      have hk1 : Kept (fun b => b = xb ∨ A0 = some ⟨b, 0, none⟩) W w1 := (Kept.of (hb 3)).trans hkp
      have hk2 : Kept (fun b => b = xb ∨ A0 = some ⟨b, 0, none⟩) W (LnW w1 (W.heap.size + 1) r.tx r.md r.up r.dn r.bo r.bn r.bc) := lnW_kept hk1 (Nat.le_succ _)
      have hdr := Dr.st hc hk2
      have hlt := hc.lt
      have hck2 := hck.re (w' := LnW w1 (W.heap.size + 1) r.tx r.md r.up r.dn r.bo r.bn r.bc) (lnW_far (by omega)) (fun g hg => lnW_far (by
        rcases hblk with e | e
        · subst e
          have := (hc.tgr hg).1.lt; omega
        · have := e g hg; omega)) ((hall _ _ hc.fr).mono fun _ _ h => h.dt hdr.dt)
      refine ⟨r, he, ?_, ⟨A', c', rs', hck2⟩, hc.to hk2, hdr⟩
      refine hr.keep fun e he b hb => ?_
      have hne : b ≠ W.heap.size + 1 := hb.ne ⟨_, _, hz1⟩ (by rcases he with rfl | rfl <;> decide)
      exact ⟨lnW_far hne, hb.keep (lnW_far hne)⟩
  rw [if_neg h3]
  by_cases h4 : k = 4
  · subst h4; rw [if_pos rfl]
    refine (told_4 (R := fun r x w1 => x = (peekS F).2 ∧ RlIs (Tg w1) w1 r (peekS F).1 ∧ Below W.heap.size W w1) ((rPeek_any (hc.below (hb 4))).mono fun e2 w1 ⟨r, he, ht⟩ => ⟨r, _, he, (ht.below.block _ (lt_of_block (hx 4))).trans (hx 4), rfl, ht.is, (hb 4).trans (ht.below.mono (hb 4).size)⟩)).mono ?_
    rintro e2 w' ⟨r, x, w1, he, ⟨rfl, hr, hb1⟩, hz1, rfl⟩
    have hb2 : Below W.heap.size W (LnW w1 (W.heap.size + 1) r.tx r.md r.up r.dn r.bo r.bn r.bc) := (lnW_kept (S := fun _ => False) (Kept.of hb1) (Nat.le_succ _)).to (Nat.le_refl _) (fun _ h => h.elim)
    refine ⟨r, he, ?_, ⟨_, _, _, hc.below hb2⟩, hb2.mono hX, Dr.below hb2⟩
    refine hr.keep fun e he b hb => ?_
    have hne : b ≠ W.heap.size + 1 := hb.ne ⟨_, _, hz1⟩ (by rcases he with rfl | rfl <;> decide)
    exact ⟨lnW_far hne, hb.keep (lnW_far hne)⟩
  rw [if_neg h4]
  by_cases h5 : k = 5
  · subst h5; rw [if_pos rfl]
    exact (told_5 ((rReturn_any (hc.below (hb 5)) _).mono fun e2 w' x => dop 5 _ e2 w' x)).mono (fin _)
  rw [if_neg h5]
  by_cases h6 : k = 6
  · subst h6; rw [if_pos rfl]
    exact (told_6 ((rInstead_any (hc.below (hb 6)) nm tx htx).mono fun e2 w' x => dop 6 _ e2 w' x)).mono (fin _)
  rw [if_neg h6]
  by_cases h7 : k = 7
  · subst h7; rw [if_pos rfl]
    exact (told_7 ((rShift_any (hc.below (hb 7)) a).mono fun e2 w' x => key 7 _ e2 w' x)).mono (fin _)
  rw [if_neg h7]
  refine (told_8 k (by omega)).mono fun e2 w' ⟨he, hb⟩ => ⟨RL0, he, rl_none _, ⟨_, _, _, hc.below hb⟩, hb.mono hX, Dr.below hb⟩
end Go.Proofs.YtfobbcddedcepaaDoor
/- The code's Copy. -/
namespace Go.Proofs.YtfobbcddedcepaaDoor
open Go.RowKit
set_option maxRecDepth 100000
set_option linter.unusedSimpArgs false
set_option linter.unusedVariables false
theorem CK.copied {sb g c : Nat} {F : List Fr} {rs : List RF} {w : World} (h : CK sb g c F rs w) {w1 w2 : World} {c1 : Nat} {v2 : Value} (hb1 : Below w.heap.size w w1) (hs1 : w1.heap[w.heap.size + 1]? = some (.cells #[.slice (some ⟨w.heap.size, 0, none⟩) 0 c1] 49 (0, 0)))
    (hown : w2.ownsRow 0 64 5 v2 F.length (rs.flatMap rfCs)) (hgr : w1.grownBy w2 (some w.heap.size)) (hat : v2.ownBlock = some w.heap.size ∨ v2.ownBlock = some w1.heap.size) :
    (∃ g', w.heap.size ≤ g' ∧ CS (w.heap.size + 1) g' F (w2.setCell ⟨w.heap.size + 1, 0, none⟩ v2)) ∧ Below w.heap.size w (w2.setCell ⟨w.heap.size + 1, 0, none⟩ v2) := by
  have hlt1 := lt_of_block hs1
  have hb2 : Below w.heap.size w w2 := hb1.grown hgr hb1.size (fun k e => by cases e; exact Nat.le_refl _)
  have hb3 : Below w.heap.size w (w2.setCell ⟨w.heap.size + 1, 0, none⟩ v2) := hb2.setCell (p := ⟨w.heap.size + 1, 0, none⟩) (Nat.le_succ _) _
  have hs2 : w2.heap[w.heap.size + 1]? = _ := (hgr.block (w.heap.size + 1) hlt1 (by intro e; injection e with e; omega)).trans hs1
  rcases hown.2 with ⟨hv, _⟩ | ⟨g', cap, cur, hv, _, hh, h1, h2, h3, h4⟩
  · rw [hv] at hat
    rcases hat with e | e <;> simp [Value.ownBlock] at e
  · subst hv
    have hg' : g' = w.heap.size ∨ g' = w1.heap.size := by
      rcases hat with e | e
      · left; simpa [Value.ownBlock] using e
      · right; simpa [Value.ownBlock] using e
    have hne : g' ≠ w.heap.size + 1 := by rcases hg' with e | e <;> omega
    refine ⟨⟨g', by have := hb1.size; rcases hg' with e | e <;> omega, cap, rs, ?_, ?_, h.fr.mono fun _ _ hr => hr.dt (Dt.below hb3), h.ok, h.len, h.inv⟩, hb3⟩
    · simp [World.setCell, Array.getElem?_modify, hs2]
    · exact own_far hown fun b hb => Below.heap_setCell _ _ _ _ (by
        have e : g' = b := by simpa [Value.ownBlock] using hb
        show b ≠ w.heap.size + 1
        omega)
set_option maxHeartbeats 2000000 in
theorem copy_call {sb g c : Nat} {F : List Fr} {rs : List RF} {w : World} (h : CK sb g c F rs w) : Calls Tryd.prog 14 #[BP sb] w fun e w' => e = .returned (BP (w.heap.size + 1)) ∧ (∃ g', w.heap.size ≤ g' ∧ CS (w.heap.size + 1) g' F w') ∧ Below w.heap.size w w' := by
  obtain ⟨i0, hi0, hz0, hz1, hz2⟩ := info_parts info_frame
  have HM := Lib.hid (made_any h)
  have HN := Lib.hid (new_any w)
  have hlen := h.len
  have H := Lib.hid h
  clear h
  go_enter Tryd.func14, Tryd.ntmps14
  go_wp2_with fail
  refine HM.out.mono ?_
  rintro e w1 ⟨rfl, rfl⟩
  go_wp2_with fail
  refine HN.out.mono ?_
  rintro e w1 ⟨rfl, ⟨c1, rs1, hc1⟩, hb1⟩
  obtain rfl : rs1 = [] := List.eq_nil_of_length_eq_zero hc1.rl
  have hx := H.out.below hb1
  have c0 := hx.c0.1
  have n0 : w1.cell? ⟨w.heap.size + 1, 0, none⟩ = some (.slice (some ⟨w.heap.size, 0, none⟩) 0 c1) := hc1.c0.1
  have hlt := hx.lt.1
  have hlt2 := hc1.lt.1
  have hcell : w1.heap[w.heap.size + 1]? = some (.cells #[.slice (some ⟨w.heap.size, 0, none⟩) 0 c1] 49 (0, 0)) := hc1.cell
  have HCELL := Lib.hid hcell
  have HO1 : Hid (w1.drew.ownsRow 0 64 5 (.slice (some ⟨w.heap.size, 0, none⟩) 0 c1) 0 []) := Lib.hid ⟨rfl, hc1.row.2⟩
  have HSRC : Hid (∀ j u, (rs.flatMap rfCs)[j]? = some u → w1.drew.cell? ((⟨g, 0, none⟩ : Addr).add j) = some u) := Lib.hid (fun j u hu => by
    rw [cell_add, Nat.zero_add]
    exact (own_cell hx.row j u hu).1)
  have HRL : Hid ((rs.flatMap rfCs).length = F.length * 5) := Lib.hid hx.row.1
  have HB1 := Lib.hid hb1
  clear hc1 hb1 hx hcell
  go_wp2_with fail
  go_region_law (first
    | (refine step_append_own rfl (.tmp 12) (.tmp 16) 47 rfl 0 64 i0 _ 5 80 Tryd.underlying47 hi0 hz0 hz1 hz2 rfl (by decide) (.slice (some ⟨w.heap.size, 0, none⟩) 0 c1) 0 [] (by simp [Act.eval, Act.put]) HO1.out ⟨g, 0, none⟩ F.length c (rs.flatMap rfCs) (by simp [Act.eval, Act.put]) HRL.out HSRC.out (rf_all_one rs) (by unfold maxLen; omega) (by omega) (Nat.zero_le _) ?_
       intro v2 w2 hown2 hgrow2 hat2
       rw [Nat.zero_add, List.nil_append] at hown2
       obtain ⟨o2, cap2, rfl, _, _⟩ := row_shape hown2
       have hg2 : w1.grownBy w2 (some w.heap.size) := ⟨hgrow2.os, hgrow2.tape, hgrow2.output, hgrow2.size, hgrow2.block⟩
       have HFIN := Lib.hid (H.out.copied HB1.out HCELL.out hown2 hg2 hat2)
       have hs2 := (hg2.block (w.heap.size + 1) (lt_of_block HCELL.out) (by intro e; injection e with e; omega)).trans HCELL.out
       have e1 : w2.cell? ⟨w.heap.size + 1, 0, none⟩ = some (.slice (some ⟨w.heap.size, 0, none⟩) 0 c1) := by simp [World.cell?, hs2]
       have e2 : w2.frozen? ⟨w.heap.size + 1, 0, none⟩ = false := by simp [World.frozen?, hs2]
       clear hown2 hgrow2 hat2 hg2 hs2))
  all_goals
    go_wp2_with fail
    go_ret
    exact ⟨rfl, HFIN.out.1, HFIN.out.2⟩
end Go.Proofs.YtfobbcddedcepaaDoor
/- Both stacks side by side: they tell the same. -/
namespace Go.Proofs.YtfobbcddedcepaaDoor
open Go.RowKit
set_option maxRecDepth 100000
set_option linter.unusedSimpArgs false
set_option linter.unusedVariables false
/-- The code's stack and the document's, all from block X on, with the same frames. -/
structure Bo (X : Nat) (w : World) (sb xb : Nat) (F : List Fr) (W : World) : Prop where
  ge : X ≤ sb
  c : At X w sb F W
  d : RS X xb F W
section
variable {X : Nat} {w W W' : World} {sb xb : Nat} {F F' : List Fr}
theorem Bo.below (h : Bo X w sb xb F W) (hb : Below W.heap.size W W') : Bo X w sb xb F W' := ⟨h.ge, h.c.below hb, h.d.below hb⟩
theorem RS.dc (h : RS X xb F W) (k : Dc W W') : RS X xb F W' := by
  obtain ⟨A, c, rs, hc⟩ := h
  exact ⟨A, c, rs, hc.move (k _ xb (by simp) hc.tg) (fun g hg => k _ g (by simp) hg) k.dt⟩
theorem At.dr (h : At X w sb F W) (hb : Below X W W') (k : Dr W W') : At X w sb F W' := by
  obtain ⟨g, hg, ⟨c, rs, hc⟩, hk⟩ := h
  exact ⟨g, hg, ⟨c, rs, hc.move (k _ sb (by simp) hc.tg.1) (k _ g (by simp) hc.tg.2) k.dt⟩, hk.trans hb⟩
theorem Bo.len (h : Bo X w sb xb F W) : F.length ≤ 50 := by
  obtain ⟨A, c, rs, hc⟩ := h.d
  exact hc.len
theorem b_peek (h : Bo X w sb xb F W) : Calls Tryd.prog 20 #[BP sb] W (PkP (peekS F) W) := by
  obtain ⟨g, hg, ⟨c, rs, hc⟩, hk⟩ := h.c
  exact peek_any hc
theorem b_rpeek (h : Bo X w sb xb F W) : Calls Tryd.prog 28 #[BP xb] W (PkP (peekS F) W) := by
  obtain ⟨A, c, rs, hc⟩ := h.d
  exact rPeek_any hc
theorem b_args (h : Bo X w sb xb F W) : Calls Tryd.prog 34 #[BP sb] W (StrP (argsS F) W) := by
  obtain ⟨g, hg, ⟨c, rs, hc⟩, hk⟩ := h.c
  exact args_any hc
theorem b_rargs (h : Bo X w sb xb F W) : Calls Tryd.prog 35 #[BP xb] W (StrP (argsS F) W) := by
  obtain ⟨A, c, rs, hc⟩ := h.d
  exact rArgs_any hc
theorem b_name (h : Bo X w sb xb F W) : Calls Tryd.prog 36 #[BP sb] W fun e w' => e = .returned (.string (nameS F)) ∧ Below W.heap.size W w' := by
  obtain ⟨g, hg, ⟨c, rs, hc⟩, hk⟩ := h.c
  exact name_any hc
theorem b_rname (h : Bo X w sb xb F W) : Calls Tryd.prog 37 #[BP xb] W fun e w' => e = .returned (.string (nameS F)) ∧ Below W.heap.size W w' := by
  obtain ⟨A, c, rs, hc⟩ := h.d
  exact rName_any hc
theorem b_line (h : Bo X w sb xb F W) : Calls Tryd.prog 38 #[BP sb] W fun e w' => e = .returned (.int .i64 (lineS F : Nat)) ∧ Below W.heap.size W w' := by
  obtain ⟨g, hg, ⟨c, rs, hc⟩, hk⟩ := h.c
  exact line_any hc
theorem b_rline (h : Bo X w sb xb F W) : Calls Tryd.prog 39 #[BP xb] W fun e w' => e = .returned (.int .i64 (lineS F : Nat)) ∧ Below W.heap.size W w' := by
  obtain ⟨A, c, rs, hc⟩ := h.d
  exact rLine_any hc
theorem b_depth (h : Bo X w sb xb F W) : Calls Tryd.prog 13 #[BP sb] W fun e w' => e = .returned (.int .i64 F.length) ∧ W = w' := by
  obtain ⟨g, hg, ⟨c, rs, hc⟩, hk⟩ := h.c
  exact depth_any hc
theorem b_rdepth (h : Bo X w sb xb F W) : Calls Tryd.prog 40 #[BP xb] W fun e w' => e = .returned (.int .i64 F.length) ∧ W = w' := by
  obtain ⟨A, c, rs, hc⟩ := h.d
  exact rDepth_any hc
set_option maxHeartbeats 2000000 in
theorem alike_any (h : Bo X w sb xb F W) : Calls Tryd.prog 12 #[BP sb, BP xb] W fun e w' => e = .returned (.bool true) ∧ Below W.heap.size W w' := by
  have HP := Lib.hid (b_peek h)
  have H := Lib.hid h
  generalize hpk : peekS F = pk at HP
  have HPK := Lib.hid hpk
  clear h hpk
  go_enter Tryd.func12, Tryd.ntmps12
  go_wp2_with fail
  refine HP.out.mono ?_
  rintro e w1 ⟨⟨tx, md, up, dn, bo, bn, bc⟩, rfl, ht1⟩
  have hb1 := ht1.below
  have hb2 := hb1.alloc hb1.size (.cells #[.string tx, .bool md, .int .i64 up, .int .i64 dn, .slice bo bn bc] 31)
  have HX2 := Lib.hid (heap_alloc_new w1 (.cells #[.string tx, .bool md, .int .i64 up, .int .i64 dn, .slice bo bn bc] 31))
  have HR1 : Hid (RlIs (Lt (w1.alloc (.cells #[.string tx, .bool md, .int .i64 up, .int .i64 dn, .slice bo bn bc] 31))) (w1.alloc (.cells #[.string tx, .bool md, .int .i64 up, .int .i64 dn, .slice bo bn bc] 31)) ⟨tx, md, up, dn, bo, bn, bc⟩ pk.1) := Lib.hid (ht1.is.tglt.lt ((Below.refl _ w1).alloc (Nat.le_refl _) _))
  have HB2 := Lib.hid hb2
  have hq := b_rpeek (H.out.below hb2)
  rw [HPK.out] at hq
  have HQ := Lib.hid hq
  have HZ1 := Lib.hid hb1.size
  clear ht1 hb1 hb2 hq
  go_wp2_with fail
  refine HQ.out.mono ?_
  rintro e w3 ⟨⟨tx', md', up', dn', bo', bn', bc'⟩, rfl, ht3⟩
  have hb3 := ht3.below
  have hb4 := hb3.alloc hb3.size (.cells #[.string tx', .bool md', .int .i64 up', .int .i64 dn', .slice bo' bn' bc'] 31)
  have hx4 := heap_alloc_new w3 (.cells #[.string tx', .bool md', .int .i64 up', .int .i64 dn', .slice bo' bn' bc'] 31)
  have hx2 := (hb4.block _ (lt_of_block HX2.out)).trans HX2.out
  have hr1 := HR1.out.lt hb4
  have hr3 : RlIs _ _ _ _ := ht3.is.tglt.lt ((Below.refl _ w3).alloc (Nat.le_refl _) (.cells #[.string tx', .bool md', .int .i64 up', .int .i64 dn', .slice bo' bn' bc'] 31))
  have HLE := Lib.hid (line_eq hr1 hr3)
  have hbb := HB2.out.trans (hb4.mono HB2.out.size)
  have HBB := Lib.hid hbb
  obtain ⟨⟨x0, x1, x2, x3, x4⟩, _⟩ := fresh_ln hx2
  obtain ⟨⟨y0, y1, y2, y3, y4⟩, _⟩ := fresh_ln hx4
  clear ht3 hb3 hb4 hx4 hx2 hr1 hr3 hbb
  go_wp2_with fail
  refine HLE.out.mono ?_
  rintro e w5 ⟨rfl, hb5⟩
  have hb6 := HBB.out.trans (hb5.mono HBB.out.size)
  have HB6 := Lib.hid hb6
  have HA := Lib.hid (b_args (H.out.below hb6))
  clear hb5 hb6 x0 x1 x2 x3 x4 y0 y1 y2 y3 y4
  go_wp2_with fail
  refine HA.out.mono ?_
  rintro e w7 ⟨⟨A1, n1, c1, rfl, hs1, hn1, hl1, hk1⟩, hb7⟩
  have hb8 := HB6.out.trans (hb7.mono HB6.out.size)
  have HB8 := Lib.hid hb8
  have HS1 := Lib.hid hs1
  have HA2 := Lib.hid (b_rargs (H.out.below hb8))
  have hn9 : (n1 : Int) ≤ 9223372036854775807 := by omega
  clear hb7 hb8 hs1 hn1
  go_wp2_with fail
  refine HA2.out.mono ?_
  rintro e w9 ⟨⟨A2, n2, c2, rfl, hs2, hn2, hl2, hk2⟩, hb9⟩
  have hb10 := HB8.out.trans (hb9.mono HB8.out.size)
  obtain rfl : n1 = n2 := HS1.out.len.trans hs2.len.symm
  have hs1' : StrsAt (fun e b => True) w9 A1 n1 (argsS F) := HS1.out.keep fun e b hb => ⟨hb9.block b hb.lt, trivial⟩
  have HTE := Lib.hid (texts_eq (c := c1) (c' := c2) hs1' hs2 hn9)
  have HB10 := Lib.hid hb10
  clear hb9 hb10 hs1' hs2 hn2
  go_wp2_with fail
  refine HTE.out.mono ?_
  rintro e w11 ⟨rfl, hb11⟩
  have hb12 := HB10.out.trans (hb11.mono HB10.out.size)
  have HB12 := Lib.hid hb12
  have HN1 := Lib.hid (b_name (H.out.below hb12))
  clear hb11 hb12
  go_wp2_with fail
  refine HN1.out.mono ?_
  rintro e w13 ⟨rfl, hb13⟩
  have hb14 := HB12.out.trans (hb13.mono HB12.out.size)
  have HB14 := Lib.hid hb14
  have HN2 := Lib.hid (b_rname (H.out.below hb14))
  clear hb13 hb14
  go_wp2_with fail
  refine HN2.out.mono ?_
  rintro e w15 ⟨rfl, hb15⟩
  have hb16 := HB14.out.trans (hb15.mono HB14.out.size)
  have HB16 := Lib.hid hb16
  have HN3 := Lib.hid (b_line (H.out.below hb16))
  clear hb15 hb16
  go_wp2_with fail
  refine HN3.out.mono ?_
  rintro e w17 ⟨rfl, hb17⟩
  have hb18 := HB16.out.trans (hb17.mono HB16.out.size)
  have HB18 := Lib.hid hb18
  have HN4 := Lib.hid (b_rline (H.out.below hb18))
  clear hb17 hb18
  go_wp2_with fail
  refine HN4.out.mono ?_
  rintro e w19 ⟨rfl, hb19⟩
  have hb20 := HB18.out.trans (hb19.mono HB18.out.size)
  have HB20 := Lib.hid hb20
  have HN5 := Lib.hid (b_depth (H.out.below hb20))
  have HN6 := Lib.hid (b_rdepth (H.out.below hb20))
  clear hb19 hb20
  go_wp2_with fail
  refine HN5.out.mono ?_
  rintro e w21 ⟨rfl, rfl⟩
  go_wp2_with fail
  refine HN6.out.mono ?_
  rintro e w21 ⟨rfl, rfl⟩
  go_wp2_with fail
  go_ret
  exact ⟨rfl, HB20.out⟩
end
end Go.Proofs.YtfobbcddedcepaaDoor
/- SourcePlays: the walk. -/
namespace Go.Proofs.YtfobbcddedcepaaDoor
open Go.RowKit
set_option maxRecDepth 100000
set_option linter.unusedSimpArgs false
set_option linter.unusedVariables false
/-- Both stacks are made. -/
theorem both_new (w : World) : Calls Tryd.prog 7 #[] w fun e w1 => e = .returned (BP (w.heap.size + 1)) ∧ At w.heap.size w (w.heap.size + 1) [] w1 := step_new
theorem Bo.made {X : Nat} {w W W' : World} {sb : Nat} {F : List Fr} (hsb : X ≤ sb) (h : At X w sb F W) (hr : RS W.heap.size W.heap.size F W') (hb : Below W.heap.size W W') : Bo X w sb W.heap.size F W' := by
  obtain ⟨A, c, rs, hc⟩ := hr
  exact ⟨hsb, h.below hb, A, c, rs, hc.cell, own_base hc.row h.lt, hc.fr, hc.ok, hc.len, hc.inv, h.lt⟩
/-- A deed of the code's, then the document's. -/
theorem bo_do {X : Nat} {w W : World} {sb xb : Nat} {F : List Fr} (h : Bo X w sb xb F W) (k : Int) (nm tx : ByteArray) {A : Option Addr} {n c : Nat} {B : Option Addr} {m e : Nat} (a : Int) {ls : List Ln} {ss : List ByteArray} (hl : LsIn W A n c ls) (hs : SsIn W B m e ss) (htx : tx.size ≤ 1000000) :
    Calls Tryd.prog 9 #[BP sb, DV k nm tx A n c B m e a] W fun e2 W' => ∃ r, e2 = .returned (.tuple #[lvA r, .int .i64 (deedF F k nm tx a ls ss).1.2]) ∧ RlIs (Tg W') W' r (deedF F k nm tx a ls ss).1.1 ∧ At X w sb (deedF F k nm tx a ls ss).2 W' ∧ RS X xb F W' :=
  (step_deed h.ge h.c k nm tx a hl hs htx).mono fun e2 W' ⟨r, he, hr, ha, hd⟩ => ⟨r, he, hr, ha, h.d.dc hd⟩
theorem bo_told {X : Nat} {w W : World} {sb xb : Nat} {F F' : List Fr} (hsb : X ≤ sb) (ha : At X w sb F' W) (hd : RS X xb F W) {r0 : RL} {l0 : Ln} (hr0 : RlIs (Tg W) W r0 l0) (k : Int) (nm tx : ByteArray) {A : Option Addr} {n c : Nat} {B : Option Addr} {m e : Nat} (a : Int) {ls : List Ln} {ss : List ByteArray} (hl : LsIn W A n c ls) (hs : SsIn W B m e ss) (htx : tx.size ≤ 1000000) (hls : ∀ l ∈ ls, l.tx.size ≤ 9223372036854775807)
    (hF : F' = (deedF F k nm tx a ls ss).2) :
    Calls Tryd.prog 10 #[BP xb, DV k nm tx A n c B m e a] W fun e2 W' => ∃ r, e2 = .returned (.tuple #[lvA r, .int .i64 (deedF F k nm tx a ls ss).1.2]) ∧ RlIs (Tg W') W' r (deedF F k nm tx a ls ss).1.1 ∧ RlIs (Tg W') W' r0 l0 ∧ Bo X w sb xb F' W' ∧ Dt W W' := by
  subst hF
  refine (step_told hd k nm tx a hl hs htx hls).mono fun e2 W' ⟨r, he, hr, hs2, hb, hdr⟩ => ⟨r, he, hr, hr0.keep fun e he b hb' => ?_, ⟨hsb, ha.dr hb hdr, hs2⟩, hdr.dt⟩
  have k := hdr.dt e b (by rcases he with rfl | rfl <;> simp) hb'
  exact ⟨k, hb'.keep k⟩
theorem or_cases2 (j n : Nat) : decide (j < n) = true ∨ decide (j < n) = false := by
  rcases Bool.eq_false_or_eq_true (decide (j < n)) with h | h
  · exact .inl h
  · exact .inr h
set_option maxHeartbeats 4000000 in
theorem law_plays {w : World} (A : Option Addr) (n c : Nat) (ds : List Dd) (hn : n = ds.length) (hn9 : (n : Int) ≤ 9223372036854775807) (hr : ReadsP (fun b => b < w.heap.size) w 6 A n (ds.flatMap ddCs)) (hd : ∀ d ∈ ds, DdOk w d) :
    Calls Tryd.prog 3 #[.slice A n c] w fun e w' => e = .returned (.bool true) ∧ Below w.heap.size w w' := by
  have HN0 := Lib.hid hn
  have HR := Lib.hid hr
  have HD := Lib.hid hd
  have HBG := Lib.hid (big_few (c := c) A n ds hn hn9 hr hd)
  clear hn hr hd
  go_enter Tryd.func3, Tryd.ntmps3
  go_wp2_with fail
  refine HBG.out.mono ?_
  rintro e w1 ⟨⟨t, rfl, hfew⟩, hb1⟩
  have HFEW := Lib.hid hfew
  have HB1 := Lib.hid hb1
  clear hfew hb1
  cases t with
  | true =>
    go_wp2_with fail
    refine (sane_any _).mono ?_
    rintro e w2 ⟨rfl, hb2⟩
    have HB2 := Lib.hid (HB1.out.trans (hb2.mono HB1.out.size))
    clear hb2
    go_wp2_with fail
    go_ret
    exact ⟨rfl, HB2.out⟩
  | false =>
    have hfew := HFEW.out rfl
    have HF := Lib.hid hfew.2
    have hn150 : n ≤ 150 := hfew.1
    clear hfew
    go_wp2_with fail
    refine step_new.mono ?_
    rintro e w2 ⟨rfl, h2⟩
    have H2 := Lib.hid h2
    clear h2
    go_wp2_with fail
    refine (rNew_any (X := w2.heap.size) w2 (Nat.le_refl _)).mono ?_
    rintro e w3 ⟨rfl, h3, hb3⟩
    have HBO := Lib.hid (Bo.made (Nat.le_succ _) H2.out h3 hb3)
    clear h3 hb3
    go_wp2_with fail
    go_loopg [5, 6, 7, 8, 9] n (fun k i p q p2 q2 wr => ∃ j : Nat, k + j = n ∧ i = .int .i64 j ∧ ∃ F, Bo w1.heap.size w1 (w1.heap.size + 1) w2.heap.size F wr)
    case atStart => exact ⟨0, rfl, rfl, [], HBO.out⟩
    case round =>
      obtain ⟨j, hk, rfl, F, hbo⟩ := hrel
      have HK := Lib.hid hk
      have HBQ := Lib.hid hbo
      rcases or_cases2 j n with dj | dj
      · have hj : j < n := of_decide_eq_true dj
        have hdj : ds[j]? = some (ds[j]'(by have := HN0.out; omega)) := List.getElem?_eq_getElem (by have := HN0.out; omega)
        obtain ⟨r, hre⟩ : ∃ r, r = ds[j]'(by have := HN0.out; omega) := ⟨_, rfl⟩
        rw [← hre] at hdj
        have hbw : Below w.heap.size w wr := HB1.out.trans (hbo.c.to.mono HB1.out.size)
        obtain ⟨b, off, rfl, hbl, c0, c1, c2, c3, c4, c5⟩ := reads_dd HR.out j r hdj
        have hok := (HD.out r (List.mem_of_getElem? hdj)).below hbw
        have ec : ∀ o x, w.cell? ⟨b, o, none⟩ = some x → wr.cell? ⟨b, o, none⟩ = some x := fun o x h => (hbw.cell (p := ⟨b, o, none⟩) hbl).trans h
        have HCS := Lib.hid (⟨c0, c1, c2, c3, c4, c5⟩ : _ ∧ _ ∧ _ ∧ _ ∧ _ ∧ _)
        have HBL := Lib.hid hbl
        have c0 := ec _ _ c0
        have c1 := ec _ _ c1
        have c2 := ec _ _ c2
        have c3 := ec _ _ c3
        have c4 := ec _ _ c4
        have c5 := ec _ _ c5
        have htx : r.tx.size ≤ 1000000 := by have := (HF.out r (List.mem_of_getElem? hdj)).2.2; omega
        have hls : ∀ l ∈ r.ls, l.tx.size ≤ 9223372036854775807 := fun l hl => by have := hok.txs l hl; omega
        have HOK := Lib.hid (HD.out r (List.mem_of_getElem? hdj))
        obtain ⟨dk, nm, tx, dA, dn, dc, dB, sn, sc, da, dls, dss⟩ := r
        simp only at c0 c1 c2 c3 c4 c5 htx hls
        have HJ := Lib.hid hj
        have hj0 : (0 : Int) ≤ (j : Int) := by omega
        have hj1 : (j : Int) < (n : Int) := by omega
        have hdo := bo_do hbo dk nm tx (n := dn) (c := dc) (m := sn) (e := sc) da hok.ls hok.ss htx
        have hto := fun (W : World) (ha : At w1.heap.size w1 (w1.heap.size + 1) (deedF F dk nm tx da dls dss).2 W) (hd : RS w1.heap.size w2.heap.size F W) (r0 : RL) (hr0 : RlIs (Tg W) W r0 (deedF F dk nm tx da dls dss).1.1) (hok : DdOk W ⟨dk, nm, tx, dA, dn, dc, dB, sn, sc, da, dls, dss⟩) => bo_told HBQ.out.ge ha hd hr0 dk nm tx (n := dn) (c := dc) (m := sn) (e := sc) da hok.ls hok.ss htx hls rfl
        try simp only at hdo
        generalize deedF F dk nm tx da dls dss = R at hdo hto
        have HDO := Lib.hid hdo
        have HTO := Lib.hid hto
        clear hk hj hbo hbl hok ec hre hdj hbw hdo hto hls htx
        go_wp2_with fail
        refine HDO.out.mono ?_
        rintro e w6 ⟨⟨tx0, md0, up0, dn0, bo0, bn0, bc0⟩, rfl, hr6, ha6, hd6⟩
        have hb7 := (Below.refl w6.heap.size w6).alloc (Nat.le_refl _) (.cells #[.string tx0, .bool md0, .int .i64 up0, .int .i64 dn0, .slice bo0 bn0 bc0] 31)
        have hx7 := heap_alloc_new w6 (.cells #[.string tx0, .bool md0, .int .i64 up0, .int .i64 dn0, .slice bo0 bn0 bc0] 31)
        have ha7 := ha6.below hb7
        have hbw7 := HB1.out.trans (ha7.to.mono HB1.out.size)
        have hto := HTO.out _ ha7 (hd6.below hb7) _ (hr6.keep fun e _ b hb => hb.below hb7) (HOK.out.below hbw7)
        have HTO2 := Lib.hid hto
        have HX7 := Lib.hid hx7
        have ec : ∀ o x, w.cell? ⟨b, o, none⟩ = some x → (w6.alloc (.cells #[.string tx0, .bool md0, .int .i64 up0, .int .i64 dn0, .slice bo0 bn0 bc0] 31)).cell? ⟨b, o, none⟩ = some x := fun o x h => (hbw7.cell (p := ⟨b, o, none⟩) HBL.out).trans h
        obtain ⟨k0, k1, k2, k3, k4, k5⟩ := HCS.out
        have k0 := ec _ _ k0
        have k1 := ec _ _ k1
        have k2 := ec _ _ k2
        have k3 := ec _ _ k3
        have k4 := ec _ _ k4
        have k5 := ec _ _ k5
        try simp only at k0 k1 k2 k3 k4 k5
        clear hr6 ha6 hd6 hb7 hx7 ha7 hbw7 hto ec c0 c1 c2 c3 c4 c5
        go_wp2_with fail
        refine HTO2.out.mono ?_
        rintro e w8 ⟨⟨tx1, md1, up1, dn1, bo1, bn1, bc1⟩, rfl, hr8, hr08, hbo8, hdt8⟩
        have hb9 := (Below.refl w8.heap.size w8).alloc (Nat.le_refl _) (.cells #[.string tx1, .bool md1, .int .i64 up1, .int .i64 dn1, .slice bo1 bn1 bc1] 31)
        have hy9 := heap_alloc_new w8 (.cells #[.string tx1, .bool md1, .int .i64 up1, .int .i64 dn1, .slice bo1 bn1 bc1] 31)
        have hx8 := hdt8.ln HX7.out
        have hx9 := (hb9.block _ (lt_of_block hx8)).trans hx8
        have HLE := Lib.hid (line_eq (hr08.tglt.lt hb9) (hr8.tglt.lt hb9))
        have HBO9 := Lib.hid (hbo8.below hb9)
        obtain ⟨⟨x0, x1, x2, x3, x4⟩, _⟩ := fresh_ln hx9
        obtain ⟨⟨y0, y1, y2, y3, y4⟩, _⟩ := fresh_ln hy9
        have d50 : decide ((50 : Int) < (R.2.length : Int)) = false := decide_eq_false (by have := hbo8.len; omega)
        clear hr8 hr08 hbo8 hdt8 hb9 hy9 hx8 hx9 k0 k1 k2 k3 k4 k5
        go_wp2_with fail
        refine HLE.out.mono ?_
        rintro e w10 ⟨rfl, hb10⟩
        have hbo10 := HBO9.out.below hb10
        have HBO10 := Lib.hid hbo10
        have HAL := Lib.hid (alike_any hbo10)
        clear hb10 hbo10 x0 x1 x2 x3 x4 y0 y1 y2 y3 y4
        go_wp2_with fail
        refine HAL.out.mono ?_
        rintro e w11 ⟨rfl, hb11⟩
        have hbo11 := HBO10.out.below hb11
        have HBO11 := Lib.hid hbo11
        have HDE := Lib.hid (b_depth hbo11)
        clear hb11 hbo11
        go_wp2_with fail
        refine HDE.out.mono ?_
        rintro e w12 ⟨rfl, rfl⟩
        go_wp2_with fail
        go_roundg (gk - 1)
        case measure => have := HK.out; have := HJ.out; omega
        case rel =>
          have := HK.out
          have := HJ.out
          exact ⟨j + 1, by omega, by first | go_num | (congr 1; rw [IntWalk.wrap64_in _ (by omega)]; omega), R.2, HBO11.out⟩
      · have hj : ¬ j < n := of_decide_eq_false dj
        clear hk hj hbo
        go_wp2_with fail
        refine (sane_any _).mono ?_
        rintro e w9 ⟨rfl, hb9⟩
        have HB9 := Lib.hid (HBQ.out.c.to.trans (hb9.mono HBQ.out.c.lt))
        clear hb9
        go_wp2_with fail
        go_ret
        exact ⟨rfl, HB1.out.trans (HB9.out.mono HB1.out.size)⟩
end Go.Proofs.YtfobbcddedcepaaDoor
