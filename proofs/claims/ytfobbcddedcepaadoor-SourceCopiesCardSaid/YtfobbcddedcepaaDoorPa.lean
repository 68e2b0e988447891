/- A deed, whichever it is: what it does to the code's stack. -/
import Derived.Test.YtfobbcddedcepaaDoorLT
import Derived.Test.YtfobbcddedcepaaDoorNc
import Derived.Laws.AppendOwnNone
namespace Go.Proofs.YtfobbcddedcepaaDoor
open Go.RowKit
set_option maxRecDepth 100000
set_option linter.unusedSimpArgs false
set_option linter.unusedVariables false
/-- A deed in plain words. -/
def deedF (F : List Fr) (k : Int) (nm tx : ByteArray) (a : Int) (ls : List Ln) (ss : List ByteArray) : (Ln × Int) × List Fr :=
  if k = 0 then ((Ln0, (fileS F nm tx).1), (fileS F nm tx).2)
  else if k = 1 then ((Ln0, (macS F nm ls ss).1), (macS F nm ls ss).2)
  else if k = 2 then ((Ln0, (waitS F ls).1), (waitS F ls).2)
  else if k = 3 then nextS F
  else if k = 4 then (peekS F, F)
  else if k = 5 then ((Ln0, (retS F (a.tmod 2 != 0)).1), (retS F (a.tmod 2 != 0)).2)
  else if k = 6 then ((Ln0, (insS F nm tx).1), (insS F nm tx).2)
  else if k = 7 then ((Ln0, (shiftS F a).1), (shiftS F a).2)
  else ((Ln0, 0), F)
theorem do_8 {q : Option Addr} {nm tx : ByteArray} {A : Option Addr} {n c : Nat} {B : Option Addr} {m e : Nat} {a : Int} {w : World} (k : Int) (h : ¬ (0 ≤ k ∧ k ≤ 7)) :
    Calls Tryd.prog 9 #[.pointer q, DV k nm tx A n c B m e a] w fun e2 w' => e2 = .returned (.tuple #[LZ, .int .i64 0]) ∧ Below w.heap.size w w' := by
  have d0 : (k == 0) = false := by rw [beq_eq_false_iff_ne]; omega
  have d1 : (k == 1) = false := by rw [beq_eq_false_iff_ne]; omega
  have d2 : (k == 2) = false := by rw [beq_eq_false_iff_ne]; omega
  have d3 : (k == 3) = false := by rw [beq_eq_false_iff_ne]; omega
  have d4 : (k == 4) = false := by rw [beq_eq_false_iff_ne]; omega
  have d5 : (k == 5) = false := by rw [beq_eq_false_iff_ne]; omega
  have d6 : (k == 6) = false := by rw [beq_eq_false_iff_ne]; omega
  have d7 : (k == 7) = false := by rw [beq_eq_false_iff_ne]; omega
  obtain ⟨_, hx, hb⟩ := two_alloc w (ddA k nm tx A n c B m e a) #[.string ⟨#[]⟩, .bool false, .int .i64 0, .int .i64 0, .slice none 0 0] 38 31
  have HX := Lib.hid hx
  have HB := Lib.hid hb
  clear h hx hb
  go_enter Tryd.func9, Tryd.ntmps9
  go_wp2_with fail
  refine lnerr_end (t := 4) (u := 5) (g := w.heap.size + 1) rfl rfl rfl rfl HX.out ?_
  exact ⟨rfl, HB.out⟩
/-- What a deed on the code's stack never writes: data, and the document's stacks. -/
def Dc (w w' : World) : Prop := ∀ e b, (e = 3 ∨ e = 85 ∨ e = 31 ∨ e = 9 ∨ e = 52 ∨ e = 61) → Tg w e b → w'.heap[b]? = w.heap[b]?
theorem Dc.dt {w w' : World} (h : Dc w w') : Dt w w' := fun e b he hb => h e b (by rcases he with e | e | e | e <;> simp [e]) hb
theorem Dc.below {w w' : World} (k : Below w.heap.size w w') : Dc w w' := fun _ b _ hb => k.block b hb.lt
theorem Dc.trans {w w1 w2 : World} (h : Dc w w1) (k : Dc w1 w2) : Dc w w2 := fun e b he hb => (k e b he (hb.keep (h e b he hb))).trans (h e b he hb)
theorem Dc.st {w w' : World} {sb g c : Nat} {F : List Fr} {rs : List RF} (h : CK sb g c F rs w) (k : Kept (fun b => b = sb ∨ b = g) w w') : Dc w w' := by
  intro e b he hb
  refine k.block b hb.lt fun hs => ?_
  rcases hs with rfl | rfl
  · exact hb.ne h.tg.1 (by rcases he with rfl | rfl | rfl | rfl | rfl | rfl <;> decide) rfl
  · exact hb.ne h.tg.2 (by rcases he with rfl | rfl | rfl | rfl | rfl | rfl <;> decide) rfl
/-- What a deed leaves. -/
abbrev DeP (X : Nat) (w : World) (sb : Nat) (R : (Ln × Int) × List Fr) (W : World) : Ending → World → Prop := fun e W' => ∃ r, e = .returned (.tuple #[lvA r, .int .i64 R.1.2]) ∧ RlIs (Tg W') W' r R.1.1 ∧ At X w sb R.2 W' ∧ Dc W W'
theorem step_deed {X : Nat} {w W : World} {sb : Nat} {F : List Fr} (hsb : X ≤ sb) (h : At X w sb F W) (k : Int) (nm tx : ByteArray) {A : Option Addr} {n c : Nat} {B : Option Addr} {m e : Nat} (a : Int) {ls : List Ln} {ss : List ByteArray} (hl : LsIn W A n c ls) (hs : SsIn W B m e ss) (htx : tx.size ≤ 1000000) :
    Calls Tryd.prog 9 #[BP sb, DV k nm tx A n c B m e a] W (DeP X w sb (deedF F k nm tx a ls ss) W) := by
  have hb : ∀ k, Below W.heap.size W (dw W k nm tx A n c B m e a) := fun k => (two_alloc W (ddA k nm tx A n c B m e a) #[.string ⟨#[]⟩, .bool false, .int .i64 0, .int .i64 0, .slice none 0 0] 38 31).2.2
  have hx : ∀ k, (dw W k nm tx A n c B m e a).heap[W.heap.size + 1]? = some LZb := fun k => (two_alloc W (ddA k nm tx A n c B m e a) #[.string ⟨#[]⟩, .bool false, .int .i64 0, .int .i64 0, .slice none 0 0] 38 31).2.1
  have hz : ∀ k, (dw W k nm tx A n c B m e a).heap.size = W.heap.size + 2 := fun k => by simp [dw]
  have fin : ∀ R : Int × List Fr, ∀ e2 w', Nl (fun x w' => x = R.1 ∧ At X w sb R.2 w' ∧ Dc W w') e2 w' → DeP X w sb ((Ln0, R.1), R.2) W e2 w' := by
    rintro R e2 w' ⟨x, he, rfl, h1, h2⟩
    exact ⟨RL0, he, rl_none _, h1, h2⟩
  have key : ∀ (k : Int) (R : Int × List Fr) (e2 : Ending) (w' : World), (e2 = .returned (.int .i64 R.1) ∧ At X w sb R.2 w' ∧ Dc (dw W k nm tx A n c B m e a) w') → Nb W (fun x w' => x = R.1 ∧ At X w sb R.2 w' ∧ Dc W w') e2 w' := by
    rintro k R e2 w' ⟨he, h1, h2⟩
    exact ⟨R.1, he, h2.dt.ln (hx k), rfl, h1, (Dc.below (hb k)).trans h2⟩
  have dop : ∀ (k : Int) (g cc : Nat) (rs : List RF) (R : Int × List Fr) (e2 : Ending) (w' : World), X ≤ g ∧ X ≤ w.heap.size → Below X w W → CK sb g cc F rs W → DoP sb g R (dw W k nm tx A n c B m e a) e2 w' → Nb W (fun x w' => x = R.1 ∧ At X w sb R.2 w' ∧ Dc W w') e2 w' := by
    rintro k g cc rs R e2 w' hg hk hc ⟨he, hst⟩
    refine key k R e2 w' ⟨he, At.step hsb hg (hk.trans ((hb k).mono (Nat.le_trans hg.2 hk.size))) hst, ?_⟩
    obtain ⟨g', _, hd⟩ := hst
    exact Dc.st (hc.below (hb k)) hd.kept
  have h0 := h
  obtain ⟨g, hg, ⟨cc, rs, hc⟩, hk⟩ := h0
  unfold deedF
  by_cases h0 : k = 0
  · subst h0; rw [if_pos rfl]
    exact (do_0 ((file_call (hc.below (hb 0)) nm tx htx).mono fun e2 w' x => dop 0 g cc rs _ e2 w' hg hk hc x)).mono (fin _)
  rw [if_neg h0]
  by_cases h1 : k = 1
  · subst h1; rw [if_pos rfl]
    exact (do_1 ((macro_any (hc.below (hb 1)) nm (hl.below (hb 1)) (hs.below (hb 1))).mono fun e2 w' x => dop 1 g cc rs _ e2 w' hg hk hc x)).mono (fin _)
  rw [if_neg h1]
  by_cases h2 : k = 2
  · subst h2; rw [if_pos rfl]
    exact (do_2 ((wait_any (hc.below (hb 2)) (hl.below (hb 2))).mono fun e2 w' x => dop 2 g cc rs _ e2 w' hg hk hc x)).mono (fin _)
  rw [if_neg h2]
  by_cases h3 : k = 3
  · subst h3; rw [if_pos rfl]
    refine (do_3 (R := fun r x w1 => x = (nextS F).1.2 ∧ RlIs (Tg w1) w1 r (nextS F).1.1 ∧ NxO sb g F rs (nextS F).2 (dw W 3 nm tx A n c B m e a) w1) ((next_both (hc.below (hb 3))).mono fun e2 w1 ⟨⟨⟨r, he, hr⟩, _⟩, ho⟩ => ⟨r, _, he, ?_, rfl, hr, ho⟩)).mono ?_
    · obtain ⟨g', c', rs', _, hd, _⟩ := ho
      exact (Dt.st (hc.below (hb 3)) hd.kept).ln (hx 3)
    · rintro e2 w' ⟨r, x, w1, he, ⟨rfl, hr, g', c', rs', hck, hd, hall⟩, hz1, rfl⟩
      have hlt := hc.lt
      have hzz := hz 3
      have hk1 : Kept (fun b => b = sb ∨ b = g) W w1 := (Kept.of (hb 3)).trans hd.kept
      have hk2 : Kept (fun b => b = sb ∨ b = g) W (LnW w1 (W.heap.size + 1) r.tx r.md r.up r.dn r.bo r.bn r.bc) := lnW_kept hk1 (Nat.le_succ _)
      have hdt := Dc.st hc hk2
      have hgne : g' ≠ W.heap.size + 1 := by rcases hd.blk with e | e <;> omega
      have hck2 := hck.re (lnW_far (g := W.heap.size + 1) (tx := r.tx) (md := r.md) (up := r.up) (dn := r.dn) (o := r.bo) (n := r.bn) (c := r.bc) (by omega)) (lnW_far hgne) ((hall _ _ hc.fr).mono fun _ _ h => h.dt hdt.dt)
      refine ⟨r, he, ?_, At.step hsb hg hk ⟨g', ⟨c', rs', hck2⟩, hk2, by rcases hd.blk with e | e <;> omega⟩, hdt⟩
      refine hr.keep fun e he b hb => ?_
      have hne : b ≠ W.heap.size + 1 := hb.ne ⟨_, _, hz1⟩ (by rcases he with rfl | rfl <;> decide)
      exact ⟨lnW_far hne, hb.keep (lnW_far hne)⟩
  rw [if_neg h3]
  by_cases h4 : k = 4
  · subst h4; rw [if_pos rfl]
    refine (do_4 (R := fun r x w1 => x = (peekS F).2 ∧ RlIs (Tg w1) w1 r (peekS F).1 ∧ Below W.heap.size W w1) ((peek_any (hc.below (hb 4))).mono fun e2 w1 ⟨r, he, ht⟩ => ⟨r, _, he, (ht.below.block _ (lt_of_block (hx 4))).trans (hx 4), rfl, ht.is, (hb 4).trans (ht.below.mono (hb 4).size)⟩)).mono ?_
    rintro e2 w' ⟨r, x, w1, he, ⟨rfl, hr, hb1⟩, hz1, rfl⟩
    have hb2 : Below W.heap.size W (LnW w1 (W.heap.size + 1) r.tx r.md r.up r.dn r.bo r.bn r.bc) := (lnW_kept (S := fun _ => False) (Kept.of hb1) (Nat.le_succ _)).to (Nat.le_refl _) (fun _ h => h.elim)
    refine ⟨r, he, ?_, h.below hb2, Dc.below hb2⟩
    refine hr.keep fun e he b hb => ?_
    have hne : b ≠ W.heap.size + 1 := hb.ne ⟨_, _, hz1⟩ (by rcases he with rfl | rfl <;> decide)
    exact ⟨lnW_far hne, hb.keep (lnW_far hne)⟩
  rw [if_neg h4]
  by_cases h5 : k = 5
  · subst h5; rw [if_pos rfl]
    exact (do_5 ((return_any (hc.below (hb 5)) _).mono fun e2 w' x => dop 5 g cc rs _ e2 w' hg hk hc x)).mono (fin _)
  rw [if_neg h5]
  by_cases h6 : k = 6
  · subst h6; rw [if_pos rfl]
    exact (do_6 ((instead_any (hc.below (hb 6)) nm tx htx).mono fun e2 w' x => dop 6 g cc rs _ e2 w' hg hk hc x)).mono (fin _)
  rw [if_neg h6]
  by_cases h7 : k = 7
  · subst h7; rw [if_pos rfl]
    exact (do_7 ((shift_any (hc.below (hb 7)) a).mono fun e2 w' x => dop 7 g cc rs _ e2 w' hg hk hc x)).mono (fin _)
  rw [if_neg h7]
  refine (do_8 k (by omega)).mono fun e2 w' ⟨he, hb⟩ => ⟨RL0, he, rl_none _, h.below hb, Dc.below hb⟩
end Go.Proofs.YtfobbcddedcepaaDoor
/- The document's stack: what it tells. -/
namespace Go.Proofs.YtfobbcddedcepaaDoor
open Go.RowKit
set_option maxRecDepth 100000
set_option linter.unusedSimpArgs false
set_option linter.unusedVariables false
/-- The document's stack: the frames lie in a row of their own, or there is none. -/
structure RK (X xb : Nat) (A : Option Addr) (c : Nat) (F : List Fr) (rs : List RF) (w : World) : Prop where
  cell : w.heap[xb]? = some (.cells #[.bool true, .slice A F.length c] 52 (0, 0))
  row : w.ownsRow X 61 5 (.slice A F.length c) F.length (rs.flatMap rfCs)
  fr : All2 (RfIs (Tg w) w) rs F
  ok : ∀ f ∈ F, okFr f
  len : F.length ≤ 50
  inv : ∀ i f, i + 1 < F.length → F[i]? = some f → stays f = true
  bx : X ≤ xb
def RS (X xb : Nat) (F : List Fr) (w : World) : Prop := ∃ A c rs, RK X xb A c F rs w
section
variable {X xb : Nat} {A : Option Addr} {c : Nat} {F : List Fr} {rs : List RF} {w : World}
theorem RK.rl (h : RK X xb A c F rs w) : rs.length = F.length := h.fr.1
theorem RK.c0 (h : RK X xb A c F rs w) : w.cell? ⟨xb, 0, none⟩ = some (.bool true) ∧ w.cell? ⟨xb, 1, none⟩ = some (.slice A F.length c) := by simp [World.cell?, h.cell]
theorem RK.lt (h : RK X xb A c F rs w) : xb < w.heap.size := lt_of_block h.cell
/-- The cells of frame j. -/
theorem RK.fc (h : RK X xb A c F rs w) (j : Nat) (r : RF) (hr : rs[j]? = some r) : ∃ g, A = some ⟨g, 0, none⟩ ∧ Tg w 61 g ∧
    (w.cell? ⟨g, j * 5, none⟩ = some (.int .i64 r.kd) ∧ w.cell? ⟨g, j * 5 + 1, none⟩ = some (.string r.nm) ∧ w.cell? ⟨g, j * 5 + 2, none⟩ = some (.slice r.lo r.ln r.lc) ∧ w.cell? ⟨g, j * 5 + 3, none⟩ = some (.slice r.ao r.an r.ac) ∧ w.cell? ⟨g, j * 5 + 4, none⟩ = some (.int .i64 r.tk)) ∧
    (w.frozen? ⟨g, j * 5 + 3, none⟩ = false ∧ w.frozen? ⟨g, j * 5 + 4, none⟩ = false) := by
  have hjl := (List.getElem?_eq_some_iff.1 hr).1
  rw [h.rl] at hjl
  obtain ⟨g, hA, _, _, cur, hg, _⟩ := own_head h.row (by omega)
  subst hA
  have key := fun k (hk : k < 5) => fm_at rf_len rs j k r hr hk
  have key2 : ∀ k (hk : k < 5) u, (rfCs r)[k]? = some u → w.cell? ⟨g, j * 5 + k, none⟩ = some u ∧ w.frozen? ⟨g, j * 5 + k, none⟩ = false := fun k hk u hu => own_cell h.row _ u ((key k hk).trans hu)
  exact ⟨g, rfl, ⟨cur, _, hg⟩, ⟨(key2 0 (by omega) _ rfl).1, (key2 1 (by omega) _ rfl).1, (key2 2 (by omega) _ rfl).1, (key2 3 (by omega) _ rfl).1, (key2 4 (by omega) _ rfl).1⟩, (key2 3 (by omega) _ rfl).2, (key2 4 (by omega) _ rfl).2⟩
/-- The stack's blocks and the data stay. -/
theorem RK.move {w' : World} (h : RK X xb A c F rs w) (h1 : w'.heap[xb]? = w.heap[xb]?) (h2 : ∀ g, Tg w 61 g → w'.heap[g]? = w.heap[g]?) (k : Dt w w') : RK X xb A c F rs w' :=
  ⟨h1.trans h.cell, own_far h.row (fun g hg => h2 g (own_tag h.row hg).1), h.fr.mono fun _ _ hr => hr.dt k, h.ok, h.len, h.inv, h.bx⟩
theorem RK.below {w' : World} (h : RK X xb A c F rs w) (k : Below w.heap.size w w') : RK X xb A c F rs w' :=
  h.move (k.block _ h.lt) (fun g hg => k.block _ hg.lt) (Dt.below k)
theorem rno_any (h : RK X xb A c F rs w) : Calls Tryd.prog 42 #[BP xb] w fun e w' => e = .returned (.bool false) ∧ w = w' := by
  have hc := h.c0.1
  clear h
  go_enter Tryd.func42, Tryd.ntmps42
  go_wp2_with fail
  go_ret
  exact ⟨rfl, rfl⟩
theorem rDepth_any (h : RK X xb A c F rs w) : Calls Tryd.prog 40 #[BP xb] w fun e w' => e = .returned (.int .i64 F.length) ∧ w = w' := by
  have HM := Lib.hid (rno_any h)
  have hc := h.c0.2
  clear h
  go_enter Tryd.func40, Tryd.ntmps40
  go_wp2_with fail
  refine HM.out.mono ?_
  rintro e w1 ⟨rfl, rfl⟩
  go_wp2_with fail
  go_ret
  exact ⟨rfl, rfl⟩
def isKd (k : Int) (f : Fr) : Bool := f.kd == k
set_option maxHeartbeats 1000000 in
theorem rtop_any (h : RK X xb A c F rs w) (k : Int) : Calls Tryd.prog 63 #[BP xb, .int .i64 k] w fun e w' => e = .returned (.int .i64 ((topS (isKd k) F : Nat) - 1 : Int)) ∧ Below w.heap.size w w' := by
  have HM := Lib.hid (rno_any h)
  have hc := h.c0.2
  have H := Lib.hid h
  have hlen : F.length ≤ 50 := h.len
  clear h
  go_enter Tryd.func63, Tryd.ntmps63
  go_wp2_with fail
  refine HM.out.mono ?_
  rintro e w1 ⟨rfl, rfl⟩
  go_wp2_with fail
  go_loopg [5] F.length (fun q i wr => ∃ j : Nat, q = j ∧ j ≤ F.length ∧ i = .int .i64 ((j : Int) - 1) ∧ topS (isKd k) F = topN (isKd k) F j ∧ wr.heap = w.heap ∧ Below w.heap.size w wr)
  case atStart => exact ⟨F.length, rfl, Nat.le_refl _, rfl, rfl, rfl, Below.refl _ _⟩
  case round =>
    obtain ⟨j, rfl, hj, rfl, ht, hh, hb⟩ := hrel
    have HT := Lib.hid ht
    have HH := Lib.hid hh
    have HB := Lib.hid hb
    cases gk with
    | zero =>
      have d0 : decide ((0 : Int) ≤ ((0 : Nat) : Int) - 1) = false := by decide
      clear ht hh hb
      go_wp2_with fail
      go_ret
      exact ⟨by rw [HT.out]; rfl, HB.out⟩
    | succ j =>
      have hr : rs[j]? = some (rs[j]'(by have := H.out.rl; omega)) := List.getElem?_eq_getElem (by have := H.out.rl; omega)
      obtain ⟨r, hre⟩ : ∃ r, r = rs[j]'(by have := H.out.rl; omega) := ⟨_, rfl⟩
      rw [← hre] at hr
      have hf : F[j]? = some (F[j]'(by omega)) := List.getElem?_eq_getElem (by omega)
      obtain ⟨f, hfe⟩ : ∃ f, f = F[j]'(by omega) := ⟨_, rfl⟩
      rw [← hfe] at hf
      have hri := (H.out.fr.2 j r f hr hf).kd
      obtain ⟨g, rfl, _, ⟨c0, _, _, _, _⟩, _⟩ := H.out.fc j r hr
      have key : ∀ p : Addr, wr.cell? p = w.cell? p := fun p => by unfold World.cell?; rw [HH.out]
      rw [← key] at c0 hc
      rw [hri] at c0
      have e1 : ((j + 1 : Nat) : Int) - 1 = (j : Int) := by omega
      rw [e1]
      have hj0 : (0 : Int) ≤ (j : Int) := by omega
      have hj1 : (j : Int) < (F.length : Int) := by omega
      have hj5 : (j : Int) < 50 := by omega
      have HF := Lib.hid hf
      have HJ := Lib.hid hj
      clear ht hh hb hre hr hfe hri key e1 hf hj
      cases hk : (f.kd == k) with
      | true =>
        have HK := Lib.hid hk
        go_wp2_with fail
        go_ret
        refine ⟨?_, HB.out⟩
        rw [HT.out, topN_yes (isKd k) F j f HF.out HK.out]
        rw [show ((j + 1 : Nat) : Int) - 1 = (j : Int) by omega]
        rfl
      | false =>
        have HK := Lib.hid hk
        go_wp2_with fail
        go_roundg j
        case measure => omega
        case rel => exact ⟨j, rfl, by have := HJ.out; omega, by first | go_num | rfl, by rw [HT.out, topN_no (isKd k) F j f HF.out HK.out], HH.out, ⟨HB.out.os, HB.out.tape, HB.out.output, HB.out.size, HB.out.block⟩⟩
end
end Go.Proofs.YtfobbcddedcepaaDoor
/- The document's stack: Line, Name. -/
namespace Go.Proofs.YtfobbcddedcepaaDoor
open Go.RowKit
set_option maxRecDepth 100000
set_option linter.unusedSimpArgs false
set_option linter.unusedVariables false
theorem topN_or (p q : Fr → Bool) (F : List Fr) : ∀ k, topN (fun f => p f || q f) F k = max (topN p F k) (topN q F k)
  | 0 => rfl
  | k + 1 => by
    have ih := topN_or p q F k
    have hp := topN_le p F k
    have hq := topN_le q F k
    unfold topN
    cases hf : F[k]? with
    | none => exact ih
    | some f =>
      simp only
      cases p f <;> cases q f <;> simp <;> omega
theorem top_name (F : List Fr) : topS hasName F = max (topS isMacro F) (topS isFile F) := by
  have h : topS hasName F = max (topS isFile F) (topS isMacro F) := topN_or isFile isMacro F F.length
  rw [h, Nat.max_comm]
section
variable {X xb : Nat} {A : Option Addr} {c : Nat} {F : List Fr} {rs : List RF} {w : World}
/-- The frame that is found. -/
theorem RK.got (h : RK X xb A c F rs w) (k : Nat) (hk : 0 < k) (hl : k ≤ F.length) : ∃ f r, gotF F k = f ∧ F[k - 1]? = some f ∧ rs[k - 1]? = some r ∧ RfIs (Tg w) w r f := by
  have h1 : rs[k - 1]? = some (rs[k - 1]'(by rw [h.rl]; omega)) := List.getElem?_eq_getElem (by rw [h.rl]; omega)
  have h2 : F[k - 1]? = some (F[k - 1]'(by omega)) := List.getElem?_eq_getElem (by omega)
  refine ⟨_, _, ?_, h2, h1, h.fr.2 _ _ _ h1 h2⟩
  unfold gotF
  rw [if_neg (by omega), h2]
  rfl
set_option maxHeartbeats 1000000 in
theorem rLine_any (h : RK X xb A c F rs w) : Calls Tryd.prog 39 #[BP xb] w fun e w' => e = .returned (.int .i64 (lineS F : Nat)) ∧ Below w.heap.size w w' := by
  have ht := rtop_any h 1
  change Calls _ _ _ _ (fun e w' => e = .returned (.int .i64 ((topS isFile F : Nat) - 1 : Int)) ∧ Below w.heap.size w w') at ht
  have hle := topS_le isFile F
  have hP : lineS F = (gotF F (topS isFile F)).tk := rfl
  have hlen := h.len
  generalize topS isFile F = k at ht hle hP
  have HP := Lib.hid hP
  cases k with
  | zero =>
    have HT := Lib.hid ht
    clear ht hP h
    go_enter Tryd.func39, Tryd.ntmps39
    go_wp2_with fail
    refine HT.out.mono ?_
    rintro e w1 ⟨rfl, hb1⟩
    have HB := Lib.hid hb1
    have d0 : decide (((0 : Nat) : Int) - 1 < 0) = true := by decide
    clear hb1
    go_wp2_with fail
    go_ret
    rw [HP.out]
    exact ⟨rfl, HB.out⟩
  | succ k =>
    rw [show ((k + 1 : Nat) : Int) - 1 = (k : Int) by omega] at ht
    obtain ⟨f, r, hg, hf, hr, hri⟩ := h.got (k + 1) (by omega) hle
    have HT := Lib.hid ht
    have H := Lib.hid h
    have HG := Lib.hid hg
    have HTK := Lib.hid hri.tk
    have hj0 : (0 : Int) ≤ (k : Int) := by omega
    have hj1 : (k : Int) < (F.length : Int) := by omega
    have HR := Lib.hid hr
    clear ht hP h hg hf hri hr
    go_enter Tryd.func39, Tryd.ntmps39
    go_wp2_with fail
    refine HT.out.mono ?_
    rintro e w1 ⟨rfl, hb1⟩
    have HB := Lib.hid hb1
    have h1 := H.out.below hb1
    have hc := h1.c0.2
    obtain ⟨g, rfl, _, ⟨c0, c1, c2, c3, c4⟩, _⟩ := h1.fc k r HR.out
    clear hb1 h1
    go_wp2_with fail
    go_ret
    rw [HP.out, HG.out, ← HTK.out]
    exact ⟨rfl, HB.out⟩
set_option maxHeartbeats 1000000 in
theorem rName_any (h : RK X xb A c F rs w) : Calls Tryd.prog 37 #[BP xb] w fun e w' => e = .returned (.string (nameS F)) ∧ Below w.heap.size w w' := by
  have ht := fun W (hb : Below w.heap.size w W) => rtop_any (h.below hb) 2
  have ht2 := fun W (hb : Below w.heap.size w W) => rtop_any (h.below hb) 1
  change ∀ W, Below w.heap.size w W → Calls _ _ _ _ (fun e w' => e = .returned (.int .i64 ((topS isMacro F : Nat) - 1 : Int)) ∧ Below W.heap.size W w') at ht
  change ∀ W, Below w.heap.size w W → Calls _ _ _ _ (fun e w' => e = .returned (.int .i64 ((topS isFile F : Nat) - 1 : Int)) ∧ Below W.heap.size W w') at ht2
  have hle := topS_le hasName F
  have hP : nameS F = (gotF F (topS hasName F)).nm := rfl
  have hmx : max ((topS isMacro F : Nat) - 1 : Int) ((topS isFile F : Nat) - 1 : Int) = ((topS hasName F : Nat) - 1 : Int) := by rw [top_name]; omega
  have hlen := h.len
  generalize topS hasName F = k at hle hP hmx
  generalize ((topS isMacro F : Nat) - 1 : Int) = a at ht hmx
  generalize ((topS isFile F : Nat) - 1 : Int) = b at ht2 hmx
  have HP := Lib.hid hP
  have HT := Lib.hid ht
  have HT2 := Lib.hid ht2
  cases k with
  | zero =>
    clear ht ht2 hP h
    go_enter Tryd.func37, Tryd.ntmps37
    go_wp2_with fail
    refine (HT.out _ (Below.refl _ _)).mono ?_
    rintro e w1 ⟨rfl, hb1⟩
    have HB1 := Lib.hid hb1
    clear hb1
    go_wp2_with fail
    refine (HT2.out _ HB1.out).mono ?_
    rintro e w2 ⟨rfl, hb2⟩
    have HB2 := Lib.hid (HB1.out.trans (hb2.mono HB1.out.size))
    have d0 : decide (((0 : Nat) : Int) - 1 < 0) = true := by decide
    clear hb2
    go_wp2_with fail
    go_ret
    rw [HP.out]
    exact ⟨rfl, HB2.out⟩
  | succ k =>
    rw [show ((k + 1 : Nat) : Int) - 1 = (k : Int) by omega] at hmx
    obtain ⟨f, r, hg, hf, hr, hri⟩ := h.got (k + 1) (by omega) hle
    have H := Lib.hid h
    have HG := Lib.hid hg
    have HTK := Lib.hid hri.nm
    have hj0 : (0 : Int) ≤ (k : Int) := by omega
    have hj1 : (k : Int) < (F.length : Int) := by omega
    have HR := Lib.hid hr
    clear ht ht2 hP h hg hf hri hr
    go_enter Tryd.func37, Tryd.ntmps37
    go_wp2_with fail
    refine (HT.out _ (Below.refl _ _)).mono ?_
    rintro e w1 ⟨rfl, hb1⟩
    have HB1 := Lib.hid hb1
    clear hb1
    go_wp2_with fail
    refine (HT2.out _ HB1.out).mono ?_
    rintro e w2 ⟨rfl, hb2⟩
    have hb := HB1.out.trans (hb2.mono HB1.out.size)
    have HB2 := Lib.hid hb
    have h1 := H.out.below hb
    have hc := h1.c0.2
    obtain ⟨g, rfl, _, ⟨c0, c1, c2, c3, c4⟩, _⟩ := h1.fc k r HR.out
    clear hb hb2 h1
    go_wp2_with fail
    go_ret
    rw [HP.out, HG.out, ← HTK.out]
    exact ⟨rfl, HB2.out⟩
end
end Go.Proofs.YtfobbcddedcepaaDoor
/- The document's stack: New, over. -/
namespace Go.Proofs.YtfobbcddedcepaaDoor
open Go.RowKit
set_option maxRecDepth 100000
set_option linter.unusedSimpArgs false
set_option linter.unusedVariables false
theorem rover_any (r : RF) (w : World) : Calls Tryd.prog 61 #[rfA r] w fun e w' => e = .returned (.bool (!qMore r)) ∧ Below w.heap.size w w' := by
  have HB := Lib.hid ((Below.refl w.heap.size w).alloc (Nat.le_refl _) (.cells #[.int .i64 r.kd, .string r.nm, .slice r.lo r.ln r.lc, .slice r.ao r.an r.ac, .int .i64 r.tk] 61))
  have HE := Lib.hid (show qMore r = decide (r.tk < r.ln) from rfl)
  by_cases h : r.ln ≤ r.tk
  · have d0 : decide (r.ln ≤ r.tk) = true := decide_eq_true h
    have HX := Lib.hid (show (!qMore r) = true by rw [HE.out, decide_eq_false (by omega)]; rfl)
    clear h
    go_enter Tryd.func61, Tryd.ntmps61
    go_wp2_with fail
    go_ret
    rw [HX.out]
    exact ⟨rfl, HB.out⟩
  · have d0 : decide (r.ln ≤ r.tk) = false := decide_eq_false h
    have HX := Lib.hid (show (!qMore r) = false by rw [HE.out, decide_eq_true (by omega)]; rfl)
    clear h
    go_enter Tryd.func61, Tryd.ntmps61
    go_wp2_with fail
    go_ret
    rw [HX.out]
    exact ⟨rfl, HB.out⟩
theorem rNew_any {X : Nat} (w : World) (hX : X ≤ w.heap.size) : Calls Tryd.prog 8 #[] w fun e w' => e = .returned (BP w.heap.size) ∧ RS X w.heap.size [] w' ∧ Below w.heap.size w w' := by
  have hb := (Below.refl w.heap.size w).alloc (Nat.le_refl _) (.cells #[.bool true, .slice none 0 0] 52)
  have hx := heap_alloc_new w (.cells #[.bool true, .slice none 0 0] 52)
  have HR : Hid (RS X w.heap.size [] (w.alloc (.cells #[.bool true, .slice none 0 0] 52))) := Lib.hid ⟨none, 0, [], ⟨hx, ⟨rfl, .inl ⟨rfl, rfl⟩⟩, ⟨rfl, fun i a b ha _ => by simp at ha⟩, fun f hf => by simp at hf, Nat.zero_le _, fun i f hi _ => by simp at hi, hX⟩⟩
  have HB := Lib.hid hb
  clear hb hx
  go_enter Tryd.func8, Tryd.ntmps8
  go_wp2_with fail
  go_ret
  exact ⟨rfl, HR.out, HB.out⟩
end Go.Proofs.YtfobbcddedcepaaDoor
/- The document's stack: Args. -/
namespace Go.Proofs.YtfobbcddedcepaaDoor
open Go.RowKit
set_option maxRecDepth 100000
set_option linter.unusedSimpArgs false
set_option linter.unusedVariables false
section
variable {X xb : Nat} {A : Option Addr} {c : Nat} {F : List Fr} {rs : List RF} {w : World}
set_option maxHeartbeats 1000000 in
theorem rArgs_any (h : RK X xb A c F rs w) : Calls Tryd.prog 35 #[BP xb] w (StrP (argsS F) w) := by
  obtain ⟨i0, hi0, hz0, hz1, hz2⟩ := info_parts info_str
  have ht := rtop_any h 2
  change Calls _ _ _ _ (fun e w' => e = .returned (.int .i64 ((topS isMacro F : Nat) - 1 : Int)) ∧ Below w.heap.size w w') at ht
  have hle := topS_le isMacro F
  have hP : argsS F = (gotF F (topS isMacro F)).ar := rfl
  have hlen := h.len
  generalize topS isMacro F = k at ht hle hP
  have HP := Lib.hid hP
  cases k with
  | zero =>
    have HT := Lib.hid ht
    clear ht hP h
    go_enter Tryd.func35, Tryd.ntmps35
    go_wp2_with fail
    refine HT.out.mono ?_
    rintro e w1 ⟨rfl, hb1⟩
    have HB := Lib.hid hb1
    have d0 : decide (((0 : Nat) : Int) - 1 < 0) = true := by decide
    clear hb1
    go_wp2_with fail
    go_ret
    rw [HP.out]
    exact ⟨⟨none, 0, 0, rfl, strs_none _, fun _ => rfl, Nat.le_refl _, by decide⟩, HB.out⟩
  | succ k =>
    rw [show ((k + 1 : Nat) : Int) - 1 = (k : Int) by omega] at ht
    obtain ⟨f, r, hg, hf, hr, hri⟩ := h.got (k + 1) (by omega) hle
    have HT := Lib.hid ht
    have H := Lib.hid h
    have HG := Lib.hid hg
    have HRI := Lib.hid hri
    have hj0 : (0 : Int) ≤ (k : Int) := by omega
    have hj1 : (k : Int) < (F.length : Int) := by omega
    have HR := Lib.hid hr
    clear ht hP h hg hf hri hr
    go_enter Tryd.func35, Tryd.ntmps35
    go_wp2_with fail
    refine HT.out.mono ?_
    rintro e w1 ⟨rfl, hb1⟩
    have HB := Lib.hid hb1
    have h1 := H.out.below hb1
    have hc := h1.c0.2
    obtain ⟨g, rfl, _, ⟨c0, c1, c2, c3, c4⟩, _⟩ := h1.fc k r HR.out
    have hri1 := HRI.out.dt (Dt.below hb1)
    obtain ⟨kd, nm, lo, ln, lc, ao, an, ac, tk⟩ := r
    simp only at c3
    have ea : ∀ b o v, w1.cell? ⟨b, o, none⟩ = some v → (w1.alloc (.cells #[] 9)).cell? ⟨b, o, none⟩ = some v := fun b o v h => (World.cell?_alloc_lt w1 _ ⟨b, o, none⟩ (World.block_lt_of_cell? w1 _ h)).trans h
    have hc9 := ea _ _ _ hc
    have c39 := ea _ _ _ c3
    have d9 : decide ((k : Int) < 0) = false := decide_eq_false (by omega)
    clear ea
    have HROW0 := Lib.hid (World.ownsRow_made (base := w1.heap.size) (e := 9) (size := 1) w1 #[] 0 (Nat.le_refl _) (by unfold maxLen; omega) rfl)
    cases ao with
    | none =>
      obtain rfl : an = 0 := hri1.anil rfl
      have har : f.ar = [] := List.eq_nil_of_length_eq_zero (by have := hri1.ar.len; simp only at this; omega)
      have HAR := Lib.hid har
      clear hb1 h1 hri1 har c0 c1 c2 c4
      go_wp2_with (at_builtin; refine wpList_append_own_none rfl _ _ 36 rfl w1.heap.size 9 i0 1 Tryd.underlying36 hi0 _ 0 [] rfl HROW0.out rfl ?_)
      go_wp2_with fail
      go_ret
      rw [HP.out, HG.out, HAR.out]
      exact ⟨⟨_, _, _, rfl, ⟨⟨rfl, fun h => absurd h (Nat.lt_irrefl 0)⟩, rfl⟩, (fun _ => rfl), Nat.le_refl _, by decide⟩, HB.out.trans (((Below.refl w1.heap.size w1).alloc (Nat.le_refl _) (.cells #[] 9)).mono HB.out.size)⟩
    | some a =>
      have hrd := hri1.ar.rd
      have HL := Lib.hid hrd.1
      have HLEN := Lib.hid hri1.ar.len
      have hfit := hri1.afit
      simp only at hfit
      have HSRC : Hid (∀ j u, (strCs f.ar)[j]? = some u → (w1.alloc (.cells #[] 9)).cell? (a.add j) = some u) := by
        refine Lib.hid (fun j u hu => ?_)
        have hjl := (List.getElem?_eq_some_iff.1 hu).1
        have h0 := hrd.1
        simp only at h0
        obtain ⟨b, off, e, _, hc⟩ := hrd.2 (by simp only; omega)
        injection e with e
        subst e
        rw [cell_add]
        exact (World.cell?_alloc_lt w1 _ ⟨b, off + j, none⟩ (World.block_lt_of_cell? w1 _ (hc j u hu))).trans (hc j u hu)
      clear hb1 h1 hri1 hrd c0 c1 c2 c4
      go_wp2_with (at_builtin; refine wpList_append_own _ rfl _ _ 36 rfl w1.heap.size 9 i0 _ 1 16 Tryd.underlying36 hi0 hz0 hz1 hz2 rfl (by decide) _ _ _ rfl HROW0.out a an ac (strCs f.ar) rfl HL.out HSRC.out (str_one f.ar) (by unfold maxLen; omega) (by omega) (by simp) ?_
                   intro v3 w4 hown3 hgrow3 _
                   obtain ⟨o3, cap3, rfl, h31, h32⟩ := row_shape hown3
                   rw [Nat.zero_add, List.nil_append] at hown3
                   have hg3 : (w1.alloc (.cells #[] 9)).grownBy w4 (some w1.heap.size) := hgrow3
                   have HB4 := Lib.hid (((Below.refl w1.heap.size w1).alloc (Nat.le_refl _) (.cells #[] 9)).grown hg3 (by simp) (fun g e => by cases e; exact Nat.le_refl _))
                   have HO3 := Lib.hid hown3
                   have H31 := Lib.hid h31
                   have H32 := Lib.hid h32
                   clear hgrow3 hg3 hown3 h31 h32)
      go_wp2_with fail
      go_ret
      rw [HP.out, HG.out]
      exact ⟨⟨o3, _, cap3, by simp, ⟨ReadsP.of_own HO3.out (fun g cs hg _ => ⟨cs, _, hg⟩), HLEN.out⟩, own_none HO3.out, by have := H31.out; omega, H32.out⟩, HB.out.trans (HB4.out.mono HB.out.size)⟩
end
end Go.Proofs.YtfobbcddedcepaaDoor
