/- The next line of a frame. -/
import Derived.Test.YtfobbcddedcepaaDoorB7
namespace Go.Proofs.YtfobbcddedcepaaDoor
open Go.RowKit
set_option maxRecDepth 100000
set_option linter.unusedSimpArgs false
set_option linter.unusedVariables false
abbrev lvA (r : RL) : Value := .agg #[.string r.tx, .bool r.md, .int .i64 r.up, .int .i64 r.dn, .slice r.bo r.bn r.bc]
/-- A line that is told. -/
structure LnTold (l : Ln) (w w' : World) (r : RL) : Prop where
  is : RlIs (Tg w') w' r l
  below : Below w.heap.size w w'
def LnOut (l : Ln) (w : World) (e : Ending) (w' : World) : Prop := ∃ r, e = .returned (lvA r) ∧ LnTold l w w' r
set_option maxHeartbeats 1000000 in
theorem copyL_any {P : TypeId → Nat → Prop} {w : World} {r : RL} {l : Ln} (h : RlIs P w r l) (hP : ∀ e b, P e b → b < w.heap.size) (hb : l.bx.length ≤ 2000) : Calls Tryd.prog 71 #[lvA r] w (LnOut l w) := by
  have hc := copyLine_any r.tx r.md r.up r.dn r.bo r.bn r.bc l.bx h.bx hP h.nil (by rw [h.bx.len]; exact hb)
  refine hc.mono ?_
  rintro e w' ⟨bo, bc, rs, rfl, ho, ha, hb⟩
  refine ⟨⟨r.tx, r.md, r.up, r.dn, bo, r.bn, bc⟩, rfl, ⟨h.tx, h.md, h.up, h.dn, own_none ho, ?_, ?_, ⟨⟨rs, ReadsP.of_own ho (fun g cs hg _ => ⟨cs, _, hg⟩), ha⟩, h.bx.len⟩⟩, hb⟩
  · obtain ⟨o, cap, hv, h1, h2⟩ := row_shape ho
    injection hv with e1 e2 e3
    subst e3; exact h1
  · obtain ⟨o, cap, hv, h1, h2⟩ := row_shape ho
    injection hv with e1 e2 e3
    subst e3; exact h2
theorem LnTold.to {l : Ln} {w w1 w' : World} {r : RL} (h : LnTold l w w1 r) (hb : Below w1.heap.size w1 w') : LnTold l w w' r :=
  ⟨h.is.keep fun e _ b hb' => hb'.below hb, h.below.trans (hb.mono h.below.size)⟩
theorem RlIs.dt {w w' : World} {r : RL} {l : Ln} (h : RlIs (Tg w) w r l) (k : Dt w w') : RlIs (Tg w') w' r l :=
  h.keep fun e he b hb => ⟨k e b (by rcases he with rfl | rfl <;> simp) hb, hb.keep (k e b (by rcases he with rfl | rfl <;> simp) hb)⟩
set_option maxHeartbeats 1000000 in
theorem next_any {w : World} {r : RF} {f : Fr} (h : RfIs (Tg w) w r f) (hf : okFr f) (l : Ln) (hl : f.ls[f.tk]? = some l) : Calls Tryd.prog 49 #[rfA r] w (LnOut l w) := by
  have htk : r.tk < r.ln := by rw [h.tk, h.ls.len]; exact (List.getElem?_eq_some_iff.1 hl).1
  obtain ⟨⟨rs, hr, ha⟩, hlen⟩ := h.ls
  have hrl : rs.length = r.ln := by rw [ha.1, hlen]
  have hrj : rs[r.tk]? = some (rs[r.tk]'(by omega)) := List.getElem?_eq_getElem (by omega)
  obtain ⟨q, hq⟩ : ∃ q, q = rs[r.tk]'(by omega) := ⟨_, rfl⟩
  rw [← hq] at hrj
  have hqi := ha.2 r.tk q l hrj (by rw [h.tk]; exact hl)
  obtain ⟨b, off, hlo, hp, c0, c1, c2, c3, c4⟩ := reads_ln hr r.tk q hrj
  have hb2 := two_alloc w #[.int .i64 r.kd, .string r.nm, .slice r.lo r.ln r.lc, .slice r.ao r.an r.ac, .int .i64 r.tk] #[.string ⟨#[]⟩, .bool false, .int .i64 0, .int .i64 0, .slice none 0 0] 64 31
  obtain ⟨k0, k1, hbw⟩ := hb2
  obtain ⟨W2, hW2⟩ : ∃ W2, W2 = (w.alloc (.cells #[.int .i64 r.kd, .string r.nm, .slice r.lo r.ln r.lc, .slice r.ao r.an r.ac, .int .i64 r.tk] 64)).alloc (.cells #[.string ⟨#[]⟩, .bool false, .int .i64 0, .int .i64 0, .slice none 0 0] 31) := ⟨_, rfl⟩
  have hz2 : W2.heap.size = w.heap.size + 2 := by rw [hW2]; simp
  rw [← hW2] at k0 k1 hbw
  have hc := copyL_any (hqi.keep (P' := Tg W2) (w' := W2) fun e _ b hb' => hb'.below hbw) (fun e b hb' => hb'.lt) (okLn_bx hf.ls l (List.mem_of_getElem? hl))
  have hbl := hp.lt
  have ec := fun o v (h : w.cell? ⟨b, o, none⟩ = some v) => (hbw.cell (p := ⟨b, o, none⟩) hbl).trans h
  have d0 := ec _ _ c0
  have d1 := ec _ _ c1
  have d2 := ec _ _ c2
  have d3 := ec _ _ c3
  have d4 := ec _ _ c4
  obtain ⟨⟨x0, x1, x2, x3, x4⟩, _⟩ := fresh_fr k0
  have HC := Lib.hid hc
  have HK1 := Lib.hid k1
  have HBW := Lib.hid hbw
  have HZ2 := Lib.hid hz2
  have hcap := h.lcap
  have hj0 : (0 : Int) ≤ (r.tk : Int) := by omega
  have hj1 : (r.tk : Int) < (r.ln : Int) := by omega
  obtain ⟨kd, nm, lo, ln, lc, ao, an, ac, tk⟩ := r
  simp only at *
  subst hlo
  rw [hW2] at d0 d1 d2 d3 d4 x0 x1 x2 x3 x4
  have HW2 := Lib.hid hW2
  clear h hf hl hr ha hlen hrl hrj hq hqi hp c0 c1 c2 c3 c4 k0 k1 hbw hz2 hc hbl ec hW2
  go_enter Tryd.func49, Tryd.ntmps49
  go_wp2_with fail
  rw [← HW2.out]
  refine HC.out.mono ?_
  rintro e w3 ⟨t, rfl, ht⟩
  have HT := Lib.hid ht
  have hk3 := (ht.below.block (w.heap.size + 1) (by rw [HZ2.out]; omega)).trans HK1.out
  have HK3 := Lib.hid hk3
  obtain ⟨⟨p0, p1, p2, p3, p4⟩, q0, q1, q2, q3, q4⟩ := fresh_ln hk3
  clear ht hk3
  go_wp2_with fail
  have hat := lnW_at (tx := t.tx) (md := t.md) (up := t.up) (dn := t.dn) (o := t.bo) (n := t.bn) (c := t.bc) HK3.out
  refine line_end (t := 2) (g := w.heap.size + 1) rfl rfl rfl (by rw [← hat]; rfl) ?_
  refine ⟨t, rfl, ?_⟩
  show LnTold l w (LnW w3 (w.heap.size + 1) t.tx t.md t.up t.dn t.bo t.bn t.bc) t
  have hbl : Below w.heap.size w (LnW w3 (w.heap.size + 1) t.tx t.md t.up t.dn t.bo t.bn t.bc) := lnW_below (HBW.out.trans (HT.out.below.mono (by rw [HZ2.out]; omega))) (by omega)
  refine ⟨HT.out.is.keep fun e he b hb => ?_, hbl⟩
  have hne : b ≠ w.heap.size + 1 := hb.ne ⟨_, _, HK3.out⟩ (by rcases he with rfl | rfl <;> decide)
  exact ⟨lnW_far hne, hb.keep (lnW_far hne)⟩
end Go.Proofs.YtfobbcddedcepaaDoor
