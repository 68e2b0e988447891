/- Peek. -/
import Derived.Test.YtfobbcddedcepaaDoorB8
namespace Go.Proofs.YtfobbcddedcepaaDoor
open Go.RowKit
set_option maxRecDepth 100000
set_option linter.unusedSimpArgs false
set_option linter.unusedVariables false
abbrev Ln0 : Ln := ⟨⟨#[]⟩, false, 0, 0, []⟩
abbrev RL0 : RL := ⟨⟨#[]⟩, false, 0, 0, none, 0, 0⟩
theorem lns_none {P : TypeId → Nat → Prop} (w : World) : LnsAt P w none 0 [] := ⟨⟨[], ⟨rfl, fun h => absurd h (Nat.lt_irrefl 0)⟩, rfl, fun i a b h _ => by simp at h⟩, rfl⟩
theorem bxs_none {P : TypeId → Nat → Prop} (w : World) : BxsAt P w none 0 [] := ⟨⟨[], ⟨rfl, fun h => absurd h (Nat.lt_irrefl 0)⟩, rfl, fun i a b h _ => by simp at h⟩, rfl⟩
theorem strs_none {P : TypeId → Nat → Prop} (w : World) : StrsAt P w none 0 [] := ⟨⟨rfl, fun h => absurd h (Nat.lt_irrefl 0)⟩, rfl⟩
theorem rl_none {P : TypeId → Nat → Prop} (w : World) : RlIs P w RL0 Ln0 := ⟨rfl, rfl, rfl, rfl, fun _ => rfl, Nat.le_refl _, by decide, bxs_none w⟩
def pickS (F : List Fr) : Nat → Ln × Int
  | 0 => (Ln0, 3)
  | k + 1 => match F[k]? with
    | some f => (match f.ls[f.tk]? with
      | some l => (l, 0)
      | none => (Ln0, 3))
    | none => (Ln0, 3)
/-- Peek in plain words. -/
def peekS (F : List Fr) : Ln × Int := pickS F (topS hasMore F)
def PkP (R : Ln × Int) (w : World) (e : Ending) (w' : World) : Prop := ∃ r, e = .returned (.tuple #[lvA r, .int .i64 R.2]) ∧ LnTold R.1 w w' r
/-- A line and a number as results. -/
theorem lnerr_end {F : Func} {a : Act} {W' : World} {t u g : Nat} {c0 c1 c2 c3 c4 x : Value} {Q : Ending → World → Prop} (hF : F.results = #[.cell t 31, .tmp u]) (hd : a.defers = []) (h2 : a.tmps.getD t undef = .pointer (some ⟨g, 0, none⟩)) (h3 : a.tmps.getD u undef = x)
    (hg : W'.heap[g]? = some (.cells #[c0, c1, c2, c3, c4] 31 (0, 0))) (hQ : Q (.returned (.tuple #[.agg #[c0, c1, c2, c3, c4], x])) W') : bodyPost Tryd.prog F Q Exit.ret a W' := by
  have h2' : a.tmps[t]?.getD undef = .pointer (some ⟨g, 0, none⟩) := by simpa using h2
  have h3' : a.tmps[u]?.getD undef = x := by simpa using h3
  refine bodyPost_ret (v := .tuple #[.agg #[c0, c1, c2, c3, c4], x]) ?_ hd hQ
  obtain ⟨⟨e0, e1, e2, e3, e4⟩, _⟩ := fresh_ln hg
  simp [results, hF, h2', h3', go_sem, e0, e1, e2, e3, e4]
theorem lnW_size {w : World} {B : Nat} {tx : ByteArray} {md : Bool} {up dn : Int} {o : Option Addr} {n c : Nat} : (LnW w B tx md up dn o n c).heap.size = w.heap.size := by
  have e : ∀ (w : World) (p : Addr) (v : Value), (w.setCell p v).heap.size = w.heap.size := by intro w p v; simp [World.setCell]
  unfold LnW
  rw [e, e, e, e, e]
theorem setCell_same (w : World) (p : Addr) (v : Value) : (w.setCell p v).os = w.os ∧ (w.setCell p v).tape = w.tape ∧ (w.setCell p v).output = w.output := ⟨rfl, rfl, rfl⟩
theorem lnW_same (w : World) (B : Nat) (tx : ByteArray) (md : Bool) (up dn : Int) (o : Option Addr) (n c : Nat) : (LnW w B tx md up dn o n c).os = w.os ∧ (LnW w B tx md up dn o n c).tape = w.tape ∧ (LnW w B tx md up dn o n c).output = w.output := by
  unfold LnW
  refine ⟨?_, ?_, ?_⟩
  · rw [(setCell_same _ _ _).1, (setCell_same _ _ _).1, (setCell_same _ _ _).1, (setCell_same _ _ _).1, (setCell_same _ _ _).1]
  · rw [(setCell_same _ _ _).2.1, (setCell_same _ _ _).2.1, (setCell_same _ _ _).2.1, (setCell_same _ _ _).2.1, (setCell_same _ _ _).2.1]
  · rw [(setCell_same _ _ _).2.2, (setCell_same _ _ _).2.2, (setCell_same _ _ _).2.2, (setCell_same _ _ _).2.2, (setCell_same _ _ _).2.2]
theorem lnW_kept {S : Nat → Prop} {w w3 : World} {B : Nat} {tx : ByteArray} {md : Bool} {up dn : Int} {o : Option Addr} {n c : Nat} (h : Kept S w w3) (hB : w.heap.size ≤ B) : Kept S w (LnW w3 B tx md up dn o n c) :=
  ⟨(lnW_same w3 B tx md up dn o n c).1.trans h.os, (lnW_same w3 B tx md up dn o n c).2.1.trans h.tape, (lnW_same w3 B tx md up dn o n c).2.2.trans h.output, by rw [lnW_size]; exact h.size, fun k hk hs => (lnW_far (by omega)).trans (h.block k hk hs)⟩
theorem CK.re {sb g c : Nat} {F : List Fr} {rs : List RF} {w w' : World} (h : CK sb g c F rs w) (h1 : w'.heap[sb]? = w.heap[sb]?) (h2 : w'.heap[g]? = w.heap[g]?) (k : All2 (RfIs (Tg w') w') rs F) : CK sb g c F rs w' :=
  ⟨h1.trans h.cell, own_far h.row (fun g' hg' => by have e : g' = g := (by simpa [Value.ownBlock, eq_comm] using hg'); rw [e]; exact h2), k, h.ok, h.len, h.inv⟩
/-- The line that is told is stored in the result. -/
theorem told_last {l : Ln} {w w3 : World} {B : Nat} {t : RL} {c0 c1 c2 c3 c4 : Value} (hw : w.heap.size ≤ B) (hB : Below w.heap.size w w3) (ht : RlIs (Tg w3) w3 t l) (hk : w3.heap[B]? = some (.cells #[c0, c1, c2, c3, c4] 31 (0, 0))) :
    LnTold l w (LnW w3 B t.tx t.md t.up t.dn t.bo t.bn t.bc) t := by
  refine ⟨ht.keep fun e he b hb => ?_, lnW_below hB hw⟩
  have hne : b ≠ B := hb.ne ⟨_, _, hk⟩ (by rcases he with rfl | rfl <;> decide)
  exact ⟨lnW_far hne, hb.keep (lnW_far hne)⟩
theorem more_line {f : Fr} (h : hasMore f = true) : ∃ l, f.ls[f.tk]? = some l := by
  unfold hasMore at h
  exact ⟨_, List.getElem?_eq_getElem (of_decide_eq_true h)⟩
set_option maxHeartbeats 1000000 in
theorem peek_any {sb g c : Nat} {F : List Fr} {rs : List RF} {w : World} (h : CK sb g c F rs w) : Calls Tryd.prog 20 #[BP sb] w (PkP (peekS F) w) := by
  have hb0 := (Below.refl w.heap.size w).alloc (Nat.le_refl _) (.cells #[.string ⟨#[]⟩, .bool false, .int .i64 0, .int .i64 0, .slice none 0 0] 31)
  have h0 := h.below hb0
  have hm := made_any h0
  have ht := top_hasMore h0
  unfold TopP at ht
  rw [h0.top q_more] at ht
  have hle := topS_le hasMore F
  have hat : 0 < topS hasMore F → ∃ x, F[topS hasMore F - 1]? = some x ∧ hasMore x = true := fun hp => topN_at hasMore F F.length hp
  have hP : peekS F = pickS F (topS hasMore F) := rfl
  generalize topS hasMore F = k at ht hP hle hat
  have HM := Lib.hid hm
  have HP := Lib.hid hP
  have HB0 := Lib.hid hb0
  have H := Lib.hid h
  have HX0 := Lib.hid (heap_alloc_new w (.cells #[.string ⟨#[]⟩, .bool false, .int .i64 0, .int .i64 0, .slice none 0 0] 31))
  cases k with
  | zero =>
    rw [show ((0 : Nat) : Int) - 1 = -1 by rfl] at ht
    generalize gotR rs 0 = r at ht
    have HT := Lib.hid ht
    have d1 : decide ((-1 : Int) < 0) = true := by decide
    clear ht hP hb0 h0 h hat hm
    go_enter Tryd.func20, Tryd.ntmps20
    go_wp2_with fail
    refine HM.out.mono ?_
    rintro e w1 ⟨rfl, rfl⟩
    go_wp2_with fail
    refine HT.out.mono ?_
    rintro e w1 ⟨rfl, hb1⟩
    have HB1 := Lib.hid (HB0.out.trans (hb1.mono (by simp)))
    have hx1 := (hb1.block w.heap.size (by simp)).trans HX0.out
    have hx2 := (Below.heap_alloc w1 (.cells #[.int .i64 r.kd, .string r.nm, .slice r.lo r.ln r.lc, .slice r.ao r.an r.ac, .int .i64 r.tk] 64) w.heap.size (lt_of_block hx1)).trans hx1
    have HX2 := Lib.hid hx2
    have hb2 := HB1.out.alloc HB1.out.size (.cells #[.int .i64 r.kd, .string r.nm, .slice r.lo r.ln r.lc, .slice r.ao r.an r.ac, .int .i64 r.tk] 64)
    have HB2 := Lib.hid hb2
    obtain ⟨⟨p0, p1, p2, p3, p4⟩, q0, q1, q2, q3, q4⟩ := fresh_ln hx2
    clear hb1 hx1 hx2 hb2
    go_wp2_with fail
    have hlw := lnW_at (tx := ⟨#[]⟩) (md := false) (up := 0) (dn := 0) (o := none) (n := 0) (c := 0) HX2.out
    refine lnerr_end (t := 2) (u := 3) (g := w.heap.size) rfl rfl rfl rfl (by rw [← hlw]; rfl) ?_
    rw [HP.out]
    exact ⟨RL0, rfl, told_last (t := RL0) (Nat.le_refl _) HB2.out (rl_none _) HX2.out⟩
  | succ k =>
    rw [show ((k + 1 : Nat) : Int) - 1 = (k : Int) by omega] at ht
    obtain ⟨f, hf, hrs, hri⟩ := h.got (k + 1) (by omega) hle
    rw [Nat.add_sub_cancel] at hf
    obtain ⟨f', hf', hmo⟩ := hat (by omega)
    rw [Nat.add_sub_cancel, hf] at hf'
    obtain rfl := Option.some.inj hf'
    obtain ⟨l, hl⟩ := more_line hmo
    have hP2 : peekS F = (l, 0) := by rw [hP]; simp [pickS, hf, hl]
    have HP2 := Lib.hid hP2
    have HT := Lib.hid ht
    have d1 : decide ((k : Int) < 0) = false := by simp
    have HRI := Lib.hid hri
    have HOK := Lib.hid (h.ok f (List.mem_of_getElem? hf))
    have HL := Lib.hid hl
    generalize gotR rs (k + 1) = r at *
    clear ht hP hb0 h0 h hat hm hf hrs hri hf' hmo hl hP2
    go_enter Tryd.func20, Tryd.ntmps20
    go_wp2_with fail
    refine HM.out.mono ?_
    rintro e w1 ⟨rfl, rfl⟩
    go_wp2_with fail
    refine HT.out.mono ?_
    rintro e w1 ⟨rfl, hb1⟩
    have HB1 := Lib.hid (HB0.out.trans (hb1.mono (by simp)))
    have hx1 := (hb1.block w.heap.size (by simp)).trans HX0.out
    have hx2 := (Below.heap_alloc w1 (.cells #[.int .i64 r.kd, .string r.nm, .slice r.lo r.ln r.lc, .slice r.ao r.an r.ac, .int .i64 r.tk] 64) w.heap.size (lt_of_block hx1)).trans hx1
    have HX2 := Lib.hid hx2
    have hb2 := HB1.out.alloc HB1.out.size (.cells #[.int .i64 r.kd, .string r.nm, .slice r.lo r.ln r.lc, .slice r.ao r.an r.ac, .int .i64 r.tk] 64)
    have HB2 := Lib.hid hb2
    have hn := next_any (HRI.out.dt (Dt.below hb2)) HOK.out l HL.out
    have HN := Lib.hid hn
    have hy := fresh_fr (heap_alloc_new w1 (.cells #[.int .i64 r.kd, .string r.nm, .slice r.lo r.ln r.lc, .slice r.ao r.an r.ac, .int .i64 r.tk] 64))
    obtain ⟨⟨y0, y1, y2, y3, y4⟩, _⟩ := hy
    clear hb1 hx1 hx2 hb2 hn
    go_wp2_with fail
    refine HN.out.mono ?_
    rintro e w3 ⟨t, rfl, ht⟩
    have hx3 := (ht.below.block w.heap.size (lt_of_block HX2.out)).trans HX2.out
    have HX3 := Lib.hid hx3
    have HT3 := Lib.hid ht
    have HB3 := Lib.hid (HB2.out.trans (ht.below.mono HB2.out.size))
    obtain ⟨⟨p0, p1, p2, p3, p4⟩, q0, q1, q2, q3, q4⟩ := fresh_ln hx3
    clear hx3 ht
    go_wp2_with fail
    have hlw := lnW_at (tx := t.tx) (md := t.md) (up := t.up) (dn := t.dn) (o := t.bo) (n := t.bn) (c := t.bc) HX3.out
    refine lnerr_end (t := 2) (u := 3) (g := w.heap.size) rfl rfl rfl rfl (by rw [← hlw]; rfl) ?_
    rw [HP2.out]
    exact ⟨t, rfl, told_last (t := t) (Nat.le_refl _) HB3.out HT3.out.is HX3.out⟩
end Go.Proofs.YtfobbcddedcepaaDoor
