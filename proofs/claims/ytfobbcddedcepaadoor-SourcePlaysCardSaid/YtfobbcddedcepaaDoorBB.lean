/- Next, where there is a line. -/
import Derived.Test.YtfobbcddedcepaaDoorBA
namespace Go.Proofs.YtfobbcddedcepaaDoor
open Go.RowKit
set_option maxRecDepth 100000
set_option linter.unusedSimpArgs false
set_option linter.unusedVariables false
theorem All2.setAt {α β : Type} {R : α → β → Prop} {xs : List α} {ys : List β} (h : All2 R xs ys) (j : Nat) (x : α) (y : β) (hxy : R x y) : All2 R (xs.set j x) (ys.set j y) := by
  refine ⟨by rw [List.length_set, List.length_set, h.1], fun i a b ha hb => ?_⟩
  rw [List.getElem?_set] at ha hb
  by_cases e : j = i
  · subst e
    rw [if_pos rfl] at ha hb
    split at ha
    · rename_i hl
      rw [if_pos (by rw [← h.1]; exact hl)] at hb
      rw [← Option.some.inj ha, ← Option.some.inj hb]; exact hxy
    · cases ha
  · rw [if_neg e] at ha hb
    exact h.2 i a b ha hb
set_option maxHeartbeats 1000000 in
theorem next1_any {sb g c : Nat} {F : List Fr} {rs : List RF} {w : World} (h : CK sb g c F rs w) (k : Nat) (hk : topS hasMore F = k + 1) : Calls Tryd.prog 17 #[BP sb] w fun e w' => NxP sb g (nextS F) w e w' ∧ NxO sb g F rs (nextS F).2 w w' := by
  have hb0 := (Below.refl w.heap.size w).alloc (Nat.le_refl _) (.cells #[.string ⟨#[]⟩, .bool false, .int .i64 0, .int .i64 0, .slice none 0 0] 31)
  have h0 := h.below hb0
  have hm := made_any h0
  have ht := top_hasMore h0
  unfold TopP at ht
  rw [h0.top q_more, hk] at ht
  have hle : k + 1 ≤ F.length := by rw [← hk]; exact topS_le hasMore F
  obtain ⟨f, hf, hrs, hri⟩ := h.got (k + 1) (by omega) hle
  rw [Nat.add_sub_cancel] at hf hrs
  obtain ⟨f', hf', hmo⟩ : ∃ x, F[topS hasMore F - 1]? = some x ∧ hasMore x = true := topN_at hasMore F F.length (by show 0 < topS hasMore F; omega)
  rw [hk, Nat.add_sub_cancel, hf] at hf'
  obtain rfl := Option.some.inj hf'
  obtain ⟨l, hl⟩ := more_line hmo
  have hP : nextS F = ((l, 0), (F.take (k + 1)).set k (bump f)) := by unfold nextS peekS; rw [hk]; simp [pickS, nextF, hf, hl]
  have hok := h.ok f (List.mem_of_getElem? hf)
  have hlt := (List.getElem?_eq_some_iff.1 hl).1
  have hokb : okFr (bump f) := ⟨hok.ls, hok.len, by show f.tk + 1 ≤ f.ls.length; omega, hok.kd⟩
  have htk : (gotR rs (k + 1)).tk < 20000 := by rw [hri.tk]; have := hok.len; omega
  rw [show ((k + 1 : Nat) : Int) - 1 = (k : Int) by omega] at ht
  have HM := Lib.hid hm
  have HP := Lib.hid hP
  have HB0 := Lib.hid hb0
  have H := Lib.hid h
  have HX0 := Lib.hid (heap_alloc_new w (.cells #[.string ⟨#[]⟩, .bool false, .int .i64 0, .int .i64 0, .slice none 0 0] 31))
  have HT := Lib.hid ht
  have d1 : decide ((k : Int) < 0) = false := by simp
  have HRI := Lib.hid hri
  have HOK := Lib.hid hok
  have HOKB := Lib.hid hokb
  have HL := Lib.hid hl
  have HF := Lib.hid hf
  have HRS := Lib.hid hrs
  have HLE := Lib.hid hle
  have hk50 : k ≤ 50 := by have := h.len; omega
  generalize gotR rs (k + 1) = r at *
  clear ht hP hb0 h0 h hm hk hf hrs hri hf' hmo hl hok hokb hlt hle
  go_enter Tryd.func17, Tryd.ntmps17
  go_wp2_with fail
  refine HM.out.mono ?_
  rintro e w1 ⟨rfl, rfl⟩
  go_wp2_with fail
  refine HT.out.mono ?_
  rintro e w1 ⟨rfl, hb1⟩
  have HB1 := Lib.hid (HB0.out.trans (hb1.mono (by simp)))
  have hx1 := (hb1.block w.heap.size (by simp)).trans HX0.out
  have hx2 := (Below.heap_alloc w1 (.cells #[.int .i64 r.kd, .string r.nm, .slice r.lo r.ln r.lc, .slice r.ao r.an r.ac, .int .i64 r.tk] 64) w.heap.size (lt_of_block hx1)).trans hx1
  have HX2 := Lib.hid hx2
  have hb2 := HB1.out.alloc HB1.out.size (.cells #[.int .i64 r.kd, .string r.nm, .slice r.lo r.ln r.lc, .slice r.ao r.an r.ac, .int .i64 r.tk] 64)
  have HB2 := Lib.hid hb2
  have hc := cut_any (H.out.below hb2) (k + 1) HLE.out
  rw [show ((k + 1 : Nat) : Int) = (k : Int) + 1 by omega] at hc
  have HC := Lib.hid hc
  have HY0 := Lib.hid (heap_alloc_new w1 (.cells #[.int .i64 r.kd, .string r.nm, .slice r.lo r.ln r.lc, .slice r.ao r.an r.ac, .int .i64 r.tk] 64))
  have HZ1 := Lib.hid (show w.heap.size ≤ w1.heap.size from HB1.out.size)
  clear hb1 hx1 hx2 hb2 hc
  go_wp2_with fail
  refine HC.out.mono ?_
  rintro e w3 ⟨rfl, hck, hkp⟩
  have hlt := H.out.lt
  have hz1 := HZ1.out
  have hx3 := (hkp.block w.heap.size (lt_of_block HX2.out) (fun e => by rcases e with e | e <;> omega)).trans HX2.out
  have hy3 := (hkp.block w1.heap.size (by simp) (fun e => by rcases e with e | e <;> omega)).trans HY0.out
  have HX3 := Lib.hid hx3
  have HY3 := Lib.hid hy3
  have HK3 := Lib.hid ((Kept.of HB2.out).trans hkp)
  have hlk : (F.take (k + 1)).length = k + 1 := by rw [List.length_take]; have := HLE.out; omega
  have c0 := hck.c0.1
  rw [hlk] at c0
  have hrk : (rs.take (k + 1))[k]? = some r := by rw [List.getElem?_take, if_pos (by omega)]; exact HRS.out
  have hfk : (F.take (k + 1))[k]? = some f := by rw [List.getElem?_take, if_pos (by omega)]; exact HF.out
  obtain ⟨⟨b0, b1, b2, b3, b4⟩, fz3, fz4⟩ := hck.fc k r hrk
  have hri3 := HRI.out.dt ((Dt.below HB2.out).trans (Dt.st (H.out.below HB2.out) hkp))
  have hset := hck.setF (k := 4) (u := .int .i64 ((r.tk + 1 : Nat) : Int)) (r' := bumpR r) (f' := bump f) (w' := w3.setCell ⟨g, k * 5 + 4, none⟩ (.int .i64 ((r.tk + 1 : Nat) : Int))) hrk hfk (by omega) rfl rfl ⟨hri3.kd, hri3.nm, by show r.tk + 1 = f.tk + 1; rw [hri3.tk], hri3.ls, hri3.lnil, hri3.lle, hri3.lcap, hri3.ar, hri3.anil, hri3.ale, hri3.acap, hri3.afit⟩ HOKB.out (by intro hi; omega)
  rw [show ((r.tk + 1 : Nat) : Int) = (r.tk : Int) + 1 by omega] at hset
  have HSET := Lib.hid hset
  obtain ⟨⟨y0, y1, y2, y3, y4⟩, _⟩ := fresh_fr hy3
  have yg : w1.heap.size ≠ g := by omega
  have z0 := (set_far (g := g) (k := k * 5 + 4) (o := 0) (v := .int .i64 ((r.tk : Int) + 1)) yg).trans y0
  have z1 := (set_far (g := g) (k := k * 5 + 4) (o := 1) (v := .int .i64 ((r.tk : Int) + 1)) yg).trans y1
  have z2 := (set_far (g := g) (k := k * 5 + 4) (o := 2) (v := .int .i64 ((r.tk : Int) + 1)) yg).trans y2
  have z3 := (set_far (g := g) (k := k * 5 + 4) (o := 3) (v := .int .i64 ((r.tk : Int) + 1)) yg).trans y3
  have z4 := (set_far (g := g) (k := k * 5 + 4) (o := 4) (v := .int .i64 ((r.tk : Int) + 1)) yg).trans y4
  have hk4 := (Below.heap_setCell w3 ⟨g, k * 5 + 4, none⟩ (.int .i64 ((r.tk : Int) + 1)) w.heap.size (by show w.heap.size ≠ g; omega)).trans hx3
  have HX4 := Lib.hid hk4
  have hn := next_any (hri3.dt (Dt.st hck hset.2)) HOK.out l HL.out
  have HN := Lib.hid hn
  have HCK := Lib.hid hck
  have hj0 : (0 : Int) ≤ (k : Int) := by omega
  have hj1 : (k : Int) < (k : Int) + 1 := by omega
  have hj2 : (k : Int) < ((k + 1 : Nat) : Int) := by omega
  clear hck hkp hx3 hy3 hlt hz1 hlk hrk hfk hri3 hset yg hk4 hn y0 y1 y2 y3 y4
  go_wp2_with fail
  refine HN.out.mono ?_
  rintro e w5 ⟨t, rfl, ht⟩
  have hx5 := (ht.below.block w.heap.size (lt_of_block HX4.out)).trans HX4.out
  have HX5 := Lib.hid hx5
  have HT5 := Lib.hid ht
  obtain ⟨⟨p0, p1, p2, p3, p4⟩, q0, q1, q2, q3, q4⟩ := fresh_ln hx5
  clear hx5 ht
  go_wp2_with fail
  have hlw := lnW_at (tx := t.tx) (md := t.md) (up := t.up) (dn := t.dn) (o := t.bo) (n := t.bn) (c := t.bc) HX5.out
  refine lnerr_end (t := 2) (u := 3) (g := w.heap.size) rfl rfl rfl rfl (by rw [← hlw]; rfl) ?_
  rw [HP.out]
  have hK5 : Kept (fun b => b = sb ∨ b = g) w w5 := (HK3.out.trans HSET.out.2).below HT5.out.below
  have hK6 : Kept (fun b => b = sb ∨ b = g) w (LnW w5 w.heap.size t.tx t.md t.up t.dn t.bo t.bn t.bc) := lnW_kept hK5 (Nat.le_refl _)
  have hdt := Dt.st H.out hK6
  have hlt0 := H.out.lt
  have hck5 := HSET.out.1.below HT5.out.below
  have hri := HRI.out.dt hdt
  have hfr := ((H.out.fr.mono fun _ _ h => h.dt hdt).take (k + 1)).setAt k (bumpR r) (bump f) ⟨hri.kd, hri.nm, by show r.tk + 1 = f.tk + 1; rw [hri.tk], hri.ls, hri.lnil, hri.lle, hri.lcap, hri.ar, hri.anil, hri.ale, hri.acap, hri.afit⟩
  have hfin := hck5.re (lnW_far (g := w.heap.size) (tx := t.tx) (md := t.md) (up := t.up) (dn := t.dn) (o := t.bo) (n := t.bn) (c := t.bc) (by omega)) (lnW_far (by omega)) hfr
  refine ⟨⟨⟨t, rfl, ?_⟩, g, ⟨c, _, hfin⟩, hK6, .inl rfl⟩, g, c, _, hfin, ⟨hK6, .inl rfl⟩, fun P w0 h => (h.take (k + 1)).setAt k (bumpR r) (bump f) ?_⟩
  case refine_2 =>
    have hri := h.2 k r f HRS.out HF.out
    exact ⟨hri.kd, hri.nm, by show r.tk + 1 = f.tk + 1; rw [hri.tk], hri.ls, hri.lnil, hri.lle, hri.lcap, hri.ar, hri.anil, hri.ale, hri.acap, hri.afit⟩
  refine HT5.out.is.keep fun e he b hb => ?_
  have hne : b ≠ w.heap.size := hb.ne ⟨_, _, HX5.out⟩ (by rcases he with rfl | rfl <;> decide)
  exact ⟨lnW_far hne, hb.keep (lnW_far hne)⟩
theorem next_both {sb g c : Nat} {F : List Fr} {rs : List RF} {w : World} (h : CK sb g c F rs w) : Calls Tryd.prog 17 #[BP sb] w fun e w' => NxP sb g (nextS F) w e w' ∧ NxO sb g F rs (nextS F).2 w w' := by
  cases hk : topS hasMore F with
  | zero => exact next0_any h hk
  | succ k => exact next1_any h k hk
theorem next_call {sb g c : Nat} {F : List Fr} {rs : List RF} {w : World} (h : CK sb g c F rs w) : Calls Tryd.prog 17 #[BP sb] w (NxP sb g (nextS F) w) :=
  (next_both h).mono fun _ _ h => h.1
end Go.Proofs.YtfobbcddedcepaaDoor
