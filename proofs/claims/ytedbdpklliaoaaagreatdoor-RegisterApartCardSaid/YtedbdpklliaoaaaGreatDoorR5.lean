/- The document's book: put of a new register. -/
import Derived.Test.YtedbdpklliaoaaaGreatDoorR4
namespace Go.Proofs.YtedbdpklliaoaaaGreatDoor
open Go.RowKit Go.Shelf Go.Maps
set_option maxRecDepth 100000
theorem row_one : ∀ (L : List Reg) (u : Value), u ∈ rowOf L → u.oneCell' = true
  | [], u, h => by simp [rowOf] at h
  | x :: t, u, h => by
    have e : rowOf (x :: t) = regCs x ++ rowOf t := by simp [rowOf]
    rw [e, List.mem_append] at h
    rcases h with h | h
    · simp [regCs] at h; rcases h with rfl | rfl | rfl | rfl <;> rfl
    · exact row_one t u h
theorem ownsRow_base {B B' n : Nat} {v : Value} {xs : List Value} {w : World} (h : w.ownsRow B' 74 4 v n xs) (hB : B ≤ B') : w.ownsRow B 74 4 v n xs := by
  refine ⟨h.1, ?_⟩
  rcases h.2 with hn | ⟨g, cap, cur, hv, hb, rest⟩
  · exact .inl hn
  · exact .inr ⟨g, cap, cur, hv, by omega, rest⟩
theorem cell_four_new (w : World) (a b c d : Value) : ∀ (j : Nat) (u : Value), [a, b, c, d][j]? = some u → (w.alloc (.cells #[a, b, c, d] 74)).cell? ((⟨w.heap.size, 0, none⟩ : Addr).add j) = some u := by
  intro j u h
  obtain ⟨⟨c0, c1, c2, c3⟩, _⟩ := fresh_rr (heap_alloc_new w (.cells #[a, b, c, d] 74))
  match j, h with
  | 0, h => exact c0.trans h
  | 1, h => exact c1.trans h
  | 2, h => exact c2.trans h
  | 3, h => exact c3.trans h
  | j + 4, h => cases h
abbrev ZR : Value := .agg #[.string ⟨#[]⟩, .int .i64 0, .int .i64 0, .string ⟨#[]⟩]
theorem info_rr : ∃ i : TypeInfo, Tryz.prog.info? 74 = some i ∧ i.zero = some ZR ∧ i.size = 4 ∧ i.bytes = 48 := by
  have e : (Tryz.prog.info? 74).map (fun i => (i.zero, i.size, i.bytes)) = some (some ZR, 4, 48) := by kernel_rfl
  cases h : Tryz.prog.info? 74 with
  | none => rw [h] at e; cases e
  | some i =>
    rw [h] at e
    simp only [Option.map_some, Option.some.injEq, Prod.mk.injEq] at e
    exact ⟨i, rfl, e.1, e.2.1, e.2.2⟩
theorem Kept.alloc {S : Nat → Prop} {u v : World} (h : Kept S u v) (o : Obj) : Kept S u (v.alloc o) := h.trans (.of ((Below.refl v.heap.size v).alloc (Nat.le_refl _) o))
theorem Kept.grownNew {S : Nat → Prop} {u v w : World} {row : Option Nat} (h : Kept S u v) (k : v.grownBy w row) (hr : ∀ g, row = some g → u.heap.size ≤ g) : Kept S u w :=
  ⟨k.os.trans h.os, k.tape.trans h.tape, k.output.trans h.output, Nat.le_trans h.size k.size, fun i hi hs => (k.block i (Nat.lt_of_lt_of_le hi h.size) (fun e => by have := hr i e.symm; omega)).trans (h.block i hi hs)⟩
theorem wpList_append_if {w : World} {ops : Array Oper} {rest : List Oper} {o : Oper} {a : Act} {Q : Exit → Act → World → Prop} (hgd : o.guard = none) (s x : Operand) (t : TypeId)
    (ho : o.op = .call { callee := .builtin .append, args := #[s, x], argTypes := #[t, t] })
    (base : Nat) (e : TypeId) (i : TypeInfo) (z : Value) (size bytes : Nat) (ht : Tryz.prog.underlying t = some (.slice e)) (hi : Tryz.prog.info? e = some i) (hz : i.zero = some z)
    (hsize : i.size = size) (hby : i.bytes = bytes) (hzs : z.cells.size = size) (hsz : 0 < size)
    (v : Value) (n : Nat) (xs : List Value) (hs : a.eval s = v) (hown : w.ownsRow base e size v n xs)
    (cc dd : Nat) (ad1 ad2 : Addr) (m c : Nat) (news : List Value) (hx : a.eval x = .slice (if cc = dd then some ad1 else some ad2) m c) (hl : news.length = m * size) (hnews : ∀ j u, news[j]? = some u → w.cell? ((if cc = dd then ad1 else ad2).add j) = some u) (h1 : ∀ u ∈ news, u.oneCell' = true)
    (h63 : n + m ≤ maxLen) (hbytes : (n + m) * bytes ≤ 140737488355328) (hbase : base ≤ w.heap.size)
    (h : ∀ v' w', w'.ownsRow base e size v' (n + m) (xs ++ news) → w.grownBy w' v.ownBlock → wpList Tryz.prog ops Q rest (a.put o.dst v') w') : wpList Tryz.prog ops Q (o :: rest) a w := by
  have e0 : (if cc = dd then some ad1 else some ad2) = some (if cc = dd then ad1 else ad2) := by split <;> rfl
  rw [e0] at hx
  exact wpList_append_own w hgd s x t ho base e i z size bytes ht hi hz hsize hby hzs hsz v n xs hs hown _ m c news hx hl hnews h1 h63 hbytes hbase (fun v' w' h1 h2 _ => h v' w' h1 h2)
theorem setCell_kept (w : World) (b i : Nat) (v : Value) : Kept (· = b) w (w.setCell ⟨b, i, none⟩ v) := by
  refine ⟨rfl, rfl, rfl, by simp [World.setCell], fun k _ hk => ?_⟩
  have hne : b ≠ k := fun e => hk e.symm
  simp [World.setCell, Array.getElem?_modify, hne]
theorem src_tail {B bx g cap i : Nat} {L : List Reg} {w : World} (h : RK B bx (.slice (some ⟨g, 0, none⟩) L.length cap) L w) (hi : i ≤ L.length) (hlc : L.length ≤ cap) :
    ∀ (j : Nat) (u : Value), ((rowOf L).drop (i * 4))[j]? = some u → w.cell? ((if cap = i then (⟨g, 0, none⟩ : Addr) else ⟨g, i * 4, none⟩).add j) = some u := by
  intro j u hu
  rw [List.getElem?_drop] at hu
  by_cases hc : cap = i
  · rw [List.getElem?_eq_none (by rw [row_len]; omega)] at hu; cases hu
  · rw [if_neg hc]
    have := h.row.cells (g := g) rfl (i * 4 + j) u hu
    rw [show ((⟨g, 0, none⟩ : Addr).add (i * 4 + j)) = (⟨g, i * 4, none⟩ : Addr).add j by by_cases h1 : i = 0 <;> by_cases h2 : j = 0 <;> simp [Addr.add, h1, h2] <;> omega] at this
    exact this
theorem row_shape {w : World} {base n : Nat} {v : Value} {ds : List Value} (h : w.ownsRow base 74 4 v n ds) : ∃ o cap, v = .slice o n cap := by
  rcases h.2 with ⟨hv, hn⟩ | ⟨g, cap, cur, hv, _⟩
  · exact ⟨none, 0, by rw [hv, hn]⟩
  · exact ⟨_, _, hv⟩
theorem rput_full {B bx : Nat} {v : Value} {L : List Reg} {w : World} (h : RK B bx v L w) (hA : Asc L) (hl : L.length = 500) (r : Reg) (ht : hasS L r.nm = false) :
    Calls Tryz.prog 51 #[BP bx, .agg #[.string ⟨r.nm.toArray⟩, .int .i64 r.v, .int .i64 r.st, .string ⟨r.fm.toArray⟩]] w fun e w' => e = .returned (.int .i64 9) ∧ Below w.heap.size w w' := by
  have HB0 := Lib.hid ((Below.refl w.heap.size w).alloc (Nat.le_refl _) (.cells #[.string ⟨r.nm.toArray⟩, .int .i64 r.v, .int .i64 r.st, .string ⟨r.fm.toArray⟩] 74))
  have HF := Lib.hid (rat_any (h.below HB0.out) (by omega) ⟨r.nm.toArray⟩)
  rw [at_has L _ hA, show (⟨r.nm.toArray⟩ : ByteArray).data.toList = r.nm from rfl, ht] at HF
  obtain ⟨o, cap, rfl, hcap, hlc⟩ := h.val
  have H := Lib.hid h
  have d1 : decide ((500 : Int) ≤ (L.length : Int)) = true := decide_eq_true (by omega)
  clear h ht hl hlc hcap
  obtain ⟨s, hs⟩ : ∃ s : ByteArray, s = ⟨r.nm.toArray⟩ := ⟨_, rfl⟩
  obtain ⟨f, hf⟩ : ∃ f : ByteArray, f = ⟨r.fm.toArray⟩ := ⟨_, rfl⟩
  rw [← hs, ← hf] at HF HB0 ⊢
  clear hs hf
  go_enter Tryz.func51, Tryz.ntmps51
  go_wp2_with fail
  refine HF.out.mono ?_
  rintro e w1 ⟨rfl, hb⟩
  have hb1 := HB0.out.trans (hb.mono HB0.out.size)
  have HB := Lib.hid hb1
  have hc := (H.out.below hb1).c0
  clear hb hb1
  go_wp2_with fail
  go_ret
  exact ⟨rfl, HB.out⟩
set_option maxHeartbeats 1000000 in
theorem rput_new {B bx g n cap : Nat} {L : List Reg} {w : World} (h : RK B bx (.slice (some ⟨g, 0, none⟩) n cap) L w) (hA : Asc L) (hl : L.length < 500) (r : Reg) (ht : hasS L r.nm = false) :
    Calls Tryz.prog 51 #[BP bx, .agg #[.string ⟨r.nm.toArray⟩, .int .i64 r.v, .int .i64 r.st, .string ⟨r.fm.toArray⟩]] w fun e w' => ∃ v', e = .returned (.int .i64 0) ∧ RK B bx v' (putS L r) w' ∧ Kept (· = bx) w w' ∧ ∀ k, v'.ownBlock = some k → w.heap.size ≤ k := by
  have HPUT := Lib.hid (put_ix_new L r hA ht)
  have HB0 := Lib.hid ((Below.refl w.heap.size w).alloc (Nat.le_refl _) (.cells #[.string ⟨r.nm.toArray⟩, .int .i64 r.v, .int .i64 r.st, .string ⟨r.fm.toArray⟩] 74))
  have HF := Lib.hid (rat_any (h.below HB0.out) (by omega) ⟨r.nm.toArray⟩)
  rw [at_has L _ hA, show (⟨r.nm.toArray⟩ : ByteArray).data.toList = r.nm from rfl, ht] at HF
  obtain ⟨cur, hcur, hlc, hcm, hcs, hrow, hB, rfl⟩ := h.blk
  have hcap : (cap : Int) ≤ 9223372036854775807 := by unfold maxLen at hcm; omega
  have hile := ix_le L r.nm
  have H := Lib.hid h
  have d1 : decide ((500 : Int) ≤ (L.length : Int)) = false := decide_eq_false (by omega)
  obtain ⟨i, hi⟩ : ∃ i, i = ixS L r.nm := ⟨_, rfl⟩
  rw [← hi] at HF HPUT hile
  rw [HPUT.out]
  clear h ht hi HPUT hcur hcs hrow hcm
  obtain ⟨i0, hi0, hz0, hz1, hz2⟩ := info_rr
  obtain ⟨s, hs⟩ : ∃ s : ByteArray, s = ⟨r.nm.toArray⟩ := ⟨_, rfl⟩
  obtain ⟨f, hf⟩ : ∃ f : ByteArray, f = ⟨r.fm.toArray⟩ := ⟨_, rfl⟩
  have HRC := Lib.hid (show regCs r = [.string s, .int .i64 r.v, .int .i64 r.st, .string f] by rw [hs, hf]; rfl)
  rw [← hs, ← hf] at HF HB0 ⊢
  clear hs hf
  go_enter Tryz.func51, Tryz.ntmps51
  go_wp2_with fail
  refine HF.out.mono ?_
  rintro e w1 ⟨rfl, hb⟩
  have hb1 := HB0.out.trans (hb.mono HB0.out.size)
  have HB := Lib.hid hb1
  have h1 := H.out.below hb1
  have H1 := Lib.hid h1
  have hc := h1.c0
  have hbx := h1.lt
  have hbz := hb1.size
  have hblk : w1.heap[w.heap.size]? = some (.cells #[.string s, .int .i64 r.v, .int .i64 r.st, .string f] 74 (0, 0)) := (hb.block w.heap.size (by simp)).trans (heap_alloc_new _ _)
  have hw0 : w.heap.size < w1.heap.size := by have := hb.size; simp at this; omega
  have HBLK := Lib.hid hblk
  have HROW0 := Lib.hid (World.ownsRow_made (base := w1.heap.size) (e := 74) (size := 4) w1 #[] 0 (Nat.le_refl _) (by unfold maxLen; omega) rfl)
  have HSRC := Lib.hid (fun (j : Nat) (u : Value) (hu : ((rowOf L).take (i * 4))[j]? = some u) => (H1.out.row.alloc (.cells #[] 74)).cells (g := g) rfl j u (by rw [List.getElem?_take] at hu; split at hu; exact hu; cases hu))
  have HNL := Lib.hid (show ((rowOf L).take (i * 4)).length = i * 4 by rw [List.length_take, row_len]; omega)
  have HND := Lib.hid (show ((rowOf L).drop (i * 4)).length = (L.length - i) * 4 by rw [List.length_drop, row_len]; omega)
  clear hb hb1 h1 hblk
  go_wp2_with (first
    | (at_builtin; refine wpList_append_own _ rfl _ _ 27 rfl w1.heap.size 74 i0 ZR 4 48 Tryz.underlying27 hi0 hz0 hz1 hz2 rfl (by decide) _ _ _ rfl HROW0.out ⟨g, 0, none⟩ i cap ((rowOf L).take (i * 4)) rfl HNL.out HSRC.out (fun u hu => row_one L u (List.mem_of_mem_take hu)) (by unfold maxLen; omega) (by omega) (by simp) ?_
       intro v1 w2 hown1 hgrow1 _
       have hg1 : (w1.alloc (.cells #[] 74)).grownBy w2 (some w1.heap.size) := hgrow1
       have hz2' : w1.heap.size < w2.heap.size := by have := hg1.size; simp at this; omega
       have K2 := Lib.hid (((Kept.refl (fun _ => False) w1).alloc (.cells #[] 74)).grownNew hg1 (fun g e => by cases e; exact Nat.le_refl _))
       have HO1 := Lib.hid hown1
       have hcr2 : RK B bx (.slice (some ⟨g, 0, none⟩) L.length cap) L w2 := H1.out.kept K2.out (fun h => h) (fun _ _ h => h)
       have H2 := Lib.hid hcr2
       have hc2 := hcr2.c0
       have hbx2 := hcr2.lt
       obtain ⟨⟨c0, c1, c2, c3⟩, _⟩ := fresh_rr ((K2.out.block w.heap.size hw0 (fun h => h)).trans HBLK.out)
       have HSRC2 := Lib.hid (cell_four_new w2 (.string s) (.int .i64 r.v) (.int .i64 r.st) (.string f))
       have HO1A := Lib.hid (hown1.alloc (.cells #[.string s, .int .i64 r.v, .int .i64 r.st, .string f] 74))
       clear hgrow1 hg1 hown1 hcr2)
    | (at_builtin; refine wpList_append_own _ rfl _ _ 27 rfl w1.heap.size 74 i0 ZR 4 48 Tryz.underlying27 hi0 hz0 hz1 hz2 rfl (by decide) _ _ _ rfl HO1A.out ⟨w2.heap.size, 0, none⟩ 1 1 [.string s, .int .i64 r.v, .int .i64 r.st, .string f] rfl rfl HSRC2.out (fun u hu => by simp at hu; rcases hu with rfl | rfl | rfl | rfl <;> rfl) (by unfold maxLen; omega) (by omega) (by simp; omega) ?_
       intro v2 w3 hown2 hgrow2 _
       have hg2 : (w2.alloc (.cells #[.string s, .int .i64 r.v, .int .i64 r.st, .string f] 74)).grownBy w3 v1.ownBlock := hgrow2
       have K3 := Lib.hid ((K2.out.alloc (.cells #[.string s, .int .i64 r.v, .int .i64 r.st, .string f] 74)).grownNew hg2 (fun g e => (HO1.out.lt g e).1))
       have HO2 := Lib.hid hown2
       have hcr3 : RK B bx (.slice (some ⟨g, 0, none⟩) L.length cap) L w3 := H1.out.kept K3.out (fun h => h) (fun _ _ h => h)
       have H3 := Lib.hid hcr3
       have hc3 := hcr3.c0
       have hbx3 := hcr3.lt
       have hz3 := K3.out.size
       clear hgrow2 hg2 hown2 hcr3)
    | (at_builtin; refine wpList_append_if rfl _ _ 27 rfl w1.heap.size 74 i0 ZR 4 48 Tryz.underlying27 hi0 hz0 hz1 hz2 rfl (by decide) _ _ _ rfl HO2.out cap i ⟨g, 0, none⟩ ⟨g, i * 4, none⟩ (L.length - i) (cap - i) ((rowOf L).drop (i * 4)) rfl HND.out (src_tail H3.out hile hlc) (fun u hu => row_one L u (List.mem_of_mem_drop hu)) (by unfold maxLen; omega) (by omega) (by omega) ?_
       intro v3 w4 hown3 hgrow3
       obtain ⟨o3, cap3, rfl⟩ := row_shape hown3
       rw [Nat.zero_add] at hown3
       have hg3 : w3.grownBy w4 v2.ownBlock := hgrow3
       have K4 := Lib.hid (K3.out.grownNew hg3 (fun g e => (HO2.out.lt g e).1))
       have HO3 := Lib.hid hown3
       have hb4 := (K4.out.block bx hbx (fun h => h)).trans H1.out.cell
       have HB4 := Lib.hid hb4
       have hc4 : w4.cell? ⟨bx, 0, none⟩ = some (.slice (some ⟨g, 0, none⟩) L.length cap) := by simp [World.cell?, hb4]
       have hf4 : w4.frozen? ⟨bx, 0, none⟩ = false := by simp [World.frozen?, hb4]
       clear hgrow3 hg3 hown3 hb4))
  all_goals
    go_ret
    have hle := H.out.bx
    have hfar := fun k hk => (HO3.out.lt k hk).1
    refine ⟨rfl, _, ⟨?_, ?_, fun e => ?_, H.out.bx⟩, ?_, fun k hk => Nat.le_trans hbz (hfar k hk)⟩
    · simp [World.setCell, Array.getElem?_modify, HB4.out]
    · have e1 : (L.take i ++ r :: L.drop i).length = i + 1 + (L.length - i) := by simp; omega
      have e2 : rowOf (L.take i ++ r :: L.drop i) = [] ++ (rowOf L).take (i * 4) ++ [.string s, .int .i64 r.v, .int .i64 r.st, .string f] ++ (rowOf L).drop (i * 4) := by
        rw [row_app, row_take, show rowOf (r :: L.drop i) = regCs r ++ rowOf (L.drop i) by simp [rowOf], row_drop, HRC.out]; simp
      rw [e1, e2]
      exact ownsRow_base (ownsRow_kept HO3.out (setCell_kept w4 bx 0 _) (fun k hk e => by have := hfar k hk; omega)) (by omega)
    · have := hfar bx e; omega
    · exact ((Kept.of (S := (· = bx)) HB.out).trans (K4.out.mono (fun k h => h.elim))).trans (setCell_kept w4 bx 0 _)
end Go.Proofs.YtedbdpklliaoaaaGreatDoor
