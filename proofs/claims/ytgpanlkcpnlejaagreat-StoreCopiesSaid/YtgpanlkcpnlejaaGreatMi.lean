/- The document's store: Copy. -/
import Derived.Test.YtgpanlkcpnlejaaGreatMg
import Derived.Deep.RegionLaw
import Derived.Laws.AppendOwnNone
import Derived.Deep.RegionHeld3
import Derived.LaidEql
import Derived.MapKept
import Derived.Test.YtgpanlkcpnlejaaGreatMh
import Derived.Maps.RangeWalk
set_option linter.unusedSimpArgs false
set_option linter.unusedVariables false
namespace Go.Proofs.YtgpanlkcpnlejaaGreat
open Go.RowKit Go.Maps
set_option maxRecDepth 100000
set_option linter.unusedSimpArgs false
set_option linter.unusedVariables false
/-- append from a row of one's own, or from nothing. -/
theorem wpList_append_row {w : World} {ops : Array Oper} {rest : List Oper} {o : Oper} {a : Act} {Q : Exit → Act → World → Prop} (hgd : o.guard = none) (s x : Operand) (t : TypeId)
    (ho : o.op = .call { callee := .builtin .append, args := #[s, x], argTypes := #[t, t] })
    (base : Nat) (e : TypeId) (i : TypeInfo) (z : Value) (size bytes : Nat) (ht : Tryz.prog.underlying t = some (.slice e)) (hi : Tryz.prog.info? e = some i) (hz : i.zero = some z)
    (hsize : i.size = size) (hby : i.bytes = bytes) (hzs : z.cells.size = size) (hsz : 0 < size)
    (v : Value) (n : Nat) (xs : List Value) (hs : a.eval s = v) (hown : w.ownsRow base e size v n xs)
    (b2 : Nat) (x2 : Value) (m : Nat) (news : List Value) (hx : a.eval x = x2) (hsrc : w.ownsRow b2 e size x2 m news) (hl : news.length = m * size) (h1 : ∀ u ∈ news, u.oneCell' = true)
    (h63 : n + m ≤ maxLen) (hbytes : (n + m) * bytes ≤ 140737488355328) (hbase : base ≤ w.heap.size)
    (h : ∀ v' w', w'.ownsRow base e size v' (n + m) (xs ++ news) → w.grownBy w' v.ownBlock → wpList Tryz.prog ops Q rest (a.put o.dst v') w') : wpList Tryz.prog ops Q (o :: rest) a w := by
  rcases hsrc.2 with ⟨hv, hm⟩ | ⟨g, cap, cur, hv, _⟩
  · subst hv hm
    obtain rfl : news = [] := List.eq_nil_of_length_eq_zero (by omega)
    exact wpList_append_own_none hgd s x t ho base e i size ht hi v n xs hs hown hx (h v w (by simpa using hown) ⟨rfl, rfl, rfl, Nat.le_refl _, fun _ _ _ => rfl⟩)
  · subst hv
    exact wpList_append_own w hgd s x t ho base e i z size bytes ht hi hz hsize hby hzs hsz v n xs hs hown ⟨g, 0, none⟩ m cap news hx hl (fun j u hu => hsrc.cells rfl j u hu) h1 h63 hbytes hbase fun v' w' h2 h3 _ => h v' w' h2 h3
/-- The blocks from T on. -/
def NF (T : Nat) (w : World) : Nat → Prop := fun k => T ≤ k ∧ k < w.heap.size
theorem own_far {w w' : World} {base size n : Nat} {e : TypeId} {v : Value} {xs : List Value} (h : w.ownsRow base e size v n xs) (k : ∀ g, v.ownBlock = some g → w'.heap[g]? = w.heap[g]?) : w'.ownsRow base e size v n xs := by
  refine ⟨h.1, ?_⟩
  rcases h.2 with hn | ⟨g, cap, cur, hv, hb, hg, rest⟩
  · exact .inl hn
  · exact .inr ⟨g, cap, cur, hv, hb, (k g (by rw [hv]; rfl)).trans hg, rest⟩
theorem own_zero {w : World} {base size n : Nat} {e : TypeId} {v : Value} {xs : List Value} (h : w.ownsRow base e size v n xs) : w.ownsRow 0 e size v n xs := by
  refine ⟨h.1, ?_⟩
  rcases h.2 with hn | ⟨g, cap, cur, hv, hb, hg, rest⟩
  · exact .inl hn
  · exact .inr ⟨g, cap, cur, hv, Nat.zero_le _, hg, rest⟩
/-- Behind j rounds: the copy has all names, and j entries. -/
structure CyR (T y : Nat) (no : Option Addr) (nl nc : Nat) (cs : List Value) (M : Nat → Mc) (j : Nat) (x : Value) (w wr : World) : Prop where
  cell : wr.heap[y]? = some (.cells #[.bool true, .slice no nl nc, x] 50 (0, 0))
  row : wr.ownsRow T 84 2 (.slice no nl nc) nl cs
  ex : ∃ es : List De, es.length = j ∧ wr.ownsRow T 62 2 x j (es.flatMap deCs) ∧ ∀ i e, es[i]? = some e → DeIs (NF T wr) wr e (M i)
  ty : T ≤ y
  below : Below T w wr
theorem CyR.step {T y nl nc j : Nat} {no : Option Addr} {cs : List Value} {M : Nat → Mc} {x v5 : Value} {w wr w2 w5 : World} (h : CyR T y no nl nc cs M j x w wr) (hT : T ≤ wr.heap.size) {es : List De} (hl : es.length = j) (ho : wr.ownsRow T 62 2 x j (es.flatMap deCs)) (hx : ∀ i e, es[i]? = some e → DeIs (NF T wr) wr e (M i))
    (h2 : Below wr.heap.size wr w2) (e : De) (he : DeIs (NF T w2) w2 e (M j)) (cs' : Array Value) (hg : (w2.alloc (.cells cs' 62)).grownBy w5 x.ownBlock) (hown : w5.ownsRow T 62 2 v5 (j + 1) (es.flatMap deCs ++ deCs e)) :
    CyR T y no nl nc cs M (j + 1) v5 w (w5.setCell ⟨y, 2, none⟩ v5) := by
  have hz2 := h2.size
  have hz5 : w2.heap.size < w5.heap.size := by have := hg.size; simp at this; omega
  have hyt : Tg wr 50 y := ⟨_, _, h.cell⟩
  have hy2 := (hyt.below h2).2
  have hxt : ∀ g, x.ownBlock = some g → Tg w2 62 g := fun g hg' => ((own_tag ho hg').1.below h2).2
  have k25 : ∀ q, q < w2.heap.size → x.ownBlock ≠ some q → w5.heap[q]? = w2.heap[q]? := fun q hq hne => (hg.block q (by simp; omega) (fun e => hne e.symm)).trans (Below.heap_alloc _ _ _ hq)
  have kt5 : ∀ (t : TypeId) q, t ≠ 62 → Tg w2 t q → w5.heap[q]? = w2.heap[q]? := fun t q hne hq => k25 q hq.lt (fun e => hq.ne (hxt q e) hne rfl)
  have kS : ∀ q, q ≠ y → (w5.setCell ⟨y, 2, none⟩ v5).heap[q]? = w5.heap[q]? := fun q hq => Below.heap_setCell _ _ _ _ hq
  have hsz : (w5.setCell ⟨y, 2, none⟩ v5).heap.size = w5.heap.size := by simp [World.setCell]
  have kt : ∀ (t : TypeId) q, t ≠ 62 → t ≠ 50 → Tg w2 t q → (w5.setCell ⟨y, 2, none⟩ v5).heap[q]? = w2.heap[q]? := fun t q hn1 hn2 hq => (kS q (hq.ne hy2 hn2)).trans (kt5 t q hn1 hq)
  have hy5 : w5.heap[y]? = some (.cells #[.bool true, .slice no nl nc, x] 50 (0, 0)) := (kt5 _ y (by decide) hy2).trans ((h2.block y hyt.lt).trans h.cell)
  have hd : ∀ {e' : De} {m : Mc}, DeIs (NF T w2) w2 e' m → DeIs (NF T (w5.setCell ⟨y, 2, none⟩ v5)) (w5.setCell ⟨y, 2, none⟩ v5) e' m := fun hd => ⟨hd.kd, hd.at_.keep3 fun t b ht hb' => by
      have hk := kt t b (by rcases ht with rfl | rfl | rfl <;> decide) (by rcases ht with rfl | rfl | rfl <;> decide) hb'.2
      exact ⟨hk, ⟨hb'.1.1, by rw [hsz]; have := hb'.1.2; omega⟩, hb'.2.keep hk⟩, hd.nil, hd.le, hd.cap, hd.ok⟩
  refine ⟨?_, ?_, ⟨es ++ [e], by simp [hl], ?_, fun i e' he' => ?_⟩, h.ty, ?_⟩
  · simp only [World.setCell, Array.getElem?_modify, hy5]
    simp
  · refine own_far h.row fun g hg' => ?_
    have h3 := (own_tag h.row hg').1.below h2
    exact (kt _ g (by decide) (by decide) h3.2).trans h3.1
  · rw [List.flatMap_append]
    refine own_far (by simpa using hown) fun g hg' => kS g ?_
    exact (own_tag hown hg').1.ne (e' := 50) ⟨_, _, hy5⟩ (by decide)
  · by_cases hi : i < es.length
    · rw [List.getElem?_append_left hi] at he'
      have h3 := hx i e' he'
      refine hd ⟨h3.kd, h3.at_.keep fun t b hb' => ?_, h3.nil, h3.le, h3.cap, h3.ok⟩
      have h4 := hb'.2.below h2
      exact ⟨h4.1, ⟨hb'.1.1, by have := hb'.1.2; omega⟩, h4.2⟩
    · have hie : i = j := by
        have := (List.getElem?_eq_some_iff.1 he').1
        simp at this; omega
      subst hie
      rw [List.getElem?_append_right (by omega), hl, Nat.sub_self] at he'
      simp only [List.getElem?_cons_zero, Option.some.injEq] at he'
      subst he'
      exact hd he
  · have h1 := ((h.below.trans (h2.mono hT)).alloc (by omega) (.cells cs' 62)).grown hg (by simp; omega) (fun k hk => (own_tag ho hk).2)
    refine ⟨h1.os, h1.tape, h1.output, by rw [hsz]; exact h1.size, fun k hk => ?_⟩
    rw [kS k (by have := h.ty; omega)]
    exact h1.block k hk
theorem CyR.done {T y nc N : Nat} {no : Option Addr} {L : List Reg} {M : Nat → Mc} {x : Value} {w wr : World} (h : CyR T y no L.length nc (L.flatMap nmCs) M N x w wr) (ha : Asc L) (hok : ∀ r ∈ L, okNm r.nm = true ∧ r.v < N) (hl : L.length ≤ 500) : DK (NF T wr) y L N M wr := by
  obtain ⟨es, _, ho, hx⟩ := h.ex
  obtain ⟨eo, ec, rfl, _, _⟩ := row_shape ho
  have hyt : Tg wr 50 y := ⟨_, _, h.cell⟩
  exact ⟨no, nc, eo, ec, es, h.cell, own_zero h.row, own_zero ho, hx, fun g hg => ⟨(own_tag h.row hg).2, (own_tag h.row hg).1.lt⟩, fun g hg => ⟨(own_tag ho hg).2, (own_tag ho hg).1.lt⟩, ⟨h.ty, hyt.lt⟩, fun k hk => hk.2, ha, hok, hl⟩
theorem copy_keeps {T y nl nc j : Nat} {no : Option Addr} {cs : List Value} {M : Nat → Mc} {x : Value} {w wr w2 w5 : World} (h : CyR T y no nl nc cs M j x w wr) {xs : List Value} (ho : wr.ownsRow T 62 2 x j xs) (h2 : Below wr.heap.size wr w2) (cs' : Array Value) (hg : (w2.alloc (.cells cs' 62)).grownBy w5 x.ownBlock) (hT' : T ≤ wr.heap.size) :
    w5.cell? ⟨y, 2, none⟩ = some x ∧ w5.frozen? ⟨y, 2, none⟩ = false ∧ Below T w w5 := by
  have hyt : Tg wr 50 y := ⟨_, _, h.cell⟩
  have hy2 := (hyt.below h2).2
  have hxt : ∀ g, x.ownBlock = some g → Tg w2 62 g := fun g hg' => ((own_tag ho hg').1.below h2).2
  have hy5 : w5.heap[y]? = some (.cells #[.bool true, .slice no nl nc, x] 50 (0, 0)) :=
    ((hg.block y (by have := hy2.lt; simp; omega) (fun e => hy2.ne (hxt y e.symm) (by decide) rfl)).trans (Below.heap_alloc _ _ _ hy2.lt)).trans ((h2.block y hyt.lt).trans h.cell)
  have hz2 := h2.size
  refine ⟨by simp [World.cell?, hy5], by simp [World.frozen?, hy5], ((h.below.trans (h2.mono hT')).alloc (by omega) (.cells cs' 62)).grown hg (by simp; omega) (fun k hk => (own_tag ho hk).2)⟩
end Go.Proofs.YtgpanlkcpnlejaaGreat
/- The document's store: Copy, its walk. -/
namespace Go.Proofs.YtgpanlkcpnlejaaGreat
open Go.RowKit Go.Maps
set_option maxRecDepth 100000
set_option linter.unusedSimpArgs false
set_option linter.unusedVariables false
theorem CyR.start {w w4 : World} {M : Nat → Mc} {o3 : Option Addr} {n cap3 : Nat} {cs : List Value} (hb : Below w.heap.size w w4) (ho : w4.ownsRow w.heap.size 84 2 (.slice o3 n cap3) n cs) :
    CyR w.heap.size w4.heap.size o3 n cap3 cs M 0 (.slice none 0 0) w (w4.alloc (.cells #[.bool true, .slice o3 n cap3, .slice none 0 0] 50)) :=
  ⟨heap_alloc_new _ _, ho.alloc _, ⟨[], rfl, World.ownsRow_nil _ _ _ _, fun i e h => by simp at h⟩, hb.size, hb.alloc hb.size _⟩
theorem OaP.drew {ls : List Ln} {n : Nat} {w : World} {e : Ending} {w' : World} (h : OaP ls n w.drew e w') : OaP ls n w e w' := by
  obtain ⟨h1, h2⟩ := h
  exact ⟨h1, ⟨h2.os, h2.tape, h2.output, h2.size, h2.block⟩⟩
theorem DeIs.nf {T : Nat} {w2 : World} {k : Int} {A : Option Addr} {n c : Nat} {m : Mc} {B : Nat} (hk : k = m.kind) (hl : LnsAt (NT B w2) w2 A n (mLines m)) (hB : T ≤ B) (h1 : A = none → n = 0) (h2 : n ≤ c) (h3 : (c : Int) ≤ 9223372036854775807) (ho : mcOk m) : DeIs (NF T w2) w2 ⟨k, A, n, c⟩ m :=
  ⟨hk, hl.wide fun _ b hb => ⟨⟨Nat.le_trans hB hb.1, hb.2.lt⟩, hb.2⟩, h1, h2, h3, ho⟩
set_option maxHeartbeats 8000000 in
theorem rCopy_any {F : Nat → Prop} {bx : Nat} {L : List Reg} {N : Nat} {M : Nat → Mc} {w : World} (h : DK F bx L N M w) (hN : N ≤ 1000) :
    Calls Tryz.prog 13 #[BP bx] w fun e w' => ∃ y, e = .returned (BP y) ∧ DK (NF w.heap.size w') y L N M w' ∧ Below w.heap.size w w' := by
  have HNO := Lib.hid (rno_any h)
  have HFF := Lib.hid h.hf
  obtain ⟨no, nc, eo, ec, es, h⟩ := h
  obtain ⟨_, c1, c2⟩ := h.c
  have HB := Lib.hid h
  have HBL := Lib.hid (h.hf _ h.fb)
  obtain ⟨i0, hi0, hz0, hz1, hz2⟩ := info_parts info_ent
  obtain ⟨j0, hj0, hy0, hy1, hy2⟩ := info_parts info_name
  have HROW0 := Lib.hid (World.ownsRow_made (base := w.heap.size) (e := 84) (size := 2) w #[] 0 (Nat.le_refl _) (by unfold maxLen; omega) rfl)
  have hlen := h.len
  have HB0 := Lib.hid ((Below.refl w.heap.size w).alloc (Nat.le_refl _) (.cells #[] 84))
  have HNL := Lib.hid (fm_len nm_len L)
  have HC2 := Lib.hid c2
  have HN := Lib.hid hN
  have HSRC := Lib.hid (h.row.alloc (.cells #[] 84))
  have c1c : (w.alloc (.cells #[] 84)).cell? ⟨bx, 1, none⟩ = some (.slice no L.length nc) := (((Below.refl w.heap.size w).alloc (Nat.le_refl _) (.cells #[] 84)).cell (p := ⟨bx, 1, none⟩) HBL.out).trans c1
  clear h c1 c2
  go_enter Tryz.func13, Tryz.ntmps13
  go_wp2_with fail
  refine HNO.out.mono ?_
  rintro e w1 ⟨rfl, rfl⟩
  go_wp2_with (at_builtin; refine wpList_append_row rfl _ _ 47 rfl w.heap.size 84 j0 _ 2 24 Tryz.underlying47 hj0 hy0 hy1 hy2 rfl (by decide) _ _ _ rfl HROW0.out 0 (.slice no L.length nc) L.length (L.flatMap nmCs) rfl HSRC.out HNL.out (fun u hu => by
                 obtain ⟨r, _, hr⟩ := List.mem_flatMap.1 hu
                 exact nm_one r u hr) (by unfold maxLen; omega) (by omega) (by simp) ?_
               intro v3 w4 hown3 hgrow3
               obtain ⟨o3, cap3, rfl, _, _⟩ := row_shape hown3
               rw [Nat.zero_add, List.nil_append] at hown3
               have hg3 : (w.alloc (.cells #[] 84)).grownBy w4 (some w.heap.size) := hgrow3
               have hb4 := HB0.out.grown hg3 (by simp) (fun k hk => by cases hk; exact Nat.le_refl _)
               have HST := Lib.hid (CyR.start (M := M) hb4 hown3)
               clear hgrow3 hg3 hown3 hb4)
  go_loopg [4] N (fun k i wr => ∃ (j : Nat) (x : Value), k + j = N ∧ i = .int .i64 j ∧ CyR w.heap.size w4.heap.size o3 L.length cap3 (L.flatMap nmCs) M j x w wr)
  case atStart => exact ⟨0, _, rfl, rfl, HST.out⟩
  case round =>
    obtain ⟨j, x, hk, rfl, hcy⟩ := hrel
    have HK := Lib.hid hk
    have HCY := Lib.hid hcy
    have c2' : wr.cell? ⟨bx, 2, none⟩ = some (.slice eo N ec) := (hcy.below.cell (p := ⟨bx, 2, none⟩) HBL.out).trans HC2.out
    by_cases hj : j < N
    · have dj : decide (j < N) = true := decide_eq_true hj
      obtain ⟨q, lo, ln, lc, he, hgl, hde, e0, e1, f0, f1⟩ := HB.out.ent_at j hj
      subst he
      have e0' := (hcy.below.cell (p := ⟨q, j * 2, none⟩) hgl).trans e0
      have e1' := (hcy.below.cell (p := ⟨q, j * 2 + 1, none⟩) hgl).trans e1
      obtain ⟨es', hl, ho, hx⟩ := hcy.ex
      obtain ⟨o, cap, rfl, _, _⟩ := row_shape ho
      have hy0' : wr.cell? ⟨w4.heap.size, 2, none⟩ = some (.slice o j cap) := by simp [World.cell?, hcy.cell]
      have hyf : wr.frozen? ⟨w4.heap.size, 2, none⟩ = false := by simp [World.frozen?, hcy.cell]
      have hyl : w4.heap.size < wr.heap.size := (Array.getElem?_eq_some_iff.1 hcy.cell).1
      have hde' := (hde.fx (Fx.of HFF.out hcy.below))
      have hml := mLines_ok hde.ok
      have hlen' : ln = (mLines (M j)).length := hde.at_.len
      have hT := hcy.below.size
      have HOA : Hid (Calls Tryz.prog 40 #[.slice lo ln lc] wr.drew (OaP (mLines (M j)) ln wr)) := Lib.hid ((rOwnAll_any (w := wr.drew) (n := ln) (c := lc) (hde'.fx (fx_drew F wr)).at_ (fun _ b hb => Nat.lt_of_lt_of_le (HFF.out b hb.1) hT) (by omega) (okLn_bx hml.1)).mono fun _ _ h => h.drew)
      have HCS : Hid (∀ W, Below w.heap.size w W → W.cell? ⟨bx, 2, none⟩ = some (.slice (some ⟨q, 0, none⟩) N ec) ∧ W.cell? ⟨q, j * 2, none⟩ = some (.int .i64 (M j).kind) ∧ W.cell? ⟨q, j * 2 + 1, none⟩ = some (.slice lo ln lc)) := Lib.hid fun W hb =>
        ⟨(hb.cell (p := ⟨bx, 2, none⟩) HBL.out).trans HC2.out, (hb.cell (p := ⟨q, j * 2, none⟩) hgl).trans e0, (hb.cell (p := ⟨q, j * 2 + 1, none⟩) hgl).trans e1⟩
      have HYS : Hid (∀ W, Below wr.heap.size wr W → W.cell? ⟨w4.heap.size, 2, none⟩ = some (.slice o j cap)) := Lib.hid fun W hb => (hb.cell (p := ⟨w4.heap.size, 2, none⟩) hyl).trans hy0'
      have HBW := Lib.hid hcy.below
      have HL := Lib.hid hl
      have HO := Lib.hid ho
      have HX := Lib.hid hx
      have HT := Lib.hid hT
      have HYL := Lib.hid hyl
      have HMC := Lib.hid hde.ok
      have HJ := Lib.hid hj
      have hj5 : j < 1000 := by omega
      have dj2 : decide ((j : Int) < (N : Int)) = true := decide_eq_true (by omega)
      obtain ⟨kd, hkd⟩ : ∃ kd, kd = (M j).kind := ⟨_, rfl⟩
      rw [← hkd] at e0' HCS e0
      have HKD := Lib.hid hkd
      obtain ⟨ls, hls⟩ : ∃ ls, ls = mLines (M j) := ⟨_, rfl⟩
      rw [← hls] at HOA
      have HLS := Lib.hid hls
      clear hk hcy hgl hde e0 e1 f0 f1 hl ho hx hde' hml hlen' hT hkd hls
      go_wp2_with fail
      have CS := Lib.hid (HCS.out wr HBW.out)
      refine wp_region_held_drew (S := (fun w' => w'.cell? ⟨bx, 2, none⟩ = some (.slice (some ⟨q, 0, none⟩) N ec) ∧ w'.cell? ⟨q, j * 2, none⟩ = some (.int .i64 kd) ∧ w'.cell? ⟨q, j * 2 + 1, none⟩ = some (.slice lo ln lc))) (by kernel_rfl) (HCS.out wr HBW.out) (fun hHeld => ?_)
      refine wpAnyH_take (i := 0) (v := ?_) rfl (by kernel_rfl) (by kernel_rfl) (by kernel_rfl) (fun _ _ _ h => h) (Or.inl ⟨rfl, ?_⟩) (by assumption) ?_
      rotate_left
      · (intro w' hSw; (try dsimp only at hSw); go_simp; try with_reducible rfl)
      simp only [Act.put, List.setIfInBounds_toArray, List.set_cons_zero, List.set_cons_succ]
      refine wpAnyH_take (i := 1) (v := ?_) rfl (by kernel_rfl) (by kernel_rfl) (by kernel_rfl) (fun _ _ _ h => h) (Or.inl ⟨rfl, ?_⟩) (by assumption) ?_
      rotate_left
      · (intro w' hSw; (try dsimp only at hSw); go_simp; try with_reducible rfl)
      simp only [Act.put, List.setIfInBounds_toArray, List.set_cons_zero, List.set_cons_succ]
      refine wpAnyH_take (i := 2) (v := ?_) rfl (by kernel_rfl) (by kernel_rfl) (by kernel_rfl) (fun _ _ _ h => h) (Or.inl ⟨rfl, ?_⟩) (by assumption) ?_
      rotate_left
      · (intro w' hSw; (try dsimp only at hSw); go_simp; try with_reducible rfl)
      simp only [Act.put, List.setIfInBounds_toArray, List.set_cons_zero, List.set_cons_succ]
      refine wpAnyH_take (i := 3) (v := ?_) rfl (by kernel_rfl) (by kernel_rfl) (by kernel_rfl) (fun _ _ _ h => h) (Or.inl ⟨rfl, ?_⟩) (by assumption) ?_
      rotate_left
      · (intro w' hSw; (try dsimp only at hSw); go_simp; try with_reducible rfl)
      simp only [Act.put, List.setIfInBounds_toArray, List.set_cons_zero, List.set_cons_succ]
      refine wpAnyH_take (i := 5) (v := ?_) rfl (by kernel_rfl) (by kernel_rfl) (by kernel_rfl) (fun _ _ _ h => h) (Or.inl ⟨rfl, ?_⟩) (by assumption) ?_
      rotate_left
      · (intro w' hSw; (try dsimp only at hSw); go_simp; try with_reducible rfl)
      simp only [Act.put, List.setIfInBounds_toArray, List.set_cons_zero, List.set_cons_succ]
      refine wpAnyH_take (i := 6) (v := ?_) rfl (by kernel_rfl) (by kernel_rfl) (by kernel_rfl) (fun _ _ _ h => h) (Or.inl ⟨rfl, ?_⟩) (by assumption) ?_
      rotate_left
      · (intro w' hSw; (try dsimp only at hSw); go_simp; try with_reducible rfl)
      simp only [Act.put, List.setIfInBounds_toArray, List.set_cons_zero, List.set_cons_succ]
      refine wpAnyH_take (i := 7) (v := ?_) rfl (by kernel_rfl) (by kernel_rfl) (by kernel_rfl) (fun _ _ _ h => h) (Or.inl ⟨rfl, ?_⟩) (by assumption) ?_
      rotate_left
      · (intro w' hSw; (try dsimp only at hSw); go_simp; try with_reducible rfl)
      simp only [Act.put, List.setIfInBounds_toArray, List.set_cons_zero, List.set_cons_succ]
      refine wpAnyH_take (i := 8) (v := ?_) rfl (by kernel_rfl) (by kernel_rfl) (by kernel_rfl) (fun _ _ _ h => h) (Or.inl ⟨rfl, ?_⟩) (by assumption) ?_
      rotate_left
      · (intro w' hSw; (try dsimp only at hSw); go_simp; try with_reducible rfl)
      simp only [Act.put, List.setIfInBounds_toArray, List.set_cons_zero, List.set_cons_succ]
      refine wpAnyH_take (i := 9) (v := ?_) rfl (by kernel_rfl) (by kernel_rfl) (by kernel_rfl) (fun _ _ _ h => h) (Or.inl ⟨rfl, ?_⟩) (by assumption) ?_
      rotate_left
      · (intro w' hSw; (try dsimp only at hSw); go_simp; try with_reducible rfl)
      simp only [Act.put, List.setIfInBounds_toArray, List.set_cons_zero, List.set_cons_succ]
      refine wpAnyH_take (i := 10) (v := ?_) rfl (by kernel_rfl) (by kernel_rfl) (by kernel_rfl) (fun _ _ _ h => h) (Or.inl ⟨rfl, ?_⟩) (by assumption) ?_
      rotate_left
      · (intro w' hSw; (try dsimp only at hSw); go_simp; try with_reducible rfl)
      simp only [Act.put, List.setIfInBounds_toArray, List.set_cons_zero, List.set_cons_succ]
      refine wpAnyH_take (i := 11) (v := ?_) rfl (by kernel_rfl) (by kernel_rfl) (by kernel_rfl) (fun _ _ _ h => h) (Or.inl ⟨rfl, ?_⟩) (by assumption) ?_
      rotate_left
      · (intro w' hSw; (try dsimp only at hSw); go_simp; try with_reducible rfl)
      simp only [Act.put, List.setIfInBounds_toArray, List.set_cons_zero, List.set_cons_succ]
      refine wpAnyH_take (i := 12) (v := ?_) rfl (by kernel_rfl) (by kernel_rfl) (by kernel_rfl) (fun _ _ _ h => h) (Or.inl ⟨rfl, ?_⟩) (by assumption) ?_
      rotate_left
      · (intro w' hSw; (try dsimp only at hSw); go_simp; try with_reducible rfl)
      simp only [Act.put, List.setIfInBounds_toArray, List.set_cons_zero, List.set_cons_succ]
      refine wpAnyH_take (i := 13) (v := ?_) rfl (by kernel_rfl) (by kernel_rfl) (by kernel_rfl) (fun _ _ _ h => h) (Or.inl ⟨rfl, ?_⟩) (by assumption) ?_
      rotate_left
      · (intro w' hSw; (try dsimp only at hSw); go_simp; try with_reducible rfl)
      simp only [Act.put, List.setIfInBounds_toArray, List.set_cons_zero, List.set_cons_succ]
      refine wpAnyH_take (i := 14) (v := ?_) rfl (by kernel_rfl) (by kernel_rfl) (by kernel_rfl) (fun _ _ _ h => h) (Or.inl ⟨rfl, ?_⟩) (by assumption) ?_
      rotate_left
      · (intro w' hSw; (try dsimp only at hSw); go_simp; try with_reducible rfl)
      simp only [Act.put, List.setIfInBounds_toArray, List.set_cons_zero, List.set_cons_succ]
      refine wpAnyH_take (i := 15) (v := ?_) rfl (by kernel_rfl) (by kernel_rfl) (by kernel_rfl) (fun _ _ _ h => h) (Or.inl ⟨rfl, ?_⟩) (by assumption) ?_
      rotate_left
      · (intro w' hSw; (try dsimp only at hSw); go_simp; try with_reducible rfl)
      simp only [Act.put, List.setIfInBounds_toArray, List.set_cons_zero, List.set_cons_succ]
      refine wpAnyH_take (i := 16) (v := ?_) rfl (by kernel_rfl) (by kernel_rfl) (by kernel_rfl) (fun _ _ _ h => h) (Or.inl ⟨rfl, ?_⟩) (by assumption) ?_
      rotate_left
      · (intro w' hSw; (try dsimp only at hSw); go_simp; try with_reducible rfl)
      simp only [Act.put, List.setIfInBounds_toArray, List.set_cons_zero, List.set_cons_succ]
      refine wpAnyH_take (i := 17) (v := ?_) rfl (by kernel_rfl) (by kernel_rfl) (by kernel_rfl) (fun _ _ _ h => h) (Or.inl ⟨rfl, ?_⟩) (by assumption) ?_
      rotate_left
      · (intro w' hSw; (try dsimp only at hSw); go_simp; try with_reducible rfl)
      simp only [Act.put, List.setIfInBounds_toArray, List.set_cons_zero, List.set_cons_succ]
      refine wpAnyH_take (i := 18) (v := ?_) rfl (by kernel_rfl) (by kernel_rfl) (by kernel_rfl) (fun _ _ _ h => h) (Or.inl ⟨rfl, ?_⟩) (by assumption) ?_
      rotate_left
      · (intro w' hSw; (try dsimp only at hSw); go_simp; try with_reducible rfl)
      simp only [Act.put, List.setIfInBounds_toArray, List.set_cons_zero, List.set_cons_succ]
      refine wpAnyH_take (i := 19) (v := ?_) rfl (by kernel_rfl) (by kernel_rfl) (by kernel_rfl) (fun _ _ _ h => h) (Or.inl ⟨rfl, ?_⟩) (by assumption) ?_
      rotate_left
      · (intro w' hSw; (try dsimp only at hSw); go_simp; try with_reducible rfl)
      simp only [Act.put, List.setIfInBounds_toArray, List.set_cons_zero, List.set_cons_succ]
      refine wpAnyH_take (i := 20) (v := ?_) rfl (by kernel_rfl) (by kernel_rfl) (by kernel_rfl) (fun _ _ _ h => h) (Or.inl ⟨rfl, ?_⟩) (by assumption) ?_
      rotate_left
      · (intro w' hSw; (try dsimp only at hSw); go_simp; try with_reducible rfl)
      simp only [Act.put, List.setIfInBounds_toArray, List.set_cons_zero, List.set_cons_succ]
      refine wpAnyH_ready (rs := [4, 21]) (by kernel_rfl) (by simp) (AllReadyH.cons rfl (fun K hK => ?_) (AllReadyH.cons rfl (fun K hK => ?_) AllReadyH.nil))
      · skip
        go_simp
        refine hK.out _ _ hHeld (fun hHeld => ?_)
        clear hK K
        try simp only [Act.put, List.setIfInBounds_toArray, List.set_cons_zero, List.set_cons_succ]
        refine wpAnyH_ready (rs := [21]) (by kernel_rfl) (by simp) (AllReadyH.cons rfl (fun K hK => ?_) AllReadyH.nil)
        go_simp; go_at_call 40; refine HOA.out.mono ?_
        rintro e w2 ⟨⟨A, c, rfl, hl2, hA, hc, hc9⟩, hb2⟩
        obtain ⟨p0, p1, p2⟩ := HCS.out _ (HBW.out.trans (hb2.mono HT.out))
        obtain ⟨p3, p4, p5⟩ := HCS.out _ ((HBW.out.trans (hb2.mono HT.out)).alloc (Nat.le_trans HT.out hb2.size) (.cells #[.int .i64 kd, .slice A ln c] 62))
        have yA := HYS.out _ hb2
        have yB := HYS.out _ (hb2.alloc hb2.size (.cells #[.int .i64 kd, .slice A ln c] 62))
        have hs4 := cell_two_new w2 (.int .i64 kd) (.slice A ln c) 62
        have HSRC4 := Lib.hid hs4
        have HO4 := Lib.hid (own_kept HO.out (Kept.of (S := fun _ => False) (hb2.alloc hb2.size (.cells #[.int .i64 kd, .slice A ln c] 62))) (fun _ _ h => h))
        have HZ := Lib.hid (Nat.le_trans HT.out hb2.size)
        have HDE : Hid (DeIs (NF w.heap.size w2) w2 ⟨kd, A, ln, c⟩ (M j)) := Lib.hid (DeIs.nf HKD.out (HLS.out ▸ hl2) HT.out hA hc hc9 HMC.out)
        have HB2 := Lib.hid hb2
        clear hs4 hl2 hA hc hc9 hb2
        refine hK.out _ _ ⟨p0, p1, p2⟩ (fun hHeld => ?_)
        clear hK K
        try simp only [Act.put, List.setIfInBounds_toArray, List.set_cons_zero, List.set_cons_succ]
        refine wpAnyH_take (i := 22) (v := ?_) rfl (by kernel_rfl) (by kernel_rfl) (by kernel_rfl) (fun _ _ _ h => h) (Or.inl ⟨rfl, ?_⟩) (by assumption) ?_
        rotate_left
        · (intro w' hSw; (try dsimp only at hSw); go_simp; try with_reducible rfl)
        simp only [Act.put, List.setIfInBounds_toArray, List.set_cons_zero, List.set_cons_succ]
        refine wpAnyH_ready (rs := [23]) (by kernel_rfl) (by simp) (AllReadyH.cons rfl (fun K hK => ?_) AllReadyH.nil)
        go_simp
        refine hK.out _ _ ⟨p3, p4, p5⟩ (fun hHeld => ?_)
        clear hK K
        try simp only [Act.put, List.setIfInBounds_toArray, List.set_cons_zero, List.set_cons_succ]
        refine wpAnyH_ready (rs := [24]) (by kernel_rfl) (by simp) (AllReadyH.cons rfl (fun K hK => ?_) AllReadyH.nil)
        refine step_append_own rfl (.tmp 28) (.tmp 47) 48 rfl w.heap.size 62 i0 _ 2 32 Tryz.underlying48 hi0 hz0 hz1 hz2 rfl (by decide) (.slice o j cap) j (es'.flatMap deCs) (by simp [Act.eval, Act.put]) HO4.out ⟨w2.heap.size, 0, none⟩ 1 1 [.int .i64 kd, .slice A ln c] (by simp [Act.eval, Act.put]) rfl HSRC4.out (fun u hu => by simp only [List.mem_cons, List.not_mem_nil, or_false] at hu; rcases hu with rfl | rfl <;> rfl) (by unfold maxLen; omega) (by omega) (by have := HZ.out; simp; omega) ?_
        intro v5 w5 hown5 hgrow5 _
        obtain ⟨o5, cap5, rfl, _, _⟩ := row_shape hown5
        have hg5 : (w2.alloc (.cells #[.int .i64 kd, .slice A ln c] 62)).grownBy w5 (Value.slice o j cap).ownBlock := ⟨hgrow5.os, hgrow5.tape, hgrow5.output, hgrow5.size, hgrow5.block⟩
        have HFIN := Lib.hid (CyR.step HCY.out HT.out HL.out HO.out HX.out HB2.out ⟨kd, A, ln, c⟩ HDE.out _ hg5 hown5)
        obtain ⟨y1, y2, yb⟩ := copy_keeps HCY.out HO.out HB2.out _ hg5 HT.out
        obtain ⟨p6, p7, p8⟩ := HCS.out _ yb
        clear hgrow5 hg5 hown5 yb
        refine hK.out _ _ ⟨p6, p7, p8⟩ (fun hHeld => ?_)
        clear hK K
        try simp only [Act.put, List.setIfInBounds_toArray, List.set_cons_zero, List.set_cons_succ]
        refine wpAnyH_take (i := 25) (v := ?_) rfl (by kernel_rfl) (by kernel_rfl) (by kernel_rfl) (fun _ _ _ h => h) (Or.inl ⟨rfl, ?_⟩) (by assumption) ?_
        rotate_left
        · (intro w' hSw; (try dsimp only at hSw); go_simp; try with_reducible rfl)
        simp only [Act.put, List.setIfInBounds_toArray, List.set_cons_zero, List.set_cons_succ]
        refine wpAnyH_take (i := 26) (v := ?_) rfl (by kernel_rfl) (by kernel_rfl) (by kernel_rfl) (fun _ _ _ h => h) (Or.inl ⟨rfl, ?_⟩) (by assumption) ?_
        rotate_left
        · (intro w' hSw; (try dsimp only at hSw); go_simp; try with_reducible rfl)
        simp only [Act.put, List.setIfInBounds_toArray, List.set_cons_zero, List.set_cons_succ]
        refine wpAnyH_ready (rs := [27]) (by kernel_rfl) (by simp) (AllReadyH.cons rfl (fun K hK => ?_) AllReadyH.nil)
        go_simp
        refine hK.out _ _ (HCS.out _ HFIN.out.below) (fun hHeld => ?_)
        clear hK K
        try simp only [Act.put, List.setIfInBounds_toArray, List.set_cons_zero, List.set_cons_succ]
        refine wpAnyH_done (by kernel_rfl) ?_ _
        skip
        go_wp2_with fail
        go_roundg (gk - 1)
        case measure => have := HK.out; have := HJ.out; omega
        case rel => have := HK.out; have := HJ.out; exact ⟨j + 1, _, by omega, by first | go_num | (congr 1; rw [IntWalk.wrap64_in _ (by omega)]; omega), HFIN.out⟩
      · skip
        go_simp; go_at_call 40; refine HOA.out.mono ?_
        rintro e w2 ⟨⟨A, c, rfl, hl2, hA, hc, hc9⟩, hb2⟩
        obtain ⟨p0, p1, p2⟩ := HCS.out _ (HBW.out.trans (hb2.mono HT.out))
        obtain ⟨p3, p4, p5⟩ := HCS.out _ ((HBW.out.trans (hb2.mono HT.out)).alloc (Nat.le_trans HT.out hb2.size) (.cells #[.int .i64 kd, .slice A ln c] 62))
        have yA := HYS.out _ hb2
        have yB := HYS.out _ (hb2.alloc hb2.size (.cells #[.int .i64 kd, .slice A ln c] 62))
        have hs4 := cell_two_new w2 (.int .i64 kd) (.slice A ln c) 62
        have HSRC4 := Lib.hid hs4
        have HO4 := Lib.hid (own_kept HO.out (Kept.of (S := fun _ => False) (hb2.alloc hb2.size (.cells #[.int .i64 kd, .slice A ln c] 62))) (fun _ _ h => h))
        have HZ := Lib.hid (Nat.le_trans HT.out hb2.size)
        have HDE : Hid (DeIs (NF w.heap.size w2) w2 ⟨kd, A, ln, c⟩ (M j)) := Lib.hid (DeIs.nf HKD.out (HLS.out ▸ hl2) HT.out hA hc hc9 HMC.out)
        have HB2 := Lib.hid hb2
        clear hs4 hl2 hA hc hc9 hb2
        refine hK.out _ _ ⟨p0, p1, p2⟩ (fun hHeld => ?_)
        clear hK K
        try simp only [Act.put, List.setIfInBounds_toArray, List.set_cons_zero, List.set_cons_succ]
        refine wpAnyH_take (i := 22) (v := ?_) rfl (by kernel_rfl) (by kernel_rfl) (by kernel_rfl) (fun _ _ _ h => h) (Or.inl ⟨rfl, ?_⟩) (by assumption) ?_
        rotate_left
        · (intro w' hSw; (try dsimp only at hSw); go_simp; try with_reducible rfl)
        simp only [Act.put, List.setIfInBounds_toArray, List.set_cons_zero, List.set_cons_succ]
        refine wpAnyH_ready (rs := [4, 23]) (by kernel_rfl) (by simp) (AllReadyH.cons rfl (fun K hK => ?_) (AllReadyH.cons rfl (fun K hK => ?_) AllReadyH.nil))
        · skip
          go_simp
          refine hK.out _ _ hHeld (fun hHeld => ?_)
          clear hK K
          try simp only [Act.put, List.setIfInBounds_toArray, List.set_cons_zero, List.set_cons_succ]
          refine wpAnyH_ready (rs := [23]) (by kernel_rfl) (by simp) (AllReadyH.cons rfl (fun K hK => ?_) AllReadyH.nil)
          go_simp
          refine hK.out _ _ ⟨p3, p4, p5⟩ (fun hHeld => ?_)
          clear hK K
          try simp only [Act.put, List.setIfInBounds_toArray, List.set_cons_zero, List.set_cons_succ]
          refine wpAnyH_ready (rs := [24]) (by kernel_rfl) (by simp) (AllReadyH.cons rfl (fun K hK => ?_) AllReadyH.nil)
          refine step_append_own rfl (.tmp 28) (.tmp 47) 48 rfl w.heap.size 62 i0 _ 2 32 Tryz.underlying48 hi0 hz0 hz1 hz2 rfl (by decide) (.slice o j cap) j (es'.flatMap deCs) (by simp [Act.eval, Act.put]) HO4.out ⟨w2.heap.size, 0, none⟩ 1 1 [.int .i64 kd, .slice A ln c] (by simp [Act.eval, Act.put]) rfl HSRC4.out (fun u hu => by simp only [List.mem_cons, List.not_mem_nil, or_false] at hu; rcases hu with rfl | rfl <;> rfl) (by unfold maxLen; omega) (by omega) (by have := HZ.out; simp; omega) ?_
          intro v5 w5 hown5 hgrow5 _
          obtain ⟨o5, cap5, rfl, _, _⟩ := row_shape hown5
          have hg5 : (w2.alloc (.cells #[.int .i64 kd, .slice A ln c] 62)).grownBy w5 (Value.slice o j cap).ownBlock := ⟨hgrow5.os, hgrow5.tape, hgrow5.output, hgrow5.size, hgrow5.block⟩
          have HFIN := Lib.hid (CyR.step HCY.out HT.out HL.out HO.out HX.out HB2.out ⟨kd, A, ln, c⟩ HDE.out _ hg5 hown5)
          obtain ⟨y1, y2, yb⟩ := copy_keeps HCY.out HO.out HB2.out _ hg5 HT.out
          obtain ⟨p6, p7, p8⟩ := HCS.out _ yb
          clear hgrow5 hg5 hown5 yb
          refine hK.out _ _ ⟨p6, p7, p8⟩ (fun hHeld => ?_)
          clear hK K
          try simp only [Act.put, List.setIfInBounds_toArray, List.set_cons_zero, List.set_cons_succ]
          refine wpAnyH_take (i := 25) (v := ?_) rfl (by kernel_rfl) (by kernel_rfl) (by kernel_rfl) (fun _ _ _ h => h) (Or.inl ⟨rfl, ?_⟩) (by assumption) ?_
          rotate_left
          · (intro w' hSw; (try dsimp only at hSw); go_simp; try with_reducible rfl)
          simp only [Act.put, List.setIfInBounds_toArray, List.set_cons_zero, List.set_cons_succ]
          refine wpAnyH_take (i := 26) (v := ?_) rfl (by kernel_rfl) (by kernel_rfl) (by kernel_rfl) (fun _ _ _ h => h) (Or.inl ⟨rfl, ?_⟩) (by assumption) ?_
          rotate_left
          · (intro w' hSw; (try dsimp only at hSw); go_simp; try with_reducible rfl)
          simp only [Act.put, List.setIfInBounds_toArray, List.set_cons_zero, List.set_cons_succ]
          refine wpAnyH_ready (rs := [27]) (by kernel_rfl) (by simp) (AllReadyH.cons rfl (fun K hK => ?_) AllReadyH.nil)
          go_simp
          refine hK.out _ _ (HCS.out _ HFIN.out.below) (fun hHeld => ?_)
          clear hK K
          try simp only [Act.put, List.setIfInBounds_toArray, List.set_cons_zero, List.set_cons_succ]
          refine wpAnyH_done (by kernel_rfl) ?_ _
          skip
          go_wp2_with fail
          go_roundg (gk - 1)
          case measure => have := HK.out; have := HJ.out; omega
          case rel => have := HK.out; have := HJ.out; exact ⟨j + 1, _, by omega, by first | go_num | (congr 1; rw [IntWalk.wrap64_in _ (by omega)]; omega), HFIN.out⟩
        · skip
          go_simp
          refine hK.out _ _ ⟨p3, p4, p5⟩ (fun hHeld => ?_)
          clear hK K
          try simp only [Act.put, List.setIfInBounds_toArray, List.set_cons_zero, List.set_cons_succ]
          refine wpAnyH_ready (rs := [4]) (by kernel_rfl) (by simp) (AllReadyH.cons rfl (fun K hK => ?_) AllReadyH.nil)
          go_simp
          refine hK.out _ _ hHeld (fun hHeld => ?_)
          clear hK K
          try simp only [Act.put, List.setIfInBounds_toArray, List.set_cons_zero, List.set_cons_succ]
          refine wpAnyH_ready (rs := [24]) (by kernel_rfl) (by simp) (AllReadyH.cons rfl (fun K hK => ?_) AllReadyH.nil)
          refine step_append_own rfl (.tmp 28) (.tmp 47) 48 rfl w.heap.size 62 i0 _ 2 32 Tryz.underlying48 hi0 hz0 hz1 hz2 rfl (by decide) (.slice o j cap) j (es'.flatMap deCs) (by simp [Act.eval, Act.put]) HO4.out ⟨w2.heap.size, 0, none⟩ 1 1 [.int .i64 kd, .slice A ln c] (by simp [Act.eval, Act.put]) rfl HSRC4.out (fun u hu => by simp only [List.mem_cons, List.not_mem_nil, or_false] at hu; rcases hu with rfl | rfl <;> rfl) (by unfold maxLen; omega) (by omega) (by have := HZ.out; simp; omega) ?_
          intro v5 w5 hown5 hgrow5 _
          obtain ⟨o5, cap5, rfl, _, _⟩ := row_shape hown5
          have hg5 : (w2.alloc (.cells #[.int .i64 kd, .slice A ln c] 62)).grownBy w5 (Value.slice o j cap).ownBlock := ⟨hgrow5.os, hgrow5.tape, hgrow5.output, hgrow5.size, hgrow5.block⟩
          have HFIN := Lib.hid (CyR.step HCY.out HT.out HL.out HO.out HX.out HB2.out ⟨kd, A, ln, c⟩ HDE.out _ hg5 hown5)
          obtain ⟨y1, y2, yb⟩ := copy_keeps HCY.out HO.out HB2.out _ hg5 HT.out
          obtain ⟨p6, p7, p8⟩ := HCS.out _ yb
          clear hgrow5 hg5 hown5 yb
          refine hK.out _ _ ⟨p6, p7, p8⟩ (fun hHeld => ?_)
          clear hK K
          try simp only [Act.put, List.setIfInBounds_toArray, List.set_cons_zero, List.set_cons_succ]
          refine wpAnyH_take (i := 25) (v := ?_) rfl (by kernel_rfl) (by kernel_rfl) (by kernel_rfl) (fun _ _ _ h => h) (Or.inl ⟨rfl, ?_⟩) (by assumption) ?_
          rotate_left
          · (intro w' hSw; (try dsimp only at hSw); go_simp; try with_reducible rfl)
          simp only [Act.put, List.setIfInBounds_toArray, List.set_cons_zero, List.set_cons_succ]
          refine wpAnyH_take (i := 26) (v := ?_) rfl (by kernel_rfl) (by kernel_rfl) (by kernel_rfl) (fun _ _ _ h => h) (Or.inl ⟨rfl, ?_⟩) (by assumption) ?_
          rotate_left
          · (intro w' hSw; (try dsimp only at hSw); go_simp; try with_reducible rfl)
          simp only [Act.put, List.setIfInBounds_toArray, List.set_cons_zero, List.set_cons_succ]
          refine wpAnyH_ready (rs := [27]) (by kernel_rfl) (by simp) (AllReadyH.cons rfl (fun K hK => ?_) AllReadyH.nil)
          go_simp
          refine hK.out _ _ (HCS.out _ HFIN.out.below) (fun hHeld => ?_)
          clear hK K
          try simp only [Act.put, List.setIfInBounds_toArray, List.set_cons_zero, List.set_cons_succ]
          refine wpAnyH_done (by kernel_rfl) ?_ _
          skip
          go_wp2_with fail
          go_roundg (gk - 1)
          case measure => have := HK.out; have := HJ.out; omega
          case rel => have := HK.out; have := HJ.out; exact ⟨j + 1, _, by omega, by first | go_num | (congr 1; rw [IntWalk.wrap64_in _ (by omega)]; omega), HFIN.out⟩
    · have dj : decide (j < N) = false := decide_eq_false hj
      have hje : j = N := by omega
      have HDN := Lib.hid ((hje ▸ hcy).done HB.out.asc HB.out.ok HB.out.len)
      have HBW := Lib.hid hcy.below
      clear hk hj hcy hje
      go_wp2_with fail
      go_ret
      exact ⟨_, rfl, HDN.out, HBW.out⟩
end Go.Proofs.YtgpanlkcpnlejaaGreat
/- The map of copies: old entries and new ones. -/
namespace Go.Proofs.YtgpanlkcpnlejaaGreat
open Go.RowKit Go.Maps
set_option maxRecDepth 100000
set_option linter.unusedSimpArgs false
set_option linter.unusedVariables false
theorem info_entry : (Tryz.prog.info? 59).map (fun i => i.size) = some 3 := by kernel_rfl
theorem run_equal_ent {w : World} {a b : Nat} {ca cb : Array Value} {ta tb : TypeId} (ha : w.heap[a]? = some (.cells ca ta (0, 0))) (hb : w.heap[b]? = some (.cells cb tb (0, 0))) :
    (Op.equal 57 (BP a) (BP b)).run Tryz.prog w = .ok (decide (a = b)) w := by
  obtain ⟨j, hj, hs⟩ : ∃ j, Tryz.prog.info? 59 = some j ∧ j.size = 3 := by
    have := info_entry
    cases h : Tryz.prog.info? 59 with
    | none => rw [h] at this; simp at this
    | some j => rw [h] at this; exact ⟨j, rfl, by simpa using this⟩
  have key : ∀ d : Nat, (Op.equalIn (d + 1) 57 (BP a) (BP b)).run Tryz.prog w = .ok (decide (a = b)) w := fun d => by
    by_cases e : a = b
    · subst e
      simp [BP, Op.equalIn, run_underlying Tryz.underlying57, typeInfo, sizeOf, hj, hs, run_sameAddr_same]
    · have hne : (⟨a, 0, none⟩ : Addr) ≠ ⟨b, 0, none⟩ := fun h => e (by injection h)
      simp [BP, Op.equalIn, run_underlying Tryz.underlying57, typeInfo, sizeOf, hj, hs, run_sameAddr_other w hne ha hb, e]
  show (Op.equalIn Op.maxDepth 57 (BP a) (BP b)).run Tryz.prog w = _
  exact key 9999
def fndC (a : Nat) : List (Nat × Nat) → Nat → Option (Nat × Value)
  | [], _ => none
  | p :: t, i => if a = p.1 then some (i, BP p.2) else fndC a t (i + 1)
theorem run_asking {w : World} {a : Nat} {ca : Array Value} {ta : TypeId} (ha : w.heap[a]? = some (.cells ca ta (0, 0))) : ∀ (ps : List (Nat × Nat)) (es : List MapEntry) (i : Nat), es.map (fun e => (e.key, e.val)) = ps.map (fun p => (BP p.1, BP p.2)) → (∀ p ∈ ps, ∃ cb tb, w.heap[p.1]? = some (.cells cb tb (0, 0))) →
    (Instr.findAsking 57 (BP a) es i).run Tryz.prog w = .ok (fndC a ps i) w
  | [], es, i, h, _ => by
    obtain rfl : es = [] := by simpa using h
    rfl
  | p :: t, es, i, h, hp => by
    cases es with
    | nil => simp at h
    | cons e es =>
      simp only [List.map_cons, List.cons.injEq, Prod.mk.injEq] at h
      obtain ⟨⟨h1, h2⟩, h3⟩ := h
      obtain ⟨cb, tb, hb⟩ := hp p (by simp)
      have ih := run_asking ha t es (i + 1) h3 (fun q hq => hp q (by simp [hq]))
      have heq := run_equal_ent ha hb
      unfold Instr.findAsking fndC
      rw [h1, h2]
      by_cases e1 : a = p.1
      · rw [decide_eq_true e1] at heq
        rw [if_pos e1]
        simp [heq, Result.andThen]
      · rw [decide_eq_false e1] at heq
        rw [if_neg e1]
        simp [heq, Result.andThen, ih]
/-- The map in memory. -/
def CP (w : World) (cp : Nat) (ps : List (Nat × Nat)) : Prop :=
  ∃ es clock, w.heap[cp]? = some (.map es clock) ∧ es.toList.map (fun e => (e.key, e.val)) = ps.map (fun p => (BP p.1, BP p.2))
def lkC (a : Nat) (ps : List (Nat × Nat)) : Option Nat := (ps.find? fun p => p.1 == a).map (·.2)
theorem fnd_lk (a : Nat) : ∀ (ps : List (Nat × Nat)) (i : Nat), (fndC a ps i).map (·.2) = (lkC a ps).map BP
  | [], _ => rfl
  | p :: t, i => by
    have ih := fnd_lk a t (i + 1)
    unfold fndC lkC
    by_cases e : a = p.1
    · rw [if_pos e, List.find?_cons_of_pos (by simp [e])]; rfl
    · rw [if_neg e, List.find?_cons_of_neg (by simpa using Ne.symm e)]; exact ih
theorem run_findC {w : World} {a : Nat} {ca : Array Value} {ta : TypeId} (ha : w.heap[a]? = some (.cells ca ta (0, 0))) {ps : List (Nat × Nat)} {es : List MapEntry} (h : es.map (fun e => (e.key, e.val)) = ps.map (fun p => (BP p.1, BP p.2))) (hp : ∀ p ∈ ps, ∃ cb tb, w.heap[p.1]? = some (.cells cb tb (0, 0))) :
    (Instr.findKey 57 (BP a) es).run Tryz.prog w = .ok (fndC a ps 0) w := by
  have hA := run_asking ha ps es 0 h hp
  cases es with
  | nil =>
    obtain rfl : ps = [] := by simpa using h.symm
    simp [Instr.findKey, run_underlying Tryz.underlying57, Result.andThen, Instr.findNow, fndC]
  | cons e es =>
    cases ps with
    | nil => simp at h
    | cons p t =>
      have h1 : e.key = BP p.1 := by
        simp only [List.map_cons, List.cons.injEq, Prod.mk.injEq] at h
        exact h.1.1
      have hn : ∀ d, Tryz.prog.underlying 57 = some d → Instr.findNow d (BP a) (e :: es) 0 = none := fun d _ => by
        unfold Instr.findNow
        rw [h1]
        cases d <;> rfl
      unfold Instr.findKey
      simp only [Sem.run_bind, run_underlying Tryz.underlying57, Result.andThen, hn _ Tryz.underlying57]
      exact hA
theorem run_checkC (w : World) (a : Nat) (e : Bool) : (Instr.checkKey e 10000 57 (BP a)).run Tryz.prog w = .ok () w := by
  show (Instr.checkKey e (9999 + 1) 57 (BP a)).run Tryz.prog w = _
  unfold Instr.checkKey
  simp only [Sem.run_bind, run_underlying Tryz.underlying57, Result.andThen, BP]
  rfl
/-- What a look-up says. -/
theorem CP.look {w : World} {cp a : Nat} {ps : List (Nat × Nat)} {ca : Array Value} {ta : TypeId} (h : CP w cp ps) (ha : w.heap[a]? = some (.cells ca ta (0, 0))) (hp : ∀ p ∈ ps, ∃ cb tb, w.heap[p.1]? = some (.cells cb tb (0, 0))) :
    (Instr.lookup 56 (.map (some cp)) (BP a) false).run Tryz.prog w = .ok (.pointer ((lkC a ps).map fun v => ⟨v, 0, none⟩)) w := by
  obtain ⟨es, clock, hb, he⟩ := h
  have hf := run_findC ha he hp
  have hfl := fnd_lk a ps 0
  cases hl : lkC a ps with
  | none =>
    rw [hl] at hfl
    have hn : fndC a ps 0 = none := by simpa using hfl
    rw [hn] at hf
    simp [Instr.lookup, run_underlying Tryz.underlying56, MapKept.run_getObj_map hb, run_checkC, hf, Result.andThen, zeroPtr w]
  | some v =>
    rw [hl] at hfl
    obtain ⟨⟨i, x⟩, hx, hv⟩ : ∃ r, fndC a ps 0 = some r ∧ r.2 = BP v := by
      cases hc : fndC a ps 0 with
      | none => rw [hc] at hfl; simp at hfl
      | some r => rw [hc] at hfl; exact ⟨r, rfl, by simpa using hfl⟩
    simp only at hv
    subst hv
    rw [hx] at hf
    simp [Instr.lookup, run_underlying Tryz.underlying56, MapKept.run_getObj_map hb, run_checkC, hf, Result.andThen, BP]
/-- A new key is put. -/
theorem CP.put {w : World} {cp a v : Nat} {ps : List (Nat × Nat)} {ca : Array Value} {ta : TypeId} (h : CP w cp ps) (ha : w.heap[a]? = some (.cells ca ta (0, 0))) (hp : ∀ p ∈ ps, ∃ cb tb, w.heap[p.1]? = some (.cells cb tb (0, 0))) (hl : lkC a ps = none) :
    ∃ w', (Instr.mapUpdate 56 (.map (some cp)) (BP a) (BP v)).run Tryz.prog w = .ok () w' ∧ CP w' cp (ps ++ [(a, v)]) ∧ w.grownBy w' (some cp) ∧ w'.heap.size = w.heap.size := by
  obtain ⟨es, clock, hb, he⟩ := h
  have hf := run_findC ha he hp
  have hfl := fnd_lk a ps 0
  rw [hl] at hfl
  have hn : fndC a ps 0 = none := by simpa using hfl
  rw [hn] at hf
  have hset := MapKept.heap_set (o' := .map (es.push { key := BP a, val := BP v, born := clock }) (clock + 1)) hb
  refine ⟨{ w with heap := w.heap.setIfInBounds cp (.map (es.push { key := BP a, val := BP v, born := clock }) (clock + 1)) }, ?_, ⟨_, _, hset.1, ?_⟩, ⟨rfl, rfl, rfl, by simp, fun i _ hi => hset.2 i (fun e => hi (by rw [e]))⟩, by simp⟩
  · simp [Instr.mapUpdate, run_underlying Tryz.underlying56, MapKept.run_getObj_map hb, run_checkC, hf, Result.andThen, MapKept.run_setObj_map _ hb]
  · simp [he]
theorem CP.kept {w w' : World} {cp : Nat} {ps : List (Nat × Nat)} (h : CP w cp ps) (k : w'.heap[cp]? = w.heap[cp]?) : CP w' cp ps := by
  obtain ⟨es, clock, hb, he⟩ := h
  exact ⟨es, clock, k.trans hb, he⟩
end Go.Proofs.YtgpanlkcpnlejaaGreat
/- The code's store: Copy: what holds while it goes over the names. -/
namespace Go.Proofs.YtgpanlkcpnlejaaGreat
open Go.RowKit Go.Maps Go.Sort
set_option maxRecDepth 100000
set_option linter.unusedSimpArgs false
set_option linter.unusedVariables false
theorem nms_ext {L L2 : List Reg} (h : Asc L) (h2 : Asc L2) (he : ∀ nm, hasS L nm = hasS L2 nm) : nmsOf L = nmsOf L2 := by
  have hp : (nmsOf L).Perm (nmsOf L2) := (List.perm_ext_iff_of_nodup (nms_nodup L h) (nms_nodup L2 h2)).2 fun x => by rw [mem_nms, mem_nms, he]
  rw [← nms_sorted L h, ← nms_sorted L2 h2]
  exact mergeSort_of_perm hp
theorem getS_v_mem {L : List Reg} {nm : List UInt8} (h : hasS L nm = true) : ∃ r ∈ L, r.v = (getS L nm).v := ⟨_, getS_mem L nm h, rfl⟩
theorem has_of_mem {L : List Reg} {r : Reg} (h : r ∈ L) : hasS L r.nm = true := by
  unfold hasS
  exact List.any_eq_true.2 ⟨r, h, by simp⟩
theorem getS_of_mem {L : List Reg} (ha : Asc L) {r : Reg} (h : r ∈ L) : getS L r.nm = r := by
  have h1 := getS_mem L r.nm (has_of_mem h)
  have h2 := getS_nm L r.nm
  by_cases e : getS L r.nm = r
  · exact e
  · exfalso
    have hp := List.pairwise_iff_getElem.1 ha
    obtain ⟨i, hi, hi2⟩ := List.getElem_of_mem h1
    obtain ⟨j, hj, hj2⟩ := List.getElem_of_mem h
    rcases Nat.lt_trichotomy i j with hij | hij | hij
    · have := blt_ne (hp i j hi hj hij)
      rw [hi2, hj2] at this
      exact this h2
    · subst hij
      exact e (hi2.symm.trans hj2)
    · have := blt_ne (hp j i hj hi hij)
      rw [hi2, hj2] at this
      exact this h2.symm
theorem lk_append {a x v : Nat} {ps : List (Nat × Nat)} (h : lkC x ps = none) : lkC a (ps ++ [(x, v)]) = if a = x then some v else lkC a ps := by
  unfold lkC at h ⊢
  rw [List.find?_append]
  by_cases e : a = x
  · subst e
    rw [if_pos rfl]
    cases hf : ps.find? (fun p => p.1 == a) with
    | some y => rw [hf] at h; simp at h
    | none => simp
  · rw [if_neg e]
    cases hf : ps.find? (fun p => p.1 == a) with
    | some y => simp
    | none => simp [Ne.symm e]
theorem lk_mem {a v : Nat} {ps : List (Nat × Nat)} (h : lkC a ps = some v) : (a, v) ∈ ps := by
  unfold lkC at h
  cases hf : ps.find? (fun p => p.1 == a) with
  | none => rw [hf] at h; simp at h
  | some y =>
    rw [hf] at h
    have h1 := List.find?_some hf
    have h2 := List.mem_of_find?_eq_some hf
    simp at h h1
    obtain ⟨y1, y2⟩ := y
    simp only at h h1
    rw [← h, ← h1]; exact h2
/-- What only turns blocks that are no cells, and not the map, leaves the store. -/
theorem SL.apart {F S : Nat → Prop} {sb mb : Nat} {L : List Reg} {E : Nat → En} {M : Nat → Mc} {w w' : World} (h : SL F sb mb L E M w) (k : Kept S w w') (hS : ∀ e g, Tg w e g → ¬ S g) (hm : ¬ S mb) : SL F sb mb L E M w' :=
  ⟨h.sk.kept k (hS _ _ ⟨_, _, h.sk.cell⟩) hm (fun r hr => hS _ _ (tag_en (h.sk.ent r hr))), fun r hr => by
    have hx := h.en r hr
    exact ⟨hx.kd, hx.tx, hx.ln.keep (fun g hg => k.block g (hx.ln.tag hg).lt (hS _ _ (hx.ln.tag hg))) (fun e _ b hb => k.block b hb.lt (hS _ _ hb)), hx.ok⟩, h.dj, h.lo, h.ls, h.lm, fun i hi => Nat.lt_of_lt_of_le (h.hf i hi) k.size⟩
/-- A new name with a new entry; blocks that are no cells may turn. -/
theorem SL.new2 {F S : Nat → Prop} {sb mb : Nat} {L : List Reg} {E : Nat → En} {M : Nat → Mc} {w w' : World} (h : SL F sb mb L E M w) (nm : List UInt8) (b : Nat) (c : En) (m : Mc) (hb : w.heap.size ≤ b) (hs : SK sb mb (putS L ⟨nm, b⟩) (upd E b c) w') (he : EnIs w' c m)
    (k : Kept S w w') (hS : ∀ e g, Tg w e g → ¬ S g) (ho : ∀ g, own c = some g → w.heap.size ≤ g) : SL F sb mb (putS L ⟨nm, b⟩) (upd E b c) (updM M b m) w' := by
  have key : ∀ x ∈ putS L ⟨nm, b⟩, x.v = b ∨ (x ∈ L ∧ x.v ≠ b) := by
    intro x hx
    rcases mem_put L _ x hx with rfl | hx
    · exact .inl rfl
    · exact .inr ⟨hx, by have := h.sk.elt x hx; omega⟩
  refine ⟨hs, fun x hx => ?_, fun x hx y hy hne g hg => ?_, fun x hx => ?_, h.ls, h.lm, fun i hi => Nat.lt_of_lt_of_le (h.hf i hi) k.size⟩
  · rcases key x hx with e | ⟨hxL, e⟩
    · rw [e, upd_same, updM_same]; exact he
    · rw [upd_other _ _ _ e, updM_other _ _ _ e]
      have hx' := h.en x hxL
      exact ⟨hx'.kd, hx'.tx, hx'.ln.keep (fun g hg => k.block g (hx'.ln.tag hg).lt (hS _ _ (hx'.ln.tag hg))) (fun e' _ b' hb' => k.block b' hb'.lt (hS _ _ hb')), hx'.ok⟩
  · rcases key x hx with ex | ⟨hxL, ex⟩
    · rcases key y hy with ey | ⟨hyL, ey⟩
      · exact absurd (ex.trans ey.symm) hne
      · rw [ex, upd_same] at hg
        rw [upd_other _ _ _ ey]
        intro h2
        have := ((h.en y hyL).ln.tag h2).lt
        have := ho g hg
        omega
    · rw [upd_other _ _ _ ex] at hg
      rcases key y hy with ey | ⟨hyL, ey⟩
      · rw [ey, upd_same]
        intro h2
        have := ((h.en x hxL).ln.tag hg).lt
        have := ho g h2
        omega
      · rw [upd_other _ _ _ ey]; exact h.dj x hxL y hyL hne g hg
  · rcases key x hx with ex | ⟨hxL, ex⟩
    · rw [ex, upd_same]; exact ⟨h.far hb, fun g hg => h.far (ho g hg)⟩
    · rw [upd_other _ _ _ ex]; exact h.lo x hxL
/-- More blocks that are not the store's. -/
theorem SA.wide {F F' : Nat → Prop} {sb mb : Nat} {L : List Reg} {M : Nat → Mc} {w w' : World} (h : SA F sb mb L M w) (k : Below w.heap.size w w') (hF : ∀ i, F' i → F i ∨ w.heap.size ≤ i) (hf : ∀ i, F' i → i < w'.heap.size) : SA F' sb mb L M w' := by
  obtain ⟨E, h⟩ := h
  have hn : ∀ i, ¬ F i → i < w.heap.size → ¬ F' i := fun i h1 h2 h3 => by
    rcases hF i h3 with h4 | h4
    · exact h1 h4
    · omega
  refine ⟨E, h.sk.below k, fun r hr => (h.en r hr).below k, h.dj, fun r hr => ⟨hn _ (h.lo r hr).1 (h.sk.elt r hr), fun g hg => hn _ ((h.lo r hr).2 g hg) ((h.en r hr).ln.tag hg).lt⟩, hn _ h.ls h.sk.lt.1, hn _ h.lm h.sk.lt.2, hf⟩
theorem Corr.via {L L2 L' : List Reg} {M M2 M' : Nat → Mc} (h : Corr L M L' M') (k : Corr L M L2 M2) : Corr L2 M2 L' M' :=
  ⟨k.nms.symm.trans h.nms, fun a b ha hb => by
    rw [← k.has] at ha hb
    exact (k.al a b ha hb).symm.trans (h.al a b ha hb), fun a ha => by
    rw [← k.has] at ha
    exact (k.mc a ha).symm.trans (h.mc a ha)⟩
end Go.Proofs.YtgpanlkcpnlejaaGreat
/- The code's store: Copy: the names that are done. -/
namespace Go.Proofs.YtgpanlkcpnlejaaGreat
open Go.RowKit Go.Maps Go.Sort
set_option maxRecDepth 100000
set_option linter.unusedSimpArgs false
set_option linter.unusedVariables false
structure Cop (L : List Reg) (M : Nat → Mc) (left : Lit → Bool) (L2 : List Reg) (M2 : Nat → Mc) (ps : List (Nat × Nat)) : Prop where
  has : ∀ nm, hasS L2 nm = (hasS L nm && !left (.string nm))
  lk : ∀ nm, hasS L2 nm = true → lkC (getS L nm).v ps = some (getS L2 nm).v
  inj : ∀ a b v, lkC a ps = some v → lkC b ps = some v → a = b
  mm : ∀ a v, lkC a ps = some v → M2 v = M a ∧ ∃ x, hasS L2 x = true ∧ (getS L2 x).v = v
  key : ∀ p ∈ ps, ∃ r ∈ L, r.v = p.1
  lh : ∀ nm, left (.string nm) = true → hasS L nm = true
theorem Cop.start {L : List Reg} {M M2 : Nat → Mc} {D : DataW Unit} (h : MapIs D L) : Cop L M (Maps.has D) [] M2 [] :=
  ⟨fun nm => by rw [h.has]; cases hasS L nm <;> rfl, fun nm hn => (by cases hn), fun a b v hv => by simp [lkC] at hv, fun a v hv => by simp [lkC] at hv, fun p hp => (by cases hp), fun nm hn => by rw [h.has] at hn; exact hn⟩
theorem same_str (x nm : List UInt8) : (Lit.string x).sameKey (.string nm) = (x == nm) := by
  rfl
theorem Cop.not {L : List Reg} {M : Nat → Mc} {left : Lit → Bool} {L2 : List Reg} {M2 : Nat → Mc} {ps : List (Nat × Nat)} (h : Cop L M left L2 M2 ps) {nm : List UInt8} (hl : left (.string nm) = true) : hasS L2 nm = false := by
  rw [h.has, hl]; simp
theorem Cop.has_put {L : List Reg} {M : Nat → Mc} {left : Lit → Bool} {L2 : List Reg} {M2 : Nat → Mc} {ps : List (Nat × Nat)} (h : Cop L M left L2 M2 ps) {nm : List UInt8} (hl : left (.string nm) = true) (v : Nat) (x : List UInt8) :
    hasS (putS L2 ⟨nm, v⟩) x = (hasS L x && !(left (.string x) && !(Lit.string x).sameKey (.string nm))) := by
  rw [hasS_put, same_str, h.has]
  by_cases e : nm = x
  · subst e
    rw [h.lh nm hl]; simp
  · have h1 : (nm == x) = false := by simpa using e
    have h2 : (x == nm) = false := by simpa using Ne.symm e
    simp only [h1, h2, Bool.false_or, Bool.not_false, Bool.and_true]
theorem Cop.old {L : List Reg} {M : Nat → Mc} {left : Lit → Bool} {L2 : List Reg} {M2 : Nat → Mc} {ps : List (Nat × Nat)} (h : Cop L M left L2 M2 ps) {nm : List UInt8} (hl : left (.string nm) = true) {v : Nat} (hv : lkC (getS L nm).v ps = some v) :
    Cop L M (fun z => left z && !z.sameKey (.string nm)) (putS L2 ⟨nm, v⟩) M2 ps := by
  have hn := h.not hl
  refine ⟨h.has_put hl v, fun x hx => ?_, h.inj, fun a u ha => ?_, h.key, fun x hx => ?_⟩
  · by_cases e : nm = x
    · subst e
      rw [getS_put_same]; exact hv
    · rw [getS_put_other _ _ _ e]
      refine h.lk x ?_
      rw [hasS_put] at hx
      simpa [e] using hx
  · obtain ⟨h1, x, hx, h2⟩ := h.mm a u ha
    refine ⟨h1, x, ?_, ?_⟩
    · rw [hasS_put, hx]; simp
    · have e : nm ≠ x := fun e => by rw [← e, hn] at hx; cases hx
      rw [getS_put_other _ _ _ e]; exact h2
  · simp only [Bool.and_eq_true] at hx
    exact h.lh x hx.1
theorem Cop.new {L : List Reg} {M : Nat → Mc} {left : Lit → Bool} {L2 : List Reg} {M2 : Nat → Mc} {ps : List (Nat × Nat)} (h : Cop L M left L2 M2 ps) {nm : List UInt8} (hl : left (.string nm) = true) {v : Nat} (hv : lkC (getS L nm).v ps = none) (hf : ∀ r ∈ L2, r.v ≠ v) :
    Cop L M (fun z => left z && !z.sameKey (.string nm)) (putS L2 ⟨nm, v⟩) (updM M2 v (M (getS L nm).v)) (ps ++ [((getS L nm).v, v)]) := by
  have hn := h.not hl
  have hfr : ∀ a u, lkC a ps = some u → u ≠ v := fun a u ha e => by
    obtain ⟨_, x, hx, h2⟩ := h.mm a u ha
    exact hf _ (getS_mem L2 x hx) (h2.trans e)
  have hput := fun a => lk_append (a := a) (v := v) hv
  refine ⟨h.has_put hl v, fun x hx => ?_, fun a b u ha hb => ?_, fun a u ha => ?_, fun p hp => ?_, fun x hx => ?_⟩
  · rw [hput]
    by_cases e : nm = x
    · subst e
      rw [getS_put_same, if_pos rfl]
    · have hx2 : hasS L2 x = true := by
        rw [hasS_put] at hx
        simpa [e] using hx
      have h1 := h.lk x hx2
      rw [getS_put_other _ _ _ e, if_neg, h1]
      intro e2
      rw [e2, hv] at h1; cases h1
  · rw [hput] at ha hb
    split at ha
    · rename_i e1
      split at hb
      · rename_i e2; exact e1.trans e2.symm
      · exact absurd (Option.some.inj ha).symm (hfr b u hb)
    · split at hb
      · exact absurd (Option.some.inj hb).symm (hfr a u ha)
      · exact h.inj a b u ha hb
  · rw [hput] at ha
    split at ha
    · rename_i e
      obtain rfl := Option.some.inj ha
      refine ⟨by rw [updM_same, e], nm, by rw [hasS_put]; simp, by rw [getS_put_same]⟩
    · obtain ⟨h1, x, hx, h2⟩ := h.mm a u ha
      refine ⟨by rw [updM_other _ _ _ (hfr a u ha)]; exact h1, x, by rw [hasS_put, hx]; simp, ?_⟩
      have e : nm ≠ x := fun e => by rw [← e, hn] at hx; cases hx
      rw [getS_put_other _ _ _ e]; exact h2
  · rcases List.mem_append.1 hp with hp | hp
    · exact h.key p hp
    · obtain rfl : p = ((getS L nm).v, v) := by simpa using hp
      exact getS_v_mem (h.lh nm hl)
  · simp only [Bool.and_eq_true] at hx
    exact h.lh x hx.1
theorem Cop.done {L : List Reg} {M : Nat → Mc} {left : Lit → Bool} {L2 : List Reg} {M2 : Nat → Mc} {ps : List (Nat × Nat)} (h : Cop L M left L2 M2 ps) (ha : Asc L) (ha2 : Asc L2) (hl : ∀ kl, left kl = false) : Corr L M L2 M2 := by
  have he : ∀ nm, hasS L nm = hasS L2 nm := fun nm => by rw [h.has, hl]; simp
  refine ⟨nms_ext ha ha2 he, fun a b hx hy => ?_, fun a hx => ?_⟩
  · have h1 := h.lk a (by rw [← he]; exact hx)
    have h2 := h.lk b (by rw [← he]; exact hy)
    constructor
    · intro e
      rw [e, h2] at h1
      exact (Option.some.inj h1).symm
    · intro e
      rw [e] at h1
      exact h.inj _ _ _ h1 h2
  · exact (h.mm _ _ (h.lk a (by rw [← he]; exact hx))).1.symm
end Go.Proofs.YtgpanlkcpnlejaaGreat
/- The code's store: Copy: what a round leaves. -/
namespace Go.Proofs.YtgpanlkcpnlejaaGreat
open Go.RowKit Go.Maps Go.Sort
set_option maxRecDepth 100000
set_option linter.unusedSimpArgs false
set_option linter.unusedVariables false
/-- The store that is gone over, and the copy as far as it is made. -/
structure CoR (w : World) (L : List Reg) (M : Nat → Mc) (D : DataW Unit) (mb it fb fm cp : Nat) (left : Lit → Bool) (cnt : Nat) (wr : World) : Prop where
  rg : wr.ranges Tryz.prog 9 regElem mb it L.length D left cnt
  ex : ∃ L2 E2 M2 ps, SL (fun k => k < w.heap.size) fb fm L2 E2 M2 wr ∧ CP wr cp ps ∧ Cop L M left L2 M2 ps
  below : Below w.heap.size w wr
/-- Where the blocks lie. -/
structure Lie (w : World) (mb it fb fm cp : Nat) : Prop where
  m : mb < w.heap.size
  f : w.heap.size ≤ fm
  fc : fm < cp
  bc : fb < cp
  b : w.heap.size ≤ fb
  ci : cp < it
theorem len_sub {L L2 : List Reg} (h : Asc L) (h2 : Asc L2) (hs : ∀ nm, hasS L2 nm = true → hasS L nm = true) : L2.length ≤ L.length := by
  have ha : Asc (L.filter fun r => hasS L2 r.nm) := List.Pairwise.filter _ h
  have he := nms_ext h2 ha fun nm => by
    cases hx : hasS L2 nm with
    | true =>
      symm
      have h1 := hs nm hx
      obtain ⟨r, hr, hn⟩ := List.any_eq_true.1 h1
      have hn' : r.nm = nm := by simpa using hn
      refine List.any_eq_true.2 ⟨r, List.mem_filter.2 ⟨hr, by rw [hn']; exact hx⟩, hn⟩
    | false =>
      symm
      unfold hasS
      rw [List.any_eq_false]
      intro r hr hc
      have hn' : r.nm = nm := by simpa using hc
      have := (List.mem_filter.1 hr).2
      rw [hn'] at this
      have h3 : hasS L2 nm = true := this
      rw [hx] at h3; cases h3
  have hl : (nmsOf L2).length = (nmsOf (L.filter fun r => hasS L2 r.nm)).length := by rw [he]
  simp only [nmsOf, List.length_map] at hl
  rw [hl]
  exact List.length_filter_le _ _
theorem Cop.room {L : List Reg} {M : Nat → Mc} {left : Lit → Bool} {L2 : List Reg} {M2 : Nat → Mc} {ps : List (Nat × Nat)} (h : Cop L M left L2 M2 ps) (ha : Asc L) (ha2 : Asc L2) {nm : List UInt8} (hl : left (.string nm) = true) : L2.length < L.length := by
  have h1 := len_put L2 ⟨nm, 0⟩ ha2
  rw [show hasS L2 (Reg.mk nm 0).nm = false from h.not hl] at h1
  have h2 := len_sub ha (asc_put L2 ⟨nm, 0⟩ ha2) fun x hx => by
    rw [h.has_put hl 0 x] at hx
    simp only [Bool.and_eq_true] at hx
    exact hx.1
  simp at h1
  omega
theorem it_not {w : World} {L : List Reg} {D : DataW Unit} {mb it cnt : Nat} {left : Lit → Bool} (h : w.ranges Tryz.prog 9 regElem mb it L.length D left cnt) : ∀ e g, Tg w e g → ¬ (g = it) := by
  rintro e g ⟨cs, fz, hg⟩ rfl
  obtain ⟨es, clock, since, seen, c0, _, _, _, _, hr, _⟩ := h
  rw [hr] at hg; injection hg with hg; cases hg
theorem map_not {w : World} {b n : Nat} {D : DataW Unit} (h : w.ownsMap Tryz.prog 9 regElem b n D) : ∀ e g, Tg w e g → ¬ (g = b) := by
  rintro e g ⟨cs, fz, hg⟩ rfl
  obtain ⟨es, c, h4, _⟩ := h
  rw [h4] at hg; injection hg with hg; cases hg
theorem cp_not {w : World} {cp : Nat} {ps : List (Nat × Nat)} (h : CP w cp ps) : ∀ e g, Tg w e g → ¬ (g = cp) := by
  rintro e g ⟨cs, fz, hg⟩ rfl
  obtain ⟨es, c, h4, _⟩ := h
  rw [h4] at hg; injection hg with hg; cases hg
/-- Behind the step of the iterator. -/
theorem CoR.next {w wr w1 : World} {L : List Reg} {M : Nat → Mc} {D : DataW Unit} {mb it fb fm cp cnt cnt1 : Nat} {left left1 : Lit → Bool} (h : CoR w L M D mb it fb fm cp left cnt wr) (hl : Lie w mb it fb fm cp)
    (hg : wr.grownBy w1 (some it)) (hrg1 : w1.ranges Tryz.prog 9 regElem mb it L.length D left1 cnt1) :
    ∃ L2 E2 M2 ps, SL (fun k => k < w.heap.size) fb fm L2 E2 M2 w1 ∧ CP w1 cp ps ∧ Cop L M left L2 M2 ps ∧ Below w.heap.size w w1 := by
  obtain ⟨L2, E2, M2, ps, h1, h2, h3⟩ := h.ex
  have k := Kept.grown hg
  have hl1 := hl.fc
  have hl2 := hl.ci
  have hcl : cp < wr.heap.size := by
    obtain ⟨es, c, h4, _⟩ := h2
    exact lt_of_block h4
  refine ⟨L2, E2, M2, ps, h1.apart k (it_not h.rg) (by omega), h2.kept (k.block cp hcl (by omega)), h3, h.below.grown hg h.below.size (fun j hj => ?_)⟩
  cases hj
  have := hl.f
  omega
/-- A name whose entry is copied already. -/
theorem CoR.old {w w1 w5 : World} {L : List Reg} {E : Nat → En} {M : Nat → Mc} {D D2 : DataW Unit} {sb mb it fb fm cp cnt1 : Nat} {left : Lit → Bool} {F : Nat → Prop} {nm : List UInt8} (hs : SL F sb mb L E M w) (hl : Lie w mb it fb fm cp)
    (hrg1 : w1.ranges Tryz.prog 9 regElem mb it L.length D (fun z => left z && !z.sameKey (.string nm)) cnt1)
    {L2 : List Reg} {E2 : Nat → En} {M2 : Nat → Mc} {ps : List (Nat × Nat)} (h1 : SL (fun k => k < w.heap.size) fb fm L2 E2 M2 w1) (h2 : CP w1 cp ps) (h3 : Cop L M left L2 M2 ps) (hb : Below w.heap.size w w1)
    (hln : left (.string nm) = true) {v : Nat} (hv : lkC (getS L nm).v ps = some v) (hown : w1.ownsMap Tryz.prog 9 regElem fm L2.length D2) (his : MapIs D2 L2)
    (hown5 : w5.ownsMap Tryz.prog 9 regElem fm (L2.length + 1) (D2.put (.string nm) (regD ⟨nm, v⟩))) (hg5 : w1.grownBy w5 (some fm)) :
    CoR w L M D mb it fb fm cp (fun z => left z && !z.sameKey (.string nm)) cnt1 w5 := by
  have l1 := hl.m
  have l2 := hl.f
  have l3 := hl.fc
  have l4 := hl.ci
  have k := Kept.grown hg5
  have hroom := h3.room hs.sk.asc h1.sk.asc hln
  have hlen := hs.sk.len
  obtain ⟨_, x, hx, hxv⟩ := h3.mm _ v hv
  have hnm : okNm nm = true := by
    have := hs.sk.ok _ (getS_mem L nm (h3.lh nm hln))
    rw [getS_nm] at this; exact this
  have hsk := h1.sk.put hown his ⟨nm, v⟩ hnm (by
    have := h1.sk.ent _ (getS_mem L2 x hx)
    rw [hxv] at this; exact this) (.inr (by omega)) hown5 hg5
  have hsl := (h1.names hsk k (fun r hr => by
    rcases mem_put L2 _ r hr with rfl | hr
    · exact ⟨_, getS_mem L2 x hx, hxv⟩
    · exact ⟨r, hr, rfl⟩)).1
  have hcl : cp < w1.heap.size := by
    obtain ⟨es, c, h4, _⟩ := h2
    exact lt_of_block h4
  refine ⟨hrg1.kept hg5 (fun e => by have := Option.some.inj e; omega) (fun e => by have := Option.some.inj e; omega), ⟨_, _, _, ps, hsl, h2.kept (k.block cp hcl (by omega)), h3.old hln hv⟩, hb.grown hg5 hb.size (fun j hj => by cases hj; exact l2)⟩
/-- A name whose entry is copied now. -/
theorem CoR.new {w w1 w2 w4 w5 : World} {L : List Reg} {E : Nat → En} {M : Nat → Mc} {D D2 : DataW Unit} {sb mb it fb fm cp cnt1 : Nat} {left : Lit → Bool} {F : Nat → Prop} {nm : List UInt8} (hs : SL F sb mb L E M w) (hl : Lie w mb it fb fm cp)
    (hrg1 : w1.ranges Tryz.prog 9 regElem mb it L.length D (fun z => left z && !z.sameKey (.string nm)) cnt1)
    {L2 : List Reg} {E2 : Nat → En} {M2 : Nat → Mc} {ps : List (Nat × Nat)} (h1 : SL (fun k => k < w.heap.size) fb fm L2 E2 M2 w1) (h2 : CP w1 cp ps) (h3 : Cop L M left L2 M2 ps) (hb : Below w.heap.size w w1)
    (hln : left (.string nm) = true) (hv : lkC (getS L nm).v ps = none)
    {A : Option Addr} {n c : Nat} {rs : List RL} (hrow : w2.ownsRow w1.heap.size 39 5 (.slice A n c) n (rs.flatMap rlCs)) (ha2 : All2 (RlIs (Tg w2) w2) rs (M (getS L nm).v).ls) (hn : n = (M (getS L nm).v).ls.length) (hb2 : Below w1.heap.size w1 w2)
    (hg4 : (w2.alloc (.cells (enCs ⟨(E (getS L nm).v).kind, (E (getS L nm).v).tx, A, n, c⟩) 59)).grownBy w4 (some cp)) (h4 : CP w4 cp (ps ++ [((getS L nm).v, w2.heap.size)]))
    (hown : w1.ownsMap Tryz.prog 9 regElem fm L2.length D2) (his : MapIs D2 L2)
    (hown5 : w5.ownsMap Tryz.prog 9 regElem fm (L2.length + 1) (D2.put (.string nm) (regD ⟨nm, w2.heap.size⟩))) (hg5 : w4.grownBy w5 (some fm)) :
    CoR w L M D mb it fb fm cp (fun z => left z && !z.sameKey (.string nm)) cnt1 w5 := by
  have l1 := hl.m
  have l2 := hl.f
  have l3 := hl.fc
  have l4 := hl.ci
  have hz := hb.size
  have hz2 := hb2.size
  obtain ⟨cE, hcE⟩ : ∃ cE : En, cE = ⟨(E (getS L nm).v).kind, (E (getS L nm).v).tx, A, n, c⟩ := ⟨_, rfl⟩
  rw [← hcE] at hg4
  have hz4 : w2.heap.size < w4.heap.size := by have := hg4.size; simp at this; omega
  have hcl : cp < w1.heap.size := by
    obtain ⟨es, c, h4, _⟩ := h2
    exact lt_of_block h4
  have hfl := hown.lt
  have hbA : Below w1.heap.size w1 (w2.alloc (.cells (enCs cE) 59)) := hb2.alloc hz2 _
  -- what the world from w1 on turns
  have k14 : Kept (· = cp) w1 w4 := (Kept.of hbA).trans (Kept.grown hg4)
  have k45 : Kept (· = fm) w4 w5 := Kept.grown hg5
  have k15 : Kept (fun k => k = cp ∨ k = fm) w1 w5 := (k14.mono fun _ h => .inl h).trans (k45.mono fun _ h => .inr h)
  have hent4 : EnAt w4 w2.heap.size cE := (hg4.block w2.heap.size (by simp) (fun e => by have := Option.some.inj e; omega)).trans (heap_alloc_new _ _)
  have hroom := h3.room hs.sk.asc h1.sk.asc hln
  have hlen := hs.sk.len
  have hmem := getS_mem L nm (h3.lh nm hln)
  have hnm : okNm nm = true := by
    have := hs.sk.ok _ hmem
    rw [getS_nm] at this; exact this
  have hfr : ∀ r ∈ L2, r.v ≠ w2.heap.size := fun r hr => by have := h1.sk.elt r hr; omega
  have hsk4 : SK fb fm L2 (upd E2 w2.heap.size cE) w4 := (h1.sk.kept k14 (by have := hl.bc; omega) (by omega) (fun r hr => cp_not h2 _ _ (tag_en (h1.sk.ent r hr)))).congr fun r hr => upd_other _ _ _ (hfr r hr)
  have hown4 : w4.ownsMap Tryz.prog 9 regElem fm L2.length D2 := ownsMap_move hown (k14.block fm hfl (by omega))
  have hsk5 := hsk4.put hown4 his ⟨nm, w2.heap.size⟩ hnm (by rw [upd_same]; exact hent4) (.inr (by omega)) hown5 hg5
  have hen := hs.en _ hmem
  have hz5 := hg5.size
  have k25 : Kept (fun k => k = cp ∨ k = fm) w2 w5 := by
    have k24 : Kept (· = cp) w2 w4 := (Kept.of ((Below.refl w2.heap.size w2).alloc (Nat.le_refl _) _)).trans (Kept.grown hg4)
    exact (k24.mono fun _ h => .inl h).trans (k45.mono fun _ h => .inr h)
  have hcp2 : CP w2 cp ps := h2.kept (hb2.block cp hcl)
  have hfm2 : w2.ownsMap Tryz.prog 9 regElem fm L2.length D2 := ownsMap_move hown (hb2.block fm hfl)
  have hS2 : ∀ e g, Tg w2 e g → ¬ (g = cp ∨ g = fm) := fun e g hg h => h.elim (cp_not hcp2 e g hg) (map_not hfm2 e g hg)
  have hln2 : LnOwn w2 A n c (M (getS L nm).v).ls := ⟨⟨rs, own_zero hrow, ha2⟩, hn⟩
  have hei : EnIs w5 cE (M (getS L nm).v) := by
    subst hcE
    exact ⟨hen.kd, hen.tx, hln2.keep (fun g hg => k25.block g (hln2.tag hg).lt (hS2 _ _ (hln2.tag hg))) (fun e _ b hb => k25.block b hb.lt (hS2 _ _ hb)), hen.ok⟩
  have hS1 : ∀ e g, Tg w1 e g → ¬ (g = cp ∨ g = fm) := fun e g hg h => h.elim (cp_not h2 e g hg) (map_not hown e g hg)
  have hsl := h1.new2 nm w2.heap.size cE (M (getS L nm).v) hz2 hsk5 hei k15 hS1 (fun g hg => by
    subst hcE
    exact (own_tag hrow hg).2)
  have hcl4 : cp < w4.heap.size := by omega
  have g12 : w1.grownBy w2 none := ⟨hb2.os, hb2.tape, hb2.output, hb2.size, fun i hi _ => hb2.block i hi⟩
  refine ⟨(((hrg1.kept g12 (by simp) (by simp)).alloc _).kept hg4 (fun e => by have := Option.some.inj e; omega) (fun e => by have := Option.some.inj e; omega)).kept hg5 (fun e => by have := Option.some.inj e; omega) (fun e => by have := Option.some.inj e; omega), ⟨_, _, _, _, hsl, h4.kept (k45.block cp hcl4 (by omega)), h3.new hln hv hfr⟩, ?_⟩
  have hb4 := ((hb.trans (hb2.mono hz)).alloc (by omega) (.cells (enCs cE) 59)).grown hg4 (by simp; omega) (fun j hj => by cases hj; omega)
  exact hb4.grown hg5 (by omega) (fun j hj => by cases hj; exact l2)
end Go.Proofs.YtgpanlkcpnlejaaGreat
/- The code's store: Copy: its walk. -/
namespace Go.Proofs.YtgpanlkcpnlejaaGreat
open Go.RowKit Go.Maps Go.Sort
set_option maxRecDepth 100000
set_option linter.unusedSimpArgs false
set_option linter.unusedVariables false
theorem key_str {x : ByteArray} {kl : Lit} (h : keyOf Tryz.prog 9 (.string x) = some kl) : kl = .string x.data.toList ∧ x.size ≤ maxLen := by
  obtain ⟨xl, h1, h2, h3⟩ := Maps.keyOf_str Tryz.underlying9 h
  have h4 : x = ⟨xl.toArray⟩ := by
    unfold encStr at h1
    injection h1
  subst h4
  refine ⟨by simpa using h2, ?_⟩
  show xl.toArray.size ≤ maxLen
  simpa using h3
theorem elem_is {D : DataW Unit} {L : List Reg} (h : MapIs D L) {nm : List UInt8} {c : Option Addr} {y : DataW Unit × List MemPlace} (hh : hasS L nm = true) (hv : regElem (.pointer c) = some y) (hat : ∀ zd, D.atKey (.string nm) zd = y.1) : c = some ⟨(getS L nm).v, 0, none⟩ := by
  have h1 := hat (.lit (.int .i64 0))
  rw [h.at_ nm hh] at h1
  obtain ⟨d, ps⟩ := y
  simp only at h1
  subst h1
  have h2 := regElem_inv hv
  unfold regV at h2
  injection h2
theorem ptr_inv (v : Value) (y : DataW Unit × List MemPlace) (h : regElem v = some y) : ∃ c, v = Value.pointer c := by
  unfold regElem at h
  split at h
  · exact ⟨_, rfl⟩
  · exact ⟨_, rfl⟩
  · cases h
/-- A look-up in the map of copies. -/
theorem wpList_look (w : World) {ops : Array Oper} {rest : List Oper} {o : Oper} {a : Act} {Q : Exit → Act → World → Prop}
    (hg : o.guard = none) (m x : Operand) (hop : o.op = Op.lookup 56 m x false) (cp e0 : Nat) (hm : a.eval m = .map (some cp)) (hx : a.eval x = BP e0) (v : Value) (hrun : (Instr.lookup 56 (.map (some cp)) (BP e0) false).run Tryz.prog w = .ok v w)
    (hK : wpList Tryz.prog ops Q rest (a.put o.dst v) w) : wpList Tryz.prog ops Q (o :: rest) a w := by
  refine wpList_plain hg fun K' hK' => ?_
  unfold Oper.wp
  simp [execOp, hop, hm, hx, hrun, Result.andThen]
  exact hK' _ _ hK
/-- A store into the copy's map, as a step of a region that draws. -/
theorem oper_put {w : World} {o : Oper} {a : Act} {K : Act → World → Prop} {Q : Exit → Act → World → Prop}
    (m x v : Operand) (hop : o.op = Op.mapUpdate 44 m x v) (b n : Nat) (D : DataW Unit) (hm : a.eval m = .map (some b)) (hown : w.ownsMap Tryz.prog 9 regElem b n D) (hn : n < maxLen)
    (s : ByteArray) (hs : s.size ≤ maxLen) (u : Nat) (hx : a.eval x = .string s) (hv : a.eval v = BP u)
    (hK : ∀ w', w'.ownsMap Tryz.prog 9 regElem b (n + 1) (D.put (.string s.data.toList) (regD ⟨s.data.toList, u⟩)) → w.grownBy w' (some b) → K (a.put o.dst undef) w') :
    Oper.wp Tryz.prog o a w K Q := by
  obtain ⟨w', hrun, r1, r2⟩ := hown.update law Tryz.underlying44 hn (WideMaps.keyOf_string_mk Tryz.underlying9 hs) (regElem_mk ⟨s.data.toList, u⟩)
  have hrun' : (Instr.mapUpdate 44 (.map (some b)) (.string s) (BP u)).run Tryz.prog w = .ok () w' := hrun
  unfold Oper.wp
  simp [execOp, hop, hm, hx, hv, hrun', Result.andThen]
  exact hK _ r1 r2
/-- A store into the map of copies, as a step of a region that draws. -/
theorem oper_note {w : World} {o : Oper} {a : Act} {K : Act → World → Prop} {Q : Exit → Act → World → Prop}
    (m x v : Operand) (hop : o.op = Op.mapUpdate 56 m x v) (cp e0 u : Nat) {ps : List (Nat × Nat)} {ca : Array Value} {ta : TypeId} (hm : a.eval m = .map (some cp)) (hx : a.eval x = BP e0) (hv : a.eval v = BP u)
    (h : CP w cp ps) (ha : w.heap[e0]? = some (.cells ca ta (0, 0))) (hp : ∀ p ∈ ps, ∃ cb tb, w.heap[p.1]? = some (.cells cb tb (0, 0))) (hl : lkC e0 ps = none)
    (hK : ∀ w', CP w' cp (ps ++ [(e0, u)]) → w.grownBy w' (some cp) → K (a.put o.dst undef) w') :
    Oper.wp Tryz.prog o a w K Q := by
  obtain ⟨w', hrun, r1, r2, _⟩ := h.put (v := u) ha hp hl
  have hrun' : (Instr.mapUpdate 56 (.map (some cp)) (BP e0) (BP u)).run Tryz.prog w = .ok () w' := hrun
  unfold Oper.wp
  simp [execOp, hop, hm, hx, hv, hrun', Result.andThen]
  exact hK _ r1 r2
theorem CoR.start {w w1 w3 : World} {L : List Reg} {M : Nat → Mc} {D : DataW Unit} {mb fb fm : Nat} (his : MapIs D L) (hs : ∀ E M, SL (fun k => k < w.heap.size) fb fm [] E M w1) (hb : Below w.heap.size w w1)
    (hrg : w3.ranges Tryz.prog 9 regElem mb (w1.heap.size + 1) L.length D (Maps.has D) (Maps.size D)) (hg : (w1.alloc (.map #[] 0)).grownBy w3 none) : CoR w L M D mb (w1.heap.size + 1) fb fm w1.heap.size (Maps.has D) (Maps.size D) w3 := by
  have hb1 : Below w1.heap.size w1 (w1.alloc (.map #[] 0)) := (Below.refl _ _).alloc (Nat.le_refl _) _
  have hb3 : Below w1.heap.size w1 w3 := hb1.grown hg (by simp) (fun j hj => by cases hj)
  refine ⟨hrg, ⟨[], fun _ => ⟨0, ⟨#[]⟩, none, 0, 0⟩, fun _ => M0, [], (hs _ _).below hb3, ⟨#[], 0, ?_, rfl⟩, Cop.start his⟩, hb.trans (hb3.mono hb.size)⟩
  exact (hg.block w1.heap.size (by simp) (by simp)).trans (heap_alloc_new _ _)
end Go.Proofs.YtgpanlkcpnlejaaGreat
/- The code's store: Copy. -/
namespace Go.Proofs.YtgpanlkcpnlejaaGreat
open Go.RowKit Go.Maps Go.Sort
set_option maxRecDepth 100000
set_option linter.unusedSimpArgs false
set_option linter.unusedVariables false
theorem frame_none {w w' : World} (h : Below w.heap.size w w') : w.grownBy w' none := ⟨h.os, h.tape, h.output, h.size, fun i hi _ => h.block i hi⟩
theorem ln_ok {m : Mc} (h : mcOk m) : m.ls.all okLn = true ∧ m.ls.length ≤ 2000 := by
  rcases h with ⟨_, _, h⟩ | ⟨_, _, h1, h2⟩
  · rw [h]; exact ⟨rfl, by simp⟩
  · exact ⟨h2, h1⟩
/-- What region 10 reads stays, whatever is put into the copy's map. -/
theorem held_after {w4 w5 : World} {fb fm cp v0 : Nat} {L2 : List Reg} {E2 : Nat → En} {ps : List (Nat × Nat)} {ca : Array Value} {ta : TypeId} (hsk : SK fb fm L2 E2 w4) (hcp : CP w4 cp ps) (hc : fm < cp) (hE : w4.heap[v0]? = some (.cells ca ta (0, 0))) (hv : v0 < fm)
    (hks : ∀ p ∈ ps, p.1 < fm ∧ ∃ cb tb, w4.heap[p.1]? = some (.cells cb tb (0, 0))) (hg : w4.grownBy w5 (some fm)) :
    w5.cell? ⟨fb, 0, none⟩ = some (.map (some fm)) ∧ (Instr.lookup 56 (.map (some cp)) (BP v0) false).run Tryz.prog w5 = .ok (.pointer ((lkC v0 ps).map fun v => ⟨v, 0, none⟩)) w5 := by
  have hb : ∀ i, i < w4.heap.size → i ≠ fm → w5.heap[i]? = w4.heap[i]? := fun i hi hne => hg.block i hi (fun e => hne (by simpa using e))
  have hcl : cp < w4.heap.size := by
    obtain ⟨es, c, h4, _⟩ := hcp
    exact lt_of_block h4
  refine ⟨?_, (hcp.kept (hb cp hcl (by omega))).look ((hb v0 (lt_of_block hE) (by omega)).trans hE) (fun p hp => ?_)⟩
  · have : w5.heap[fb]? = _ := (hb fb hsk.lt.1 hsk.ne).trans hsk.cell
    simp [World.cell?, this]
  · obtain ⟨h1, cb, tb, h2⟩ := hks p hp
    exact ⟨cb, tb, (hb p.1 (lt_of_block h2) (by omega)).trans h2⟩
theorem cell_heap {W w : World} (h : W.heap = w.heap) (p : Addr) : W.cell? p = w.cell? p := by
  unfold World.cell?
  rw [h]
theorem ent_three {w : World} {b : Nat} {e : En} (h : w.heap[b]? = some (.cells (enCs e) 59 (0, 0))) : w.cell? ⟨b, 0, none⟩ = some (.int .i64 e.kind) ∧ w.cell? ⟨b, 1, none⟩ = some (.string e.tx) ∧ w.cell? ⟨b, 2, none⟩ = some (.slice e.lo e.ln e.lc) := by
  simp [World.cell?, h, enCs]
set_option maxHeartbeats 1000000 in
theorem copy_call {F : Nat → Prop} {sb mb : Nat} {L : List Reg} {M : Nat → Mc} {w : World} (h : SA F sb mb L M w) :
    Calls Tryz.prog 12 #[BP sb] w fun e w' => ∃ cb cm L2 M2, e = .returned (BP cb) ∧ SA (fun k => k < w.heap.size) cb cm L2 M2 w' ∧ Corr L M L2 M2 ∧ Below w.heap.size w w' := by
  have hmm := @run_makeMap Tryz.prog
  obtain ⟨E, h⟩ := h
  have HM := Lib.hid (made_any h.sk)
  have HC := Lib.hid h.sk.c0
  obtain ⟨D, hown, his⟩ := h.sk.map
  have HOWN := Lib.hid hown
  have HIS := Lib.hid his
  have HSL := Lib.hid h
  have HLT := Lib.hid h.sk.lt
  have HNL := Lib.hid (newL_any (F := fun k => k < w.heap.size) w (fun k hk => hk))
  have hc := h.sk.c0
  clear h hown his
  go_enter Tryz.func12, Tryz.ntmps12
  go_wp2_with fail
  refine HM.out.mono ?_
  rintro e w0 ⟨rfl, rfl⟩
  go_wp2_with fail
  refine HNL.out.mono ?_
  rintro e w1 ⟨rfl, hs2, hb1⟩
  obtain ⟨fb, hfb⟩ : ∃ fb, fb = w.heap.size + 1 := ⟨_, rfl⟩
  obtain ⟨fm, hfm⟩ : ∃ fm, fm = w.heap.size := ⟨_, rfl⟩
  have hs2' : ∀ E M, SL (fun k => k < w.heap.size) fb fm [] E M w1 := by rw [hfb, hfm]; exact hs2
  have hfl := (hs2' (fun _ => ⟨0, ⟨#[]⟩, none, 0, 0⟩) (fun _ => M0)).sk.lt
  have HLIE : Hid (Lie w mb (w1.heap.size + 1) fb fm w1.heap.size) := Lib.hid ⟨HLT.out.2, by omega, hfl.2, hfl.1, by omega, by omega⟩
  rw [← hfb]
  have HS2 := Lib.hid hs2'
  have HB1 := Lib.hid hb1
  have hba := hb1.alloc hb1.size (.map #[] 0)
  have hc1 := (hba.cell (p := ⟨sb, 0, none⟩) HLT.out.1).trans hc
  have HOWN1 := Lib.hid (ownsMap_move HOWN.out (hba.block mb HLT.out.2))
  clear hs2 hs2' hb1 hfl hfb hfm hba hc
  go_wp2_with (first | (at_range; refine wpList_range_own _ rfl _ 44 rfl 9 57 law Tryz.underlying44 regElem mb L.length D rfl HOWN1.out ?_; intro w3 hrg0 hg0 hs0) | go_in)
  go_frame
  have e1 : (w1.alloc (.map #[] 0)).heap.size = w1.heap.size + 1 := by simp
  rw [e1] at hrg0 hs0 ⊢
  have HST := Lib.hid (CoR.start (M := M) HIS.out HS2.out HB1.out hrg0 hg0)
  clear hrg0 hg0 hs0 e1 hc1
  go_loopw [5, 6] (fun _ _ wr => ∃ (left : Lit → Bool) (cnt : Nat), CoR w L M D mb (w1.heap.size + 1) fb fm w1.heap.size left cnt wr) (fun _ _ wr => wr.rangeLeft mb (w1.heap.size + 1))
  case atStart => exact ⟨_, _, HST.out⟩
  case round =>
    obtain ⟨left, cnt, hco⟩ := hrel
    have hrg := hco.rg
    have HCO := Lib.hid hco
    clear hco
    go_wp2_with (first | (at_next; refine wpList_next_ranges _ rfl _ rfl 9 law regElem Value.string Value.pointer (fun key kl h => Maps.keyOf_string_inv Tryz.underlying9 h) ptr_inv mb (w1.heap.size + 1) L.length D _ _ rfl hrg ?_ ?_) | go_in)
    · intro hc0 hl0
      have HL0 := Lib.hid hl0
      clear hc0 hl0 hrg
      go_wp2_with fail
      go_ret
      obtain ⟨L2, E2, M2, ps, hsl, _, hcop⟩ := HCO.out.ex
      exact ⟨fb, fm, L2, M2, rfl, ⟨E2, hsl⟩, hcop.done HSL.out.sk.asc hsl.sk.asc HL0.out, HCO.out.below⟩
    · intro x c kl yd yp w4 cnt1 hkey hlk hv hat hrg1 hlt hg1 hs1 hen
      obtain ⟨rfl, hxs⟩ := key_str hkey
      obtain ⟨L2, E2, M2, ps, hsl, hcp, hcop, hbw⟩ := HCO.out.next HLIE.out hg1 hrg1
      have hh := hcop.lh _ hlk
      have hce := elem_is (y := (yd, yp)) HIS.out hh hv hat
      have hmem := getS_mem L _ hh
      have hent := HSL.out.sk.ent _ hmem
      have HEN := Lib.hid (HSL.out.en _ hmem)
      obtain ⟨v0, hv0⟩ : ∃ v0, v0 = (getS L x.data.toList).v := ⟨_, rfl⟩
      rw [← hv0] at hce hent HEN
      subst hce
      have HV0 := Lib.hid hv0
      have hvl : v0 < w.heap.size := lt_of_block hent
      have hE4 : w4.heap[v0]? = some (.cells (enCs (E v0)) 59 (0, 0)) := (hbw.block v0 hvl).trans hent
      have hks : ∀ p ∈ ps, p.1 < w.heap.size ∧ ∃ cb tb, w4.heap[p.1]? = some (.cells cb tb (0, 0)) := fun p hp => by
        obtain ⟨r, hr, e⟩ := hcop.key p hp
        have h1 := HSL.out.sk.ent r hr
        rw [e] at h1
        exact ⟨lt_of_block h1, _, _, (hbw.block _ (lt_of_block h1)).trans h1⟩
      have HLK : Hid (∀ W : World, W.heap = w4.heap → (Instr.lookup 56 (.map (some w1.heap.size)) (BP v0) false).run Tryz.prog W = .ok (.pointer ((lkC v0 ps).map fun v => ⟨v, 0, none⟩)) W) := Lib.hid fun W hW =>
        (hcp.kept (by rw [hW])).look (by rw [hW]; exact hE4) (fun p hp => by rw [hW]; exact (hks p hp).2)
      obtain ⟨D2, hown2, his2⟩ := hsl.sk.map
      have HS := Lib.hid hsl
      have HCP := Lib.hid hcp
      have HCOP := Lib.hid hcop
      have HBW := Lib.hid hbw
      have HH := Lib.hid hh
      have HLN := Lib.hid hlk
      have HRG := Lib.hid hrg
      have HRG1 := Lib.hid hrg1
      have HLT1 := Lib.hid hlt
      have HXS := Lib.hid hxs
      have HE4 := Lib.hid hE4
      have HKS := Lib.hid hks
      have HKS2 : Hid (∀ p ∈ ps, p.1 < fm ∧ ∃ cb tb, w4.heap[p.1]? = some (.cells cb tb (0, 0))) := Lib.hid fun p hp => ⟨Nat.lt_of_lt_of_le (hks p hp).1 HLIE.out.f, (hks p hp).2⟩
      have HO2 := Lib.hid hown2
      have HI2 := Lib.hid his2
      have HVL := Lib.hid hvl
      have hl2 : L2.length < maxLen := by
        have := hsl.sk.len
        unfold maxLen; omega
      have HL2 := Lib.hid hl2
      clear hkey hlk hv hat hrg1 hlt hg1 hs1 hrg hxs hsl hcp hcop hbw hh hmem hent hv0 hvl hE4 hks hown2 his2 hl2
      cases hlc : lkC v0 ps with
      | some v =>
        have hlook := HLK.out w4 rfl
        rw [hlc] at hlook
        simp only [Option.map] at hlook
        have HLC := Lib.hid hlc
        have HLKV : Hid (∀ W : World, W.heap = w4.heap → (Instr.lookup 56 (.map (some w1.heap.size)) (BP v0) false).run Tryz.prog W = .ok (BP v) W) := Lib.hid fun W hW => by
          have := HLK.out W hW
          rw [hlc] at this; exact this
        clear hlc
        go_wp2_with (first | (at_lookup; refine wpList_look _ rfl _ _ rfl w1.heap.size v0 rfl rfl _ hlook ?_) | go_in)
        have HOD : Hid (w4.drew.ownsMap Tryz.prog 9 regElem fm L2.length D2) := Lib.hid (ownsMap_move HO2.out rfl)
        have HFB : Hid (∀ W : World, W.heap = w4.heap → W.cell? ⟨fb, 0, none⟩ = some (.map (some fm))) := Lib.hid fun W hW => (cell_heap hW _).trans HS.out.sk.c0
        refine wp_region_held_drew (S := fun w' => w'.cell? ⟨fb, 0, none⟩ = some (.map (some fm)) ∧ (Instr.lookup 56 (.map (some w1.heap.size)) (BP v0) false).run Tryz.prog w' = .ok (BP v) w') (by kernel_rfl) ⟨HFB.out w4.drew rfl, HLKV.out w4.drew rfl⟩ (fun hHeld => ?_)
        refine wpAnyH_take (i := 0) (v := ?_) rfl (by kernel_rfl) (by kernel_rfl) (by kernel_rfl) (fun _ _ _ h => h) (Or.inl ⟨rfl, ?_⟩) (by assumption) ?_
        rotate_left
        · (intro w' hSw; (try dsimp only at hSw); go_simp; try with_reducible rfl)
        simp only [List.getElem_toArray, List.getElem_cons_succ, List.getElem_cons_zero, Act.put, List.setIfInBounds_toArray, List.set_cons_zero, List.set_cons_succ]
        refine wpAnyH_take (i := 1) (v := ?_) rfl (by kernel_rfl) (by kernel_rfl) (by kernel_rfl) (fun _ _ _ h => h) (Or.inl ⟨rfl, ?_⟩) (by assumption) ?_
        rotate_left
        · (intro w' hSw; (try dsimp only at hSw); go_simp; try with_reducible rfl)
        simp only [List.getElem_toArray, List.getElem_cons_succ, List.getElem_cons_zero, Act.put, List.setIfInBounds_toArray, List.set_cons_zero, List.set_cons_succ]
        refine wpAnyH_take (i := 2) (v := ?_) rfl (by kernel_rfl) (by kernel_rfl) (by kernel_rfl) (fun _ _ _ h => h) (Or.inl ⟨rfl, ?_⟩) (by assumption) ?_
        rotate_left
        · (intro w' hSw; (try dsimp only at hSw); go_simp; try with_reducible rfl)
        simp only [List.getElem_toArray, List.getElem_cons_succ, List.getElem_cons_zero, Act.put, List.setIfInBounds_toArray, List.set_cons_zero, List.set_cons_succ]
        refine wpAnyH_take (i := 3) (v := ?_) rfl (by kernel_rfl) (by kernel_rfl) (by kernel_rfl) (fun _ _ _ h => h) (Or.inl ⟨rfl, ?_⟩) (by assumption) ?_
        rotate_left
        · (intro w' hSw; (try dsimp only at hSw); go_simp; try with_reducible rfl)
        simp only [List.getElem_toArray, List.getElem_cons_succ, List.getElem_cons_zero, Act.put, List.setIfInBounds_toArray, List.set_cons_zero, List.set_cons_succ]
        refine wpAnyH_take (i := 4) (v := ?_) rfl (by kernel_rfl) (by kernel_rfl) (by kernel_rfl) (fun _ _ _ h => h) (Or.inl ⟨rfl, ?_⟩) (by assumption) ?_
        rotate_left
        · (intro w' hSw; (try dsimp only at hSw); go_simp; try with_reducible rfl)
        simp only [List.getElem_toArray, List.getElem_cons_succ, List.getElem_cons_zero, Act.put, List.setIfInBounds_toArray, List.set_cons_zero, List.set_cons_succ]
        refine wpAnyH_take (i := 5) (v := ?_) rfl (by kernel_rfl) (by kernel_rfl) (by kernel_rfl) (fun _ _ _ h => h) (Or.inl ⟨rfl, ?_⟩) (by assumption) ?_
        rotate_left
        · (intro w' hSw; (try dsimp only at hSw); go_simp; try with_reducible rfl)
        simp only [List.getElem_toArray, List.getElem_cons_succ, List.getElem_cons_zero, Act.put, List.setIfInBounds_toArray, List.set_cons_zero, List.set_cons_succ]
        refine wpAnyH_take (i := 6) (v := ?_) rfl (by kernel_rfl) (by kernel_rfl) (by kernel_rfl) (fun _ _ _ h => h) (Or.inl ⟨rfl, ?_⟩) (by assumption) ?_
        rotate_left
        · (intro w' hSw; (try dsimp only at hSw); go_simp; try with_reducible rfl)
        simp only [List.getElem_toArray, List.getElem_cons_succ, List.getElem_cons_zero, Act.put, List.setIfInBounds_toArray, List.set_cons_zero, List.set_cons_succ]
        refine wpAnyH_take (i := 7) (v := BP v) rfl (by kernel_rfl) (by kernel_rfl) (by kernel_rfl) (fun _ _ _ h => h) (Or.inl ⟨rfl, fun w' hSw => ?_⟩) (by assumption) ?_
        · have h2 := hSw.2
          simp [execOp, Act.eval, h2, Result.andThen]
        simp only [List.getElem_toArray, List.getElem_cons_succ, List.getElem_cons_zero, Act.put, List.setIfInBounds_toArray, List.set_cons_zero, List.set_cons_succ]
        refine wpAnyH_ready (rs := [8]) (by kernel_rfl) (by simp) (AllReadyH.cons rfl (fun K hK => ?_) AllReadyH.nil)
        rw [if_pos (by rfl)]
        simp only [List.getElem_toArray, List.getElem_cons_succ, List.getElem_cons_zero, Act.put]
        refine oper_put (.tmp 46) (.tmp 47) (.tmp 50) rfl fm L2.length D2 (by simp [Act.eval]) (w := w4.drew) HOD.out HL2.out x HXS.out v (by simp [Act.eval]) (by simp [Act.eval]) ?_
        intro w9 hown9 hg9
        have hg9' : w4.grownBy w9 (some fm) := ⟨hg9.os, hg9.tape, hg9.output, hg9.size, hg9.block⟩
        have HCF := Lib.hid (CoR.old HSL.out HLIE.out HRG1.out HS.out HCP.out HCOP.out HBW.out HLN.out (by rw [← HV0.out]; exact HLC.out) HO2.out HI2.out hown9 hg9')
        have hHA := held_after HS.out.sk HCP.out HLIE.out.fc HE4.out (Nat.lt_of_lt_of_le HVL.out HLIE.out.f) (fun p hp => HKS2.out p hp) hg9'
        rw [HLC.out] at hHA
        simp only [Option.map] at hHA
        clear hown9 hg9 hg9'
        refine hK.out _ _ hHA (fun hHeld => ?_)
        clear hK K hHA
        try simp only [Act.put, List.setIfInBounds_toArray, List.set_cons_zero, List.set_cons_succ]
        refine wpAnyH_done (by kernel_rfl) ?_ _
        go_wp2_with fail
        go_roundw
        case rel => exact ⟨_, cnt1, HCF.out⟩
        case measure => rw [HCF.out.rg.left_eq, HRG.out.left_eq]; exact HLT1.out
      | none =>
        have hlook := HLK.out w4 rfl
        rw [hlc] at hlook
        simp only [Option.map] at hlook
        have HLC := Lib.hid hlc
        clear hlc
        go_wp2_with (first | (at_lookup; refine wpList_look _ rfl _ _ rfl w1.heap.size v0 rfl rfl _ hlook ?_) | go_in)
        have hcells := ent_three HE4.out
        obtain ⟨en, hEE⟩ : ∃ en, en = E v0 := ⟨_, rfl⟩
        rw [← hEE] at hcells
        have HEE := Lib.hid hEE
        have hbd : Below w.heap.size w w4.drew := ⟨HBW.out.os, HBW.out.tape, HBW.out.output, HBW.out.size, HBW.out.block⟩
        have hln := HEN.out.ln.below hbd
        rw [← hEE] at hln
        obtain ⟨hat, hnil⟩ := hln.reads
        have hok := ln_ok HEN.out.ok
        have HLEN := Lib.hid hln.len
        have HCL : Hid (Calls Tryz.prog 38 #[.slice en.lo en.ln en.lc] w4.drew fun e w' => ∃ A' c' rs, e = .returned (.slice A' en.ln c') ∧ w'.ownsRow w4.heap.size 39 5 (.slice A' en.ln c') en.ln (rs.flatMap rlCs) ∧ All2 (RlIs (Tg w') w') rs (M v0).ls ∧ Below w4.heap.size w4 w') := Lib.hid
          ((copyLines_any (w := w4.drew) (c := en.lc) hat (fun e b hb => hb.lt) hnil (by have := hln.len; omega) (okLn_bx hok.1)).mono fun e w' ⟨A', c', rs, h1, h2, h3, h4⟩ => ⟨A', c', rs, h1, h2, h3, ⟨h4.os, h4.tape, h4.output, h4.size, h4.block⟩⟩)
        have HCS : Hid (∀ W : World, W.heap[v0]? = w4.heap[v0]? → W.cell? ⟨v0, 0, none⟩ = some (.int .i64 en.kind) ∧ W.cell? ⟨v0, 1, none⟩ = some (.string en.tx) ∧ W.cell? ⟨v0, 2, none⟩ = some (.slice en.lo en.ln en.lc)) := Lib.hid fun W hW => by
          rw [hEE]
          exact ent_three (hW.trans HE4.out)
        obtain ⟨kd, tx, lo, ln, lc⟩ := en
        simp only at hcells HCL HCS HLEN
        clear hbd hln hat hnil hok hEE hcells
        refine wp_region_held_drew (S := fun w' => w'.cell? ⟨v0, 0, none⟩ = some (.int .i64 kd) ∧ w'.cell? ⟨v0, 1, none⟩ = some (.string tx) ∧ w'.cell? ⟨v0, 2, none⟩ = some (.slice lo ln lc)) (by kernel_rfl) (HCS.out w4.drew rfl) (fun hHeld => ?_)
        refine wpAnyH_take (i := 0) (v := ?_) rfl (by kernel_rfl) (by kernel_rfl) (by kernel_rfl) (fun _ _ _ h => h) (Or.inl ⟨rfl, ?_⟩) (by assumption) ?_
        rotate_left
        · (intro w' hSw; (try dsimp only at hSw); go_simp; try with_reducible rfl)
        simp only [List.getElem_toArray, List.getElem_cons_succ, List.getElem_cons_zero, Act.put, List.setIfInBounds_toArray, List.set_cons_zero, List.set_cons_succ]
        refine wpAnyH_take (i := 1) (v := ?_) rfl (by kernel_rfl) (by kernel_rfl) (by kernel_rfl) (fun _ _ _ h => h) (Or.inl ⟨rfl, ?_⟩) (by assumption) ?_
        rotate_left
        · (intro w' hSw; (try dsimp only at hSw); go_simp; try with_reducible rfl)
        simp only [List.getElem_toArray, List.getElem_cons_succ, List.getElem_cons_zero, Act.put, List.setIfInBounds_toArray, List.set_cons_zero, List.set_cons_succ]
        refine wpAnyH_take (i := 2) (v := ?_) rfl (by kernel_rfl) (by kernel_rfl) (by kernel_rfl) (fun _ _ _ h => h) (Or.inl ⟨rfl, ?_⟩) (by assumption) ?_
        rotate_left
        · (intro w' hSw; (try dsimp only at hSw); go_simp; try with_reducible rfl)
        simp only [List.getElem_toArray, List.getElem_cons_succ, List.getElem_cons_zero, Act.put, List.setIfInBounds_toArray, List.set_cons_zero, List.set_cons_succ]
        refine wpAnyH_take (i := 3) (v := ?_) rfl (by kernel_rfl) (by kernel_rfl) (by kernel_rfl) (fun _ _ _ h => h) (Or.inl ⟨rfl, ?_⟩) (by assumption) ?_
        rotate_left
        · (intro w' hSw; (try dsimp only at hSw); go_simp; try with_reducible rfl)
        simp only [List.getElem_toArray, List.getElem_cons_succ, List.getElem_cons_zero, Act.put, List.setIfInBounds_toArray, List.set_cons_zero, List.set_cons_succ]
        refine wpAnyH_take (i := 4) (v := ?_) rfl (by kernel_rfl) (by kernel_rfl) (by kernel_rfl) (fun _ _ _ h => h) (Or.inl ⟨rfl, ?_⟩) (by assumption) ?_
        rotate_left
        · (intro w' hSw; (try dsimp only at hSw); go_simp; try with_reducible rfl)
        simp only [List.getElem_toArray, List.getElem_cons_succ, List.getElem_cons_zero, Act.put, List.setIfInBounds_toArray, List.set_cons_zero, List.set_cons_succ]
        refine wpAnyH_take (i := 5) (v := ?_) rfl (by kernel_rfl) (by kernel_rfl) (by kernel_rfl) (fun _ _ _ h => h) (Or.inl ⟨rfl, ?_⟩) (by assumption) ?_
        rotate_left
        · (intro w' hSw; (try dsimp only at hSw); go_simp; try with_reducible rfl)
        simp only [List.getElem_toArray, List.getElem_cons_succ, List.getElem_cons_zero, Act.put, List.setIfInBounds_toArray, List.set_cons_zero, List.set_cons_succ]
        refine wpAnyH_take (i := 6) (v := ?_) rfl (by kernel_rfl) (by kernel_rfl) (by kernel_rfl) (fun _ _ _ h => h) (Or.inl ⟨rfl, ?_⟩) (by assumption) ?_
        rotate_left
        · (intro w' hSw; (try dsimp only at hSw); go_simp; try with_reducible rfl)
        simp only [List.getElem_toArray, List.getElem_cons_succ, List.getElem_cons_zero, Act.put, List.setIfInBounds_toArray, List.set_cons_zero, List.set_cons_succ]
        refine wpAnyH_take (i := 7) (v := ?_) rfl (by kernel_rfl) (by kernel_rfl) (by kernel_rfl) (fun _ _ _ h => h) (Or.inl ⟨rfl, ?_⟩) (by assumption) ?_
        rotate_left
        · (intro w' hSw; (try dsimp only at hSw); go_simp; try with_reducible rfl)
        simp only [List.getElem_toArray, List.getElem_cons_succ, List.getElem_cons_zero, Act.put, List.setIfInBounds_toArray, List.set_cons_zero, List.set_cons_succ]
        refine wpAnyH_take (i := 8) (v := ?_) rfl (by kernel_rfl) (by kernel_rfl) (by kernel_rfl) (fun _ _ _ h => h) (Or.inl ⟨rfl, ?_⟩) (by assumption) ?_
        rotate_left
        · (intro w' hSw; (try dsimp only at hSw); go_simp; try with_reducible rfl)
        simp only [List.getElem_toArray, List.getElem_cons_succ, List.getElem_cons_zero, Act.put, List.setIfInBounds_toArray, List.set_cons_zero, List.set_cons_succ]
        refine wpAnyH_take (i := 9) (v := ?_) rfl (by kernel_rfl) (by kernel_rfl) (by kernel_rfl) (fun _ _ _ h => h) (Or.inl ⟨rfl, ?_⟩) (by assumption) ?_
        rotate_left
        · (intro w' hSw; (try dsimp only at hSw); go_simp; try with_reducible rfl)
        simp only [List.getElem_toArray, List.getElem_cons_succ, List.getElem_cons_zero, Act.put, List.setIfInBounds_toArray, List.set_cons_zero, List.set_cons_succ]
        refine wpAnyH_take (i := 10) (v := ?_) rfl (by kernel_rfl) (by kernel_rfl) (by kernel_rfl) (fun _ _ _ h => h) (Or.inl ⟨rfl, ?_⟩) (by assumption) ?_
        rotate_left
        · (intro w' hSw; (try dsimp only at hSw); go_simp; try with_reducible rfl)
        simp only [List.getElem_toArray, List.getElem_cons_succ, List.getElem_cons_zero, Act.put, List.setIfInBounds_toArray, List.set_cons_zero, List.set_cons_succ]
        refine wpAnyH_take (i := 11) (v := ?_) rfl (by kernel_rfl) (by kernel_rfl) (by kernel_rfl) (fun _ _ _ h => h) (Or.inl ⟨rfl, ?_⟩) (by assumption) ?_
        rotate_left
        · (intro w' hSw; (try dsimp only at hSw); go_simp; try with_reducible rfl)
        simp only [List.getElem_toArray, List.getElem_cons_succ, List.getElem_cons_zero, Act.put, List.setIfInBounds_toArray, List.set_cons_zero, List.set_cons_succ]
        refine wpAnyH_take (i := 12) (v := ?_) rfl (by kernel_rfl) (by kernel_rfl) (by kernel_rfl) (fun _ _ _ h => h) (Or.inl ⟨rfl, ?_⟩) (by assumption) ?_
        rotate_left
        · (intro w' hSw; (try dsimp only at hSw); go_simp; try with_reducible rfl)
        simp only [List.getElem_toArray, List.getElem_cons_succ, List.getElem_cons_zero, Act.put, List.setIfInBounds_toArray, List.set_cons_zero, List.set_cons_succ]
        refine wpAnyH_take (i := 13) (v := ?_) rfl (by kernel_rfl) (by kernel_rfl) (by kernel_rfl) (fun _ _ _ h => h) (Or.inl ⟨rfl, ?_⟩) (by assumption) ?_
        rotate_left
        · (intro w' hSw; (try dsimp only at hSw); go_simp; try with_reducible rfl)
        simp only [List.getElem_toArray, List.getElem_cons_succ, List.getElem_cons_zero, Act.put, List.setIfInBounds_toArray, List.set_cons_zero, List.set_cons_succ]
        refine wpAnyH_ready (rs := [14]) (by kernel_rfl) (by simp) (AllReadyH.cons rfl (fun K hK => ?_) AllReadyH.nil)
        go_simp; go_at_call 38; refine HCL.out.mono ?_
        rintro e w5 ⟨A', c', rs, rfl, hrow5, hall5, hb5⟩
        have HROW5 := Lib.hid hrow5
        have HALL5 := Lib.hid hall5
        have HB5 := Lib.hid hb5
        have hvl4 : v0 < w4.heap.size := lt_of_block HE4.out
        have hba : Below w4.heap.size w4 (w5.alloc (.cells (enCs ⟨kd, tx, A', ln, c'⟩) 59)) := hb5.alloc hb5.size _
        have HBA := Lib.hid hba
        have HCPA := Lib.hid (HCP.out.kept (hba.block w1.heap.size (by
          obtain ⟨es, c, h4, _⟩ := HCP.out
          exact lt_of_block h4)))
        have HEA := Lib.hid ((hba.block v0 hvl4).trans HE4.out)
        have HKA : Hid (∀ p ∈ ps, ∃ cb tb, (w5.alloc (.cells (enCs ⟨kd, tx, A', ln, c'⟩) 59)).heap[p.1]? = some (.cells cb tb (0, 0))) := Lib.hid fun p hp => by
          obtain ⟨_, cb, tb, h2⟩ := HKS.out p hp
          exact ⟨cb, tb, (hba.block _ (lt_of_block h2)).trans h2⟩
        have cs5 := HCS.out w5 (hb5.block v0 hvl4)
        have csA := HCS.out _ (hba.block v0 hvl4)
        clear hrow5 hall5 hb5 hba
        refine hK.out _ _ cs5 (fun hHeld => ?_)
        clear hK K
        try simp only [Act.put, List.setIfInBounds_toArray, List.set_cons_zero, List.set_cons_succ]
        refine wpAnyH_take (i := 15) (v := ?_) rfl (by kernel_rfl) (by kernel_rfl) (by kernel_rfl) (fun _ _ _ h => h) (Or.inl ⟨rfl, ?_⟩) (by assumption) ?_
        rotate_left
        · (intro w' hSw; (try dsimp only at hSw); go_simp; try with_reducible rfl)
        simp only [List.getElem_toArray, List.getElem_cons_succ, List.getElem_cons_zero, Act.put, List.setIfInBounds_toArray, List.set_cons_zero, List.set_cons_succ]
        refine wpAnyH_ready (rs := [16]) (by kernel_rfl) (by simp) (AllReadyH.cons rfl (fun K hK => ?_) AllReadyH.nil)
        go_simp
        refine hK.out _ _ csA (fun hHeld => ?_)
        clear hK K
        try simp only [Act.put, List.setIfInBounds_toArray, List.set_cons_zero, List.set_cons_succ]
        refine wpAnyH_ready (rs := [17]) (by kernel_rfl) (by simp) (AllReadyH.cons rfl (fun K hK => ?_) AllReadyH.nil)
        rw [if_pos (by rfl)]
        simp only [List.getElem_toArray, List.getElem_cons_succ, List.getElem_cons_zero, Act.put]
        refine oper_note (.tmp 26) (.tmp 27) (.tmp 42) rfl w1.heap.size v0 w5.heap.size (by simp [Act.eval]) (by simp [Act.eval]) (by simp [Act.eval]) HCPA.out HEA.out HKA.out HLC.out ?_
        intro w6 hcp6 hg6
        have hg6' : (w5.alloc (.cells (enCs ⟨kd, tx, A', ln, c'⟩) 59)).grownBy w6 (some w1.heap.size) := hg6
        have hb6 : ∀ i, i < w4.heap.size → i ≠ w1.heap.size → w6.heap[i]? = w4.heap[i]? := fun i hi hne => (hg6'.block i (by have := HBA.out.size; omega) (fun e => hne (by simpa using e))).trans (HBA.out.block i hi)
        have hcw : fm < w1.heap.size := HLIE.out.fc
        have hfw := HLIE.out.f
        have hvw : v0 < w.heap.size := HVL.out
        have cs6 := HCS.out w6 (hb6 v0 hvl4 (by omega))
        have HG6 := Lib.hid hg6'
        have HCP6 := Lib.hid hcp6
        have HE6 := Lib.hid ((hb6 v0 hvl4 (by omega)).trans HE4.out)
        have HSK6 : Hid (SK fb fm L2 E2 w6) := Lib.hid (HS.out.sk.kept (S := (· = w1.heap.size)) ((Kept.of HBA.out).trans (Kept.grown hg6')) (by have := HLIE.out.bc; omega) (by omega) (fun r hr => cp_not HCP.out _ _ (tag_en (HS.out.sk.ent r hr))))
        have HO6 : Hid (w6.ownsMap Tryz.prog 9 regElem fm L2.length D2) := Lib.hid (ownsMap_move HO2.out (hb6 fm HO2.out.lt (by omega)))
        have HKS6 : Hid (∀ p ∈ ps ++ [(v0, w5.heap.size)], p.1 < fm ∧ ∃ cb tb, w6.heap[p.1]? = some (.cells cb tb (0, 0))) := Lib.hid fun p hp => by
          rcases List.mem_append.1 hp with hp | hp
          · obtain ⟨h1, cb, tb, h2⟩ := HKS.out p hp
            exact ⟨by omega, cb, tb, (hb6 _ (lt_of_block h2) (by omega)).trans h2⟩
          · obtain rfl : p = (v0, w5.heap.size) := by simpa using hp
            exact ⟨by show v0 < fm; omega, _, _, HE6.out⟩
        have HLC6 : Hid (lkC v0 (ps ++ [(v0, w5.heap.size)]) = some w5.heap.size) := Lib.hid (by rw [lk_append HLC.out, if_pos rfl])
        have HLKV6 : Hid (∀ W : World, W.heap = w6.heap → (Instr.lookup 56 (.map (some w1.heap.size)) (BP v0) false).run Tryz.prog W = .ok (BP w5.heap.size) W) := Lib.hid fun W hW => by
          have := (HCP6.out.kept (w' := W) (by rw [hW])).look (a := v0) (by rw [hW]; exact HE6.out) (fun p hp => by rw [hW]; exact (HKS6.out p hp).2)
          rw [HLC6.out] at this; exact this
        clear hcp6 hg6 hg6' hb6 hcw hfw hvw hvl4 csA cs5
        refine hK.out _ _ cs6 (fun hHeld => ?_)
        clear hK K cs6
        try simp only [Act.put, List.setIfInBounds_toArray, List.set_cons_zero, List.set_cons_succ]
        refine wpAnyH_done (by kernel_rfl) ?_ _
        go_wp2_with fail
        have HOD : Hid (w6.drew.ownsMap Tryz.prog 9 regElem fm L2.length D2) := Lib.hid (ownsMap_move HO6.out rfl)
        have HFB : Hid (∀ W : World, W.heap = w6.heap → W.cell? ⟨fb, 0, none⟩ = some (.map (some fm))) := Lib.hid fun W hW => (cell_heap hW _).trans HSK6.out.c0
        refine wp_region_held_drew (S := fun w' => w'.cell? ⟨fb, 0, none⟩ = some (.map (some fm)) ∧ (Instr.lookup 56 (.map (some w1.heap.size)) (BP v0) false).run Tryz.prog w' = .ok (BP w5.heap.size) w') (by kernel_rfl) ⟨HFB.out w6.drew rfl, HLKV6.out w6.drew rfl⟩ (fun hHeld => ?_)
        refine wpAnyH_take (i := 0) (v := ?_) rfl (by kernel_rfl) (by kernel_rfl) (by kernel_rfl) (fun _ _ _ h => h) (Or.inl ⟨rfl, ?_⟩) (by assumption) ?_
        rotate_left
        · (intro w' hSw; (try dsimp only at hSw); go_simp; try with_reducible rfl)
        simp only [List.getElem_toArray, List.getElem_cons_succ, List.getElem_cons_zero, Act.put, List.setIfInBounds_toArray, List.set_cons_zero, List.set_cons_succ]
        refine wpAnyH_take (i := 1) (v := ?_) rfl (by kernel_rfl) (by kernel_rfl) (by kernel_rfl) (fun _ _ _ h => h) (Or.inl ⟨rfl, ?_⟩) (by assumption) ?_
        rotate_left
        · (intro w' hSw; (try dsimp only at hSw); go_simp; try with_reducible rfl)
        simp only [List.getElem_toArray, List.getElem_cons_succ, List.getElem_cons_zero, Act.put, List.setIfInBounds_toArray, List.set_cons_zero, List.set_cons_succ]
        refine wpAnyH_take (i := 2) (v := ?_) rfl (by kernel_rfl) (by kernel_rfl) (by kernel_rfl) (fun _ _ _ h => h) (Or.inl ⟨rfl, ?_⟩) (by assumption) ?_
        rotate_left
        · (intro w' hSw; (try dsimp only at hSw); go_simp; try with_reducible rfl)
        simp only [List.getElem_toArray, List.getElem_cons_succ, List.getElem_cons_zero, Act.put, List.setIfInBounds_toArray, List.set_cons_zero, List.set_cons_succ]
        refine wpAnyH_take (i := 3) (v := ?_) rfl (by kernel_rfl) (by kernel_rfl) (by kernel_rfl) (fun _ _ _ h => h) (Or.inl ⟨rfl, ?_⟩) (by assumption) ?_
        rotate_left
        · (intro w' hSw; (try dsimp only at hSw); go_simp; try with_reducible rfl)
        simp only [List.getElem_toArray, List.getElem_cons_succ, List.getElem_cons_zero, Act.put, List.setIfInBounds_toArray, List.set_cons_zero, List.set_cons_succ]
        refine wpAnyH_take (i := 4) (v := ?_) rfl (by kernel_rfl) (by kernel_rfl) (by kernel_rfl) (fun _ _ _ h => h) (Or.inl ⟨rfl, ?_⟩) (by assumption) ?_
        rotate_left
        · (intro w' hSw; (try dsimp only at hSw); go_simp; try with_reducible rfl)
        simp only [List.getElem_toArray, List.getElem_cons_succ, List.getElem_cons_zero, Act.put, List.setIfInBounds_toArray, List.set_cons_zero, List.set_cons_succ]
        refine wpAnyH_take (i := 5) (v := ?_) rfl (by kernel_rfl) (by kernel_rfl) (by kernel_rfl) (fun _ _ _ h => h) (Or.inl ⟨rfl, ?_⟩) (by assumption) ?_
        rotate_left
        · (intro w' hSw; (try dsimp only at hSw); go_simp; try with_reducible rfl)
        simp only [List.getElem_toArray, List.getElem_cons_succ, List.getElem_cons_zero, Act.put, List.setIfInBounds_toArray, List.set_cons_zero, List.set_cons_succ]
        refine wpAnyH_take (i := 6) (v := ?_) rfl (by kernel_rfl) (by kernel_rfl) (by kernel_rfl) (fun _ _ _ h => h) (Or.inl ⟨rfl, ?_⟩) (by assumption) ?_
        rotate_left
        · (intro w' hSw; (try dsimp only at hSw); go_simp; try with_reducible rfl)
        simp only [List.getElem_toArray, List.getElem_cons_succ, List.getElem_cons_zero, Act.put, List.setIfInBounds_toArray, List.set_cons_zero, List.set_cons_succ]
        refine wpAnyH_take (i := 7) (v := BP w5.heap.size) rfl (by kernel_rfl) (by kernel_rfl) (by kernel_rfl) (fun _ _ _ h => h) (Or.inl ⟨rfl, fun w' hSw => ?_⟩) (by assumption) ?_
        · have h2 := hSw.2
          simp [execOp, Act.eval, h2, Result.andThen]
        simp only [List.getElem_toArray, List.getElem_cons_succ, List.getElem_cons_zero, Act.put, List.setIfInBounds_toArray, List.set_cons_zero, List.set_cons_succ]
        refine wpAnyH_ready (rs := [8]) (by kernel_rfl) (by simp) (AllReadyH.cons rfl (fun K hK => ?_) AllReadyH.nil)
        rw [if_pos (by rfl)]
        simp only [List.getElem_toArray, List.getElem_cons_succ, List.getElem_cons_zero, Act.put]
        refine oper_put (.tmp 46) (.tmp 47) (.tmp 50) rfl fm L2.length D2 (by simp [Act.eval]) (w := w6.drew) HOD.out HL2.out x HXS.out w5.heap.size (by simp [Act.eval]) (by simp [Act.eval]) ?_
        intro w9 hown9 hg9
        have hg9' : w6.grownBy w9 (some fm) := ⟨hg9.os, hg9.tape, hg9.output, hg9.size, hg9.block⟩
        have hE0 : E (getS L x.data.toList).v = ⟨kd, tx, lo, ln, lc⟩ := by rw [← HV0.out]; exact HEE.out.symm
        have HCF := Lib.hid (CoR.new (E := E) HSL.out HLIE.out HRG1.out HS.out HCP.out HCOP.out HBW.out HLN.out (by rw [← HV0.out]; exact HLC.out) HROW5.out (by rw [← HV0.out]; exact HALL5.out) (by rw [← HV0.out]; exact HLEN.out) HB5.out (by rw [hE0]; exact HG6.out) (by rw [← HV0.out]; exact HCP6.out) HO2.out HI2.out hown9 hg9')
        clear hE0
        have hHA := held_after HSK6.out HCP6.out HLIE.out.fc HE6.out (Nat.lt_of_lt_of_le HVL.out HLIE.out.f) (fun p hp => HKS6.out p hp) hg9'
        rw [HLC6.out] at hHA
        simp only [Option.map] at hHA
        clear hown9 hg9 hg9'
        refine hK.out _ _ hHA (fun hHeld => ?_)
        clear hK K hHA
        try simp only [Act.put, List.setIfInBounds_toArray, List.set_cons_zero, List.set_cons_succ]
        refine wpAnyH_done (by kernel_rfl) ?_ _
        go_wp2_with fail
        go_roundw
        case rel => exact ⟨_, cnt1, HCF.out⟩
        case measure => rw [HCF.out.rg.left_eq, HRG.out.left_eq]; exact HLT1.out
end Go.Proofs.YtgpanlkcpnlejaaGreat
/- The law StoreCopies: its walk. -/
namespace Go.Proofs.YtgpanlkcpnlejaaGreat
open Go.RowKit Go.Maps
set_option maxRecDepth 100000
set_option linter.unusedSimpArgs false
set_option linter.unusedVariables false
theorem DdOj.below {w W : World} {d : Dd} (h : DdOj w d) (k : Below w.heap.size w W) : DdOj W d :=
  ⟨⟨h.ok.ls.keep fun e b hb => ⟨k.block b hb, Nat.lt_of_lt_of_le hb k.size⟩, h.ok.nil, h.ok.le, h.ok.cap, h.ok.fit, h.ok.txs, h.ok.nm, h.ok.ot, h.ok.tx, h.ok.k9, h.ok.a9, h.ok.b9⟩, h.bxs⟩
theorem do_like2 {T sb mb bx N : Nat} {w wA wr W : World} (h : Ok T sb mb bx N wr) {d : Dd} (hd : DdOj w d) (h6 : d.n < 6000) (hT : T = wA.heap.size) (h0 : Below w.heap.size w wA) (hb : Below wA.heap.size wA wr) (h1 : W.heap = wr.heap) (h2 : W.os = wr.os) (h3 : W.tape = wr.tape) (h4 : W.output = wr.output) :
    Calls Tryz.prog 9 #[BP sb, DdV d] W fun e w' => ∃ x, e = .returned (.int .i64 x) ∧ Mid T sb mb bx N d x w' ∧ Below wA.heap.size wA w' := by
  subst hT
  have hW := below_like hb h1 h2 h3 h4
  exact (do_mid (h.below (below_like (Below.refl _ wr) h1 h2 h3 h4)) d (DdAt.of hd h6 (h0.trans (hW.mono h0.size)))).mono fun e w' ⟨x, he, hm, hk⟩ => ⟨x, he, hm, hW.trans hk⟩
theorem told_like2 {T sb mb bx N : Nat} {x : Int} {w wA w6 W : World} {d : Dd} (h : Mid T sb mb bx N d x w6) (hN : N ≤ 1000) (hd : DdOj w d) (h6 : d.n < 6000) (hT : T = wA.heap.size) (h0 : Below w.heap.size w wA) (hb : Below wA.heap.size wA w6) (h1 : W.heap = w6.heap) (h2 : W.os = w6.os) (h3 : W.tape = w6.tape) (h4 : W.output = w6.output) :
    Calls Tryz.prog 10 #[BP bx, DdV d] W fun e w' => e = .returned (.int .i64 x) ∧ (∃ N', N' ≤ N + 1 ∧ Ok T sb mb bx N' w') ∧ Below wA.heap.size wA w' := by
  subst hT
  have hW := below_like hb h1 h2 h3 h4
  exact (told_end (h.below (below_like (Below.refl _ w6) h1 h2 h3 h4)) hN (DdAt.of hd h6 (h0.trans (hW.mono h0.size)))).mono fun e w' ⟨he, hm, hk⟩ => ⟨he, hm, hW.trans hk⟩
/-- Both copies. -/
theorem copies_like {T sb mb bx N : Nat} {wA : World} (h : Ok T sb mb bx N wA) (hN : N ≤ 1000) :
    Calls Tryz.prog 12 #[BP sb] wA fun e wB => ∃ cb, e = .returned (BP cb) ∧ Below wA.heap.size wA wB ∧ Calls Tryz.prog 13 #[BP bx] wB fun e wC => ∃ cm y, e = .returned (BP y) ∧ Ok wA.heap.size cb cm y N wC ∧ Below wA.heap.size wA wC := by
  obtain ⟨D, L, M, L', M', h⟩ := h
  refine (copy_call h.sa).mono fun e wB ⟨cb, cm, L2, M2, he, hsa, hcr, hb⟩ => ⟨cb, he, hb, ?_⟩
  refine (rCopy_any (h.dk.fx (Fx.of h.dk.hf hb)) hN).mono fun e wC ⟨y, he, hdk, hb2⟩ => ⟨cm, y, he, ⟨NF wB.heap.size wC, L2, M2, L', M', ⟨hsa.wide hb2 (fun i hi => ?_) (fun i hi => ?_), hdk, h.cr.via hcr, Nat.le_trans hb.size hb2.size, fun k hk => Nat.le_trans hb.size hk.1⟩⟩, hb.trans (hb2.mono hb.size)⟩
  · rcases hi with hi | hi
    · exact .inl hi
    · exact .inr hi.1
  · have := hb.size
    have := hb2.size
    rcases hi with hi | hi
    · omega
    · exact hi.2
def CoL (w wA : World) (cb cm y n k : Nat) (i : Value) (wr : World) : Prop :=
  ∃ j N : Nat, k + j = n ∧ i = .int .i64 j ∧ N ≤ 120 + j ∧ Ok wA.heap.size cb cm y N wr ∧ Below wA.heap.size wA wr
set_option maxHeartbeats 8000000 in
theorem law_copies {w : World} (A : Option Addr) (n c : Nat) (ds : List Dd) (hn : n = ds.length) (hn9 : (n : Int) ≤ 9223372036854775807) (hr : ReadsP (fun b => b < w.heap.size) w 7 A n (ds.flatMap ddCs)) (hd : ∀ d ∈ ds, DdOj w d)
    (A2 : Option Addr) (n2 c2 : Nat) (ds2 : List Dd) (hn2 : n2 = ds2.length) (hn29 : (n2 : Int) ≤ 9223372036854775807) (hr2 : ReadsP (fun b => b < w.heap.size) w 7 A2 n2 (ds2.flatMap ddCs)) (hd2 : ∀ d ∈ ds2, DdOj w d) :
    Calls Tryz.prog 4 #[.slice A n c, .slice A2 n2 c2] w fun e w' => e = .returned (.bool true) ∧ Below w.heap.size w w' := by
  have HBG := Lib.hid (big_few A n c ds hn hn9 hr hd)
  have HBG2 : Hid (∀ W, Below w.heap.size w W → Calls Tryz.prog 5 #[.slice A2 n2 c2] W fun e w' => IsBg n2 ds2 e ∧ Below W.heap.size W w') := Lib.hid fun W hW =>
    big_few A2 n2 c2 ds2 hn2 hn29 (hr2.keep fun b hb => ⟨hW.block b hb, Nat.lt_of_lt_of_le hb hW.size⟩) (fun d hd' => DdOj.below (hd2 d hd') hW)
  have HN := Lib.hid hn
  have HR := Lib.hid hr
  have HD := Lib.hid hd
  have HN2 := Lib.hid hn2
  have HR2 := Lib.hid hr2
  have HD2 := Lib.hid hd2
  clear hn hr hd hn2 hr2 hd2
  go_enter Tryz.func4, Tryz.ntmps4
  go_wp2_with fail
  refine HBG.out.mono ?_
  rintro e w1 ⟨⟨t, rfl, ht⟩, hb⟩
  have HB1 := Lib.hid hb
  have HT := Lib.hid ht
  clear hb ht
  cases t with
  | true =>
    go_wp2_with fail
    refine (sane_any _).mono ?_
    rintro e w2 ⟨rfl, hb2⟩
    have HB2 := Lib.hid (HB1.out.trans (hb2.mono HB1.out.size))
    clear hb2
    go_wp2_with fail
    go_ret
    exact ⟨rfl, HB2.out⟩
  | false =>
    have hn120 := (HT.out rfl).1
    have HFEW := Lib.hid (HT.out rfl).2
    go_wp2_with fail
    refine (HBG2.out _ HB1.out).mono ?_
    rintro e w2 ⟨⟨t2, rfl, ht2⟩, hb⟩
    have HB2 := Lib.hid (HB1.out.trans (hb.mono HB1.out.size))
    have HT2 := Lib.hid ht2
    clear hb ht2
    cases t2 with
    | true =>
      go_wp2_with fail
      refine (sane_any _).mono ?_
      rintro e w3 ⟨rfl, hb3⟩
      have HB3 := Lib.hid (HB2.out.trans (hb3.mono HB2.out.size))
      clear hb3
      go_wp2_with fail
      go_ret
      exact ⟨rfl, HB3.out⟩
    | false =>
      have hn121 := (HT2.out rfl).1
      have HFEW2 := Lib.hid (HT2.out rfl).2
      have HNL := Lib.hid (newL_any (F := fun k => k < w.heap.size) w2 (fun k hk => Nat.lt_of_lt_of_le hk HB2.out.size))
      go_wp2_with fail
      refine HNL.out.mono ?_
      rintro e w3 ⟨rfl, hs2, hb2⟩
      have HS2 := Lib.hid hs2
      have HB3 := Lib.hid hb2
      clear hs2 hb2
      go_wp2_with fail
      refine (rNew_any w3 (fun _ => M0)).mono ?_
      rintro e w4 ⟨rfl, hd3, hb3⟩
      have HOK3 := Lib.hid (ok_start HS2.out HB2.out HB3.out hd3 hb3)
      have HB4 := Lib.hid (HB2.out.trans ((HB3.out.trans (hb3.mono HB3.out.size)).mono HB2.out.size))
      clear hd3 hb3
      obtain ⟨sb, hsb⟩ : ∃ sb, sb = w2.heap.size + 1 := ⟨_, rfl⟩
      obtain ⟨mb, hmb⟩ : ∃ mb, mb = w2.heap.size := ⟨_, rfl⟩
      obtain ⟨bx, hbx⟩ : ∃ bx, bx = w3.heap.size := ⟨_, rfl⟩
      rw [← hsb, ← hmb, ← hbx] at HOK3
      rw [← hsb, ← hbx]
      clear hsb hmb hbx
      go_wp2_with fail
      go_loopg [7] n (fun k i wr => PlR w sb mb bx n k i wr)
      case atStart => exact ⟨0, 0, rfl, rfl, Nat.le_refl _, HOK3.out, HB4.out⟩
      case round =>
        obtain ⟨j, N, hk, rfl, hNj, hok, hb⟩ := hrel
        have HK := Lib.hid hk
        have HOK := Lib.hid hok
        have HB := Lib.hid hb
        by_cases hj : j < n
        · have hN1 : N ≤ 1000 := by omega
          have HN1 := Lib.hid hN1
          have HNJ := Lib.hid hNj
          have dj : decide (j < n) = true := decide_eq_true hj
          have hdj : ds[j]? = some (ds[j]'(by have := HN.out; omega)) := List.getElem?_eq_getElem (by have := HN.out; omega)
          obtain ⟨r, hre⟩ : ∃ r, r = ds[j]'(by have := HN.out; omega) := ⟨_, rfl⟩
          rw [← hre] at hdj
          have hm := List.mem_of_getElem? hdj
          have hdok := HD.out r hm
          have h6 := HFEW.out r hm
          obtain ⟨b, off, rfl, hbl, q0, q1, q2, q3, q4, q5, q6⟩ := reads_dd HR.out j r hdj
          obtain ⟨dk, nm, ot, tx, dA, dn, dc, da, db, dls⟩ := r
          simp only at q0 q1 q2 q3 q4 q5 q6
          have HCS : Hid (∀ W, Below w.heap.size w W → W.cell? ⟨b, off + j * 7, none⟩ = some (.int .i64 dk) ∧ W.cell? ⟨b, off + j * 7 + 1, none⟩ = some (.string nm) ∧ W.cell? ⟨b, off + j * 7 + 2, none⟩ = some (.string ot) ∧ W.cell? ⟨b, off + j * 7 + 3, none⟩ = some (.string tx) ∧ W.cell? ⟨b, off + j * 7 + 4, none⟩ = some (.slice dA dn dc) ∧ W.cell? ⟨b, off + j * 7 + 5, none⟩ = some (.int .i64 da) ∧ W.cell? ⟨b, off + j * 7 + 6, none⟩ = some (.int .i64 db)) := Lib.hid fun W hW =>
            ⟨(hW.cell (p := ⟨b, _, none⟩) hbl).trans q0, (hW.cell (p := ⟨b, _, none⟩) hbl).trans q1, (hW.cell (p := ⟨b, _, none⟩) hbl).trans q2, (hW.cell (p := ⟨b, _, none⟩) hbl).trans q3, (hW.cell (p := ⟨b, _, none⟩) hbl).trans q4, (hW.cell (p := ⟨b, _, none⟩) hbl).trans q5, (hW.cell (p := ⟨b, _, none⟩) hbl).trans q6⟩
          have HDo : Hid (∀ W : World, W.heap = wr.heap → W.os = wr.os → W.tape = wr.tape → W.output = wr.output → Calls Tryz.prog 9 #[BP sb, DV dk nm ot tx dA dn dc da db] W fun e w' => ∃ x, e = .returned (.int .i64 x) ∧ Mid w.heap.size sb mb bx N ⟨dk, nm, ot, tx, dA, dn, dc, da, db, dls⟩ x w' ∧ Below w.heap.size w w') := Lib.hid fun W h1 h2 h3 h4 => do_like (T := w.heap.size) (w := w) (wr := wr) (W := W) (d := ⟨dk, nm, ot, tx, dA, dn, dc, da, db, dls⟩) hok hdok h6 rfl hb h1 h2 h3 h4
          have HTo : Hid (∀ (x : Int) (w6 W : World), Mid w.heap.size sb mb bx N ⟨dk, nm, ot, tx, dA, dn, dc, da, db, dls⟩ x w6 → Below w.heap.size w w6 → W.heap = w6.heap → W.os = w6.os → W.tape = w6.tape → W.output = w6.output → Calls Tryz.prog 10 #[BP bx, DV dk nm ot tx dA dn dc da db] W fun e w' => e = .returned (.int .i64 x) ∧ (∃ N', N' ≤ N + 1 ∧ Ok w.heap.size sb mb bx N' w') ∧ Below w.heap.size w w') := Lib.hid fun x w6 W hm hb6 h1 h2 h3 h4 => told_like (T := w.heap.size) (w := w) (w6 := w6) (W := W) (d := ⟨dk, nm, ot, tx, dA, dn, dc, da, db, dls⟩) hm HN1.out hdok h6 rfl hb6 h1 h2 h3 h4
          obtain ⟨g0, g1, g2, g3, g4, g5, g6⟩ := HCS.out wr hb
          have HJ := Lib.hid hj
          have hj0 : (0 : Int) ≤ (j : Int) := by omega
          have hj1 : (j : Int) < (n : Int) := by omega
          clear hk hok hb hdj hre hm hdok h6 hbl q0 q1 q2 q3 q4 q5 q6 hN1 hNj
          go_wp2_with fail
          refine (HDo.out _ rfl rfl rfl rfl).mono ?_
          rintro e w6 ⟨x, rfl, hmid, hb6⟩
          have HM6 := Lib.hid hmid
          have HB6 := Lib.hid hb6
          obtain ⟨g0, g1, g2, g3, g4, g5, g6⟩ := HCS.out w6 hb6
          clear hb6 hmid
          go_wp2_with fail
          refine (HTo.out x w6 _ HM6.out HB6.out rfl rfl rfl rfl).mono ?_
          rintro e w7 ⟨rfl, ⟨N', hN', hok7⟩, hb7⟩
          have HOK7 := Lib.hid hok7
          have HB7 := Lib.hid hb7
          have HN7 := Lib.hid hN'
          clear hb7 hok7 hN'
          go_wp2_with fail
          go_roundg (gk - 1)
          case measure => have := HK.out; have := HJ.out; omega
          case rel =>
            have := HK.out
            have := HJ.out
            have := HN7.out
            have := HNJ.out
            exact ⟨j + 1, N', by omega, by first | go_num | (congr 1; rw [IntWalk.wrap64_in _ (by omega)]; omega), by omega, HOK7.out, HB7.out⟩
        · rename World => wA
          have dj : decide (j < n) = false := decide_eq_false hj
          have hN1 : N ≤ 1000 := by omega
          have HCO := Lib.hid (copies_like hok hN1)
          have HOK0 := Lib.hid hok
          have HNN : Hid (N ≤ 120) := Lib.hid (by omega)
          clear hk hok hb hN1 hNj
          go_wp2_with fail
          refine HCO.out.mono ?_
          rintro e wB ⟨cb, rfl, hbB, hrc⟩
          have HRC := Lib.hid hrc
          clear hbB hrc
          go_wp2_with fail
          refine HRC.out.mono ?_
          rintro e wC ⟨cm, y, rfl, hokC, hbC⟩
          have HST : Hid (CoL w wA cb cm y n2 n2 (.int .i64 0) wC) := Lib.hid ⟨0, N, rfl, rfl, HNN.out, hokC, hbC⟩
          clear hokC hbC
          go_wp2_with fail
          go_loopg [10] n2 (fun k i wr => CoL w wA cb cm y n2 k i wr)
          case atStart => exact HST.out
          case round =>
            obtain ⟨j, N, hk, rfl, hNj, hok, hb⟩ := hrel
            have HK := Lib.hid hk
            have HOK := Lib.hid hok
            have HB' := Lib.hid hb
            by_cases hj : j < n2
            · have hN1 : N ≤ 1000 := by omega
              have HN1 := Lib.hid hN1
              have HNJ := Lib.hid hNj
              have dj : decide (j < n2) = true := decide_eq_true hj
              have hdj : ds2[j]? = some (ds2[j]'(by have := HN2.out; omega)) := List.getElem?_eq_getElem (by have := HN2.out; omega)
              obtain ⟨r, hre⟩ : ∃ r, r = ds2[j]'(by have := HN2.out; omega) := ⟨_, rfl⟩
              rw [← hre] at hdj
              have hm := List.mem_of_getElem? hdj
              have hdok := HD2.out r hm
              have h6 := HFEW2.out r hm
              obtain ⟨b, off, rfl, hbl, q0, q1, q2, q3, q4, q5, q6⟩ := reads_dd HR2.out j r hdj
              obtain ⟨dk, nm, ot, tx, dA, dn, dc, da, db, dls⟩ := r
              simp only at q0 q1 q2 q3 q4 q5 q6
              have HCS : Hid (∀ W, Below w.heap.size w W → W.cell? ⟨b, off + j * 7, none⟩ = some (.int .i64 dk) ∧ W.cell? ⟨b, off + j * 7 + 1, none⟩ = some (.string nm) ∧ W.cell? ⟨b, off + j * 7 + 2, none⟩ = some (.string ot) ∧ W.cell? ⟨b, off + j * 7 + 3, none⟩ = some (.string tx) ∧ W.cell? ⟨b, off + j * 7 + 4, none⟩ = some (.slice dA dn dc) ∧ W.cell? ⟨b, off + j * 7 + 5, none⟩ = some (.int .i64 da) ∧ W.cell? ⟨b, off + j * 7 + 6, none⟩ = some (.int .i64 db)) := Lib.hid fun W hW =>
                ⟨(hW.cell (p := ⟨b, _, none⟩) hbl).trans q0, (hW.cell (p := ⟨b, _, none⟩) hbl).trans q1, (hW.cell (p := ⟨b, _, none⟩) hbl).trans q2, (hW.cell (p := ⟨b, _, none⟩) hbl).trans q3, (hW.cell (p := ⟨b, _, none⟩) hbl).trans q4, (hW.cell (p := ⟨b, _, none⟩) hbl).trans q5, (hW.cell (p := ⟨b, _, none⟩) hbl).trans q6⟩
              have HDo : Hid (∀ W : World, W.heap = wr.heap → W.os = wr.os → W.tape = wr.tape → W.output = wr.output → Calls Tryz.prog 9 #[BP cb, DV dk nm ot tx dA dn dc da db] W fun e w' => ∃ x, e = .returned (.int .i64 x) ∧ Mid wA.heap.size cb cm y N ⟨dk, nm, ot, tx, dA, dn, dc, da, db, dls⟩ x w' ∧ Below wA.heap.size wA w') := Lib.hid fun W h1 h2 h3 h4 => do_like2 (T := wA.heap.size) (w := w) (wA := wA) (wr := wr) (W := W) (d := ⟨dk, nm, ot, tx, dA, dn, dc, da, db, dls⟩) hok hdok h6 rfl HB.out hb h1 h2 h3 h4
              have HTo : Hid (∀ (x : Int) (w6 W : World), Mid wA.heap.size cb cm y N ⟨dk, nm, ot, tx, dA, dn, dc, da, db, dls⟩ x w6 → Below wA.heap.size wA w6 → W.heap = w6.heap → W.os = w6.os → W.tape = w6.tape → W.output = w6.output → Calls Tryz.prog 10 #[BP y, DV dk nm ot tx dA dn dc da db] W fun e w' => e = .returned (.int .i64 x) ∧ (∃ N', N' ≤ N + 1 ∧ Ok wA.heap.size cb cm y N' w') ∧ Below wA.heap.size wA w') := Lib.hid fun x w6 W hm hb6 h1 h2 h3 h4 => told_like2 (T := wA.heap.size) (w := w) (wA := wA) (w6 := w6) (W := W) (d := ⟨dk, nm, ot, tx, dA, dn, dc, da, db, dls⟩) hm HN1.out hdok h6 rfl HB.out hb6 h1 h2 h3 h4
              have HCS2 : Hid (∀ W, Below wA.heap.size wA W → Below w.heap.size w W) := Lib.hid fun W hW => HB.out.trans (hW.mono HB.out.size)
              obtain ⟨g0, g1, g2, g3, g4, g5, g6⟩ := HCS.out wr (HCS2.out _ hb)
              have CS := Lib.hid (HCS.out wr (HCS2.out _ hb))
              have HJ := Lib.hid hj
              have hj0 : (0 : Int) ≤ (j : Int) := by omega
              have hj1 : (j : Int) < (n2 : Int) := by omega
              clear hk hok hb hdj hre hm hdok h6 hbl q0 q1 q2 q3 q4 q5 q6 hN1 hNj
              go_wp2_with fail
              go_region_held3 (fun w' => w'.cell? ⟨b, off + j * 7, none⟩ = some (.int .i64 dk) ∧ w'.cell? ⟨b, off + j * 7 + 1, none⟩ = some (.string nm) ∧ w'.cell? ⟨b, off + j * 7 + 2, none⟩ = some (.string ot) ∧ w'.cell? ⟨b, off + j * 7 + 3, none⟩ = some (.string tx) ∧ w'.cell? ⟨b, off + j * 7 + 4, none⟩ = some (.slice dA dn dc) ∧ w'.cell? ⟨b, off + j * 7 + 5, none⟩ = some (.int .i64 da) ∧ w'.cell? ⟨b, off + j * 7 + 6, none⟩ = some (.int .i64 db)) (first | exact csB | exact csA | exact CS.out | go_keep)
                (first
                | (go_at_call 9; refine (HDo.out _ ?_ ?_ ?_ ?_).mono ?_
                   · rfl
                   · rfl
                   · rfl
                   · rfl
                   rintro e w6 ⟨x, rfl, hmid, hb6⟩
                   have HM6 := Lib.hid hmid
                   have HB6 := Lib.hid hb6
                   have hxx : (x != x) = false := by simp
                   have csA := HCS.out w6 (HCS2.out _ hb6)
                   clear hb6 hmid)
                | (go_at_call 10; refine (HTo.out x w6 _ HM6.out HB6.out ?_ ?_ ?_ ?_).mono ?_
                   · rfl
                   · rfl
                   · rfl
                   · rfl
                   rintro e w7 ⟨rfl, ⟨N', hN', hok7⟩, hb7⟩
                   have HOK7 := Lib.hid hok7
                   have HB7 := Lib.hid hb7
                   have HN7 := Lib.hid hN'
                   have csB := HCS.out w7 (HCS2.out _ hb7)
                   clear hb7 hok7 hN'))
              all_goals
                go_wp2_with fail
                go_roundg (gk - 1)
                case measure => have := HK.out; have := HJ.out; omega
                case rel =>
                  have := HK.out
                  have := HJ.out
                  have := HN7.out
                  have := HNJ.out
                  exact ⟨j + 1, N', by omega, by first | go_num | (congr 1; rw [IntWalk.wrap64_in _ (by omega)]; omega), by omega, HOK7.out, HB7.out⟩
            · have dj : decide (j < n2) = false := decide_eq_false hj
              have hza : (⟨#[97]⟩ : ByteArray).size ≤ 140737488351232 := by decide
              have HA1 := Lib.hid (alike_ok hok _ hza)
              have HA2 : Hid (∀ W, Below wr.heap.size wr W → Calls Tryz.prog 11 #[BP sb, BP bx, .string ⟨#[97]⟩] W fun e w' => e = .returned (.bool true) ∧ Below W.heap.size W w') := Lib.hid fun W hW => by
                have h1 := hb.trans (hW.mono hb.size)
                exact alike_ok (HOK0.out.below h1) _ hza
              have HBW := Lib.hid (HB.out.trans (hb.mono HB.out.size))
              clear hk hok hb hNj hza
              go_wp2_with fail
              refine HA1.out.mono ?_
              rintro e w8 ⟨rfl, hb8⟩
              have HB8 := Lib.hid hb8
              clear hb8
              go_wp2_with fail
              refine (HA2.out _ HB8.out).mono ?_
              rintro e w9 ⟨rfl, hb9⟩
              have HB9 := Lib.hid (HBW.out.trans ((HB8.out.trans (hb9.mono HB8.out.size)).mono HBW.out.size))
              clear hb9
              go_wp2_with fail
              refine (sane_any _).mono ?_
              rintro e w5 ⟨rfl, hb5⟩
              have HB5 := Lib.hid (HB9.out.trans (hb5.mono HB9.out.size))
              clear hb5
              go_wp2_with fail
              go_ret
              exact ⟨rfl, HB5.out⟩
end Go.Proofs.YtgpanlkcpnlejaaGreat
