/- The code's store with what its entries say. -/
import Derived.Test.YtgpanlkcpnlejaaGreatMc
import Derived.Test.YtgpanlkcpnlejaaGreatMb
import Derived.Deep.RegionHeld3
set_option linter.unusedSimpArgs false
set_option linter.unusedVariables false
namespace Go.Proofs.YtgpanlkcpnlejaaGreat
open Go.RowKit Go.Maps
set_option maxRecDepth 100000
/-- What an entry says: a string's text, or a macro's lines. -/
structure Mc where
  kind : Int
  tx : ByteArray
  ls : List Ln
def mcOk (m : Mc) : Prop := (m.kind = 1 ∧ okTx m.tx.data.toList = true ∧ m.ls = []) ∨ (m.kind = 2 ∧ m.tx = ⟨#[]⟩ ∧ m.ls.length ≤ 2000 ∧ m.ls.all okLn = true)
abbrev own (e : En) : Option Nat := (Value.slice e.lo e.ln e.lc).ownBlock
structure EnIs (w : World) (e : En) (m : Mc) : Prop where
  kd : e.kind = m.kind
  tx : e.tx = m.tx
  ln : LnOwn w e.lo e.ln e.lc m.ls
  ok : mcOk m
theorem EnIs.below {w w' : World} {e : En} {m : Mc} (h : EnIs w e m) (k : Below w.heap.size w w') : EnIs w' e m := ⟨h.kd, h.tx, h.ln.below k, h.ok⟩
theorem mc_size {m : Mc} (h : mcOk m) : m.tx.size ≤ 2000 := by
  rcases h with ⟨_, h, _⟩ | ⟨_, h, _⟩
  · exact okTx_size h
  · rw [h]; decide
theorem mc_len {m : Mc} (h : mcOk m) : m.ls.length ≤ 2000 := by
  rcases h with ⟨_, _, h⟩ | ⟨_, _, h, _⟩
  · rw [h]; simp
  · exact h
/-- Blocks of others stay. -/
structure Fx (F : Nat → Prop) (w w' : World) : Prop where
  os : w'.os = w.os
  tape : w'.tape = w.tape
  output : w'.output = w.output
  size : w.heap.size ≤ w'.heap.size
  block : ∀ k, F k → w'.heap[k]? = w.heap[k]?
theorem Fx.trans {F : Nat → Prop} {w1 w2 w3 : World} (h : Fx F w1 w2) (k : Fx F w2 w3) : Fx F w1 w3 :=
  ⟨k.os.trans h.os, k.tape.trans h.tape, k.output.trans h.output, Nat.le_trans h.size k.size, fun i hi => (k.block i hi).trans (h.block i hi)⟩
theorem Fx.of {F : Nat → Prop} {w w' : World} (hF : ∀ k, F k → k < w.heap.size) (k : Below w.heap.size w w') : Fx F w w' :=
  ⟨k.os, k.tape, k.output, k.size, fun i hi => k.block i (hF i hi)⟩
theorem Kept.fx {S F : Nat → Prop} {w w' : World} (h : Kept S w w') (hF : ∀ k, F k → k < w.heap.size) (hS : ∀ i, S i → ¬ F i) : Fx F w w' :=
  ⟨h.os, h.tape, h.output, h.size, fun i hi => h.block i (hF i hi) (fun hs => hS i hs hi)⟩
/-- The store: its blocks are not in F. -/
structure SL (F : Nat → Prop) (sb mb : Nat) (L : List Reg) (E : Nat → En) (M : Nat → Mc) (w : World) : Prop where
  sk : SK sb mb L E w
  en : ∀ r ∈ L, EnIs w (E r.v) (M r.v)
  dj : ∀ r ∈ L, ∀ r' ∈ L, r.v ≠ r'.v → ∀ g, own (E r.v) = some g → own (E r'.v) ≠ some g
  lo : ∀ r ∈ L, ¬ F r.v ∧ ∀ g, own (E r.v) = some g → ¬ F g
  ls : ¬ F sb
  lm : ¬ F mb
  hf : ∀ k, F k → k < w.heap.size
theorem SL.below {F : Nat → Prop} {sb mb : Nat} {L : List Reg} {E : Nat → En} {M : Nat → Mc} {w w' : World} (h : SL F sb mb L E M w) (k : Below w.heap.size w w') : SL F sb mb L E M w' :=
  ⟨h.sk.below k, fun r hr => (h.en r hr).below k, h.dj, h.lo, h.ls, h.lm, fun i hi => Nat.lt_of_lt_of_le (h.hf i hi) k.size⟩
theorem SL.far {F : Nat → Prop} {sb mb : Nat} {L : List Reg} {E : Nat → En} {M : Nat → Mc} {w : World} (h : SL F sb mb L E M w) {g : Nat} (hg : w.heap.size ≤ g) : ¬ F g := fun hF => by have := h.hf g hF; omega
def updM (M : Nat → Mc) (b : Nat) (m : Mc) : Nat → Mc := fun k => if k = b then m else M k
theorem updM_same (M : Nat → Mc) (b : Nat) (m : Mc) : updM M b m b = m := if_pos rfl
theorem updM_other (M : Nat → Mc) (b : Nat) (m : Mc) {k : Nat} (h : k ≠ b) : updM M b m k = M k := if_neg h
theorem tag_en {w : World} {b : Nat} {e : En} (h : EnAt w b e) : Tg w 59 b := ⟨_, _, h⟩
/-- Whatever turns one entry and its lines alone leaves the others. -/
theorem SL.with {F : Nat → Prop} {sb mb : Nat} {L : List Reg} {E : Nat → En} {M : Nat → Mc} {w w' : World} (h : SL F sb mb L E M w) (r : Reg) (hr : r ∈ L) (c : En) (m : Mc) (hs : SK sb mb L (upd E r.v c) w') (he : EnIs w' c m)
    (k : Kept (fun k => k = r.v ∨ own (E r.v) = some k) w w') (ho : ∀ g, own c = some g → own (E r.v) = some g ∨ w.heap.size ≤ g) : SL F sb mb L (upd E r.v c) (updM M r.v m) w' ∧ Fx F w w' := by
  have hen := h.en r hr
  have htr := tag_en (h.sk.ent r hr)
  refine ⟨⟨hs, fun x hx => ?_, fun x hx y hy hne g hg => ?_, fun x hx => ?_, h.ls, h.lm, fun i hi => Nat.lt_of_lt_of_le (h.hf i hi) k.size⟩, k.fx h.hf ?_⟩
  · by_cases e : x.v = r.v
    · rw [e, upd_same, updM_same]; exact he
    · rw [upd_other _ _ _ e, updM_other _ _ _ e]
      have hx' := h.en x hx
      refine ⟨hx'.kd, hx'.tx, hx'.ln.keep (fun g hg => ?_) (fun e' he' b hb => ?_), hx'.ok⟩
      · have hgt := hx'.ln.tag hg
        refine k.block g hgt.lt ?_
        rintro (e2 | e2)
        · exact hgt.ne htr (by decide) e2
        · exact h.dj x hx r hr e g hg e2
      · refine k.block b hb.lt ?_
        rintro (e2 | e2)
        · exact hb.ne htr (by rcases he' with rfl | rfl <;> decide) e2
        · exact hb.ne (hen.ln.tag e2) (by rcases he' with rfl | rfl <;> decide) rfl
  · by_cases ex : x.v = r.v
    · have ey : y.v ≠ r.v := fun e => hne (ex.trans e.symm)
      rw [ex, upd_same] at hg
      rw [upd_other _ _ _ ey]
      rcases ho g hg with h1 | h1
      · exact h.dj r hr y hy (fun e => ey e.symm) g h1
      · intro h2
        have := ((h.en y hy).ln.tag h2).lt
        omega
    · rw [upd_other _ _ _ ex] at hg
      by_cases ey : y.v = r.v
      · rw [ey, upd_same]
        intro h2
        rcases ho g h2 with h1 | h1
        · exact h.dj x hx r hr ex g hg h1
        · have := ((h.en x hx).ln.tag hg).lt
          omega
      · rw [upd_other _ _ _ ey]; exact h.dj x hx y hy hne g hg
  · refine ⟨(h.lo x hx).1, fun g hg => ?_⟩
    by_cases ex : x.v = r.v
    · rw [ex, upd_same] at hg
      rcases ho g hg with h1 | h1
      · exact (h.lo r hr).2 g h1
      · exact h.far h1
    · rw [upd_other _ _ _ ex] at hg; exact (h.lo x hx).2 g hg
  · rintro i (e | e)
    · rw [e]; exact (h.lo r hr).1
    · exact (h.lo r hr).2 i e
/-- A new name with a new entry. -/
theorem SL.new {F : Nat → Prop} {sb mb : Nat} {L : List Reg} {E : Nat → En} {M : Nat → Mc} {w w' : World} (h : SL F sb mb L E M w) (nm : List UInt8) (b : Nat) (c : En) (m : Mc) (hb : w.heap.size ≤ b) (hs : SK sb mb (putS L ⟨nm, b⟩) (upd E b c) w') (he : EnIs w' c m)
    (k : Kept (· = mb) w w') (ho : ∀ g, own c = some g → w.heap.size ≤ g) : SL F sb mb (putS L ⟨nm, b⟩) (upd E b c) (updM M b m) w' ∧ Fx F w w' := by
  have key : ∀ x ∈ putS L ⟨nm, b⟩, x.v = b ∨ (x ∈ L ∧ x.v ≠ b) := by
    intro x hx
    rcases mem_put L _ x hx with rfl | hx
    · exact .inl rfl
    · exact .inr ⟨hx, by have := h.sk.elt x hx; omega⟩
  have hmb : ∀ e cs fz, w.heap[mb]? ≠ some (.cells cs e fz) := by
    intro e cs fz h1
    obtain ⟨D, ⟨es, c, h4, _⟩, _⟩ := h.sk.map
    rw [h4] at h1; injection h1 with h1; cases h1
  have hnm : ∀ e g, Tg w e g → g ≠ mb := by
    rintro e g ⟨cs, fz, h1⟩ rfl
    exact hmb _ _ _ h1
  refine ⟨⟨hs, fun x hx => ?_, fun x hx y hy hne g hg => ?_, fun x hx => ?_, h.ls, h.lm, fun i hi => Nat.lt_of_lt_of_le (h.hf i hi) k.size⟩, k.fx h.hf (fun i e => by rw [e]; exact h.lm)⟩
  · rcases key x hx with e | ⟨hxL, e⟩
    · rw [e, upd_same, updM_same]; exact he
    · rw [upd_other _ _ _ e, updM_other _ _ _ e]
      have hx' := h.en x hxL
      refine ⟨hx'.kd, hx'.tx, hx'.ln.keep (fun g hg => k.block g (hx'.ln.tag hg).lt (hnm _ _ (hx'.ln.tag hg))) (fun e' _ b' hb' => k.block b' hb'.lt (hnm _ _ hb')), hx'.ok⟩
  · rcases key x hx with ex | ⟨hxL, ex⟩
    · rcases key y hy with ey | ⟨hyL, ey⟩
      · exact absurd (ex.trans ey.symm) hne
      · rw [ex, upd_same] at hg
        rw [upd_other _ _ _ ey]
        intro h2
        have := ((h.en y hyL).ln.tag h2).lt
        have := ho g hg
        omega
    · rw [upd_other _ _ _ ex] at hg
      rcases key y hy with ey | ⟨hyL, ey⟩
      · rw [ey, upd_same]
        intro h2
        have := ((h.en x hxL).ln.tag hg).lt
        have := ho g h2
        omega
      · rw [upd_other _ _ _ ey]; exact h.dj x hxL y hyL hne g hg
  · rcases key x hx with ex | ⟨hxL, ex⟩
    · rw [ex, upd_same]; exact ⟨h.far hb, fun g hg => h.far (ho g hg)⟩
    · rw [upd_other _ _ _ ex]; exact h.lo x hxL
/-- Names are moved; the entries stay. -/
theorem SL.names {F : Nat → Prop} {sb mb : Nat} {L L' : List Reg} {E : Nat → En} {M : Nat → Mc} {w w' : World} (h : SL F sb mb L E M w) (hs : SK sb mb L' E w') (k : Kept (· = mb) w w') (hl : ∀ r ∈ L', ∃ r0 ∈ L, r0.v = r.v) : SL F sb mb L' E M w' ∧ Fx F w w' := by
  have hnm : ∀ e g, Tg w e g → g ≠ mb := by
    rintro e g ⟨cs, fz, h1⟩ rfl
    obtain ⟨D, ⟨es, c, h4, _⟩, _⟩ := h.sk.map
    rw [h4] at h1; injection h1 with h1; cases h1
  refine ⟨⟨hs, fun x hx => ?_, fun x hx y hy hne g hg => ?_, fun x hx => ?_, h.ls, h.lm, fun i hi => Nat.lt_of_lt_of_le (h.hf i hi) k.size⟩, k.fx h.hf (fun i e => by rw [e]; exact h.lm)⟩
  · obtain ⟨r0, hr0, e⟩ := hl x hx
    rw [← e]
    have hx' := h.en r0 hr0
    exact ⟨hx'.kd, hx'.tx, hx'.ln.keep (fun g hg => k.block g (hx'.ln.tag hg).lt (hnm _ _ (hx'.ln.tag hg))) (fun e' _ b' hb' => k.block b' hb'.lt (hnm _ _ hb')), hx'.ok⟩
  · obtain ⟨r0, hr0, e⟩ := hl x hx
    obtain ⟨r1, hr1, e1⟩ := hl y hy
    rw [← e] at hg hne
    rw [← e1] at hne ⊢
    exact h.dj r0 hr0 r1 hr1 hne g hg
  · obtain ⟨r0, hr0, e⟩ := hl x hx
    rw [← e]; exact h.lo r0 hr0
/-- A new store. -/
theorem newL_any {F : Nat → Prop} (w : World) (hF : ∀ k, F k → k < w.heap.size) : Calls Tryz.prog 7 #[] w fun e w' => e = .returned (.pointer (some ⟨w.heap.size + 1, 0, none⟩)) ∧ (∀ E M, SL F (w.heap.size + 1) w.heap.size [] E M w') ∧ Below w.heap.size w w' :=
  (new_any w).mono fun _ _ ⟨a, b, c⟩ => ⟨a, fun E M => ⟨b E, (fun r hr => by cases hr), (fun r hr => by cases hr), (fun r hr => by cases hr), (fun h => by have := hF _ h; omega), (fun h => by have := hF _ h; omega), fun k hk => Nat.lt_of_lt_of_le (hF k hk) c.size⟩, c⟩
end Go.Proofs.YtgpanlkcpnlejaaGreat
/- The code's store: what a name has is put. -/
namespace Go.Proofs.YtgpanlkcpnlejaaGreat
open Go.RowKit Go.Maps
set_option maxRecDepth 100000
/-- The store, whatever its entries are in memory. -/
def SA (F : Nat → Prop) (sb mb : Nat) (L : List Reg) (M : Nat → Mc) (w : World) : Prop := ∃ E, SL F sb mb L E M w
theorem SA.below {F : Nat → Prop} {sb mb : Nat} {L : List Reg} {M : Nat → Mc} {w w' : World} (h : SA F sb mb L M w) (k : Below w.heap.size w w') : SA F sb mb L M w' := by
  obtain ⟨E, h⟩ := h
  exact ⟨E, h.below k⟩
theorem SA.hf {F : Nat → Prop} {sb mb : Nat} {L : List Reg} {M : Nat → Mc} {w : World} (h : SA F sb mb L M w) : ∀ k, F k → k < w.heap.size := by
  obtain ⟨E, h⟩ := h
  exact h.hf
/-- What putting comes to: b is the block of a new entry. -/
def putTo (L : List Reg) (M : Nat → Mc) (nm : List UInt8) (m : Mc) (b : Nat) : Int × List Reg × (Nat → Mc) :=
  if hasS L nm then (0, L, updM M (getS L nm).v m) else if L.length = 500 then (9, L, M) else (0, putS L ⟨nm, b⟩, updM M b m)
/-- What a deed that puts leaves. -/
structure PutP (F : Nat → Prop) (sb mb : Nat) (L : List Reg) (M : Nat → Mc) (nm : List UInt8) (m : Mc) (w : World) (e : Ending) (w' : World) : Prop where
  ex : ∃ b, w.heap.size ≤ b ∧ e = .returned (.int .i64 (putTo L M nm m b).1) ∧ SA F sb mb (putTo L M nm m b).2.1 (putTo L M nm m b).2.2 w'
  below : Fx F w w'
theorem PutP.from {F : Nat → Prop} {sb mb : Nat} {L : List Reg} {M : Nat → Mc} {nm : List UInt8} {m : Mc} {w W : World} {e : Ending} {w' : World} (h : PutP F sb mb L M nm m W e w') (k : Below w.heap.size w W) (hT : ∀ k, F k → k < w.heap.size) : PutP F sb mb L M nm m w e w' := by
  obtain ⟨⟨b, h1, h2, h3⟩, h4⟩ := h
  exact ⟨⟨b, Nat.le_trans k.size h1, h2, h3⟩, (Fx.of hT k).trans h4⟩
theorem map_not_cells {sb mb : Nat} {L : List Reg} {E : Nat → En} {w : World} (h : SK sb mb L E w) {e : TypeId} {g : Nat} (hg : Tg w e g) : g ≠ mb := by
  rintro rfl
  obtain ⟨cs, fz, h1⟩ := hg
  obtain ⟨D, ⟨es, c, h4, _⟩, _⟩ := h.map
  rw [h4] at h1; injection h1 with h1; cases h1
theorem putA_gen {F : Nat → Prop} {sb mb : Nat} {L : List Reg} {E : Nat → En} {M : Nat → Mc} {w W : World} (h : SL F sb mb L E M w) (s : ByteArray) (hn : okNm s.data.toList = true) (hk : Kept (fun k => hasS L s.data.toList = true ∧ own (E (getS L s.data.toList).v) = some k) w W)
    (kd : Int) (t : ByteArray) (lo : Option Addr) (ln lc : Nat) (m : Mc) (he : EnIs W ⟨kd, t, lo, ln, lc⟩ m) (hb : ∀ g, (Value.slice lo ln lc).ownBlock = some g → (hasS L s.data.toList = true ∧ own (E (getS L s.data.toList).v) = some g) ∨ w.heap.size ≤ g) :
    Calls Tryz.prog 43 #[BP sb, .string s, .agg #[.int .i64 kd, .string t, .slice lo ln lc]] W fun e w' => PutP F sb mb L M s.data.toList m w e w' := by
  cases hh : hasS L s.data.toList with
  | true =>
    have hmem := getS_mem L s.data.toList hh
    have hown := fun g (hg : own (E (getS L s.data.toList).v) = some g) => (h.en _ hmem).ln.tag hg
    have hsk : SK sb mb L E W := h.sk.kept hk (by
        rintro ⟨_, h2⟩
        exact (hown _ h2).ne (e' := 46) ⟨_, _, h.sk.cell⟩ (by decide) rfl) (by
        rintro ⟨_, h2⟩
        exact map_not_cells h.sk (hown _ h2) rfl) (by
        rintro r hr ⟨_, h2⟩
        exact (hown _ h2).ne (tag_en (h.sk.ent r hr)) (by decide) rfl)
    refine (put_old hsk s kd t lo ln lc (size_ok hn) hh).mono fun e w' ⟨h1, h2, h3⟩ => ?_
    have hev : EnIs w' ⟨kd, t, lo, ln, lc⟩ m := ⟨he.kd, he.tx, he.ln.keep (fun g hg => h3.block g (he.ln.tag hg).lt (fun e => (he.ln.tag hg).ne (tag_en (hsk.ent _ hmem)) (by decide) e)) (fun e' he' b hb' => h3.block b hb'.lt (fun e => hb'.ne (tag_en (hsk.ent _ hmem)) (by rcases he' with rfl | rfl <;> decide) e)), he.ok⟩
    have hfr : Kept (fun k => k = (getS L s.data.toList).v ∨ own (E (getS L s.data.toList).v) = some k) w w' := (hk.mono (fun k hk => .inr hk.2)).trans (h3.mono (fun k hk => .inl hk))
    obtain ⟨h4, h5⟩ := h.with _ hmem _ m h2 hev hfr (fun g hg => by
      rcases hb g hg with h6 | h6
      · exact .inl h6.2
      · exact .inr h6)
    refine ⟨⟨w.heap.size, Nat.le_refl _, ?_, ?_⟩, h5⟩
    · unfold putTo; rw [if_pos hh]; exact h1
    · unfold putTo; rw [if_pos hh]; exact ⟨_, h4⟩
  | false =>
    have hbw : Below w.heap.size w W := hk.to (Nat.le_refl _) (fun k hk => by have := hk.1; rw [hh] at this; cases this)
    have hW := h.below hbw
    by_cases hl : L.length = 500
    · refine (put_full hW.sk s kd t lo ln lc hn hh hl).mono fun e w' ⟨h1, h2⟩ => ?_
      refine ⟨⟨w.heap.size, Nat.le_refl _, ?_, ?_⟩, Fx.of h.hf (hbw.trans (h2.mono hbw.size))⟩
      · unfold putTo; rw [if_neg (by rw [hh]; decide), if_pos hl]; exact h1
      · unfold putTo; rw [if_neg (by rw [hh]; decide), if_pos hl]; exact ⟨_, hW.below h2⟩
    · have hl5 := h.sk.len
      refine (put_new hW.sk s kd t lo ln lc hn hh (by omega)).mono fun e w' ⟨h1, h2, h3⟩ => ?_
      have hev : EnIs w' ⟨kd, t, lo, ln, lc⟩ m := ⟨he.kd, he.tx, he.ln.keep (fun g hg => h3.block g (he.ln.tag hg).lt (map_not_cells hW.sk (he.ln.tag hg))) (fun e' he' b hb' => h3.block b hb'.lt (map_not_cells hW.sk hb')), he.ok⟩
      have hkk := (Kept.of (S := (· = mb)) hbw).trans h3
      obtain ⟨h4, h5⟩ := h.new s.data.toList W.heap.size _ m hbw.size h2 hev hkk (fun g hg => by
        rcases hb g hg with h6 | h6
        · exact absurd h6.1 (by rw [hh]; decide)
        · exact h6)
      refine ⟨⟨W.heap.size, hbw.size, ?_, ?_⟩, h5⟩
      · unfold putTo; rw [if_neg (by rw [hh]; decide), if_neg hl]; exact h1
      · unfold putTo; rw [if_neg (by rw [hh]; decide), if_neg hl]; exact ⟨_, h4⟩
theorem mc_str {t : ByteArray} (h : okTx t.data.toList = true) : mcOk ⟨1, t, []⟩ := .inl ⟨rfl, h, rfl⟩
/-- A string is put. -/
theorem putA_str {F : Nat → Prop} {sb mb : Nat} {L : List Reg} {E : Nat → En} {M : Nat → Mc} {w W : World} (h : SL F sb mb L E M w) (hW : Below w.heap.size w W) (s t : ByteArray) (hn : okNm s.data.toList = true) (ht : okTx t.data.toList = true) :
    Calls Tryz.prog 43 #[BP sb, .string s, .agg #[.int .i64 1, .string t, .slice none 0 0]] W fun e w' => PutP F sb mb L M s.data.toList ⟨1, t, []⟩ w e w' :=
  putA_gen h s hn (.of hW) 1 t none 0 0 ⟨1, t, []⟩ ⟨rfl, rfl, LnOwn.nil _, mc_str ht⟩ (fun g hg => by simp [Value.ownBlock] at hg)
/-- Define. -/
theorem defineA {F : Nat → Prop} {sb mb : Nat} {L : List Reg} {M : Nat → Mc} {w : World} (h : SA F sb mb L M w) (s t : ByteArray) (hn : okNm s.data.toList = true) (ht : okTx t.data.toList = true) :
    Calls Tryz.prog 14 #[BP sb, .string s, .string t] w fun e w' => PutP F sb mb L M s.data.toList ⟨1, t, []⟩ w e w' := by
  obtain ⟨E, h⟩ := h
  have HV := Lib.hid (fun W => validText_any t W)
  rw [ht] at HV
  have HF := Lib.hid (find_ok h.sk s hn)
  have HP := Lib.hid (fun W (hW : Below w.heap.size w W) => putA_str h hW s t hn ht)
  obtain ⟨⟨kd, tx, lo, ln, lc⟩, hen⟩ : ∃ en, en = entOf L E s.data.toList := ⟨_, rfl⟩
  rw [← hen] at HF
  unfold enA at HF
  simp only at HF
  clear h ht hn hen
  go_enter Tryz.func14, Tryz.ntmps14
  go_wp2_with fail
  refine (HV.out _).mono ?_
  rintro e w1 ⟨rfl, rfl⟩
  go_wp2_with fail
  refine HF.out.mono ?_
  rintro e w2 ⟨rfl, hb⟩
  have HB := Lib.hid (hb.alloc hb.size (.cells #[.int .i64 kd, .string tx, .slice lo ln lc] 59))
  have hz := hb.size
  clear hb
  go_wp2_with fail
  refine (HP.out _ HB.out).mono ?_
  rintro e w3 ⟨⟨b, hb, rfl, hsa⟩, hbw⟩
  have HR : Hid (PutP F sb mb L M s.data.toList ⟨1, t, []⟩ w (.returned (.int .i64 (putTo L M s.data.toList ⟨1, t, []⟩ b).1)) w3) := Lib.hid ⟨⟨b, hb, rfl, hsa⟩, hbw⟩
  clear hsa hbw hb
  go_wp2_with fail
  go_ret
  exact HR.out
end Go.Proofs.YtgpanlkcpnlejaaGreat
/- The code's store: Append, Macro, Add. -/
namespace Go.Proofs.YtgpanlkcpnlejaaGreat
open Go.RowKit Go.Maps
set_option maxRecDepth 100000
abbrev M0 : Mc := ⟨0, ⟨#[]⟩, []⟩
/-- What a name has says; nothing: kind 0. -/
def mOf (L : List Reg) (M : Nat → Mc) (nm : List UInt8) : Mc := if hasS L nm then M (getS L nm).v else M0
theorem ent_of {F : Nat → Prop} {sb mb : Nat} {L : List Reg} {E : Nat → En} {M : Nat → Mc} {w : World} (h : SL F sb mb L E M w) (nm : List UInt8) : (entOf L E nm).kind = (mOf L M nm).kind ∧ (entOf L E nm).tx = (mOf L M nm).tx ∧ LnOwn w (entOf L E nm).lo (entOf L E nm).ln (entOf L E nm).lc (mOf L M nm).ls ∧ (mOf L M nm).tx.size ≤ 2000 ∧ (mOf L M nm).ls.length ≤ 2000 ∧ (∀ g, (Value.slice (entOf L E nm).lo (entOf L E nm).ln (entOf L E nm).lc).ownBlock = some g → hasS L nm = true ∧ own (E (getS L nm).v) = some g) := by
  unfold entOf mOf
  cases hh : hasS L nm with
  | true =>
    rw [if_pos rfl, if_pos rfl]
    have := h.en _ (getS_mem L nm hh)
    exact ⟨this.kd, this.tx, this.ln, mc_size this.ok, mc_len this.ok, fun g hg => ⟨rfl, hg⟩⟩
  | false =>
    rw [if_neg (by decide), if_neg (by decide)]
    exact ⟨rfl, rfl, LnOwn.nil _, by decide, by simp, fun g hg => by simp [Value.ownBlock] at hg⟩
theorem mOf_okTx {F : Nat → Prop} {sb mb : Nat} {L : List Reg} {E : Nat → En} {M : Nat → Mc} {w : World} (h : SL F sb mb L E M w) (nm : List UInt8) : okTx (mOf L M nm).tx.data.toList = true := by
  unfold mOf
  cases hh : hasS L nm with
  | true =>
    rw [if_pos rfl]
    rcases (h.en _ (getS_mem L nm hh)).ok with ⟨_, h1, _⟩ | ⟨_, h1, _⟩
    · exact h1
    · rw [h1]; rfl
  | false => rw [if_neg (by decide)]; rfl
theorem mOf_okLn {F : Nat → Prop} {sb mb : Nat} {L : List Reg} {E : Nat → En} {M : Nat → Mc} {w : World} (h : SL F sb mb L E M w) (nm : List UInt8) : (mOf L M nm).ls.all okLn = true := by
  unfold mOf
  cases hh : hasS L nm with
  | true =>
    rw [if_pos rfl]
    rcases (h.en _ (getS_mem L nm hh)).ok with ⟨_, _, h1⟩ | ⟨_, _, _, h1⟩
    · rw [h1]; rfl
    · exact h1
  | false => rw [if_neg (by decide)]; rfl
theorem okTx_app {a b : ByteArray} (ha : okTx a.data.toList = true) (hb : okTx b.data.toList = true) (h : a.size + b.size ≤ 2000) : okTx (a ++ b).data.toList = true := by
  unfold okTx at *
  rw [ib_any] at *
  simp only [Bool.and_eq_true, decide_eq_true_eq, Bool.not_eq_true'] at *
  rw [ByteArray.data_append, Array.toList_append, List.any_append, ha.2, hb.2]
  refine ⟨?_, rfl⟩
  rw [List.length_append, show a.data.toList.length = a.size by simp, show b.data.toList.length = b.size by simp]
  exact h
theorem okLn_bx {ls : List Ln} (h : ls.all okLn = true) : ∀ l ∈ ls, l.bx.length ≤ 2000 := by
  intro l hl
  have := List.all_eq_true.1 h l hl
  unfold okLn okRL at this
  split at this
  · simp only [Bool.and_eq_true, decide_eq_true_eq] at this; exact this.2
  · simp only [Bool.and_eq_true, beq_iff_eq] at this; omega
/-- Append. -/
theorem appendA {F : Nat → Prop} {sb mb : Nat} {L : List Reg} {M : Nat → Mc} {w : World} (h : SA F sb mb L M w) (s t : ByteArray) (hn : okNm s.data.toList = true) (ht : okTx t.data.toList = true) (hl : (mOf L M s.data.toList).tx.size + t.size ≤ 2000) :
    Calls Tryz.prog 17 #[BP sb, .string s, .string t] w fun e w' => PutP F sb mb L M s.data.toList ⟨1, (mOf L M s.data.toList).tx ++ t, []⟩ w e w' := by
  obtain ⟨E, h⟩ := h
  have HV := Lib.hid (fun W => validText_any t W)
  have htz := okTx_size ht
  have hm := ent_of h s.data.toList
  have hok := okTx_app (mOf_okTx h s.data.toList) ht hl
  rw [ht] at HV
  have HF := Lib.hid (find_ok h.sk s hn)
  obtain ⟨tm, htm⟩ : ∃ tm, tm = (mOf L M s.data.toList).tx := ⟨_, rfl⟩
  rw [← htm] at hm hl hok ⊢
  have HP := Lib.hid (fun W (hW : Below w.heap.size w W) => putA_str h hW s (tm ++ t) hn hok)
  obtain ⟨⟨kd, tx, lo, ln, lc⟩, hen⟩ : ∃ en, en = entOf L E s.data.toList := ⟨_, rfl⟩
  rw [← hen] at HF hm
  unfold enA at HF
  simp only at HF hm
  have hz := hm.2.2.2.1
  obtain rfl := hm.2.1
  clear hm
  have d1 : decide ((2000 : Int) < (tx.size : Int) + (t.size : Int)) = false := decide_eq_false (by omega)
  clear h ht hn hen hl hok htm
  go_enter Tryz.func17, Tryz.ntmps17
  go_wp2_with fail
  refine (HV.out _).mono ?_
  rintro e w1 ⟨rfl, rfl⟩
  go_wp2_with fail
  refine HF.out.mono ?_
  rintro e w2 ⟨rfl, hb⟩
  have HB := Lib.hid (hb.alloc hb.size (.cells #[.int .i64 kd, .string tx, .slice lo ln lc] 59))
  have hsz := hb.size
  clear hb
  go_wp2_with fail
  refine (HP.out _ HB.out).mono ?_
  rintro e w3 ⟨⟨b, hb, rfl, hsa⟩, hbw⟩
  have HR : Hid (PutP F sb mb L M s.data.toList ⟨1, tx ++ t, []⟩ w (.returned (.int .i64 (putTo L M s.data.toList ⟨1, tx ++ t, []⟩ b).1)) w3) := Lib.hid ⟨⟨b, hb, rfl, hsa⟩, hbw⟩
  clear hsa hbw hb
  go_wp2_with fail
  go_ret
  exact HR.out
theorem appendA_limit {F : Nat → Prop} {sb mb : Nat} {L : List Reg} {M : Nat → Mc} {w : World} (h : SA F sb mb L M w) (s t : ByteArray) (hn : okNm s.data.toList = true) (ht : okTx t.data.toList = true) (hl : 2000 < (mOf L M s.data.toList).tx.size + t.size) :
    Calls Tryz.prog 17 #[BP sb, .string s, .string t] w fun e w' => e = .returned (.int .i64 2) ∧ Below w.heap.size w w' := by
  obtain ⟨E, h⟩ := h
  have hm := ent_of h s.data.toList
  exact append_limit h.sk s t ht hn (by rw [hm.2.1]; exact hm.2.2.2.1) (by rw [hm.2.1]; exact hl)
/- Macro and Add: the errors ahead. -/
theorem macro_arg {P : TypeId → Nat → Prop} {sb mb : Nat} {L : List Reg} {E : Nat → En} {w : World} {A : Option Addr} {n c : Nat} {ls : List Ln} (h : SK sb mb L E w) (s : ByteArray) (hl : LnsAt P w A n ls) (hP : ∀ e b, P e b → b < w.heap.size) (hn9 : (n : Int) ≤ 9223372036854775807) (hall : ls.all okLn = false) :
    Calls Tryz.prog 18 #[BP sb, .string s, .slice A n c] w fun e w' => e = .returned (.int .i64 1) ∧ Below w.heap.size w w' := by
  have HV := Lib.hid (validLines_any (c := c) hl hP hn9)
  rw [hall] at HV
  have HF := Lib.hid (fun W (hW : Below w.heap.size w W) => find_arg (h.below hW) s)
  clear h hl hP hall
  go_enter Tryz.func18, Tryz.ntmps18
  go_wp2_with fail
  refine HV.out.mono ?_
  rintro e w1 ⟨rfl, hb1⟩
  have HB1 := Lib.hid hb1
  clear hb1
  go_wp2_with fail
  refine (HF.out _ HB1.out).mono ?_
  rintro e w2 ⟨rfl, hb⟩
  have HB := Lib.hid (HB1.out.trans (hb.mono HB1.out.size))
  have hz := hb.size
  clear hb
  go_wp2_with fail
  go_ret
  exact ⟨rfl, HB.out.alloc HB.out.size _⟩
theorem add_arg {P : TypeId → Nat → Prop} {sb mb : Nat} {L : List Reg} {E : Nat → En} {w : World} {A : Option Addr} {n c : Nat} {ls : List Ln} (h : SK sb mb L E w) (s : ByteArray) (hl : LnsAt P w A n ls) (hP : ∀ e b, P e b → b < w.heap.size) (hn9 : (n : Int) ≤ 9223372036854775807) (hall : ls.all okLn = false) :
    Calls Tryz.prog 19 #[BP sb, .string s, .slice A n c] w fun e w' => e = .returned (.int .i64 1) ∧ Below w.heap.size w w' := by
  have HV := Lib.hid (validLines_any (c := c) hl hP hn9)
  rw [hall] at HV
  have HF := Lib.hid (fun W (hW : Below w.heap.size w W) => find_arg (h.below hW) s)
  clear h hl hP hall
  go_enter Tryz.func19, Tryz.ntmps19
  go_wp2_with fail
  refine HV.out.mono ?_
  rintro e w1 ⟨rfl, hb1⟩
  have HB1 := Lib.hid hb1
  clear hb1
  go_wp2_with fail
  refine (HF.out _ HB1.out).mono ?_
  rintro e w2 ⟨rfl, hb⟩
  have HB := Lib.hid (HB1.out.trans (hb.mono HB1.out.size))
  have hz := hb.size
  clear hb
  go_wp2_with fail
  go_ret
  exact ⟨rfl, HB.out.alloc HB.out.size _⟩
theorem macro_bad {P : TypeId → Nat → Prop} {sb mb : Nat} {L : List Reg} {E : Nat → En} {w : World} {A : Option Addr} {n c : Nat} {ls : List Ln} (h : SK sb mb L E w) (s : ByteArray) (hl : LnsAt P w A n ls) (hP : ∀ e b, P e b → b < w.heap.size) (hn9 : (n : Int) ≤ 9223372036854775807) (hall : ls.all okLn = true) (hn : okNm s.data.toList = false) :
    Calls Tryz.prog 18 #[BP sb, .string s, .slice A n c] w fun e w' => e = .returned (.int .i64 6) ∧ Below w.heap.size w w' := by
  have HV := Lib.hid (validLines_any (c := c) hl hP hn9)
  rw [hall] at HV
  have HF := Lib.hid (fun W (hW : Below w.heap.size w W) => find_bad (h.below hW) s hn)
  clear h hl hP hall hn
  go_enter Tryz.func18, Tryz.ntmps18
  go_wp2_with fail
  refine HV.out.mono ?_
  rintro e w1 ⟨rfl, hb1⟩
  have HB1 := Lib.hid hb1
  clear hb1
  go_wp2_with fail
  refine (HF.out _ HB1.out).mono ?_
  rintro e w2 ⟨rfl, hb⟩
  have HB := Lib.hid (HB1.out.trans (hb.mono HB1.out.size))
  have hz := hb.size
  clear hb
  go_wp2_with fail
  go_ret
  exact ⟨rfl, HB.out.alloc HB.out.size _⟩
theorem add_bad {P : TypeId → Nat → Prop} {sb mb : Nat} {L : List Reg} {E : Nat → En} {w : World} {A : Option Addr} {n c : Nat} {ls : List Ln} (h : SK sb mb L E w) (s : ByteArray) (hl : LnsAt P w A n ls) (hP : ∀ e b, P e b → b < w.heap.size) (hn9 : (n : Int) ≤ 9223372036854775807) (hall : ls.all okLn = true) (hn : okNm s.data.toList = false) :
    Calls Tryz.prog 19 #[BP sb, .string s, .slice A n c] w fun e w' => e = .returned (.int .i64 6) ∧ Below w.heap.size w w' := by
  have HV := Lib.hid (validLines_any (c := c) hl hP hn9)
  rw [hall] at HV
  have HF := Lib.hid (fun W (hW : Below w.heap.size w W) => find_bad (h.below hW) s hn)
  clear h hl hP hall hn
  go_enter Tryz.func19, Tryz.ntmps19
  go_wp2_with fail
  refine HV.out.mono ?_
  rintro e w1 ⟨rfl, hb1⟩
  have HB1 := Lib.hid hb1
  clear hb1
  go_wp2_with fail
  refine (HF.out _ HB1.out).mono ?_
  rintro e w2 ⟨rfl, hb⟩
  have HB := Lib.hid (HB1.out.trans (hb.mono HB1.out.size))
  have hz := hb.size
  clear hb
  go_wp2_with fail
  go_ret
  exact ⟨rfl, HB.out.alloc HB.out.size _⟩
/-- putLines at the store: what the old lines are is the entry's, or nothing. -/
theorem putLinesA {P : TypeId → Nat → Prop} {F : Nat → Prop} {sb mb : Nat} {L : List Reg} {E : Nat → En} {M : Nat → Mc} {w : World} {A : Option Addr} {n c : Nat} {ls lso : List Ln} {oo : Option Addr} {on oc : Nat} (h : SL F sb mb L E M w) (s : ByteArray) (hn : okNm s.data.toList = true)
    (ho : LnOwn w oo on oc lso) (hoo : ∀ g, (Value.slice oo on oc).ownBlock = some g → hasS L s.data.toList = true ∧ own (E (getS L s.data.toList).v) = some g) (hol : lso.all okLn = true) (hl : LnsAt P w A n ls) (hP : ∀ e b, P e b → b < w.heap.size) (hA : A = none → n = 0) (hall : ls.all okLn = true) (hfit : on + n ≤ 2000) :
    Calls Tryz.prog 49 #[BP sb, .string s, .slice oo on oc, .slice A n c] w fun e w' => PutP F sb mb L M s.data.toList ⟨2, ⟨#[]⟩, lso ++ ls⟩ w e w' := by
  have hlen : (lso ++ ls).length = on + n := by rw [List.length_append, ← ho.len, ← hl.len]
  have hput : ∀ W o' c', PutR w oo on oc (lso ++ ls) o' (on + n) c' W → Calls Tryz.prog 43 #[BP sb, .string s, .agg #[.int .i64 2, .string ⟨#[]⟩, .slice o' (on + n) c']] W fun e w' => PutP F sb mb L M s.data.toList ⟨2, ⟨#[]⟩, lso ++ ls⟩ w e w' := by
    intro W o' c' hr
    refine putA_gen h s hn (hr.kept.mono (fun k hk => hoo k hk)) 2 ⟨#[]⟩ o' (on + n) c' ⟨2, ⟨#[]⟩, lso ++ ls⟩ ⟨rfl, rfl, hr.own, .inr ⟨rfl, rfl, by simp only; omega, by simp only; rw [List.all_append, hol, hall]; rfl⟩⟩ (fun g hg => ?_)
    rcases hr.blk g hg with h1 | h1
    · exact .inl (hoo g h1)
    · exact .inr h1
  by_cases hc : ∃ b cc, (putTo L M s.data.toList ⟨2, ⟨#[]⟩, lso ++ ls⟩ b).1 = cc
  · have hcc : ∀ b, (putTo L M s.data.toList ⟨2, ⟨#[]⟩, lso ++ ls⟩ b).1 = (putTo L M s.data.toList ⟨2, ⟨#[]⟩, lso ++ ls⟩ 0).1 := by
      intro b; unfold putTo; split
      · rfl
      · split <;> rfl
    refine (putLines_fit (c := c) s ho hl hP hA (okLn_bx hall) hfit (putTo L M s.data.toList ⟨2, ⟨#[]⟩, lso ++ ls⟩ 0).1 (fun W w' => PutP F sb mb L M s.data.toList ⟨2, ⟨#[]⟩, lso ++ ls⟩ w (.returned (.int .i64 (putTo L M s.data.toList ⟨2, ⟨#[]⟩, lso ++ ls⟩ 0).1)) w') (fun W o' c' hr => (hput W o' c' hr).mono fun e w' hp => ?_)).mono fun e w' ⟨h1, W, o', c', h2, h3⟩ => ?_
    · obtain ⟨⟨b, h1, h2, h3⟩, h4⟩ := hp
      rw [hcc b] at h2
      exact ⟨h2, ⟨⟨b, h1, by rw [hcc b], h3⟩, h4⟩⟩
    · rw [h1]; exact h3
  · exact absurd ⟨0, _, rfl⟩ hc
/-- Macro. -/
theorem macroA {P : TypeId → Nat → Prop} {F : Nat → Prop} {sb mb : Nat} {L : List Reg} {M : Nat → Mc} {w : World} {A : Option Addr} {n c : Nat} {ls : List Ln} (h : SA F sb mb L M w) (s : ByteArray) (hn : okNm s.data.toList = true) (hl : LnsAt P w A n ls) (hP : ∀ e b, P e b → b < w.heap.size) (hA : A = none → n = 0) (hn9 : (n : Int) ≤ 9223372036854775807) (hall : ls.all okLn = true) (hfit : n ≤ 2000) :
    Calls Tryz.prog 18 #[BP sb, .string s, .slice A n c] w fun e w' => PutP F sb mb L M s.data.toList ⟨2, ⟨#[]⟩, ls⟩ w e w' := by
  obtain ⟨E, h⟩ := h
  have HV := Lib.hid (validLines_any (c := c) hl hP hn9)
  rw [hall] at HV
  have HF := Lib.hid (fun W (hW : Below w.heap.size w W) => find_ok (h.sk.below hW) s hn)
  have HP := Lib.hid (fun W (hW : Below w.heap.size w W) => putLinesA (c := c) (P := fun _ b => b < w.heap.size) (h.below hW) s hn (LnOwn.nil W) (fun g hg => by simp [Value.ownBlock] at hg) rfl (hl.keep fun e b hb => ⟨hW.block b (hP e b hb), hP e b hb⟩) (fun _ b hb => Nat.lt_of_lt_of_le hb hW.size) hA hall (by omega : 0 + n ≤ 2000))
  have HT := Lib.hid h.hf
  obtain ⟨⟨kd, tx, lo, ln, lc⟩, hen⟩ : ∃ en, en = entOf L E s.data.toList := ⟨_, rfl⟩
  rw [← hen] at HF
  unfold enA at HF
  simp only [List.nil_append] at HF HP
  clear h hl hP hall hn hen hA
  go_enter Tryz.func18, Tryz.ntmps18
  go_wp2_with fail
  refine HV.out.mono ?_
  rintro e w1 ⟨rfl, hb1⟩
  have HB1 := Lib.hid hb1
  clear hb1
  go_wp2_with fail
  refine (HF.out _ HB1.out).mono ?_
  rintro e w2 ⟨rfl, hb⟩
  have HB := Lib.hid ((HB1.out.trans (hb.mono HB1.out.size)).alloc (Nat.le_trans HB1.out.size hb.size) (.cells #[.int .i64 kd, .string tx, .slice lo ln lc] 59))
  have hsz := hb.size
  clear hb
  go_wp2_with fail
  refine (HP.out _ HB.out).mono ?_
  rintro e w3 hp
  have hp2 := hp.from HB.out HT.out
  obtain ⟨⟨b, hb, rfl, hsa⟩, hbw⟩ := hp2
  have HR : Hid (PutP F sb mb L M s.data.toList ⟨2, ⟨#[]⟩, ls⟩ w (.returned (.int .i64 (putTo L M s.data.toList ⟨2, ⟨#[]⟩, ls⟩ b).1)) w3) := Lib.hid ⟨⟨b, hb, rfl, hsa⟩, hbw⟩
  clear hsa hbw hb hp
  go_wp2_with fail
  go_ret
  exact HR.out
theorem macroA_limit {P : TypeId → Nat → Prop} {F : Nat → Prop} {sb mb : Nat} {L : List Reg} {M : Nat → Mc} {w : World} {A : Option Addr} {n c : Nat} {ls : List Ln} (h : SA F sb mb L M w) (s : ByteArray) (hn : okNm s.data.toList = true) (hl : LnsAt P w A n ls) (hP : ∀ e b, P e b → b < w.heap.size) (hn9 : n ≤ 140737488355328) (hall : ls.all okLn = true) (hfit : 2000 < n) :
    Calls Tryz.prog 18 #[BP sb, .string s, .slice A n c] w fun e w' => e = .returned (.int .i64 2) ∧ Below w.heap.size w w' := by
  obtain ⟨E, h⟩ := h
  have HV := Lib.hid (validLines_any (c := c) hl hP (by omega))
  rw [hall] at HV
  have HF := Lib.hid (fun W (hW : Below w.heap.size w W) => find_ok (h.sk.below hW) s hn)
  have HP := Lib.hid (fun W => putLines_limit sb s none 0 0 A n c W (by omega) hn9 (by omega))
  obtain ⟨⟨kd, tx, lo, ln, lc⟩, hen⟩ : ∃ en, en = entOf L E s.data.toList := ⟨_, rfl⟩
  rw [← hen] at HF
  unfold enA at HF
  simp only at HF
  clear h hl hP hall hn hen
  go_enter Tryz.func18, Tryz.ntmps18
  go_wp2_with fail
  refine HV.out.mono ?_
  rintro e w1 ⟨rfl, hb1⟩
  have HB1 := Lib.hid hb1
  clear hb1
  go_wp2_with fail
  refine (HF.out _ HB1.out).mono ?_
  rintro e w2 ⟨rfl, hb⟩
  have HB := Lib.hid ((HB1.out.trans (hb.mono HB1.out.size)).alloc (Nat.le_trans HB1.out.size hb.size) (.cells #[.int .i64 kd, .string tx, .slice lo ln lc] 59))
  have hsz := hb.size
  clear hb
  go_wp2_with fail
  refine (HP.out _).mono ?_
  rintro e w3 ⟨rfl, rfl⟩
  go_wp2_with fail
  go_ret
  exact ⟨rfl, HB.out⟩
/-- Add. -/
theorem addA {P : TypeId → Nat → Prop} {F : Nat → Prop} {sb mb : Nat} {L : List Reg} {M : Nat → Mc} {w : World} {A : Option Addr} {n c : Nat} {ls : List Ln} (h : SA F sb mb L M w) (s : ByteArray) (hn : okNm s.data.toList = true) (hl : LnsAt P w A n ls) (hP : ∀ e b, P e b → b < w.heap.size) (hA : A = none → n = 0) (hn9 : (n : Int) ≤ 9223372036854775807) (hall : ls.all okLn = true) (hfit : (mOf L M s.data.toList).ls.length + n ≤ 2000) :
    Calls Tryz.prog 19 #[BP sb, .string s, .slice A n c] w fun e w' => PutP F sb mb L M s.data.toList ⟨2, ⟨#[]⟩, (mOf L M s.data.toList).ls ++ ls⟩ w e w' := by
  obtain ⟨E, h⟩ := h
  have HV := Lib.hid (validLines_any (c := c) hl hP hn9)
  rw [hall] at HV
  have HF := Lib.hid (fun W (hW : Below w.heap.size w W) => find_ok (h.sk.below hW) s hn)
  have hm := ent_of h s.data.toList
  have HP := Lib.hid (fun W (hW : Below w.heap.size w W) => putLinesA (c := c) (P := fun _ b => b < w.heap.size) (h.below hW) s hn (hm.2.2.1.below hW) hm.2.2.2.2.2 (mOf_okLn h s.data.toList) (hl.keep fun e b hb => ⟨hW.block b (hP e b hb), hP e b hb⟩) (fun _ b hb => Nat.lt_of_lt_of_le hb hW.size) hA hall (by rw [hm.2.2.1.len]; exact hfit))
  have HT := Lib.hid h.hf
  obtain ⟨⟨kd, tx, lo, ln, lc⟩, hen⟩ : ∃ en, en = entOf L E s.data.toList := ⟨_, rfl⟩
  rw [← hen] at HF HP
  unfold enA at HF
  simp only at HF HP
  clear h hl hP hall hn hen hA hm hfit
  generalize (mOf L M s.data.toList).ls = lso at HP ⊢
  go_enter Tryz.func19, Tryz.ntmps19
  go_wp2_with fail
  refine HV.out.mono ?_
  rintro e w1 ⟨rfl, hb1⟩
  have HB1 := Lib.hid hb1
  clear hb1
  go_wp2_with fail
  refine (HF.out _ HB1.out).mono ?_
  rintro e w2 ⟨rfl, hb⟩
  have HB := Lib.hid ((HB1.out.trans (hb.mono HB1.out.size)).alloc (Nat.le_trans HB1.out.size hb.size) (.cells #[.int .i64 kd, .string tx, .slice lo ln lc] 59))
  have hsz := hb.size
  clear hb
  go_wp2_with fail
  refine (HP.out _ HB.out).mono ?_
  rintro e w3 hp
  have hp2 := hp.from HB.out HT.out
  obtain ⟨⟨b, hb, rfl, hsa⟩, hbw⟩ := hp2
  have HR : Hid (PutP F sb mb L M s.data.toList ⟨2, ⟨#[]⟩, lso ++ ls⟩ w (.returned (.int .i64 (putTo L M s.data.toList ⟨2, ⟨#[]⟩, lso ++ ls⟩ b).1)) w3) := Lib.hid ⟨⟨b, hb, rfl, hsa⟩, hbw⟩
  clear hsa hbw hb hp
  go_wp2_with fail
  go_ret
  exact HR.out
theorem addA_limit {P : TypeId → Nat → Prop} {F : Nat → Prop} {sb mb : Nat} {L : List Reg} {M : Nat → Mc} {w : World} {A : Option Addr} {n c : Nat} {ls : List Ln} (h : SA F sb mb L M w) (s : ByteArray) (hn : okNm s.data.toList = true) (hl : LnsAt P w A n ls) (hP : ∀ e b, P e b → b < w.heap.size) (hn9 : n ≤ 140737488355328) (hall : ls.all okLn = true) (hfit : 2000 < (mOf L M s.data.toList).ls.length + n) :
    Calls Tryz.prog 19 #[BP sb, .string s, .slice A n c] w fun e w' => e = .returned (.int .i64 2) ∧ Below w.heap.size w w' := by
  obtain ⟨E, h⟩ := h
  have HV := Lib.hid (validLines_any (c := c) hl hP (by omega))
  rw [hall] at HV
  have HF := Lib.hid (fun W (hW : Below w.heap.size w W) => find_ok (h.sk.below hW) s hn)
  have hm := ent_of h s.data.toList
  have HP := Lib.hid (fun W => putLines_limit sb s (entOf L E s.data.toList).lo (entOf L E s.data.toList).ln (entOf L E s.data.toList).lc A n c W (by rw [hm.2.2.1.len]; exact hm.2.2.2.2.1) hn9 (by rw [hm.2.2.1.len]; exact hfit))
  obtain ⟨⟨kd, tx, lo, ln, lc⟩, hen⟩ : ∃ en, en = entOf L E s.data.toList := ⟨_, rfl⟩
  rw [← hen] at HF HP
  unfold enA at HF
  simp only at HF HP
  clear h hl hP hall hn hen hm hfit
  go_enter Tryz.func19, Tryz.ntmps19
  go_wp2_with fail
  refine HV.out.mono ?_
  rintro e w1 ⟨rfl, hb1⟩
  have HB1 := Lib.hid hb1
  clear hb1
  go_wp2_with fail
  refine (HF.out _ HB1.out).mono ?_
  rintro e w2 ⟨rfl, hb⟩
  have HB := Lib.hid ((HB1.out.trans (hb.mono HB1.out.size)).alloc (Nat.le_trans HB1.out.size hb.size) (.cells #[.int .i64 kd, .string tx, .slice lo ln lc] 59))
  have hsz := hb.size
  clear hb
  go_wp2_with fail
  refine (HP.out _).mono ?_
  rintro e w3 ⟨rfl, rfl⟩
  go_wp2_with fail
  go_ret
  exact ⟨rfl, HB.out⟩
end Go.Proofs.YtgpanlkcpnlejaaGreat
/- Numbers and lines that are the same. -/
namespace Go.Proofs.YtgpanlkcpnlejaaGreat
open Go.RowKit Go.Maps
set_option maxRecDepth 100000
theorem int_at (ns : List Int) (j : Nat) (h : j < ns.length) : (intCs ns)[j]? = some (.int .i64 ns[j]) := by
  unfold intCs; rw [List.getElem?_map, List.getElem?_eq_getElem h]; rfl
set_option maxHeartbeats 1000000 in
theorem numbers_eq {P P' : Nat → Prop} {w : World} {A A' : Option Addr} {n c c' : Nat} {ns : List Int} (h : ReadsP P w 1 A n (intCs ns)) (h' : ReadsP P' w 1 A' n (intCs ns)) (hn : (n : Int) ≤ 9223372036854775807) :
    Calls Tryz.prog 82 #[.slice A n c, .slice A' n c'] w fun e w' => e = .returned (.bool true) ∧ Below w.heap.size w w' := by
  have H := Lib.hid h
  have H' := Lib.hid h'
  have HL := Lib.hid (show ns.length = n by have := h.1; unfold intCs at this; rw [List.length_map, Nat.mul_one] at this; exact this)
  have hself : ((n : Int) != (n : Int)) = false := by simp
  clear h h'
  go_enter Tryz.func82, Tryz.ntmps82
  go_wp2_with fail
  go_loopg [5] n (fun k i wr => ∃ j : Nat, k + j = n ∧ i = .int .i64 j ∧ wr.heap = w.heap ∧ Below w.heap.size w wr)
  case atStart => exact ⟨0, rfl, rfl, rfl, Below.refl _ _⟩
  case round =>
    obtain ⟨j, hk, rfl, hh, hb⟩ := hrel
    have HK := Lib.hid hk
    have HH := Lib.hid hh
    have HB := Lib.hid hb
    by_cases hj : j < n
    · have dj : decide (j < n) = true := decide_eq_true hj
      have hjl : j < ns.length := by rw [HL.out]; exact hj
      obtain ⟨b, off, rfl, _, hc⟩ := H.out.2 (by omega)
      obtain ⟨b', off', rfl, _, hc'⟩ := H'.out.2 (by omega)
      have c0 := hc j _ (int_at ns j hjl)
      have c0' := hc' j _ (int_at ns j hjl)
      have key : ∀ p : Addr, wr.cell? p = w.cell? p := fun p => by unfold World.cell?; rw [HH.out]
      rw [← key] at c0 c0'
      obtain ⟨z, hz⟩ : ∃ z, z = ns[j] := ⟨_, rfl⟩
      rw [← hz] at c0 c0'
      have HJ := Lib.hid hj
      have hj0 : (0 : Int) ≤ (j : Int) := by omega
      have hj1 : (j : Int) < (n : Int) := by omega
      clear hk hj hh hb hjl hc hc' key hz
      go_wp2_with fail
      go_quiet (fail)
      go_wp2_with fail
      go_roundg (gk - 1)
      case measure => have := HK.out; have := HJ.out; omega
      case rel => have := HK.out; have := HJ.out; exact ⟨j + 1, by omega, by go_num, HH.out, ⟨HB.out.os, HB.out.tape, HB.out.output, HB.out.size, HB.out.block⟩⟩
    · have dj : decide (j < n) = false := decide_eq_false hj
      clear hk hj hh hb
      go_wp2_with fail
      go_ret
      exact ⟨rfl, HB.out⟩
/-- The cells of a box that is read. -/
theorem reads_bx {P : Nat → Prop} {w : World} {A : Option Addr} {n : Nat} {rs : List RB} (h : ReadsP P w 7 A n (rs.flatMap rbCs)) (j : Nat) (r : RB) (hr : rs[j]? = some r) :
    ∃ b off, A = some ⟨b, off, none⟩ ∧ P b ∧ w.cell? ⟨b, off + j * 7, none⟩ = some (.int .i64 r.kd) ∧ w.cell? ⟨b, off + j * 7 + 1, none⟩ = some (.int .i64 r.wd) ∧ w.cell? ⟨b, off + j * 7 + 2, none⟩ = some (.int .i64 r.fo) ∧ w.cell? ⟨b, off + j * 7 + 3, none⟩ = some (.int .i64 r.sz) ∧ w.cell? ⟨b, off + j * 7 + 4, none⟩ = some (.string r.nm) ∧ w.cell? ⟨b, off + j * 7 + 5, none⟩ = some (.string r.co) ∧ w.cell? ⟨b, off + j * 7 + 6, none⟩ = some (.slice r.no r.nn r.nc) := by
  have hjl : j < rs.length := (List.getElem?_eq_some_iff.1 hr).1
  have h1 := h.1
  rw [fm_len rb_len] at h1
  obtain ⟨b, off, hA, hp, hc⟩ := h.2 (by omega)
  have key := fun k (hk : k < 7) => fm_at rb_len rs j k r hr hk
  have key2 : ∀ k (hk : k < 7) u, (rbCs r)[k]? = some u → w.cell? ⟨b, off + j * 7 + k, none⟩ = some u := by
    intro k hk u hu
    have := hc _ _ ((key k hk).trans hu)
    rwa [← Nat.add_assoc] at this
  exact ⟨b, off, hA, hp, key2 0 (by omega) _ rfl, key2 1 (by omega) _ rfl, key2 2 (by omega) _ rfl, key2 3 (by omega) _ rfl, key2 4 (by omega) _ rfl, key2 5 (by omega) _ rfl, key2 6 (by omega) _ rfl⟩
theorem fresh_ln {b : Nat} {c0 c1 c2 c3 c4 : Value} {w : World} (h : w.heap[b]? = some (.cells #[c0, c1, c2, c3, c4] 39 (0, 0))) : (w.cell? ⟨b, 0, none⟩ = some c0 ∧ w.cell? ⟨b, 1, none⟩ = some c1 ∧ w.cell? ⟨b, 2, none⟩ = some c2 ∧ w.cell? ⟨b, 3, none⟩ = some c3 ∧ w.cell? ⟨b, 4, none⟩ = some c4) ∧ True := by
  simp [World.cell?, h]
theorem two_alloc (w : World) (X Y : Array Value) (e e' : TypeId) : ((w.alloc (.cells X e)).alloc (.cells Y e')).heap[w.heap.size]? = some (.cells X e (0, 0)) ∧ ((w.alloc (.cells X e)).alloc (.cells Y e')).heap[w.heap.size + 1]? = some (.cells Y e' (0, 0)) ∧ Below w.heap.size w ((w.alloc (.cells X e)).alloc (.cells Y e')) := by
  refine ⟨(Below.heap_alloc _ _ _ (by simp)).trans (heap_alloc_new _ _), ?_, ((Below.refl _ _).alloc (Nat.le_refl _) _).alloc (by simp) _⟩
  have := heap_alloc_new (w.alloc (.cells X e)) (.cells Y e')
  simpa using this
/-- Two lines in blocks of their own. -/
structure TwoLn (w wr : World) (tx : ByteArray) (md : Bool) (up dn : Int) (bo : Option Addr) (bc : Nat) (bo' : Option Addr) (bc' n : Nat) (x y : Value) (wx : World) : Prop where
  ex : ∃ g g', x = BP g ∧ y = BP g' ∧ wx.heap[g]? = some (.cells #[.string tx, .bool md, .int .i64 up, .int .i64 dn, .slice bo n bc] 39 (0, 0)) ∧ wx.heap[g']? = some (.cells #[.string tx, .bool md, .int .i64 up, .int .i64 dn, .slice bo' n bc'] 39 (0, 0)) ∧ wr.heap.size ≤ g ∧ wr.heap.size ≤ g'
  below : Below wr.heap.size wr wx
/-- Two boxes in blocks of their own. -/
structure TwoBx (wr : World) (kd wd fo sz : Int) (nm co : ByteArray) (no : Option Addr) (nc : Nat) (no' : Option Addr) (nc' nn : Nat) (x y : Value) (wx : World) : Prop where
  ex : ∃ g g', x = BP g ∧ y = BP g' ∧ wx.heap[g]? = some (.cells #[.int .i64 kd, .int .i64 wd, .int .i64 fo, .int .i64 sz, .string nm, .string co, .slice no nn nc] 101 (0, 0)) ∧ wx.heap[g']? = some (.cells #[.int .i64 kd, .int .i64 wd, .int .i64 fo, .int .i64 sz, .string nm, .string co, .slice no' nn nc'] 101 (0, 0))
  below : Below wr.heap.size wr wx
/-- At the head of the inner loop. -/
def InL (w : World) (g g' : Nat) (tx : ByteArray) (md : Bool) (up dn : Int) (bo : Option Addr) (bc : Nat) (bo' : Option Addr) (bc' n k : Nat) (i : Value) (wi : World) : Prop :=
  ∃ m : Nat, k + m = n ∧ i = .int .i64 m ∧ wi.heap[g]? = some (.cells #[.string tx, .bool md, .int .i64 up, .int .i64 dn, .slice bo n bc] 39 (0, 0)) ∧ wi.heap[g']? = some (.cells #[.string tx, .bool md, .int .i64 up, .int .i64 dn, .slice bo' n bc'] 39 (0, 0)) ∧ Below w.heap.size w wi
set_option maxHeartbeats 8000000 in
theorem sameLines_eq {P P' : TypeId → Nat → Prop} {w : World} {A A' : Option Addr} {n c c' : Nat} {ls : List Ln} (h : LnsAt P w A n ls) (h' : LnsAt P' w A' n ls) (hP : ∀ e b, P e b → b < w.heap.size) (hP' : ∀ e b, P' e b → b < w.heap.size) (hn : (n : Int) ≤ 9223372036854775807) :
    Calls Tryz.prog 69 #[.slice A n c, .slice A' n c'] w fun e w' => e = .returned (.bool true) ∧ Below w.heap.size w w' := by
  obtain ⟨⟨rs, hr, ha⟩, hlen⟩ := h
  obtain ⟨⟨rs', hr', ha'⟩, hlen'⟩ := h'
  have HR := Lib.hid hr
  have HR' := Lib.hid hr'
  have HA : Hid (All2 (RlIs P w) rs ls) := Lib.hid ha
  have HA' : Hid (All2 (RlIs P' w) rs' ls) := Lib.hid ha'
  have HLEN := Lib.hid hlen
  have HP := Lib.hid hP
  have HP' := Lib.hid hP'
  have HRL := Lib.hid (show rs.length = n by rw [ha.1, hlen])
  have HRL' := Lib.hid (show rs'.length = n by rw [ha'.1, hlen])
  have hself : ((n : Int) != (n : Int)) = false := by simp
  clear hr hr' ha ha' hlen hlen' hP hP'
  go_enter Tryz.func69, Tryz.ntmps69
  go_wp2_with fail
  go_loopg [5] n (fun k i wr => ∃ j : Nat, k + j = n ∧ i = .int .i64 j ∧ Below w.heap.size w wr)
  case atStart => exact ⟨0, rfl, rfl, Below.refl _ _⟩
  case round =>
    obtain ⟨j, hk, rfl, hb⟩ := hrel
    have HK := Lib.hid hk
    have HB := Lib.hid hb
    by_cases hj : j < n
    · have dj : decide (j < n) = true := decide_eq_true hj
      have hrj : rs[j]? = some (rs[j]'(by have := HRL.out; omega)) := List.getElem?_eq_getElem (by have := HRL.out; omega)
      obtain ⟨r, hre⟩ : ∃ r, r = rs[j]'(by have := HRL.out; omega) := ⟨_, rfl⟩
      rw [← hre] at hrj
      have hrj' : rs'[j]? = some (rs'[j]'(by have := HRL'.out; omega)) := List.getElem?_eq_getElem (by have := HRL'.out; omega)
      obtain ⟨r', hre'⟩ : ∃ r', r' = rs'[j]'(by have := HRL'.out; omega) := ⟨_, rfl⟩
      rw [← hre'] at hrj'
      have hlj : ls[j]? = some (ls[j]'(by have := HLEN.out; omega)) := List.getElem?_eq_getElem (by have := HLEN.out; omega)
      obtain ⟨l, hle⟩ : ∃ l, l = ls[j]'(by have := HLEN.out; omega) := ⟨_, rfl⟩
      rw [← hle] at hlj
      have hri := HA.out.2 j r l hrj hlj
      have hri' := HA'.out.2 j r' l hrj' hlj
      obtain ⟨b, off, rfl, hp, c0, c1, c2, c3, c4⟩ := reads_ln HR.out j r hrj
      obtain ⟨b', off', rfl, hp', d0, d1, d2, d3, d4⟩ := reads_ln HR'.out j r' hrj'
      have e := fun o => hb.cell (p := ⟨b, o, none⟩) (HP.out _ b hp)
      have e' := fun o => hb.cell (p := ⟨b', o, none⟩) (HP'.out _ b' hp')
      rw [← e] at c0 c1 c2 c3 c4
      rw [← e'] at d0 d1 d2 d3 d4
      rw [hri.tx] at c0
      rw [hri.md] at c1
      rw [hri.up] at c2
      rw [hri.dn] at c3
      rw [hri'.tx] at d0
      rw [hri'.md] at d1
      rw [hri'.up] at d2
      rw [hri'.dn] at d3
      have hbx := hri.bx
      have hbx' := hri'.bx
      have hbl := hri.bx.len
      have hbl' := hri'.bx.len
      have hcp := hri.cap
      have hle1 := hri.le
      obtain ⟨_, _, _, _, bo, bn, bc⟩ := r
      obtain ⟨_, _, _, _, bo', bn', bc'⟩ := r'
      simp only at c4 d4 hbx hbx' hbl hbl' hcp hle1
      have hbb : bn' = bn := by omega
      subst hbb
      have HBX := Lib.hid hbx
      have HBX' := Lib.hid hbx'
      have HBL := Lib.hid hbl
      have hbn : (bn' : Int) ≤ 9223372036854775807 := by omega
      obtain ⟨tx, md, up, dn, bs⟩ := l
      simp only at c0 c1 c2 c3 d0 d1 d2 d3 HBX HBX' HBL
      have HJ := Lib.hid hj
      have hself2 : ((bn' : Int) != (bn' : Int)) = false := by simp
      have hj0 : (0 : Int) ≤ (j : Int) := by omega
      have hj1 : (j : Int) < (n : Int) := by omega
      have eb : wr.heap.size ≠ b := World.new_ne wr ⟨b, off + j * 5, none⟩ c0
      have eb' : wr.heap.size ≠ b' := World.new_ne wr ⟨b', off' + j * 5, none⟩ d0
      have hlt1 : b < wr.heap.size := World.block_lt_of_cell? wr ⟨b, off + j * 5, none⟩ c0
      have hlt2 : b' < wr.heap.size := World.block_lt_of_cell? wr ⟨b', off' + j * 5, none⟩ d0
      clear hk hj hb hrj hre hrj' hre' hlj hle hri hri' hp hp' e e' hbx hbx' hbl hbl' hcp hle1
      go_upto_region 6 with (fail)
      go_cut [6, 7] (fun x y wx => TwoLn w wr tx md up dn bo bc bo' bc' bn' x y wx)
      case first =>
        go_region_held3 (fun w' => w'.cell? ⟨b, off + j * 5, none⟩ = some (.string tx) ∧ w'.cell? ⟨b, off + j * 5 + 1, none⟩ = some (.bool md) ∧ w'.cell? ⟨b, off + j * 5 + 2, none⟩ = some (.int .i64 up) ∧ w'.cell? ⟨b, off + j * 5 + 3, none⟩ = some (.int .i64 dn) ∧ w'.cell? ⟨b, off + j * 5 + 4, none⟩ = some (.slice bo bn' bc) ∧
          w'.cell? ⟨b', off' + j * 5, none⟩ = some (.string tx) ∧ w'.cell? ⟨b', off' + j * 5 + 1, none⟩ = some (.bool md) ∧ w'.cell? ⟨b', off' + j * 5 + 2, none⟩ = some (.int .i64 up) ∧ w'.cell? ⟨b', off' + j * 5 + 3, none⟩ = some (.int .i64 dn) ∧ w'.cell? ⟨b', off' + j * 5 + 4, none⟩ = some (.slice bo' bn' bc')) (go_keep) (fail)
        all_goals
          go_wp2_with fail
          go_meet
          have h1 := two_alloc wr #[.string tx, .bool md, .int .i64 up, .int .i64 dn, .slice bo bn' bc] #[.string tx, .bool md, .int .i64 up, .int .i64 dn, .slice bo' bn' bc'] 39 39
          have h2 := two_alloc wr #[.string tx, .bool md, .int .i64 up, .int .i64 dn, .slice bo' bn' bc'] #[.string tx, .bool md, .int .i64 up, .int .i64 dn, .slice bo bn' bc] 39 39
          first
            | exact ⟨⟨wr.heap.size, wr.heap.size + 1, rfl, rfl, h1.1, h1.2.1, Nat.le_refl _, Nat.le_succ _⟩, h1.2.2.drew⟩
            | exact ⟨⟨wr.heap.size + 1, wr.heap.size, rfl, rfl, h2.2.1, h2.1, Nat.le_succ _, Nat.le_refl _⟩, h2.2.2.drew⟩
      case rest =>
        obtain ⟨⟨g, g', rfl, rfl, hg, hg', hgl, hgl'⟩, hbw⟩ := hcut
        have HG := Lib.hid hg
        have HG' := Lib.hid hg'
        have HBW := Lib.hid hbw
        have HGL : Hid (w.heap.size ≤ g ∧ w.heap.size ≤ g') := Lib.hid ⟨by have := HB.out.size; omega, by have := HB.out.size; omega⟩
        have HL1 := Lib.hid (lt_of_block hg)
        have HL2 := Lib.hid (lt_of_block hg')
        obtain ⟨⟨x0, x1, x2, x3, x4⟩, _⟩ := fresh_ln hg
        obtain ⟨⟨y0, y1, y2, y3, y4⟩, _⟩ := fresh_ln hg'
        clear hg hg' hbw
        obtain ⟨rb, hrb, hab⟩ := HBX.out.ex
        obtain ⟨rb', hrb', hab'⟩ := HBX'.out.ex
        have HRB := Lib.hid hrb
        have HRB' := Lib.hid hrb'
        have HAB : Hid (All2 (RbIs P w) rb bs) := Lib.hid hab
        have HAB' : Hid (All2 (RbIs P' w) rb' bs) := Lib.hid hab'
        clear hrb hrb' hab hab' c0 c1 c2 c3 c4 d0 d1 d2 d3 d4 hj0 hj1 eb eb' hlt1 hlt2
        have HST : Hid (InL w g g' tx md up dn bo bc bo' bc' bn' bn' (.int .i64 0) _) := Lib.hid ⟨0, rfl, rfl, HG.out, HG'.out, HB.out.trans (HBW.out.mono HB.out.size)⟩
        go_wp2_with fail
        go_loopg [8] bn' (fun k i wi => InL w g g' tx md up dn bo bc bo' bc' bn' k i wi)
        case atStart => exact HST.out
        case round =>
          obtain ⟨m, hk2, rfl, hg2, hg2', hb2⟩ := hrel
          have HK2 := Lib.hid hk2
          have HB2 := Lib.hid hb2
          have HG2 := Lib.hid hg2
          have HG2' := Lib.hid hg2'
          obtain ⟨⟨x0, x1, x2, x3, x4⟩, _⟩ := fresh_ln hg2
          obtain ⟨⟨y0, y1, y2, y3, y4⟩, _⟩ := fresh_ln hg2'
          by_cases hm : m < bn'
          · have dm : decide (m < bn') = true := decide_eq_true hm
            have hbs : m < bs.length := by have := HBL.out; omega
            have hrm : rb[m]? = some (rb[m]'(by rw [HAB.out.1]; exact hbs)) := List.getElem?_eq_getElem _
            obtain ⟨r, hre⟩ : ∃ r, r = rb[m]'(by rw [HAB.out.1]; exact hbs) := ⟨_, rfl⟩
            rw [← hre] at hrm
            have hrm' : rb'[m]? = some (rb'[m]'(by rw [HAB'.out.1]; exact hbs)) := List.getElem?_eq_getElem _
            obtain ⟨r', hre'⟩ : ∃ r', r' = rb'[m]'(by rw [HAB'.out.1]; exact hbs) := ⟨_, rfl⟩
            rw [← hre'] at hrm'
            have hxm : bs[m]? = some bs[m] := List.getElem?_eq_getElem _
            obtain ⟨x, hx⟩ : ∃ x, x = bs[m] := ⟨_, rfl⟩
            rw [← hx] at hxm
            have hri := HAB.out.2 m r x hrm hxm
            have hri' := HAB'.out.2 m r' x hrm' hxm
            obtain ⟨q, qo, rfl, hp, c0, c1, c2, c3, c4, c5, c6⟩ := reads_bx HRB.out m r hrm
            obtain ⟨q', qo', rfl, hp', d0, d1, d2, d3, d4, d5, d6⟩ := reads_bx HRB'.out m r' hrm'
            have e := fun o => hb2.cell (p := ⟨q, o, none⟩) (HP.out _ q hp)
            have e' := fun o => hb2.cell (p := ⟨q', o, none⟩) (HP'.out _ q' hp')
            rw [← e] at c0 c1 c2 c3 c4 c5 c6
            rw [← e'] at d0 d1 d2 d3 d4 d5 d6
            rw [hri.kd] at c0
            rw [hri.wd] at c1
            rw [hri.fo] at c2
            rw [hri.sz] at c3
            rw [hri.nm] at c4
            rw [hri.co] at c5
            rw [hri'.kd] at d0
            rw [hri'.wd] at d1
            rw [hri'.fo] at d2
            rw [hri'.sz] at d3
            rw [hri'.nm] at d4
            rw [hri'.co] at d5
            have hns := hri.ns
            have hns' := hri'.ns
            have hnn := hri.nn
            have hnn' := hri'.nn
            have hcp := hri.cap
            have hle1 := hri.le
            obtain ⟨_, _, _, _, _, _, no, nn, nc⟩ := r
            obtain ⟨_, _, _, _, _, _, no', nn', nc'⟩ := r'
            simp only at c6 d6 hns hns' hnn hnn' hcp hle1
            have hee : nn' = nn := by omega
            subst hee
            have HNQ := Lib.hid (fun W (hW : Below w.heap.size w W) => numbers_eq (c := nc) (c' := nc') (w := W) (P := fun b => b < w.heap.size) (P' := fun b => b < w.heap.size) (hns.keep fun b hb => ⟨hW.block b (HP.out _ b hb), HP.out _ b hb⟩) (hns'.keep fun b hb => ⟨hW.block b (HP'.out _ b hb), HP'.out _ b hb⟩) (by omega))
            obtain ⟨kd, wd, fo, sz, nm, co, ns⟩ := x
            simp only at c0 c1 c2 c3 c4 c5 d0 d1 d2 d3 d4 d5
            have HM := Lib.hid hm
            have hm0 : (0 : Int) ≤ (m : Int) := by omega
            have hm1 : (m : Int) < (bn' : Int) := by omega
            have eb := World.new_ne _ ⟨q, qo + m * 7, none⟩ c0
            have eb' := World.new_ne _ ⟨q', qo' + m * 7, none⟩ d0
            have eb2 := World.new_ne _ ⟨g, 4, none⟩ x4
            have eb3 := World.new_ne _ ⟨g', 4, none⟩ y4
            have hlt1 := World.block_lt_of_cell? _ ⟨q, qo + m * 7, none⟩ c0
            have hlt2 := World.block_lt_of_cell? _ ⟨q', qo' + m * 7, none⟩ d0
            have hlt3 := World.block_lt_of_cell? _ ⟨g, 4, none⟩ x4
            have hlt4 := World.block_lt_of_cell? _ ⟨g', 4, none⟩ y4
            simp only at eb eb' eb2 eb3 hlt1 hlt2 hlt3 hlt4
            clear hk2 hm hb2 hg2 hg2' hbs hrm hre hrm' hre' hxm hx hri hri' hp hp' e e' hns hns' hnn hnn' hcp hle1 x0 x1 x2 x3 y0 y1 y2 y3
            go_wp2_with fail
            go_upto_region 12 with (fail)
            go_cut [9, 10] (fun x y wx => TwoBx wr kd wd fo sz nm co no nc no' nc' nn' x y wx)
            case first =>
              go_region_held3 (fun w' => w'.cell? ⟨g, 4, none⟩ = some (.slice (some ⟨q, qo, none⟩) bn' bc) ∧ w'.cell? ⟨g', 4, none⟩ = some (.slice (some ⟨q', qo', none⟩) bn' bc') ∧ w'.cell? ⟨q, qo + m * 7, none⟩ = some (.int .i64 kd) ∧ w'.cell? ⟨q, qo + m * 7 + 1, none⟩ = some (.int .i64 wd) ∧ w'.cell? ⟨q, qo + m * 7 + 2, none⟩ = some (.int .i64 fo) ∧ w'.cell? ⟨q, qo + m * 7 + 3, none⟩ = some (.int .i64 sz) ∧ w'.cell? ⟨q, qo + m * 7 + 4, none⟩ = some (.string nm) ∧ w'.cell? ⟨q, qo + m * 7 + 5, none⟩ = some (.string co) ∧ w'.cell? ⟨q, qo + m * 7 + 6, none⟩ = some (.slice no nn' nc) ∧
                w'.cell? ⟨q', qo' + m * 7, none⟩ = some (.int .i64 kd) ∧ w'.cell? ⟨q', qo' + m * 7 + 1, none⟩ = some (.int .i64 wd) ∧ w'.cell? ⟨q', qo' + m * 7 + 2, none⟩ = some (.int .i64 fo) ∧ w'.cell? ⟨q', qo' + m * 7 + 3, none⟩ = some (.int .i64 sz) ∧ w'.cell? ⟨q', qo' + m * 7 + 4, none⟩ = some (.string nm) ∧ w'.cell? ⟨q', qo' + m * 7 + 5, none⟩ = some (.string co) ∧ w'.cell? ⟨q', qo' + m * 7 + 6, none⟩ = some (.slice no' nn' nc')) (go_keep) (fail)
              all_goals
                go_wp2_with fail
                go_meet
                have h1 := two_alloc wr #[.int .i64 kd, .int .i64 wd, .int .i64 fo, .int .i64 sz, .string nm, .string co, .slice no nn' nc] #[.int .i64 kd, .int .i64 wd, .int .i64 fo, .int .i64 sz, .string nm, .string co, .slice no' nn' nc'] 101 101
                have h2 := two_alloc wr #[.int .i64 kd, .int .i64 wd, .int .i64 fo, .int .i64 sz, .string nm, .string co, .slice no' nn' nc'] #[.int .i64 kd, .int .i64 wd, .int .i64 fo, .int .i64 sz, .string nm, .string co, .slice no nn' nc] 101 101
                first
                  | exact ⟨⟨wr.heap.size, wr.heap.size + 1, rfl, rfl, h1.1, h1.2.1⟩, h1.2.2.drew⟩
                  | exact ⟨⟨wr.heap.size + 1, wr.heap.size, rfl, rfl, h2.2.1, h2.1⟩, h2.2.2.drew⟩
            case rest =>
              obtain ⟨⟨p, p', rfl, rfl, hp, hp'⟩, hbw3⟩ := hcut
              have HBW3 := Lib.hid hbw3
              have HX1 := Lib.hid ((hbw3.block _ hlt3).trans HG2.out)
              have HX2 := Lib.hid ((hbw3.block _ hlt4).trans HG2'.out)
              have HB3 := Lib.hid (HB2.out.trans (hbw3.mono HB2.out.size))
              obtain ⟨⟨u0, u1, u2, u3, u4, u5, u6⟩, _⟩ := fresh_bx hp
              obtain ⟨⟨v0, v1, v2, v3, v4, v5, v6⟩, _⟩ := fresh_bx hp'
              clear hp hp' hbw3 c0 c1 c2 c3 c4 c5 c6 d0 d1 d2 d3 d4 d5 d6 eb eb' eb2 eb3 hlt1 hlt2 hlt3 hlt4 x4 y4 hm0 hm1
              go_wp2_with fail
              refine (HNQ.out _ HB3.out).mono ?_
              rintro e wz ⟨rfl, hbz⟩
              have HZ1 := Lib.hid ((hbz.block _ (lt_of_block HX1.out)).trans HX1.out)
              have HZ2 := Lib.hid ((hbz.block _ (lt_of_block HX2.out)).trans HX2.out)
              have HBZ := Lib.hid (HB3.out.trans (hbz.mono HB3.out.size))
              clear hbz
              go_wp2_with fail
              go_roundg (gk - 1)
              case measure => have := HK2.out; have := HM.out; omega
              case rel => have := HK2.out; have := HM.out; exact ⟨m + 1, by omega, by congr 1; rw [IntWalk.wrap64_in _ (by omega)]; omega, HZ1.out, HZ2.out, HBZ.out⟩
          · have dm : decide (m < bn') = false := decide_eq_false hm
            clear hk2 hm hb2 hg2 hg2' x0 x1 x2 x3 y0 y1 y2 y3
            go_wp2_with fail
            go_roundg (n - (j + 1))
            case measure => have := HK.out; have := HJ.out; omega
            case rel => have := HJ.out; exact ⟨j + 1, by omega, by congr 1; rw [IntWalk.wrap64_in _ (by omega)]; omega, HB2.out⟩
    · have dj : decide (j < n) = false := decide_eq_false hj
      clear hk hj hb
      go_wp2_with fail
      go_ret
      exact ⟨rfl, HB.out⟩
end Go.Proofs.YtgpanlkcpnlejaaGreat
/- Lines, Text, Kind of the store; the specification's lines that are ones. -/
namespace Go.Proofs.YtgpanlkcpnlejaaGreat
open Go.RowKit Go.Maps
set_option maxRecDepth 100000
/-- The lines that are told. -/
def mLines (m : Mc) : List Ln := if m.kind = 1 then [⟨m.tx, false, 0, 0, []⟩] else m.ls
theorem LnOwn.reads {w : World} {o : Option Addr} {n c : Nat} {ls : List Ln} (h : LnOwn w o n c ls) : LnsAt (Tg w) w o n ls ∧ (o = none → n = 0) := by
  obtain ⟨⟨rs, ho, ha⟩, hl⟩ := h
  exact ⟨⟨⟨rs, ReadsP.of_own ho (fun g cs hg _ => ⟨cs, _, hg⟩), ha⟩, hl⟩, own_none ho⟩
/-- What Lines leaves. -/
structure LinP (ls : List Ln) (w : World) (A : Option Addr) (n c : Nat) (w' : World) : Prop where
  at_ : LnsAt (Tg w') w' A n ls
  nil : A = none → n = 0
  le : n ≤ c
  cap : (c : Int) ≤ 9223372036854775807
  below : Below w.heap.size w w'
set_option maxHeartbeats 1000000 in
theorem linesA {F : Nat → Prop} {sb mb : Nat} {L : List Reg} {M : Nat → Mc} {w : World} (h : SA F sb mb L M w) (s : ByteArray) (hs : s.size ≤ maxLen) (hh : hasS L s.data.toList = true) :
    Calls Tryz.prog 65 #[BP sb, .string s] w fun e w' => ∃ A n c, e = .returned (.tuple #[.slice A n c, .int .i64 0]) ∧ LinP (mLines (M (getS L s.data.toList).v)) w A n c w' := by
  obtain ⟨E, h⟩ := h
  have HG := Lib.hid (get_yes h.sk s hs hh)
  have hmem := getS_mem L _ hh
  have hre := h.sk.ent _ hmem
  have hen := h.en _ hmem
  obtain ⟨r, hr⟩ : ∃ r, r = getS L s.data.toList := ⟨_, rfl⟩
  rw [← hr] at HG hre hen ⊢
  obtain ⟨en, hee⟩ : ∃ en, en = E r.v := ⟨_, rfl⟩
  rw [← hee] at hre hen
  obtain ⟨m, hm⟩ : ∃ m, m = M r.v := ⟨_, rfl⟩
  rw [← hm] at hen ⊢
  obtain ⟨kd, tx, lo, ln, lc⟩ := en
  unfold EnAt enCs at hre
  simp only at hre
  have hkd := hen.kd
  have htx := hen.tx
  have hln := hen.ln
  simp only at hkd htx hln
  rcases hen.ok with ⟨hk, hok, hls⟩ | ⟨hk, hok, hls, hall⟩
  · have hml : mLines m = [⟨m.tx, false, 0, 0, []⟩] := by unfold mLines; rw [if_pos hk]
    rw [hml, ← htx]
    rw [hk] at hkd
    subst hkd
    obtain ⟨⟨c0, c1, c2⟩, _⟩ := fresh_en hre
    clear h hs hh hr hre hen hee hm hln htx hk hok hls hml hmem
    go_enter Tryz.func65, Tryz.ntmps65
    go_wp2_with fail
    refine HG.out.mono ?_
    rintro e w1 ⟨rfl, rfl⟩
    go_wp2_with fail
    go_ret2
    refine ⟨some ⟨w.heap.size, 0, none⟩, 1, 1, rfl, ⟨⟨⟨[⟨tx, false, 0, 0, none, 0, 0⟩], ?_, ?_⟩, rfl⟩, (fun e => by cases e), Nat.le_refl _, by omega, (Below.refl _ _).alloc (Nat.le_refl _) _⟩⟩
    · refine ⟨rfl, fun _ => ⟨w.heap.size, 0, rfl, ⟨_, _, heap_alloc_new _ _⟩, fun j u hu => ?_⟩⟩
      have hh := heap_alloc_new w (.cells #[.string tx, .bool false, .int .i64 0, .int .i64 0, .slice none 0 0] 39)
      simp only [World.cell?, Nat.zero_add, Option.isSome_none, Bool.false_eq_true, if_false]
      rw [hh]
      simpa [rlCs] using hu
    · refine ⟨rfl, fun i a b ha hb => ?_⟩
      have hi : i = 0 := by
        have := (List.getElem?_eq_some_iff.1 ha).1
        simp at this; exact this
      subst hi
      simp only [List.getElem?_cons_zero, Option.some.injEq] at ha hb
      subst ha hb
      exact ⟨rfl, rfl, rfl, rfl, fun _ => rfl, Nat.le_refl _, by show ((0 : Nat) : Int) ≤ 9223372036854775807; omega, ⟨⟨[], ⟨rfl, fun h => absurd h (Nat.lt_irrefl 0)⟩, ⟨rfl, fun i a b h _ => by simp at h⟩⟩, rfl⟩⟩
  · have hml : mLines m = m.ls := by unfold mLines; rw [if_neg (by rw [hk]; decide)]
    rw [hml]
    rw [hk] at hkd
    subst hkd
    obtain ⟨⟨c0, c1, c2⟩, _⟩ := fresh_en hre
    obtain ⟨hat, hnil⟩ := hln.reads
    have hlen := hln.len
    have HC := Lib.hid (copyLines_any (c := lc) hat (fun e b hb => hb.lt) hnil (by omega) (okLn_bx hall))
    generalize m.ls = ls at HC
    have HMM := Lib.hid hlen
    clear h hs hh hr hre hen hee hm hln htx hk hok hls hml hmem hat hnil hall hlen HMM
    go_enter Tryz.func65, Tryz.ntmps65
    go_wp2_with fail
    refine HG.out.mono ?_
    rintro e w1 ⟨rfl, rfl⟩
    go_wp2_with fail
    refine HC.out.mono ?_
    rintro e w2 ⟨A', c', rs, rfl, hown, hall2, hb⟩
    obtain ⟨o, cap, hv, hc1, hc2⟩ := row_shape hown
    injection hv with hv1 hv2 hv3
    subst hv3
    clear hv1 hv2
    have HR : Hid (LinP ls w A' ln c' w2) := Lib.hid ⟨⟨⟨rs, ReadsP.of_own hown (fun g cs hg _ => ⟨cs, _, hg⟩), hall2⟩, by
      have h1 := hown.1
      rw [fm_len rl_len] at h1
      rw [← hall2.1]; omega⟩, own_none hown, hc1, hc2, hb⟩
    clear hown hall2 hb
    go_wp2_with fail
    go_ret2
    exact ⟨A', ln, c', rfl, HR.out⟩
theorem textA {F : Nat → Prop} {sb mb : Nat} {L : List Reg} {M : Nat → Mc} {w : World} (h : SA F sb mb L M w) (s : ByteArray) (hs : s.size ≤ maxLen) (hh : hasS L s.data.toList = true) (hk : (M (getS L s.data.toList).v).kind = 1) :
    Calls Tryz.prog 16 #[BP sb, .string s] w fun e w' => e = .returned (.tuple #[.string (M (getS L s.data.toList).v).tx, .int .i64 0]) ∧ w = w' := by
  obtain ⟨E, h⟩ := h
  have hen := h.en _ (getS_mem L _ hh)
  have := text_yes h.sk s hs hh (by rw [hen.kd]; exact hk)
  rw [hen.tx] at this
  exact this
theorem kindA {F : Nat → Prop} {sb mb : Nat} {L : List Reg} {M : Nat → Mc} {w : World} (h : SA F sb mb L M w) (s : ByteArray) :
    Calls Tryz.prog 70 #[BP sb, .string s] w fun e w' => e = .returned (.int .i64 (if okNm s.data.toList then (mOf L M s.data.toList).kind else 0)) ∧ Below w.heap.size w w' := by
  obtain ⟨E, h⟩ := h
  have := kind_any h.sk s
  rw [(ent_of h s.data.toList).1] at this
  exact this
/- The specification's lines. -/
set_option maxHeartbeats 1000000 in
theorem rIsLine_text (tx : ByteArray) (htz : tx.size ≤ 9223372036854775807) (up dn : Int) (bo : Option Addr) (bn bc : Nat) (w : World) : Calls Tryz.prog 78 #[.agg #[.string tx, .bool false, .int .i64 up, .int .i64 dn, .slice bo bn bc]] w fun e w' => e = .returned (.bool (okRL tx false up dn bn)) ∧ Below w.heap.size w w' := by
  have H1 := Lib.hid (fun W => rIsText_any tx htz W)
  have HE := Lib.hid (show okRL tx false up dn bn = (okTx tx.data.toList && (up == 0) && (dn == 0) && (bn == 0)) from rfl)
  have HB := Lib.hid ((Below.refl w.heap.size w).alloc (Nat.le_refl _) (.cells #[.string tx, .bool false, .int .i64 up, .int .i64 dn, .slice bo bn bc] 39))
  generalize okTx tx.data.toList = u at *
  clear htz
  go_enter Tryz.func78, Tryz.ntmps78
  go_wp2_with fail
  refine (H1.out _).mono ?_
  rintro e w1 ⟨rfl, rfl⟩
  cases u with
  | false =>
    go_wp2_with fail
    go_ret
    rw [HE.out]
    exact ⟨rfl, HB.out⟩
  | true =>
    by_cases h1 : up = 0
    · subst h1
      by_cases h2 : dn = 0
      · subst h2
        have HD := Lib.hid (show ((bn : Int) == 0) = (bn == 0) by cases bn <;> rfl)
        go_wp2_with fail
        go_ret
        rw [HE.out]
        exact ⟨by simp [HD.out], HB.out⟩
      · have d2 : (dn == 0) = false := by simpa using h2
        have HX := Lib.hid d2
        clear h2
        go_wp2_with fail
        go_ret
        rw [HE.out, HX.out]
        exact ⟨by simp, HB.out⟩
    · have d1 : (up == 0) = false := by simpa using h1
      have HX := Lib.hid d1
      clear h1
      go_wp2_with fail
      go_ret
      rw [HE.out, HX.out]
      exact ⟨by simp, HB.out⟩
set_option maxHeartbeats 4000000 in
theorem rIsLine_made (tx : ByteArray) (up dn : Int) (bo : Option Addr) (bn bc : Nat) (w : World) : Calls Tryz.prog 78 #[.agg #[.string tx, .bool true, .int .i64 up, .int .i64 dn, .slice bo bn bc]] w fun e w' => e = .returned (.bool (okRL tx true up dn bn)) ∧ Below w.heap.size w w' := by
  have HE := Lib.hid (show okRL tx true up dn bn = (tx.data.toList.isEmpty && (decide (-1000000 ≤ up) && decide (up ≤ 1000000)) && (decide (-1000000 ≤ dn) && decide (dn ≤ 1000000)) && decide (bn ≤ 2000)) from rfl)
  have HB := Lib.hid ((Below.refl w.heap.size w).alloc (Nat.le_refl _) (.cells #[.string tx, .bool true, .int .i64 up, .int .i64 dn, .slice bo bn bc] 39))
  have HD := Lib.hid (show decide ((bn : Int) ≤ 2000) = decide (bn ≤ 2000) by rw [decide_eq_decide]; omega)
  go_enter Tryz.func78, Tryz.ntmps78
  go_wp2_with fail
  all_goals
    go_ret
    refine ⟨?_, HB.out⟩
    rw [HE.out]
    first
      | (have ht : tx.toList = [] := by assumption
         have hi : tx.data.toList.isEmpty = true := by rw [← Lib.toList_data, ht]; rfl
         rw [hi]
         simp [*, HD.out]
         try omega)
      | (have ht : ¬ tx.toList = [] := by assumption
         have hi : tx.data.toList.isEmpty = false := by rw [← Lib.toList_data]; cases h : tx.toList with | nil => exact absurd h ht | cons a b => rfl
         rw [hi]; rfl)
theorem rIsLine_any (tx : ByteArray) (htz : tx.size ≤ 9223372036854775807) (md : Bool) (up dn : Int) (bo : Option Addr) (bn bc : Nat) (w : World) : Calls Tryz.prog 78 #[.agg #[.string tx, .bool md, .int .i64 up, .int .i64 dn, .slice bo bn bc]] w fun e w' => e = .returned (.bool (okRL tx md up dn bn)) ∧ Below w.heap.size w w' := by
  cases md with
  | true => exact rIsLine_made tx up dn bo bn bc w
  | false => exact rIsLine_text tx htz up dn bo bn bc w
set_option maxHeartbeats 2000000 in
theorem rAreLines_any {P : TypeId → Nat → Prop} {w : World} {A : Option Addr} {n c : Nat} {ls : List Ln} (h : LnsAt P w A n ls) (hP : ∀ e b, P e b → b < w.heap.size) (hn : (n : Int) ≤ 9223372036854775807) (htx : ∀ l ∈ ls, l.tx.size ≤ 9223372036854775807) :
    Calls Tryz.prog 56 #[.slice A n c] w fun e w' => e = .returned (.bool (ls.all okLn)) ∧ Below w.heap.size w w' := by
  obtain ⟨⟨rs, hr, ha⟩, hlen⟩ := h
  have HR := Lib.hid hr
  have HA : Hid (All2 (RlIs P w) rs ls) := Lib.hid ha
  have HLEN := Lib.hid hlen
  have HP := Lib.hid hP
  have HTX := Lib.hid htx
  have HST : Hid (VlR ls w n n (.int .i64 0) w) := Lib.hid ⟨0, rfl, rfl, rfl, Below.refl _ _⟩
  have HRL := Lib.hid (show rs.length = n by rw [ha.1, hlen])
  clear hr ha hlen hP htx
  go_enter Tryz.func56, Tryz.ntmps56
  go_wp2_with fail
  go_loopg [3] n (fun k i wr => VlR ls w n k i wr)
  case atStart => exact HST.out
  case round =>
    obtain ⟨j, hk, rfl, hall, hb⟩ := hrel
    have HK := Lib.hid hk
    have HB := Lib.hid hb
    by_cases hj : j < n
    · have dj : decide (j < n) = true := decide_eq_true hj
      have hrj : rs[j]? = some (rs[j]'(by have := HRL.out; omega)) := List.getElem?_eq_getElem (by have := HRL.out; omega)
      obtain ⟨r, hre⟩ : ∃ r, r = rs[j]'(by have := HRL.out; omega) := ⟨_, rfl⟩
      rw [← hre] at hrj
      have hlj : ls[j]? = some (ls[j]'(by have := HLEN.out; omega)) := List.getElem?_eq_getElem (by have := HLEN.out; omega)
      obtain ⟨l, hle⟩ : ∃ l, l = ls[j]'(by have := HLEN.out; omega) := ⟨_, rfl⟩
      rw [← hle] at hlj
      have hri := HA.out.2 j r l hrj hlj
      obtain ⟨b, off, rfl, hp, c0, c1, c2, c3, c4⟩ := reads_ln HR.out j r hrj
      have hbl := HP.out _ b hp
      have e := fun o => hb.cell (p := ⟨b, o, none⟩) hbl
      rw [← e] at c0 c1 c2 c3 c4
      have HOK := Lib.hid (show okLn l = okRL r.tx r.md r.up r.dn r.bn by unfold okLn; rw [← hri.tx, ← hri.md, ← hri.up, ← hri.dn, ← hri.bx.len])
      have hsz := HTX.out l (List.mem_of_getElem? hlj)
      rw [← hri.tx] at hsz
      have HLJ := Lib.hid hlj
      have HAL := Lib.hid hall
      have HJ := Lib.hid hj
      obtain ⟨tx, md, up, dn, bo, bn, bc⟩ := r
      simp only at c0 c1 c2 c3 c4 HOK hsz
      have HV := Lib.hid (fun W => rIsLine_any tx hsz md up dn bo bn bc W)
      generalize okRL tx md up dn bn = t at HV HOK
      clear hk hj hb hrj hre hlj hle hri hp hbl e hall hsz
      go_wp2_with fail
      refine (HV.out _).mono ?_
      rintro e w2 ⟨rfl, hb2⟩
      have HB2 := Lib.hid (HB.out.trans (hb2.mono HB.out.size))
      clear hb2
      cases t with
      | false =>
        go_wp2_with fail
        go_ret
        rw [all_take_not okLn ls j l HLJ.out HOK.out]
        exact ⟨rfl, HB2.out⟩
      | true =>
        go_wp2_with fail
        go_roundg (gk - 1)
        case measure => have := HK.out; have := HJ.out; omega
        case rel =>
          have := HK.out
          have := HJ.out
          exact ⟨j + 1, by omega, by first | go_num | (congr 1; rw [IntWalk.wrap64_in _ (by omega)]; omega), all_take_succ okLn ls j l HLJ.out HOK.out HAL.out, HB2.out⟩
    · have dj : decide (j < n) = false := decide_eq_false hj
      have HQ := Lib.hid (show ls.all okLn = true by rw [← List.take_of_length_le (l := ls) (i := j) (by have := HLEN.out; omega)]; exact hall)
      clear hk hj hb hall
      go_wp2_with fail
      go_ret
      rw [HQ.out]
      exact ⟨rfl, HB.out⟩
end Go.Proofs.YtgpanlkcpnlejaaGreat
/- Parts of lines. -/
namespace Go.Proofs.YtgpanlkcpnlejaaGreat
open Go.RowKit Go.Maps
set_option maxRecDepth 100000
theorem LnsAt.take {P : TypeId → Nat → Prop} {w : World} {A : Option Addr} {n : Nat} {ls : List Ln} (h : LnsAt P w A n ls) (k : Nat) (hk : k ≤ n) : LnsAt P w A k (ls.take k) := by
  obtain ⟨⟨rs, hr, ha⟩, hl⟩ := h
  have hrl : rs.length = n := by rw [ha.1, hl]
  refine ⟨⟨rs.take k, ⟨by rw [fm_len rl_len, List.length_take]; rw [Nat.min_eq_left (by omega)], fun hn => ?_⟩, by rw [List.length_take, List.length_take, ha.1], fun i r l hr' hl' => ?_⟩, by rw [List.length_take]; omega⟩
  · obtain ⟨b, off, hA, hp, hc⟩ := hr.2 (by omega)
    refine ⟨b, off, hA, hp, fun j u hu => hc j u ?_⟩
    have h0 := List.take_append_drop k rs
    rw [← h0, List.flatMap_append, List.getElem?_append_left (List.getElem?_eq_some_iff.1 hu).1]
    exact hu
  · rw [List.getElem?_take] at hr' hl'
    split at hr'
    · rename_i hik
      rw [if_pos hik] at hl'
      exact ha.2 i r l hr' hl'
    · cases hr'
theorem LnsAt.drop {P : TypeId → Nat → Prop} {w : World} {b off n : Nat} {ls : List Ln} (h : LnsAt P w (some ⟨b, off, none⟩) n ls) (k : Nat) (hk : k ≤ n) : LnsAt P w (some ⟨b, off + k * 5, none⟩) (n - k) (ls.drop k) := by
  obtain ⟨⟨rs, hr, ha⟩, hl⟩ := h
  have hrl : rs.length = n := by rw [ha.1, hl]
  refine ⟨⟨rs.drop k, ⟨by rw [fm_len rl_len, List.length_drop, hrl], fun hn => ?_⟩, by rw [List.length_drop, List.length_drop, ha.1], fun i r l hr' hl' => ?_⟩, by rw [List.length_drop]; omega⟩
  · obtain ⟨b', off', hA, hp, hc⟩ := hr.2 (by omega)
    injection hA with hA
    injection hA with h1 h2
    subst h1 h2
    refine ⟨b, off + k * 5, rfl, hp, fun j u hu => ?_⟩
    have := hc (k * 5 + j) u (by
      have h0 := List.take_append_drop k rs
      rw [← h0, List.flatMap_append, List.getElem?_append_right (by rw [fm_len rl_len, List.length_take, Nat.min_eq_left (by omega)]; omega), fm_len rl_len, List.length_take, Nat.min_eq_left (by omega), show k * 5 + j - k * 5 = j by omega]
      exact hu)
    rwa [← Nat.add_assoc] at this
  · rw [List.getElem?_drop] at hr' hl'
    exact ha.2 _ r l hr' hl'
theorem LnsAt.none_of {P : TypeId → Nat → Prop} {w : World} {A A' : Option Addr} {n : Nat} {ls : List Ln} (h : LnsAt P w A n ls) : LnsAt P w A' (n - n) (ls.drop n) := by
  have : ls.drop n = [] := List.drop_eq_nil_of_le (by rw [h.len]; exact Nat.le_refl _)
  rw [this, Nat.sub_self]
  exact ⟨⟨[], ⟨rfl, fun h => absurd h (Nat.lt_irrefl 0)⟩, rfl, fun i a b h _ => by simp at h⟩, rfl⟩
theorem LnsAt.from {P : TypeId → Nat → Prop} {w : World} {A : Option Addr} {n : Nat} {ls : List Ln} (h : LnsAt P w A n ls) (k : Nat) (hk : k ≤ n) : LnsAt P w (A.map fun x => x.add (k * 5)) (n - k) (ls.drop k) := by
  by_cases e : k = n
  · subst e; exact h.none_of
  · obtain ⟨⟨rs, hr, ha⟩, hl⟩ := h
    have hrl : rs.length = n := by rw [ha.1, hl]
    obtain ⟨b, off, rfl, hp, hc⟩ := hr.2 (by omega)
    rw [show (Option.map (fun x : Addr => x.add (k * 5)) (some ⟨b, off, none⟩)) = some ⟨b, off + k * 5, none⟩ by simp [Addr.add]]
    exact LnsAt.drop ⟨⟨rs, hr, ha⟩, hl⟩ k hk
end Go.Proofs.YtgpanlkcpnlejaaGreat
/- The code's store: Part and Chop of whatever is there. -/
namespace Go.Proofs.YtgpanlkcpnlejaaGreat
open Go.RowKit Go.Maps
set_option maxRecDepth 100000
structure KeptM (w : World) (b : Nat) (t : ByteArray) (ls : List Ln) (w' : World) : Prop where
  ex : ∃ lo' ln' lc', w'.heap[b]? = some (EO 2 t lo' ln' lc') ∧ LnOwn w' lo' ln' lc' ls ∧ ∀ g, (Value.slice lo' ln' lc').ownBlock = some g → w.heap.size ≤ g
  kept : Kept (· = b) w w'
theorem KeptM.of {w w1 : World} {b n : Nat} {t : ByteArray} {lo : Option Addr} {ln lc c' : Nat} {A' : Option Addr} {rs : List RL} {ls : List Ln} {P : TypeId → Nat → Prop} (h : w.heap[b]? = some (EO 2 t lo ln lc)) (ho : w1.ownsRow w.heap.size 39 5 (.slice A' n c') n (rs.flatMap rlCs)) (ha : All2 (RlIs P w) rs ls) (hP : ∀ e b, P e b → Tg w e b) (hn : n = ls.length) (hb : Below w.heap.size w w1) :
    KeptM w b t ls (w1.setCell ⟨b, 2, none⟩ (.slice A' n c')) := by
  have hbl := lt_of_block h
  have h1 := (hb.block b hbl).trans h
  have hk : ∀ k, k ≠ b → (w1.setCell ⟨b, 2, none⟩ (.slice A' n c')).heap[k]? = w1.heap[k]? := fun k hk => Below.heap_setCell _ _ _ _ hk
  have hln : LnOwn w1 A' n c' ls := ⟨⟨rs, own_base ho (Nat.zero_le _), ha.mono fun r l hr => hr.keep fun e _ b hb' => (hP e b hb').below hb⟩, hn⟩
  have hge : ∀ g, (Value.slice A' n c').ownBlock = some g → w.heap.size ≤ g := by
    intro g hg
    rcases ho.2 with ⟨hv, _⟩ | ⟨g', cap, cur, hv, hbb, _⟩
    · rw [hv] at hg; simp [Value.ownBlock] at hg
    · rw [hv] at hg
      have : g' = g := by simpa [Value.ownBlock] using hg
      subst this; exact hbb
  refine ⟨⟨A', n, c', ?_, hln.keep (fun g hg => hk g (by have := hge g hg; omega)) (fun e he k hk' => hk k (hk'.ne (e' := 59) ⟨_, _, h1⟩ (by rcases he with rfl | rfl <;> decide))), hge⟩, (Kept.of (S := (· = b)) hb).setCell (p := ⟨b, 2, none⟩) rfl _⟩
  simp only [World.setCell, Array.getElem?_modify, h1]
  simp
set_option maxHeartbeats 1000000 in
theorem keep_mac (b : Nat) (t : ByteArray) (lo : Option Addr) (ln lc : Nat) (ls : List Ln) (x y : Nat) (hxy : x ≤ y) (hy : y ≤ ln) (hl : ln ≤ 2000) (w : World) (h : w.heap[b]? = some (EO 2 t lo ln lc)) (ho : LnOwn w lo ln lc ls) :
    Calls Tryz.prog 45 #[BP b, .int .i64 x, .int .i64 y] w fun e w' => e = .returned (.tuple #[]) ∧ KeptM w b t ((ls.take y).drop x) w' := by
  obtain ⟨hrd, hnil⟩ := ho.reads
  have hb2 : ln ≤ lc ∧ (lc : Int) ≤ 9223372036854775807 := by
    obtain ⟨⟨rs0, ho0, _⟩, _⟩ := ho
    obtain ⟨o, cap, hv, hlc, hc9⟩ := row_shape ho0
    injection hv with _ _ hv
    subst hv
    exact ⟨hlc, hc9⟩
  obtain ⟨hlc, hc9⟩ := hb2
  clear ho
  obtain ⟨⟨c0, c1, c2⟩, f0, f1, f2⟩ := fresh_en h
  have hbl := lt_of_block h
  have H := Lib.hid h
  have hl1 : (y : Int) ≤ (lc : Int) := by omega
  have hl2 : (x : Int) ≤ (y : Int) := by omega
  by_cases hx : x = lc
  · have hrt := (hrd.take y hy).none_of (A' := lo)
    have e0 : y = x := by omega
    have HRT : Hid (LnsAt (Tg w) w lo 0 ((ls.take y).drop x)) := Lib.hid (by have := hrt; rw [Nat.sub_self] at this; rw [e0] at this ⊢; exact this)
    clear hrd hrt hnil h
    obtain ⟨⟨rs, hr, ha⟩, hlen⟩ := HRT.out
    have HCL := Lib.hid (cloneL_any (c := 0) hr (fm_one rl_one rs) (fun _ => rfl) (by omega))
    have HA : Hid (All2 (RlIs (Tg w) w) rs ((ls.take y).drop x)) := Lib.hid ha
    have HLEN := Lib.hid hlen
    clear hr ha hlen
    go_enter Tryz.func45, Tryz.ntmps45
    go_wp2_with fail
    refine HCL.out.mono ?_
    rintro e w1 ⟨A', c', rfl, hown, hb1⟩
    have HOWN := Lib.hid hown
    have HB1 := Lib.hid hb1
    have e0' := hb1.cell (p := ⟨b, 2, none⟩) hbl
    have e1' := hb1.frozen (p := ⟨b, 2, none⟩) hbl
    rw [← e0'] at c2
    rw [← e1'] at f2
    clear hown hb1 e0' e1'
    go_wp2_with fail
    refine bodyPost_end (results_none rfl _ _ _) rfl ?_
    exact ⟨rfl, KeptM.of H.out HOWN.out HA.out (fun _ _ h => h) HLEN.out HB1.out⟩
  · have hrt := (hrd.take y hy).from x hxy
    have HRT : Hid (LnsAt (Tg w) w (lo.map fun a => a.add (x * 5)) (y - x) ((ls.take y).drop x)) := Lib.hid hrt
    have HN : Hid ((lo.map fun a => a.add (x * 5)) = none → y - x = 0) := Lib.hid (fun e => by
      have := hnil (by cases lo with
        | none => rfl
        | some a => cases e)
      omega)
    clear hrd hrt hnil h
    obtain ⟨⟨rs, hr, ha⟩, hlen⟩ := HRT.out
    have HCL := Lib.hid (cloneL_any (c := lc - x) hr (fm_one rl_one rs) HN.out (by omega))
    have HA : Hid (All2 (RlIs (Tg w) w) rs ((ls.take y).drop x)) := Lib.hid ha
    have HLEN := Lib.hid hlen
    clear hr ha hlen
    go_enter Tryz.func45, Tryz.ntmps45
    go_wp2_with fail
    refine HCL.out.mono ?_
    rintro e w1 ⟨A', c', rfl, hown, hb1⟩
    have HOWN := Lib.hid hown
    have HB1 := Lib.hid hb1
    have e0' := hb1.cell (p := ⟨b, 2, none⟩) hbl
    have e1' := hb1.frozen (p := ⟨b, 2, none⟩) hbl
    rw [← e0'] at c2
    rw [← e1'] at f2
    clear hown hb1 e0' e1'
    go_wp2_with fail
    refine bodyPost_end (results_none rfl _ _ _) rfl ?_
    exact ⟨rfl, KeptM.of H.out HOWN.out HA.out (fun _ _ h => h) HLEN.out HB1.out⟩
end Go.Proofs.YtgpanlkcpnlejaaGreat
/- The code's store: Part, Chop, Length, whatever the entry. -/
namespace Go.Proofs.YtgpanlkcpnlejaaGreat
open Go.RowKit Go.Maps
set_option maxRecDepth 100000
def lenM (m : Mc) : Nat := if m.kind = 1 then m.tx.size else m.ls.length
def keepM (m : Mc) (x y : Nat) : Mc := if m.kind = 1 then ⟨1, m.tx.extract x y, []⟩ else ⟨2, ⟨#[]⟩, (m.ls.take y).drop x⟩
theorem lenM_le {m : Mc} (h : mcOk m) : lenM m ≤ 2000 := by
  unfold lenM
  split
  · exact mc_size h
  · exact mc_len h
theorem okTx_ex {t : ByteArray} (h : okTx t.data.toList = true) (x y : Nat) : okTx (t.extract x y).data.toList = true := by
  have hz := okTx_size h
  unfold okTx at *
  rw [ib_any] at *
  simp only [Bool.and_eq_true, decide_eq_true_eq, Bool.not_eq_true'] at *
  have he : (t.extract x y).data.toList = (t.data.toList.drop x).take (y - x) := by
    rw [ByteArray.data_extract, Array.toList_extract]
  rw [he]
  refine ⟨by rw [List.length_take, List.length_drop]; have := h.1; omega, ?_⟩
  have h2 := h.2
  rw [List.any_eq_false] at h2 ⊢
  exact fun b hb => h2 b (List.mem_of_mem_drop (List.mem_of_mem_take hb))
theorem keepM_ok {m : Mc} (h : mcOk m) (x y : Nat) : mcOk (keepM m x y) := by
  unfold keepM
  rcases h with ⟨hk, ht, hl⟩ | ⟨hk, ht, hn, hl⟩
  · rw [if_pos hk]; exact .inl ⟨rfl, okTx_ex ht x y, rfl⟩
  · rw [if_neg (by rw [hk]; decide)]
    refine .inr ⟨rfl, rfl, by simp only [List.length_drop, List.length_take]; omega, List.all_eq_true.2 fun l hl' => List.all_eq_true.1 hl l (List.mem_of_mem_take (List.mem_of_mem_drop hl'))⟩
theorem len_gen {F : Nat → Prop} {sb mb : Nat} {L : List Reg} {E : Nat → En} {M : Nat → Mc} {w : World} (h : SL F sb mb L E M w) (r : Reg) (hr : r ∈ L) : Calls Tryz.prog 47 #[BP r.v] w fun e w' => e = .returned (.int .i64 (lenM (M r.v))) ∧ w = w' := by
  have hre := h.sk.ent r hr
  have hen := h.en r hr
  unfold EnAt enCs at hre
  obtain ⟨en, he⟩ : ∃ en, en = E r.v := ⟨_, rfl⟩
  rw [← he] at hre hen
  obtain ⟨kd, tx, lo, ln, lc⟩ := en
  have h1 : kd = (M r.v).kind := hen.kd
  have h2 : tx = (M r.v).tx := hen.tx
  have h3 : ln = (M r.v).ls.length := hen.ln.len
  unfold lenM
  rcases hen.ok with ⟨hk, _⟩ | ⟨hk, _⟩
  · rw [hk] at h1
    subst h1
    rw [if_pos hk, ← h2]
    exact length_str r.v tx lo ln lc w hre
  · rw [hk] at h1
    subst h1
    rw [if_neg (by rw [hk]; decide), ← h3]
    exact length_mac r.v 2 tx lo ln lc w rfl hre
structure KpP (F : Nat → Prop) (sb mb : Nat) (L : List Reg) (M : Nat → Mc) (r : Reg) (x y : Nat) (w' : World) : Prop where
  sa : SA F sb mb L (updM M r.v (keepM (M r.v) x y)) w'
theorem keep_gen {F : Nat → Prop} {sb mb : Nat} {L : List Reg} {E : Nat → En} {M : Nat → Mc} {w : World} (h : SL F sb mb L E M w) (r : Reg) (hr : r ∈ L) (x y : Nat) (hxy : x ≤ y) (hy : y ≤ lenM (M r.v)) :
    Calls Tryz.prog 45 #[BP r.v, .int .i64 x, .int .i64 y] w fun e w' => e = .returned (.tuple #[]) ∧ KpP F sb mb L M r x y w' ∧ Fx F w w' := by
  have hre := h.sk.ent r hr
  have hen := h.en r hr
  have hok := keepM_ok hen.ok x y
  unfold EnAt enCs at hre
  obtain ⟨en, he⟩ : ∃ en, en = E r.v := ⟨_, rfl⟩
  rw [← he] at hre hen
  obtain ⟨kd, tx, lo, ln, lc⟩ := en
  have h1 : kd = (M r.v).kind := hen.kd
  have h2 : tx = (M r.v).tx := hen.tx
  have h3 : ln = (M r.v).ls.length := hen.ln.len
  unfold lenM at hy
  rcases hen.ok with ⟨hk, ht, hls⟩ | ⟨hk, ht, hn, _⟩
  · rw [hk] at h1
    subst h1
    rw [if_pos hk, ← h2] at hy
    have htz := okTx_size ht
    refine (keep_str r.v tx lo ln lc x y hxy hy (by rw [h2]; exact htz) w hre).mono fun e w' ⟨g1, g2, g3⟩ => ?_
    have hsk := h.sk.with r hr ⟨1, tx.extract x y, lo, ln, lc⟩ g2 g3
    have htag : Tg w 59 r.v := ⟨_, _, hre⟩
    have hln : LnOwn w' lo ln lc [] := by
      have := hen.ln
      rw [hls] at this
      exact LnOwn.keep this (fun g hg => g3.block g (this.tag hg).lt ((this.tag hg).ne htag (by decide))) (fun e he b hb => g3.block b hb.lt (hb.ne htag (by rcases he with rfl | rfl <;> decide)))
    have hm : keepM (M r.v) x y = ⟨1, tx.extract x y, []⟩ := by unfold keepM; rw [if_pos hk, h2]
    obtain ⟨h4, h5⟩ := h.with r hr _ (keepM (M r.v) x y) hsk (by rw [hm] at hok ⊢; exact ⟨rfl, rfl, hln, hok⟩) (g3.mono fun k hk => .inl hk) (fun g hg => .inl (by rw [← he]; exact hg))
    exact ⟨g1, ⟨_, h4⟩, h5⟩
  · rw [hk] at h1
    subst h1
    rw [if_neg (by rw [hk]; decide), ← h3] at hy
    refine (keep_mac r.v tx lo ln lc (M r.v).ls x y hxy hy (by rw [h3]; exact hn) w hre hen.ln).mono fun e w' ⟨g1, ⟨⟨lo', ln', lc', g2, g4, g5⟩, g3⟩⟩ => ?_
    have hsk := h.sk.with r hr ⟨2, tx, lo', ln', lc'⟩ g2 g3
    have hm : keepM (M r.v) x y = ⟨2, ⟨#[]⟩, ((M r.v).ls.take y).drop x⟩ := by unfold keepM; rw [if_neg (by rw [hk]; decide)]
    obtain ⟨h4, h5⟩ := h.with r hr _ (keepM (M r.v) x y) hsk (by rw [hm] at hok ⊢; exact ⟨rfl, h2.trans ht, g4, hok⟩) (g3.mono fun k hk => .inl hk) (fun g hg => .inr (g5 g hg))
    exact ⟨g1, ⟨_, h4⟩, h5⟩
theorem partA {F : Nat → Prop} {sb mb : Nat} {L : List Reg} {M : Nat → Mc} {w : World} (h : SA F sb mb L M w) (s : ByteArray) (f t : Int) (hf : I64 f) (ht : I64 t) (hs : s.size ≤ maxLen) (hh : hasS L s.data.toList = true) (a b : Nat) (hab : spanS (lenM (M (getS L s.data.toList).v)) f t = ((a : Int), (b : Int))) :
    Calls Tryz.prog 15 #[BP sb, .string s, .int .i64 f, .int .i64 t] w fun e w' => e = .returned (.int .i64 0) ∧ KpP F sb mb L M (getS L s.data.toList) a b w' ∧ Fx F w w' := by
  obtain ⟨E, h⟩ := h
  have HG := Lib.hid (get_yes h.sk s hs hh)
  have hmem := getS_mem L _ hh
  have hsp := span_nat (lenM (M (getS L s.data.toList).v)) f t
  have hz := lenM_le (h.en _ hmem).ok
  obtain ⟨r, hr⟩ : ∃ r, r = getS L s.data.toList := ⟨_, rfl⟩
  rw [← hr] at HG hmem hab hsp hz ⊢
  have hres : a ≤ b ∧ b ≤ lenM (M r.v) := by
    obtain ⟨x, y, h1, h2, h3⟩ := hsp
    rw [hab] at h1
    simp only [Prod.mk.injEq] at h1
    omega
  have HL := Lib.hid (len_gen h r hmem)
  have HSP := Lib.hid (span_any (lenM (M r.v)) f t hz hf ht w)
  rw [hab] at HSP
  have HK := Lib.hid (keep_gen h r hmem a b hres.1 hres.2)
  obtain ⟨n, hn⟩ : ∃ n, n = lenM (M r.v) := ⟨_, rfl⟩
  rw [← hn] at HL HSP
  clear h hs hh hr hmem hz hf ht hab hsp hres hn
  go_enter Tryz.func15, Tryz.ntmps15
  go_wp2_with fail
  refine HG.out.mono ?_
  rintro e w1 ⟨rfl, rfl⟩
  go_wp2_with fail
  refine HL.out.mono ?_
  rintro e w1 ⟨rfl, rfl⟩
  go_wp2_with fail
  refine HSP.out.mono ?_
  rintro e w1 ⟨rfl, rfl⟩
  go_wp2_with fail
  refine HK.out.mono ?_
  rintro e w1 ⟨rfl, hb, hk⟩
  have HB := Lib.hid hb
  have HKK := Lib.hid hk
  clear hb hk
  go_wp2_with fail
  go_ret
  exact ⟨rfl, HB.out, HKK.out⟩
theorem chopA {F : Nat → Prop} {sb mb : Nat} {L : List Reg} {M : Nat → Mc} {w : World} (h : SA F sb mb L M w) (s : ByteArray) (hs : s.size ≤ maxLen) (hh : hasS L s.data.toList = true) :
    Calls Tryz.prog 23 #[BP sb, .string s] w fun e w' => e = .returned (.int .i64 0) ∧ KpP F sb mb L M (getS L s.data.toList) 0 (lenM (M (getS L s.data.toList).v) - 1) w' ∧ Fx F w w' := by
  obtain ⟨E, h⟩ := h
  have HG := Lib.hid (get_yes h.sk s hs hh)
  have hmem := getS_mem L _ hh
  have hz := lenM_le (h.en _ hmem).ok
  obtain ⟨r, hr⟩ : ∃ r, r = getS L s.data.toList := ⟨_, rfl⟩
  rw [← hr] at HG hmem hz ⊢
  have HL := Lib.hid (len_gen h r hmem)
  have HK := Lib.hid (keep_gen h r hmem 0 (lenM (M r.v) - 1) (Nat.zero_le _) (Nat.sub_le _ _))
  obtain ⟨n, hn⟩ : ∃ n, n = lenM (M r.v) := ⟨_, rfl⟩
  rw [← hn] at HL HK hz ⊢
  have HM := Lib.hid (show max (0 : Int) ((n : Int) - 1) = ((n - 1 : Nat) : Int) by omega)
  clear h hs hh hr hmem hn
  go_enter Tryz.func23, Tryz.ntmps23
  go_wp2_with fail
  refine HG.out.mono ?_
  rintro e w1 ⟨rfl, rfl⟩
  go_wp2_with fail
  refine HL.out.mono ?_
  rintro e w1 ⟨rfl, rfl⟩
  go_wp2_with fail
  rw [HM.out]
  refine HK.out.mono ?_
  rintro e w1 ⟨rfl, hb, hk⟩
  have HB := Lib.hid hb
  have HKK := Lib.hid hk
  clear hb hk
  go_wp2_with fail
  go_ret
  exact ⟨rfl, HB.out, HKK.out⟩
end Go.Proofs.YtgpanlkcpnlejaaGreat
/- A deed: it comes to what it names. -/
namespace Go.Proofs.YtgpanlkcpnlejaaGreat
open Go.RowKit Go.Maps
set_option maxRecDepth 100000
/-- A deed as a value. -/
abbrev DV (k : Int) (nm ot tx : ByteArray) (A : Option Addr) (n c : Nat) (a b : Int) : Value := .agg #[.int .i64 k, .string nm, .string ot, .string tx, .slice A n c, .int .i64 a, .int .i64 b]
/-- A number comes back, and what is left. -/
abbrev Nb (R : Int → World → Prop) : Ending → World → Prop := fun e w' => ∃ x, e = .returned (.int .i64 x) ∧ R x w'
theorem do_0 {p : Value} {nm ot tx : ByteArray} {A : Option Addr} {n c : Nat} {a b : Int} {w : World} {R : Int → World → Prop} (h : ∀ W, Below w.heap.size w W → Calls Tryz.prog 14 #[p, .string nm, .string tx] W (Nb R)) :
    Calls Tryz.prog 9 #[p, DV 0 nm ot tx A n c a b] w (Nb R) := by
  have H := Lib.hid h
  have HB := Lib.hid ((Below.refl w.heap.size w).alloc (Nat.le_refl _) (.cells #[.int .i64 0, .string nm, .string ot, .string tx, .slice A n c, .int .i64 a, .int .i64 b] 33))
  clear h
  go_enter Tryz.func9, Tryz.ntmps9
  go_wp2_with fail
  refine (H.out _ HB.out).mono ?_
  rintro e w1 ⟨x, rfl, hr⟩
  have HR := Lib.hid hr
  clear hr
  go_wp2_with fail
  go_ret
  exact ⟨x, rfl, HR.out⟩
theorem do_1 {p : Value} {nm ot tx : ByteArray} {A : Option Addr} {n c : Nat} {a b : Int} {w : World} {R : Int → World → Prop} (h : ∀ W, Below w.heap.size w W → Calls Tryz.prog 17 #[p, .string nm, .string tx] W (Nb R)) :
    Calls Tryz.prog 9 #[p, DV 1 nm ot tx A n c a b] w (Nb R) := by
  have H := Lib.hid h
  have HB := Lib.hid ((Below.refl w.heap.size w).alloc (Nat.le_refl _) (.cells #[.int .i64 1, .string nm, .string ot, .string tx, .slice A n c, .int .i64 a, .int .i64 b] 33))
  clear h
  go_enter Tryz.func9, Tryz.ntmps9
  go_wp2_with fail
  refine (H.out _ HB.out).mono ?_
  rintro e w1 ⟨x, rfl, hr⟩
  have HR := Lib.hid hr
  clear hr
  go_wp2_with fail
  go_ret
  exact ⟨x, rfl, HR.out⟩
theorem do_2 {p : Value} {nm ot tx : ByteArray} {A : Option Addr} {n c : Nat} {a b : Int} {w : World} {R : Int → World → Prop} (h : ∀ W, Below w.heap.size w W → Calls Tryz.prog 18 #[p, .string nm, .slice A n c] W (Nb R)) :
    Calls Tryz.prog 9 #[p, DV 2 nm ot tx A n c a b] w (Nb R) := by
  have H := Lib.hid h
  have HB := Lib.hid ((Below.refl w.heap.size w).alloc (Nat.le_refl _) (.cells #[.int .i64 2, .string nm, .string ot, .string tx, .slice A n c, .int .i64 a, .int .i64 b] 33))
  clear h
  go_enter Tryz.func9, Tryz.ntmps9
  go_wp2_with fail
  refine (H.out _ HB.out).mono ?_
  rintro e w1 ⟨x, rfl, hr⟩
  have HR := Lib.hid hr
  clear hr
  go_wp2_with fail
  go_ret
  exact ⟨x, rfl, HR.out⟩
theorem do_3 {p : Value} {nm ot tx : ByteArray} {A : Option Addr} {n c : Nat} {a b : Int} {w : World} {R : Int → World → Prop} (h : ∀ W, Below w.heap.size w W → Calls Tryz.prog 19 #[p, .string nm, .slice A n c] W (Nb R)) :
    Calls Tryz.prog 9 #[p, DV 3 nm ot tx A n c a b] w (Nb R) := by
  have H := Lib.hid h
  have HB := Lib.hid ((Below.refl w.heap.size w).alloc (Nat.le_refl _) (.cells #[.int .i64 3, .string nm, .string ot, .string tx, .slice A n c, .int .i64 a, .int .i64 b] 33))
  clear h
  go_enter Tryz.func9, Tryz.ntmps9
  go_wp2_with fail
  refine (H.out _ HB.out).mono ?_
  rintro e w1 ⟨x, rfl, hr⟩
  have HR := Lib.hid hr
  clear hr
  go_wp2_with fail
  go_ret
  exact ⟨x, rfl, HR.out⟩
theorem do_4 {p : Value} {nm ot tx : ByteArray} {A : Option Addr} {n c : Nat} {a b : Int} {w : World} {R : Int → World → Prop} (h : ∀ W, Below w.heap.size w W → Calls Tryz.prog 20 #[p, .string nm] W (Nb R)) :
    Calls Tryz.prog 9 #[p, DV 4 nm ot tx A n c a b] w (Nb R) := by
  have H := Lib.hid h
  have HB := Lib.hid ((Below.refl w.heap.size w).alloc (Nat.le_refl _) (.cells #[.int .i64 4, .string nm, .string ot, .string tx, .slice A n c, .int .i64 a, .int .i64 b] 33))
  clear h
  go_enter Tryz.func9, Tryz.ntmps9
  go_wp2_with fail
  refine (H.out _ HB.out).mono ?_
  rintro e w1 ⟨x, rfl, hr⟩
  have HR := Lib.hid hr
  clear hr
  go_wp2_with fail
  go_ret
  exact ⟨x, rfl, HR.out⟩
theorem do_5 {p : Value} {nm ot tx : ByteArray} {A : Option Addr} {n c : Nat} {a b : Int} {w : World} {R : Int → World → Prop} (h : ∀ W, Below w.heap.size w W → Calls Tryz.prog 21 #[p, .string nm, .string ot] W (Nb R)) :
    Calls Tryz.prog 9 #[p, DV 5 nm ot tx A n c a b] w (Nb R) := by
  have H := Lib.hid h
  have HB := Lib.hid ((Below.refl w.heap.size w).alloc (Nat.le_refl _) (.cells #[.int .i64 5, .string nm, .string ot, .string tx, .slice A n c, .int .i64 a, .int .i64 b] 33))
  clear h
  go_enter Tryz.func9, Tryz.ntmps9
  go_wp2_with fail
  refine (H.out _ HB.out).mono ?_
  rintro e w1 ⟨x, rfl, hr⟩
  have HR := Lib.hid hr
  clear hr
  go_wp2_with fail
  go_ret
  exact ⟨x, rfl, HR.out⟩
theorem do_6 {p : Value} {nm ot tx : ByteArray} {A : Option Addr} {n c : Nat} {a b : Int} {w : World} {R : Int → World → Prop} (h : ∀ W, Below w.heap.size w W → Calls Tryz.prog 22 #[p, .string nm, .string ot] W (Nb R)) :
    Calls Tryz.prog 9 #[p, DV 6 nm ot tx A n c a b] w (Nb R) := by
  have H := Lib.hid h
  have HB := Lib.hid ((Below.refl w.heap.size w).alloc (Nat.le_refl _) (.cells #[.int .i64 6, .string nm, .string ot, .string tx, .slice A n c, .int .i64 a, .int .i64 b] 33))
  clear h
  go_enter Tryz.func9, Tryz.ntmps9
  go_wp2_with fail
  refine (H.out _ HB.out).mono ?_
  rintro e w1 ⟨x, rfl, hr⟩
  have HR := Lib.hid hr
  clear hr
  go_wp2_with fail
  go_ret
  exact ⟨x, rfl, HR.out⟩
theorem do_7 {p : Value} {nm ot tx : ByteArray} {A : Option Addr} {n c : Nat} {a b : Int} {w : World} {R : Int → World → Prop} (h : ∀ W, Below w.heap.size w W → Calls Tryz.prog 23 #[p, .string nm] W (Nb R)) :
    Calls Tryz.prog 9 #[p, DV 7 nm ot tx A n c a b] w (Nb R) := by
  have H := Lib.hid h
  have HB := Lib.hid ((Below.refl w.heap.size w).alloc (Nat.le_refl _) (.cells #[.int .i64 7, .string nm, .string ot, .string tx, .slice A n c, .int .i64 a, .int .i64 b] 33))
  clear h
  go_enter Tryz.func9, Tryz.ntmps9
  go_wp2_with fail
  refine (H.out _ HB.out).mono ?_
  rintro e w1 ⟨x, rfl, hr⟩
  have HR := Lib.hid hr
  clear hr
  go_wp2_with fail
  go_ret
  exact ⟨x, rfl, HR.out⟩
theorem do_8 {p : Value} {nm ot tx : ByteArray} {A : Option Addr} {n c : Nat} {a b : Int} {w : World} {R : Int → World → Prop} (h : ∀ W, Below w.heap.size w W → Calls Tryz.prog 15 #[p, .string nm, .int .i64 a, .int .i64 b] W (Nb R)) :
    Calls Tryz.prog 9 #[p, DV 8 nm ot tx A n c a b] w (Nb R) := by
  have H := Lib.hid h
  have HB := Lib.hid ((Below.refl w.heap.size w).alloc (Nat.le_refl _) (.cells #[.int .i64 8, .string nm, .string ot, .string tx, .slice A n c, .int .i64 a, .int .i64 b] 33))
  clear h
  go_enter Tryz.func9, Tryz.ntmps9
  go_wp2_with fail
  refine (H.out _ HB.out).mono ?_
  rintro e w1 ⟨x, rfl, hr⟩
  have HR := Lib.hid hr
  clear hr
  go_wp2_with fail
  go_ret
  exact ⟨x, rfl, HR.out⟩
end Go.Proofs.YtgpanlkcpnlejaaGreat
/- Deeds in a slice; big. -/
namespace Go.Proofs.YtgpanlkcpnlejaaGreat
open Go.RowKit Go.Maps
set_option maxRecDepth 100000
structure Dd where
  k : Int
  nm : ByteArray
  ot : ByteArray
  tx : ByteArray
  A : Option Addr
  n : Nat
  c : Nat
  a : Int
  b : Int
  ls : List Ln
def ddCs (d : Dd) : List Value := [.int .i64 d.k, .string d.nm, .string d.ot, .string d.tx, .slice d.A d.n d.c, .int .i64 d.a, .int .i64 d.b]
theorem dd_len (d : Dd) : (ddCs d).length = 7 := rfl
structure DdOk (W : World) (d : Dd) : Prop where
  ls : LnsAt (fun _ b => b < W.heap.size) W d.A d.n d.ls
  nil : d.A = none → d.n = 0
  le : d.n ≤ d.c
  cap : (d.c : Int) ≤ 9223372036854775807
  fit : d.n * 64 ≤ 140737488351232
  txs : ∀ l ∈ d.ls, l.tx.size ≤ 140737488351232
  nm : d.nm.size ≤ 140737488351232
  ot : d.ot.size ≤ 140737488351232
  tx : d.tx.size ≤ 140737488351232
  k9 : I64 d.k
  a9 : I64 d.a
  b9 : I64 d.b
theorem reads_dd {P : Nat → Prop} {w : World} {A : Option Addr} {n : Nat} {ds : List Dd} (h : ReadsP P w 7 A n (ds.flatMap ddCs)) (j : Nat) (r : Dd) (hr : ds[j]? = some r) :
    ∃ b off, A = some ⟨b, off, none⟩ ∧ P b ∧ w.cell? ⟨b, off + j * 7, none⟩ = some (.int .i64 r.k) ∧ w.cell? ⟨b, off + j * 7 + 1, none⟩ = some (.string r.nm) ∧ w.cell? ⟨b, off + j * 7 + 2, none⟩ = some (.string r.ot) ∧ w.cell? ⟨b, off + j * 7 + 3, none⟩ = some (.string r.tx) ∧ w.cell? ⟨b, off + j * 7 + 4, none⟩ = some (.slice r.A r.n r.c) ∧ w.cell? ⟨b, off + j * 7 + 5, none⟩ = some (.int .i64 r.a) ∧ w.cell? ⟨b, off + j * 7 + 6, none⟩ = some (.int .i64 r.b) := by
  have hjl : j < ds.length := (List.getElem?_eq_some_iff.1 hr).1
  have h1 := h.1
  rw [fm_len dd_len] at h1
  obtain ⟨b, off, hA, hp, hc⟩ := h.2 (by omega)
  have key := fun k (hk : k < 7) => fm_at dd_len ds j k r hr hk
  have key2 : ∀ k (hk : k < 7) u, (ddCs r)[k]? = some u → w.cell? ⟨b, off + j * 7 + k, none⟩ = some u := by
    intro k hk u hu
    have := hc _ _ ((key k hk).trans hu)
    rwa [← Nat.add_assoc] at this
  exact ⟨b, off, hA, hp, key2 0 (by omega) _ rfl, key2 1 (by omega) _ rfl, key2 2 (by omega) _ rfl, key2 3 (by omega) _ rfl, key2 4 (by omega) _ rfl, key2 5 (by omega) _ rfl, key2 6 (by omega) _ rfl⟩
def BgR (w : World) (n k : Nat) (x i : Value) (wr : World) : Prop := ∃ j : Nat, k + j = n ∧ i = .int .i64 j ∧ (∃ m : Int, x = .int .i64 m) ∧ wr.heap = w.heap ∧ Below w.heap.size w wr
theorem bg_cases (j n : Nat) (m : Int) : (decide (j < n) = true ∧ decide (m < 6000) = true) ∨ (decide (j < n) = true ∧ decide (m < 6000) = false) ∨ decide (j < n) = false := by
  rcases Bool.eq_false_or_eq_true (decide (j < n)) with h | h
  · rcases Bool.eq_false_or_eq_true (decide (m < 6000)) with h' | h'
    · exact .inl ⟨h, h'⟩
    · exact .inr (.inl ⟨h, h'⟩)
  · exact .inr (.inr h)
def IsB (e : Ending) : Prop := ∃ t, e = .returned (.bool t)
set_option maxHeartbeats 4000000 in
theorem big_any {w : World} (A : Option Addr) (n c : Nat) (ds : List Dd) (hn : n = ds.length) (hn9 : (n : Int) ≤ 9223372036854775807) (hr : ReadsP (fun b => b < w.heap.size) w 7 A n (ds.flatMap ddCs)) (hd : ∀ d ∈ ds, DdOk w d) :
    Calls Tryz.prog 5 #[.slice A n c] w fun e w' => IsB e ∧ Below w.heap.size w w' := by
  have HN := Lib.hid hn
  have HR := Lib.hid hr
  have HD := Lib.hid hd
  clear hn hr hd
  go_enter Tryz.func5, Tryz.ntmps5
  go_wp2_with fail
  go_loopg [3, 4] n (fun k x i wr => BgR w n k x i wr)
  case atStart => exact ⟨0, rfl, rfl, ⟨0, rfl⟩, rfl, Below.refl _ _⟩
  case round =>
    obtain ⟨j, hk, rfl, ⟨m, rfl⟩, hh, hb⟩ := hrel
    have HK := Lib.hid hk
    have HH := Lib.hid hh
    have HB := Lib.hid hb
    have hc := bg_cases j n m
    rcases hc with ⟨dj, dm⟩ | ⟨dj, dm⟩ | dj
    · have hj : j < n := of_decide_eq_true dj
      have hdj : ds[j]? = some (ds[j]'(by have := HN.out; omega)) := List.getElem?_eq_getElem (by have := HN.out; omega)
      obtain ⟨r, hre⟩ : ∃ r, r = ds[j]'(by have := HN.out; omega) := ⟨_, rfl⟩
      rw [← hre] at hdj
      obtain ⟨b, off, rfl, hbl, _, _, _, c3, c4, _, _⟩ := reads_dd HR.out j r hdj
      have hok := HD.out r (List.mem_of_getElem? hdj)
      have HOK := Lib.hid hok
      have key : ∀ p : Addr, wr.cell? p = w.cell? p := fun p => by unfold World.cell?; rw [HH.out]
      rw [← key] at c3 c4
      obtain ⟨dk, nm, ot, tx, dA, dn, dc, da, db, dls⟩ := r
      simp only at c3 c4
      have hdn : dn * 64 ≤ 140737488351232 := hok.fit
      have htx : tx.size ≤ 140737488351232 := hok.tx
      have HJ := Lib.hid hj
      have hj0 : (0 : Int) ≤ (j : Int) := by omega
      have hj1 : (j : Int) < (n : Int) := by omega
      have C3 := Lib.hid ((key _).symm.trans c3)
      have C4 := Lib.hid ((key _).symm.trans c4)
      clear hk hj hh hb hbl hok key hre hdj
      go_wp2_with fail
      go_quiet (fail)
      go_wp2_with fail
      go_loopg [3, 5] dn (fun k x i wi => BgR w dn k x i wi)
      case atStart => exact ⟨0, rfl, rfl, ⟨_, rfl⟩, HH.out, ⟨HB.out.os, HB.out.tape, HB.out.output, HB.out.size, HB.out.block⟩⟩
      case round =>
        obtain ⟨j2, hk2, rfl, ⟨m2, rfl⟩, hh2, hb2⟩ := hrel
        have HK2 := Lib.hid hk2
        have HH2 := Lib.hid hh2
        have HB2 := Lib.hid hb2
        have key : ∀ p : Addr, wr.cell? p = w.cell? p := fun p => by unfold World.cell?; rw [HH2.out]
        have c4 := (key _).trans C4.out
        have hc := bg_cases j2 dn m2
        rcases hc with ⟨dj2, dm2⟩ | ⟨dj2, dm2⟩ | dj2
        · have hj2 : j2 < dn := of_decide_eq_true dj2
          have HJ2 := Lib.hid hj2
          obtain ⟨⟨rs, hr, ha⟩, hl⟩ := HOK.out.ls
          simp only at hr ha hl
          have hrl : rs.length = dn := by rw [ha.1, hl]
          have hrj : rs[j2]? = some (rs[j2]'(by omega)) := List.getElem?_eq_getElem (by omega)
          obtain ⟨r2, hre⟩ : ∃ r2, r2 = rs[j2]'(by omega) := ⟨_, rfl⟩
          rw [← hre] at hrj
          obtain ⟨b2, off2, rfl, hbl2, e0, _, _, _, e4⟩ := reads_ln hr j2 r2 hrj
          rw [← key] at e0 e4
          obtain ⟨ltx, lmd, lup, ldn, lbo, lbn, lbc⟩ := r2
          simp only at e0 e4
          have hj20 : (0 : Int) ≤ (j2 : Int) := by omega
          have hj21 : (j2 : Int) < (dn : Int) := by omega
          clear hk2 hh2 hb2 key hr ha hl hrl hrj hre hbl2 hj2
          go_wp2_with fail
          go_quiet (fail)
          go_wp2_with fail
          go_roundg (gk - 1)
          case measure => have := HK2.out; have := HJ2.out; omega
          case rel => have := HK2.out; have := HJ2.out; exact ⟨j2 + 1, by omega, by first | go_num | (congr 1; rw [IntWalk.wrap64_in _ (by omega)]; omega), ⟨_, rfl⟩, HH2.out, ⟨HB2.out.os, HB2.out.tape, HB2.out.output, HB2.out.size, HB2.out.block⟩⟩
        · clear hk2 hh2 hb2 key
          go_wp2_with fail
          go_roundg (n - (j + 1))
          case measure => have := HK.out; have := HJ.out; omega
          case rel => have := HJ.out; exact ⟨j + 1, by omega, by first | go_num | (congr 1; rw [IntWalk.wrap64_in _ (by omega)]; omega), ⟨_, rfl⟩, HH2.out, ⟨HB2.out.os, HB2.out.tape, HB2.out.output, HB2.out.size, HB2.out.block⟩⟩
        · clear hk2 hh2 hb2 key
          go_wp2_with fail
          go_roundg (n - (j + 1))
          case measure => have := HK.out; have := HJ.out; omega
          case rel => have := HJ.out; exact ⟨j + 1, by omega, by first | go_num | (congr 1; rw [IntWalk.wrap64_in _ (by omega)]; omega), ⟨_, rfl⟩, HH2.out, ⟨HB2.out.os, HB2.out.tape, HB2.out.output, HB2.out.size, HB2.out.block⟩⟩
    · clear hk hh hb
      go_wp2_with fail
      all_goals
        go_ret
        exact ⟨⟨_, rfl⟩, HB.out⟩
    · clear hk hh hb
      go_wp2_with fail
      all_goals
        go_ret
        exact ⟨⟨_, rfl⟩, HB.out⟩
end Go.Proofs.YtgpanlkcpnlejaaGreat
/- The code's store: a deed, in plain words. -/
namespace Go.Proofs.YtgpanlkcpnlejaaGreat
open Go.RowKit Go.Maps
set_option maxRecDepth 100000
abbrev St := List Reg × (Nat → Mc)
/-- What a deed comes to: its number, the names, what they have; b is the key of a new entry. -/
def defS (L : List Reg) (M : Nat → Mc) (nm : List UInt8) (t : ByteArray) (b : Nat) : Int × St := if okTx t.data.toList then (if okNm nm then putTo L M nm ⟨1, t, []⟩ b else (6, L, M)) else (1, L, M)
def appS (L : List Reg) (M : Nat → Mc) (nm : List UInt8) (t : ByteArray) (b : Nat) : Int × St := if okTx t.data.toList then (if okNm nm then (if (mOf L M nm).tx.size + t.size ≤ 2000 then putTo L M nm ⟨1, (mOf L M nm).tx ++ t, []⟩ b else (2, L, M)) else (6, L, M)) else (1, L, M)
def macS (L : List Reg) (M : Nat → Mc) (nm : List UInt8) (ls : List Ln) (b : Nat) : Int × St := if ls.all okLn then (if okNm nm then (if ls.length ≤ 2000 then putTo L M nm ⟨2, ⟨#[]⟩, ls⟩ b else (2, L, M)) else (6, L, M)) else (1, L, M)
def addS (L : List Reg) (M : Nat → Mc) (nm : List UInt8) (ls : List Ln) (b : Nat) : Int × St := if ls.all okLn then (if okNm nm then (if (mOf L M nm).ls.length + ls.length ≤ 2000 then putTo L M nm ⟨2, ⟨#[]⟩, (mOf L M nm).ls ++ ls⟩ b else (2, L, M)) else (6, L, M)) else (1, L, M)
def remS (L : List Reg) (M : Nat → Mc) (nm : List UInt8) : Int × St := if okNm nm then (0, delS L nm, M) else (6, L, M)
def renS (L : List Reg) (M : Nat → Mc) (nm ot : List UInt8) : Int × St := if hasS L nm then (if okNm ot then (0, putS (delS L nm) ⟨ot, (getS L nm).v⟩, M) else (6, L, M)) else (6, L, M)
def aliS (L : List Reg) (M : Nat → Mc) (nm ot : List UInt8) : Int × St := if hasS L ot then (if okNm nm then (if nm = ot then (12, L, M) else if hasS L nm = false ∧ L.length = 500 then (9, L, M) else (0, putS L ⟨nm, (getS L ot).v⟩, M)) else (6, L, M)) else (6, L, M)
def choS (L : List Reg) (M : Nat → Mc) (nm : List UInt8) : Int × St := if hasS L nm then (0, L, updM M (getS L nm).v (keepM (M (getS L nm).v) 0 (lenM (M (getS L nm).v) - 1))) else (6, L, M)
def parS (L : List Reg) (M : Nat → Mc) (nm : List UInt8) (f t : Int) : Int × St := if hasS L nm then (0, L, updM M (getS L nm).v (keepM (M (getS L nm).v) (spanS (lenM (M (getS L nm).v)) f t).1.toNat (spanS (lenM (M (getS L nm).v)) f t).2.toNat)) else (6, L, M)
/-- What a deed leaves. -/
structure StP (F : Nat → Prop) (sb mb : Nat) (R : Nat → Int × St) (w : World) (e : Ending) (w' : World) : Prop where
  ex : ∃ b, w.heap.size ≤ b ∧ e = .returned (.int .i64 (R b).1) ∧ SA F sb mb (R b).2.1 (R b).2.2 w'
  fx : Fx F w w'
theorem StP.of_put {F : Nat → Prop} {sb mb : Nat} {L : List Reg} {M : Nat → Mc} {nm : List UInt8} {m : Mc} {w : World} {e : Ending} {w' : World} {R : Nat → Int × St} (h : PutP F sb mb L M nm m w e w') (hR : ∀ b, R b = putTo L M nm m b) : StP F sb mb R w e w' := by
  obtain ⟨⟨b, h1, h2, h3⟩, h4⟩ := h
  exact ⟨⟨b, h1, by rw [hR]; exact h2, by rw [hR]; exact h3⟩, h4⟩
theorem StP.of_err {F : Nat → Prop} {sb mb : Nat} {L : List Reg} {M : Nat → Mc} {w : World} {e : Ending} {w' : World} {R : Nat → Int × St} {k : Int} (h : SA F sb mb L M w) (hR : ∀ b, R b = (k, L, M)) (x : e = .returned (.int .i64 k) ∧ Below w.heap.size w w') : StP F sb mb R w e w' :=
  ⟨⟨w.heap.size, Nat.le_refl _, by rw [hR]; exact x.1, by rw [hR]; exact h.below x.2⟩, Fx.of h.hf x.2⟩
theorem StP.of_ok {F : Nat → Prop} {sb mb : Nat} {L : List Reg} {M : Nat → Mc} {w : World} {e : Ending} {w' : World} {R : Nat → Int × St} {k : Int} (hR : ∀ b, R b = (k, L, M)) (h1 : e = .returned (.int .i64 k)) (h2 : SA F sb mb L M w') (h3 : Fx F w w') : StP F sb mb R w e w' :=
  ⟨⟨w.heap.size, Nat.le_refl _, by rw [hR]; exact h1, by rw [hR]; exact h2⟩, h3⟩
theorem same_below {w w' : World} {e : Ending} {k : Int} (x : e = .returned (.int .i64 k) ∧ w = w') : e = .returned (.int .i64 k) ∧ Below w.heap.size w w' := ⟨x.1, x.2 ▸ Below.refl _ _⟩
section
variable {F : Nat → Prop} {sb mb : Nat} {L : List Reg} {M : Nat → Mc} {w : World}
theorem defC (h : SA F sb mb L M w) (s t : ByteArray) : Calls Tryz.prog 14 #[BP sb, .string s, .string t] w (StP F sb mb (defS L M s.data.toList t) w) := by
  obtain ⟨E, hs⟩ := h
  cases ht : okTx t.data.toList with
  | false => exact (define_arg hs.sk s t ht).mono fun e w' x => .of_err ⟨E, hs⟩ (fun b => by unfold defS; rw [if_neg (by rw [ht]; decide)]) x
  | true =>
    cases hn : okNm s.data.toList with
    | false => exact (define_bad hs.sk s t ht hn).mono fun e w' x => .of_err ⟨E, hs⟩ (fun b => by unfold defS; rw [if_pos ht, if_neg (by rw [hn]; decide)]) x
    | true => exact (defineA ⟨E, hs⟩ s t hn ht).mono fun e w' x => .of_put x (fun b => by unfold defS; rw [if_pos ht, if_pos hn])
theorem appC (h : SA F sb mb L M w) (s t : ByteArray) : Calls Tryz.prog 17 #[BP sb, .string s, .string t] w (StP F sb mb (appS L M s.data.toList t) w) := by
  obtain ⟨E, hs⟩ := h
  cases ht : okTx t.data.toList with
  | false => exact (append_arg hs.sk s t ht).mono fun e w' x => .of_err ⟨E, hs⟩ (fun b => by unfold appS; rw [if_neg (by rw [ht]; decide)]) x
  | true =>
    cases hn : okNm s.data.toList with
    | false => exact (append_bad hs.sk s t ht hn).mono fun e w' x => .of_err ⟨E, hs⟩ (fun b => by unfold appS; rw [if_pos ht, if_neg (by rw [hn]; decide)]) x
    | true =>
      by_cases hz : (mOf L M s.data.toList).tx.size + t.size ≤ 2000
      · exact (appendA ⟨E, hs⟩ s t hn ht hz).mono fun e w' x => .of_put x (fun b => by unfold appS; rw [if_pos ht, if_pos hn, if_pos hz])
      · exact (appendA_limit ⟨E, hs⟩ s t hn ht (by omega)).mono fun e w' x => .of_err ⟨E, hs⟩ (fun b => by unfold appS; rw [if_pos ht, if_pos hn, if_neg hz]) x
theorem macC {P : TypeId → Nat → Prop} {A : Option Addr} {n c : Nat} {ls : List Ln} (h : SA F sb mb L M w) (s : ByteArray) (hl : LnsAt P w A n ls) (hP : ∀ e b, P e b → b < w.heap.size) (hA : A = none → n = 0) (hn47 : n ≤ 140737488351232) : Calls Tryz.prog 18 #[BP sb, .string s, .slice A n c] w (StP F sb mb (macS L M s.data.toList ls) w) := by
  obtain ⟨E, hs⟩ := h
  have hlen := hl.len
  cases ht : ls.all okLn with
  | false => exact (macro_arg hs.sk s hl hP (by omega) ht).mono fun e w' x => .of_err ⟨E, hs⟩ (fun b => by unfold macS; rw [if_neg (by rw [ht]; decide)]) x
  | true =>
    cases hn : okNm s.data.toList with
    | false => exact (macro_bad hs.sk s hl hP (by omega) ht hn).mono fun e w' x => .of_err ⟨E, hs⟩ (fun b => by unfold macS; rw [if_pos ht, if_neg (by rw [hn]; decide)]) x
    | true =>
      by_cases hz : n ≤ 2000
      · exact (macroA ⟨E, hs⟩ s hn hl hP hA (by omega) ht hz).mono fun e w' x => .of_put x (fun b => by unfold macS; rw [if_pos ht, if_pos hn, if_pos (by omega)])
      · exact (macroA_limit ⟨E, hs⟩ s hn hl hP (by omega) ht (by omega)).mono fun e w' x => .of_err ⟨E, hs⟩ (fun b => by unfold macS; rw [if_pos ht, if_pos hn, if_neg (by omega)]) x
theorem addC {P : TypeId → Nat → Prop} {A : Option Addr} {n c : Nat} {ls : List Ln} (h : SA F sb mb L M w) (s : ByteArray) (hl : LnsAt P w A n ls) (hP : ∀ e b, P e b → b < w.heap.size) (hA : A = none → n = 0) (hn47 : n ≤ 140737488351232) : Calls Tryz.prog 19 #[BP sb, .string s, .slice A n c] w (StP F sb mb (addS L M s.data.toList ls) w) := by
  obtain ⟨E, hs⟩ := h
  have hlen := hl.len
  cases ht : ls.all okLn with
  | false => exact (add_arg hs.sk s hl hP (by omega) ht).mono fun e w' x => .of_err ⟨E, hs⟩ (fun b => by unfold addS; rw [if_neg (by rw [ht]; decide)]) x
  | true =>
    cases hn : okNm s.data.toList with
    | false => exact (add_bad hs.sk s hl hP (by omega) ht hn).mono fun e w' x => .of_err ⟨E, hs⟩ (fun b => by unfold addS; rw [if_pos ht, if_neg (by rw [hn]; decide)]) x
    | true =>
      by_cases hz : (mOf L M s.data.toList).ls.length + n ≤ 2000
      · exact (addA ⟨E, hs⟩ s hn hl hP hA (by omega) ht hz).mono fun e w' x => .of_put x (fun b => by unfold addS; rw [if_pos ht, if_pos hn, if_pos (by omega)])
      · exact (addA_limit ⟨E, hs⟩ s hn hl hP (by omega) ht (by omega)).mono fun e w' x => .of_err ⟨E, hs⟩ (fun b => by unfold addS; rw [if_pos ht, if_pos hn, if_neg (by omega)]) x
theorem mem_del (L : List Reg) (nm : List UInt8) {r : Reg} (h : r ∈ delS L nm) : r ∈ L := (List.mem_filter.1 h).1
theorem remC (h : SA F sb mb L M w) (s : ByteArray) : Calls Tryz.prog 20 #[BP sb, .string s] w (StP F sb mb (fun _ => remS L M s.data.toList) w) := by
  obtain ⟨E, hs⟩ := h
  cases hn : okNm s.data.toList with
  | false => exact (remove_bad hs.sk s hn).mono fun e w' x => .of_err ⟨E, hs⟩ (fun b => by unfold remS; rw [if_neg (by rw [hn]; decide)]) x
  | true =>
    refine (remove_ok hs.sk s hn).mono fun e w' ⟨he, hsk, hk⟩ => ?_
    obtain ⟨h1, h2⟩ := hs.names hsk hk (fun r hr => ⟨r, mem_del L _ hr, rfl⟩)
    exact .of_ok (fun b => by unfold remS; rw [if_pos hn]) he ⟨E, h1⟩ h2
theorem renC (h : SA F sb mb L M w) (s t : ByteArray) (hz : s.size ≤ maxLen) : Calls Tryz.prog 21 #[BP sb, .string s, .string t] w (StP F sb mb (fun _ => renS L M s.data.toList t.data.toList) w) := by
  obtain ⟨E, hs⟩ := h
  cases hh : hasS L s.data.toList with
  | false => exact (rename_no hs.sk s t hz hh).mono fun e w' x => .of_err ⟨E, hs⟩ (fun b => by unfold renS; rw [if_neg (by rw [hh]; decide)]) (same_below x)
  | true =>
    cases hn : okNm t.data.toList with
    | false => exact (rename_bad hs.sk s t hz hh hn).mono fun e w' x => .of_err ⟨E, hs⟩ (fun b => by unfold renS; rw [if_pos hh, if_neg (by rw [hn]; decide)]) x
    | true =>
      refine (rename_ok hs.sk s t hz hh hn).mono fun e w' ⟨he, hsk, hk⟩ => ?_
      obtain ⟨h1, h2⟩ := hs.names hsk hk (fun r hr => by
        rcases mem_put _ _ r hr with rfl | hr
        · exact ⟨_, getS_mem L _ hh, rfl⟩
        · exact ⟨r, mem_del L _ hr, rfl⟩)
      exact .of_ok (fun b => by unfold renS; rw [if_pos hh, if_pos hn]) he ⟨E, h1⟩ h2
theorem aliC (h : SA F sb mb L M w) (s t : ByteArray) (hz : t.size ≤ maxLen) : Calls Tryz.prog 22 #[BP sb, .string s, .string t] w (StP F sb mb (fun _ => aliS L M s.data.toList t.data.toList) w) := by
  obtain ⟨E, hs⟩ := h
  cases hh : hasS L t.data.toList with
  | false => exact (alias_no hs.sk s t hz hh).mono fun e w' x => .of_err ⟨E, hs⟩ (fun b => by unfold aliS; rw [if_neg (by rw [hh]; decide)]) (same_below x)
  | true =>
    cases hn : okNm s.data.toList with
    | false => exact (alias_bad hs.sk s t hz hh hn).mono fun e w' x => .of_err ⟨E, hs⟩ (fun b => by unfold aliS; rw [if_pos hh, if_neg (by rw [hn]; decide)]) x
    | true =>
      by_cases he : s.data.toList = t.data.toList
      · obtain rfl : s = t := by
          apply ByteArray.ext
          exact Array.toList_inj.1 he
        exact (alias_loop hs.sk s hz hh hn).mono fun e w' x => .of_err ⟨E, hs⟩ (fun b => by unfold aliS; rw [if_pos hh, if_pos hn, if_pos rfl]) x
      · have hne : (s.toList == t.toList) = false := by
          rw [Lib.toList_data, Lib.toList_data]
          simpa using he
        by_cases hf : hasS L s.data.toList = false ∧ L.length = 500
        · refine (alias_give hs.sk s t hz hh hn hne 9 (fun W w' => W = w') (fun W hW => give_full (hs.sk.below hW) s _ (size_ok hn) hf.1 hf.2)).mono fun e w' ⟨he', W, hW, hk⟩ => ?_
          exact .of_err ⟨E, hs⟩ (fun b => by unfold aliS; rw [if_pos hh, if_pos hn, if_neg he, if_pos hf]) ⟨he', hk ▸ hW⟩
        · refine (alias_give hs.sk s t hz hh hn hne 0 (fun W w' => SK sb mb (putS L ⟨s.data.toList, (getS L t.data.toList).v⟩) E w' ∧ Kept (· = mb) W w') (fun W hW => ?_)).mono fun e w' ⟨he', W, hW, hsk, hk⟩ => ?_
          · have hent := (hs.sk.below hW).ent _ (getS_mem L _ hh)
            cases hhs : hasS L s.data.toList with
            | true => exact give_old (hs.sk.below hW) s _ hn hhs hent
            | false =>
              have hl5 : L.length < 500 := by
                have h1 := hs.sk.len
                have h2 : L.length ≠ 500 := fun e => hf ⟨hhs, e⟩
                omega
              exact give_new (hs.sk.below hW) s _ hn hhs hl5 hent
          · obtain ⟨h1, h2⟩ := (hs.below hW).names hsk hk (fun r hr => by
              rcases mem_put _ _ r hr with rfl | hr
              · exact ⟨_, getS_mem L _ hh, rfl⟩
              · exact ⟨r, hr, rfl⟩)
            exact .of_ok (fun b => by unfold aliS; rw [if_pos hh, if_pos hn, if_neg he, if_neg hf]) he' ⟨E, h1⟩ ((Fx.of hs.hf hW).trans h2)
theorem choC (h : SA F sb mb L M w) (s : ByteArray) (hz : s.size ≤ maxLen) : Calls Tryz.prog 23 #[BP sb, .string s] w (StP F sb mb (fun _ => choS L M s.data.toList) w) := by
  cases hh : hasS L s.data.toList with
  | false =>
    obtain ⟨E, hs⟩ := h
    exact (chop_no hs.sk s hz hh).mono fun e w' x => .of_err ⟨E, hs⟩ (fun b => by unfold choS; rw [if_neg (by rw [hh]; decide)]) (same_below x)
  | true => exact (chopA h s hz hh).mono fun e w' ⟨he, hk, hf⟩ => .of_ok (fun b => by unfold choS; rw [if_pos hh]) he hk.sa hf
theorem parC (h : SA F sb mb L M w) (s : ByteArray) (f t : Int) (hf : I64 f) (ht : I64 t) (hz : s.size ≤ maxLen) : Calls Tryz.prog 15 #[BP sb, .string s, .int .i64 f, .int .i64 t] w (StP F sb mb (fun _ => parS L M s.data.toList f t) w) := by
  cases hh : hasS L s.data.toList with
  | false =>
    obtain ⟨E, hs⟩ := h
    exact (part_no hs.sk s f t hz hh).mono fun e w' x => .of_err ⟨E, hs⟩ (fun b => by unfold parS; rw [if_neg (by rw [hh]; decide)]) (same_below x)
  | true =>
    obtain ⟨x, y, h1, _, _⟩ := span_nat (lenM (M (getS L s.data.toList).v)) f t
    exact (partA h s f t hf ht hz hh x y h1).mono fun e w' ⟨he, hk, hf⟩ => .of_ok (fun b => by unfold parS; rw [if_pos hh, h1]; rfl) he hk.sa hf
end
end Go.Proofs.YtgpanlkcpnlejaaGreat
