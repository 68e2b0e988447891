/- The code's store with what its entries say. -/
import Derived.Test.YtgpanlkcpnlejaaD6
import Derived.Test.YtgpanlkcpnlejaaS8
namespace Go.Proofs.Ytgpanlkcpnlejaa
open Go.RowKit Go.Maps
set_option maxRecDepth 100000
/-- What an entry says: a string's text, or a macro's lines. -/
structure Mc where
  kind : Int
  tx : ByteArray
  ls : List Ln
def mcOk (m : Mc) : Prop := (m.kind = 1 ∧ okTx m.tx.data.toList = true ∧ m.ls = []) ∨ (m.kind = 2 ∧ m.tx = ⟨#[]⟩ ∧ m.ls.length ≤ 2000 ∧ m.ls.all okLn = true)
abbrev own (e : En) : Option Nat := (Value.slice e.lo e.ln e.lc).ownBlock
structure EnIs (w : World) (e : En) (m : Mc) : Prop where
  kd : e.kind = m.kind
  tx : e.tx = m.tx
  ln : LnOwn w e.lo e.ln e.lc m.ls
  ok : mcOk m
theorem EnIs.below {w w' : World} {e : En} {m : Mc} (h : EnIs w e m) (k : Below w.heap.size w w') : EnIs w' e m := ⟨h.kd, h.tx, h.ln.below k, h.ok⟩
theorem mc_size {m : Mc} (h : mcOk m) : m.tx.size ≤ 2000 := by
  rcases h with ⟨_, h, _⟩ | ⟨_, h, _⟩
  · exact okTx_size h
  · rw [h]; decide
theorem mc_len {m : Mc} (h : mcOk m) : m.ls.length ≤ 2000 := by
  rcases h with ⟨_, _, h⟩ | ⟨_, _, h, _⟩
  · rw [h]; simp
  · exact h
/-- The store: from block T on. -/
structure SL (T sb mb : Nat) (L : List Reg) (E : Nat → En) (M : Nat → Mc) (w : World) : Prop where
  sk : SK sb mb L E w
  en : ∀ r ∈ L, EnIs w (E r.v) (M r.v)
  dj : ∀ r ∈ L, ∀ r' ∈ L, r.v ≠ r'.v → ∀ g, own (E r.v) = some g → own (E r'.v) ≠ some g
  lo : ∀ r ∈ L, T ≤ r.v ∧ ∀ g, own (E r.v) = some g → T ≤ g
  ls : T ≤ sb
  lm : T ≤ mb
theorem SL.below {T sb mb : Nat} {L : List Reg} {E : Nat → En} {M : Nat → Mc} {w w' : World} (h : SL T sb mb L E M w) (k : Below w.heap.size w w') : SL T sb mb L E M w' :=
  ⟨h.sk.below k, fun r hr => (h.en r hr).below k, h.dj, h.lo, h.ls, h.lm⟩
theorem SL.hi {T sb mb : Nat} {L : List Reg} {E : Nat → En} {M : Nat → Mc} {w : World} (h : SL T sb mb L E M w) : T ≤ w.heap.size := by
  have := h.sk.lt; have := h.ls; omega
def updM (M : Nat → Mc) (b : Nat) (m : Mc) : Nat → Mc := fun k => if k = b then m else M k
theorem updM_same (M : Nat → Mc) (b : Nat) (m : Mc) : updM M b m b = m := if_pos rfl
theorem updM_other (M : Nat → Mc) (b : Nat) (m : Mc) {k : Nat} (h : k ≠ b) : updM M b m k = M k := if_neg h
theorem tag_en {w : World} {b : Nat} {e : En} (h : EnAt w b e) : Tg w 59 b := ⟨_, _, h⟩
/-- Whatever turns one entry and its lines alone leaves the others. -/
theorem SL.with {T sb mb : Nat} {L : List Reg} {E : Nat → En} {M : Nat → Mc} {w w' : World} (h : SL T sb mb L E M w) (r : Reg) (hr : r ∈ L) (c : En) (m : Mc) (hs : SK sb mb L (upd E r.v c) w') (he : EnIs w' c m)
    (k : Kept (fun k => k = r.v ∨ own (E r.v) = some k) w w') (ho : ∀ g, own c = some g → own (E r.v) = some g ∨ w.heap.size ≤ g) : SL T sb mb L (upd E r.v c) (updM M r.v m) w' ∧ Below T w w' := by
  have hen := h.en r hr
  have htr := tag_en (h.sk.ent r hr)
  refine ⟨⟨hs, fun x hx => ?_, fun x hx y hy hne g hg => ?_, fun x hx => ?_, h.ls, h.lm⟩, k.to h.hi ?_⟩
  · by_cases e : x.v = r.v
    · rw [e, upd_same, updM_same]; exact he
    · rw [upd_other _ _ _ e, updM_other _ _ _ e]
      have hx' := h.en x hx
      refine ⟨hx'.kd, hx'.tx, hx'.ln.keep (fun g hg => ?_) (fun e' he' b hb => ?_), hx'.ok⟩
      · have hgt := hx'.ln.tag hg
        refine k.block g hgt.lt ?_
        rintro (e2 | e2)
        · exact hgt.ne htr (by decide) e2
        · exact h.dj x hx r hr e g hg e2
      · refine k.block b hb.lt ?_
        rintro (e2 | e2)
        · exact hb.ne htr (by rcases he' with rfl | rfl <;> decide) e2
        · exact hb.ne (hen.ln.tag e2) (by rcases he' with rfl | rfl <;> decide) rfl
  · by_cases ex : x.v = r.v
    · have ey : y.v ≠ r.v := fun e => hne (ex.trans e.symm)
      rw [ex, upd_same] at hg
      rw [upd_other _ _ _ ey]
      rcases ho g hg with h1 | h1
      · exact h.dj r hr y hy (fun e => ey e.symm) g h1
      · intro h2
        have := ((h.en y hy).ln.tag h2).lt
        omega
    · rw [upd_other _ _ _ ex] at hg
      by_cases ey : y.v = r.v
      · rw [ey, upd_same]
        intro h2
        rcases ho g h2 with h1 | h1
        · exact h.dj x hx r hr ex g hg h1
        · have := ((h.en x hx).ln.tag hg).lt
          omega
      · rw [upd_other _ _ _ ey]; exact h.dj x hx y hy hne g hg
  · refine ⟨(h.lo x hx).1, fun g hg => ?_⟩
    by_cases ex : x.v = r.v
    · rw [ex, upd_same] at hg
      rcases ho g hg with h1 | h1
      · exact (h.lo r hr).2 g h1
      · have := h.hi; omega
    · rw [upd_other _ _ _ ex] at hg; exact (h.lo x hx).2 g hg
  · rintro i (e | e)
    · rw [e]; exact (h.lo r hr).1
    · exact (h.lo r hr).2 i e
/-- A new name with a new entry. -/
theorem SL.new {T sb mb : Nat} {L : List Reg} {E : Nat → En} {M : Nat → Mc} {w w' : World} (h : SL T sb mb L E M w) (nm : List UInt8) (b : Nat) (c : En) (m : Mc) (hb : w.heap.size ≤ b) (hs : SK sb mb (putS L ⟨nm, b⟩) (upd E b c) w') (he : EnIs w' c m)
    (k : Kept (· = mb) w w') (ho : ∀ g, own c = some g → w.heap.size ≤ g) : SL T sb mb (putS L ⟨nm, b⟩) (upd E b c) (updM M b m) w' ∧ Below T w w' := by
  have key : ∀ x ∈ putS L ⟨nm, b⟩, x.v = b ∨ (x ∈ L ∧ x.v ≠ b) := by
    intro x hx
    rcases mem_put L _ x hx with rfl | hx
    · exact .inl rfl
    · exact .inr ⟨hx, by have := h.sk.elt x hx; omega⟩
  have hmb : ∀ e cs fz, w.heap[mb]? ≠ some (.cells cs e fz) := by
    intro e cs fz h1
    obtain ⟨D, ⟨es, c, h4, _⟩, _⟩ := h.sk.map
    rw [h4] at h1; injection h1 with h1; cases h1
  have hnm : ∀ e g, Tg w e g → g ≠ mb := by
    rintro e g ⟨cs, fz, h1⟩ rfl
    exact hmb _ _ _ h1
  refine ⟨⟨hs, fun x hx => ?_, fun x hx y hy hne g hg => ?_, fun x hx => ?_, h.ls, h.lm⟩, k.to h.hi (fun i e => by have := h.lm; omega)⟩
  · rcases key x hx with e | ⟨hxL, e⟩
    · rw [e, upd_same, updM_same]; exact he
    · rw [upd_other _ _ _ e, updM_other _ _ _ e]
      have hx' := h.en x hxL
      refine ⟨hx'.kd, hx'.tx, hx'.ln.keep (fun g hg => k.block g (hx'.ln.tag hg).lt (hnm _ _ (hx'.ln.tag hg))) (fun e' _ b' hb' => k.block b' hb'.lt (hnm _ _ hb')), hx'.ok⟩
  · rcases key x hx with ex | ⟨hxL, ex⟩
    · rcases key y hy with ey | ⟨hyL, ey⟩
      · exact absurd (ex.trans ey.symm) hne
      · rw [ex, upd_same] at hg
        rw [upd_other _ _ _ ey]
        intro h2
        have := ((h.en y hyL).ln.tag h2).lt
        have := ho g hg
        omega
    · rw [upd_other _ _ _ ex] at hg
      rcases key y hy with ey | ⟨hyL, ey⟩
      · rw [ey, upd_same]
        intro h2
        have := ((h.en x hxL).ln.tag hg).lt
        have := ho g h2
        omega
      · rw [upd_other _ _ _ ey]; exact h.dj x hxL y hyL hne g hg
  · rcases key x hx with ex | ⟨hxL, ex⟩
    · rw [ex, upd_same]; exact ⟨by have := h.hi; omega, fun g hg => by have := ho g hg; have := h.hi; omega⟩
    · rw [upd_other _ _ _ ex]; exact h.lo x hxL
/-- Names are moved; the entries stay. -/
theorem SL.names {T sb mb : Nat} {L L' : List Reg} {E : Nat → En} {M : Nat → Mc} {w w' : World} (h : SL T sb mb L E M w) (hs : SK sb mb L' E w') (k : Kept (· = mb) w w') (hl : ∀ r ∈ L', ∃ r0 ∈ L, r0.v = r.v) : SL T sb mb L' E M w' ∧ Below T w w' := by
  have hnm : ∀ e g, Tg w e g → g ≠ mb := by
    rintro e g ⟨cs, fz, h1⟩ rfl
    obtain ⟨D, ⟨es, c, h4, _⟩, _⟩ := h.sk.map
    rw [h4] at h1; injection h1 with h1; cases h1
  refine ⟨⟨hs, fun x hx => ?_, fun x hx y hy hne g hg => ?_, fun x hx => ?_, h.ls, h.lm⟩, k.to h.hi (fun i e => by have := h.lm; omega)⟩
  · obtain ⟨r0, hr0, e⟩ := hl x hx
    rw [← e]
    have hx' := h.en r0 hr0
    exact ⟨hx'.kd, hx'.tx, hx'.ln.keep (fun g hg => k.block g (hx'.ln.tag hg).lt (hnm _ _ (hx'.ln.tag hg))) (fun e' _ b' hb' => k.block b' hb'.lt (hnm _ _ hb')), hx'.ok⟩
  · obtain ⟨r0, hr0, e⟩ := hl x hx
    obtain ⟨r1, hr1, e1⟩ := hl y hy
    rw [← e] at hg hne
    rw [← e1] at hne ⊢
    exact h.dj r0 hr0 r1 hr1 hne g hg
  · obtain ⟨r0, hr0, e⟩ := hl x hx
    rw [← e]; exact h.lo r0 hr0
/-- A new store. -/
theorem newL_any (w : World) : Calls Try.prog 10 #[] w fun e w' => e = .returned (.pointer (some ⟨w.heap.size + 1, 0, none⟩)) ∧ (∀ E M, SL w.heap.size (w.heap.size + 1) w.heap.size [] E M w') ∧ Below w.heap.size w w' :=
  (new_any w).mono fun _ _ ⟨a, b, c⟩ => ⟨a, fun E M => ⟨b E, (fun r hr => by cases hr), (fun r hr => by cases hr), (fun r hr => by cases hr), by omega, Nat.le_refl _⟩, c⟩
end Go.Proofs.Ytgpanlkcpnlejaa
