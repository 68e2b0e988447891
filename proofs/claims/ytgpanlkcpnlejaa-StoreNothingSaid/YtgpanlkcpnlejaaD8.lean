/- The code's store: what a name has is put. -/
import Derived.Test.YtgpanlkcpnlejaaD7
namespace Go.Proofs.Ytgpanlkcpnlejaa
open Go.RowKit Go.Maps
set_option maxRecDepth 100000
/-- The store, whatever its entries are in memory. -/
def SA (T sb mb : Nat) (L : List Reg) (M : Nat → Mc) (w : World) : Prop := ∃ E, SL T sb mb L E M w
theorem SA.below {T sb mb : Nat} {L : List Reg} {M : Nat → Mc} {w w' : World} (h : SA T sb mb L M w) (k : Below w.heap.size w w') : SA T sb mb L M w' := by
  obtain ⟨E, h⟩ := h
  exact ⟨E, h.below k⟩
theorem SA.hi {T sb mb : Nat} {L : List Reg} {M : Nat → Mc} {w : World} (h : SA T sb mb L M w) : T ≤ w.heap.size := by
  obtain ⟨E, h⟩ := h
  exact h.hi
/-- What putting comes to: b is the block of a new entry. -/
def putTo (L : List Reg) (M : Nat → Mc) (nm : List UInt8) (m : Mc) (b : Nat) : Int × List Reg × (Nat → Mc) :=
  if hasS L nm then (0, L, updM M (getS L nm).v m) else if L.length = 500 then (9, L, M) else (0, putS L ⟨nm, b⟩, updM M b m)
/-- What a deed that puts leaves. -/
structure PutP (T sb mb : Nat) (L : List Reg) (M : Nat → Mc) (nm : List UInt8) (m : Mc) (w : World) (e : Ending) (w' : World) : Prop where
  ex : ∃ b, w.heap.size ≤ b ∧ e = .returned (.int .i64 (putTo L M nm m b).1) ∧ SA T sb mb (putTo L M nm m b).2.1 (putTo L M nm m b).2.2 w'
  below : Below T w w'
theorem PutP.from {T sb mb : Nat} {L : List Reg} {M : Nat → Mc} {nm : List UInt8} {m : Mc} {w W : World} {e : Ending} {w' : World} (h : PutP T sb mb L M nm m W e w') (k : Below w.heap.size w W) (hT : T ≤ w.heap.size) : PutP T sb mb L M nm m w e w' := by
  obtain ⟨⟨b, h1, h2, h3⟩, h4⟩ := h
  exact ⟨⟨b, Nat.le_trans k.size h1, h2, h3⟩, (k.mono hT).trans h4⟩
theorem map_not_cells {sb mb : Nat} {L : List Reg} {E : Nat → En} {w : World} (h : SK sb mb L E w) {e : TypeId} {g : Nat} (hg : Tg w e g) : g ≠ mb := by
  rintro rfl
  obtain ⟨cs, fz, h1⟩ := hg
  obtain ⟨D, ⟨es, c, h4, _⟩, _⟩ := h.map
  rw [h4] at h1; injection h1 with h1; cases h1
theorem putA_gen {T sb mb : Nat} {L : List Reg} {E : Nat → En} {M : Nat → Mc} {w W : World} (h : SL T sb mb L E M w) (s : ByteArray) (hn : okNm s.data.toList = true) (hk : Kept (fun k => hasS L s.data.toList = true ∧ own (E (getS L s.data.toList).v) = some k) w W)
    (kd : Int) (t : ByteArray) (lo : Option Addr) (ln lc : Nat) (m : Mc) (he : EnIs W ⟨kd, t, lo, ln, lc⟩ m) (hb : ∀ g, (Value.slice lo ln lc).ownBlock = some g → (hasS L s.data.toList = true ∧ own (E (getS L s.data.toList).v) = some g) ∨ w.heap.size ≤ g) :
    Calls Try.prog 31 #[BP sb, .string s, .agg #[.int .i64 kd, .string t, .slice lo ln lc]] W fun e w' => PutP T sb mb L M s.data.toList m w e w' := by
  cases hh : hasS L s.data.toList with
  | true =>
    have hmem := getS_mem L s.data.toList hh
    have hown := fun g (hg : own (E (getS L s.data.toList).v) = some g) => (h.en _ hmem).ln.tag hg
    have hsk : SK sb mb L E W := h.sk.kept hk (by
        rintro ⟨_, h2⟩
        exact (hown _ h2).ne (e' := 50) ⟨_, _, h.sk.cell⟩ (by decide) rfl) (by
        rintro ⟨_, h2⟩
        exact map_not_cells h.sk (hown _ h2) rfl) (by
        rintro r hr ⟨_, h2⟩
        exact (hown _ h2).ne (tag_en (h.sk.ent r hr)) (by decide) rfl)
    refine (put_old hsk s kd t lo ln lc (size_ok hn) hh).mono fun e w' ⟨h1, h2, h3⟩ => ?_
    have hev : EnIs w' ⟨kd, t, lo, ln, lc⟩ m := ⟨he.kd, he.tx, he.ln.keep (fun g hg => h3.block g (he.ln.tag hg).lt (fun e => (he.ln.tag hg).ne (tag_en (hsk.ent _ hmem)) (by decide) e)) (fun e' he' b hb' => h3.block b hb'.lt (fun e => hb'.ne (tag_en (hsk.ent _ hmem)) (by rcases he' with rfl | rfl <;> decide) e)), he.ok⟩
    have hfr : Kept (fun k => k = (getS L s.data.toList).v ∨ own (E (getS L s.data.toList).v) = some k) w w' := (hk.mono (fun k hk => .inr hk.2)).trans (h3.mono (fun k hk => .inl hk))
    obtain ⟨h4, h5⟩ := h.with _ hmem _ m h2 hev hfr (fun g hg => by
      rcases hb g hg with h6 | h6
      · exact .inl h6.2
      · exact .inr h6)
    refine ⟨⟨w.heap.size, Nat.le_refl _, ?_, ?_⟩, h5⟩
    · unfold putTo; rw [if_pos hh]; exact h1
    · unfold putTo; rw [if_pos hh]; exact ⟨_, h4⟩
  | false =>
    have hbw : Below w.heap.size w W := hk.to (Nat.le_refl _) (fun k hk => by have := hk.1; rw [hh] at this; cases this)
    have hW := h.below hbw
    by_cases hl : L.length = 500
    · refine (put_full hW.sk s kd t lo ln lc hn hh hl).mono fun e w' ⟨h1, h2⟩ => ?_
      refine ⟨⟨w.heap.size, Nat.le_refl _, ?_, ?_⟩, (hbw.trans (h2.mono hbw.size)).mono h.hi⟩
      · unfold putTo; rw [if_neg (by rw [hh]; decide), if_pos hl]; exact h1
      · unfold putTo; rw [if_neg (by rw [hh]; decide), if_pos hl]; exact ⟨_, hW.below h2⟩
    · have hl5 := h.sk.len
      refine (put_new hW.sk s kd t lo ln lc hn hh (by omega)).mono fun e w' ⟨h1, h2, h3⟩ => ?_
      have hev : EnIs w' ⟨kd, t, lo, ln, lc⟩ m := ⟨he.kd, he.tx, he.ln.keep (fun g hg => h3.block g (he.ln.tag hg).lt (map_not_cells hW.sk (he.ln.tag hg))) (fun e' he' b hb' => h3.block b hb'.lt (map_not_cells hW.sk hb')), he.ok⟩
      have hkk := (Kept.of (S := (· = mb)) hbw).trans h3
      obtain ⟨h4, h5⟩ := h.new s.data.toList W.heap.size _ m hbw.size h2 hev hkk (fun g hg => by
        rcases hb g hg with h6 | h6
        · exact absurd h6.1 (by rw [hh]; decide)
        · exact h6)
      refine ⟨⟨W.heap.size, hbw.size, ?_, ?_⟩, h5⟩
      · unfold putTo; rw [if_neg (by rw [hh]; decide), if_neg hl]; exact h1
      · unfold putTo; rw [if_neg (by rw [hh]; decide), if_neg hl]; exact ⟨_, h4⟩
theorem mc_str {t : ByteArray} (h : okTx t.data.toList = true) : mcOk ⟨1, t, []⟩ := .inl ⟨rfl, h, rfl⟩
/-- A string is put. -/
theorem putA_str {T sb mb : Nat} {L : List Reg} {E : Nat → En} {M : Nat → Mc} {w W : World} (h : SL T sb mb L E M w) (hW : Below w.heap.size w W) (s t : ByteArray) (hn : okNm s.data.toList = true) (ht : okTx t.data.toList = true) :
    Calls Try.prog 31 #[BP sb, .string s, .agg #[.int .i64 1, .string t, .slice none 0 0]] W fun e w' => PutP T sb mb L M s.data.toList ⟨1, t, []⟩ w e w' :=
  putA_gen h s hn (.of hW) 1 t none 0 0 ⟨1, t, []⟩ ⟨rfl, rfl, LnOwn.nil _, mc_str ht⟩ (fun g hg => by simp [Value.ownBlock] at hg)
/-- Define. -/
theorem defineA {T sb mb : Nat} {L : List Reg} {M : Nat → Mc} {w : World} (h : SA T sb mb L M w) (s t : ByteArray) (hn : okNm s.data.toList = true) (ht : okTx t.data.toList = true) :
    Calls Try.prog 11 #[BP sb, .string s, .string t] w fun e w' => PutP T sb mb L M s.data.toList ⟨1, t, []⟩ w e w' := by
  obtain ⟨E, h⟩ := h
  have HV := Lib.hid (fun W => validText_any t W)
  rw [ht] at HV
  have HF := Lib.hid (find_ok h.sk s hn)
  have HP := Lib.hid (fun W (hW : Below w.heap.size w W) => putA_str h hW s t hn ht)
  obtain ⟨⟨kd, tx, lo, ln, lc⟩, hen⟩ : ∃ en, en = entOf L E s.data.toList := ⟨_, rfl⟩
  rw [← hen] at HF
  unfold enA at HF
  simp only at HF
  clear h ht hn hen
  go_enter Try.func11, Try.ntmps11
  go_wp2_with fail
  refine (HV.out _).mono ?_
  rintro e w1 ⟨rfl, rfl⟩
  go_wp2_with fail
  refine HF.out.mono ?_
  rintro e w2 ⟨rfl, hb⟩
  have HB := Lib.hid (hb.alloc hb.size (.cells #[.int .i64 kd, .string tx, .slice lo ln lc] 59))
  have hz := hb.size
  clear hb
  go_wp2_with fail
  refine (HP.out _ HB.out).mono ?_
  rintro e w3 ⟨⟨b, hb, rfl, hsa⟩, hbw⟩
  have HR : Hid (PutP T sb mb L M s.data.toList ⟨1, t, []⟩ w (.returned (.int .i64 (putTo L M s.data.toList ⟨1, t, []⟩ b).1)) w3) := Lib.hid ⟨⟨b, hb, rfl, hsa⟩, hbw⟩
  clear hsa hbw hb
  go_wp2_with fail
  go_ret
  exact HR.out
end Go.Proofs.Ytgpanlkcpnlejaa
