/- The code's store: find, get. -/
import Derived.Test.YtgpanlkcpnlejaaS1
namespace Go.Proofs.Ytgpanlkcpnlejaa
open Go.RowKit Go.Maps
set_option maxRecDepth 100000
abbrev ZE : Value := .agg #[.int .i64 0, .string ⟨#[]⟩, .slice none 0 0]
abbrev ZO : Obj := .cells #[.int .i64 0, .string ⟨#[]⟩, .slice none 0 0] 59
def enA (e : En) : Value := .agg #[.int .i64 e.kind, .string e.tx, .slice e.lo e.ln e.lc]
theorem find_end {a : Act} {W' : World} {g : Nat} {x y z e : Value} {Q : Ending → World → Prop} (hd : a.defers = []) (h6 : a.tmps.getD 6 undef = .pointer (some ⟨g, 0, none⟩)) (h7 : a.tmps.getD 7 undef = e)
    (hg : W'.heap[g]? = some (.cells #[x, y, z] 59 (0, 0))) (hQ : Q (.returned (.tuple #[.agg #[x, y, z], e])) W') : bodyPost Try.prog Try.f29 Q Exit.ret a W' := by
  have h6' : a.tmps[6]?.getD undef = .pointer (some ⟨g, 0, none⟩) := by simpa using h6
  have h7' : a.tmps[7]?.getD undef = e := by simpa using h7
  refine bodyPost_ret (v := .tuple #[.agg #[x, y, z], e]) ?_ hd hQ
  obtain ⟨⟨c0, c1, c2⟩, _⟩ := fresh_en hg
  simp [results, Try.results29, h6', h7', go_sem, c0, c1, c2]
theorem find_arg {sb mb : Nat} {L : List Reg} {E : Nat → En} {w : World} (h : SK sb mb L E w) (s : ByteArray) : Calls Try.prog 29 #[BP sb, .string s, .bool false] w fun e w' => e = .returned (.tuple #[ZE, .int .i64 1]) ∧ Below w.heap.size w w' := by
  have hb0 : Below w.heap.size w (w.alloc ZO) := (Below.refl _ _).alloc (Nat.le_refl _) _
  have H := Lib.hid (h.below hb0)
  have HB0 := Lib.hid hb0
  clear h hb0
  go_enter Try.func29, Try.ntmps29
  go_wp2_with fail
  refine (made_any H.out).mono ?_
  rintro e w1 ⟨rfl, rfl⟩
  go_wp2_with fail
  refine find_end rfl rfl rfl ?_ ⟨rfl, ?_⟩
  · have hblk : (w.alloc (.cells #[.int .i64 0, .string ⟨#[]⟩, .slice none 0 0] 59)).heap[w.heap.size]? = some (.cells #[.int .i64 0, .string ⟨#[]⟩, .slice none 0 0] 59 (0, 0)) := heap_alloc_new _ _
    simp only [World.setCell, Array.getElem?_modify, hblk]
  · repeat (with_reducible refine Below.setCell ?_ (Nat.le_refl w.heap.size) _)
    exact HB0.out
theorem find_bad {sb mb : Nat} {L : List Reg} {E : Nat → En} {w : World} (h : SK sb mb L E w) (s : ByteArray) (hn : okNm s.data.toList = false) : Calls Try.prog 29 #[BP sb, .string s, .bool true] w fun e w' => e = .returned (.tuple #[ZE, .int .i64 6]) ∧ Below w.heap.size w w' := by
  have hb0 : Below w.heap.size w (w.alloc ZO) := (Below.refl _ _).alloc (Nat.le_refl _) _
  have H := Lib.hid (h.below hb0)
  have HB0 := Lib.hid hb0
  have HV := Lib.hid (fun W => validName_any s W)
  rw [hn] at HV
  clear h hn hb0
  go_enter Try.func29, Try.ntmps29
  go_wp2_with fail
  refine (made_any H.out).mono ?_
  rintro e w1 ⟨rfl, rfl⟩
  go_wp2_with fail
  refine (HV.out _).mono ?_
  rintro e w2 ⟨rfl, hb⟩
  have HB := Lib.hid (HB0.out.trans (hb.mono (by simp)))
  have hblk : w2.heap[w.heap.size]? = some (.cells #[.int .i64 0, .string ⟨#[]⟩, .slice none 0 0] 59 (0, 0)) := (hb.block _ (by simp)).trans (heap_alloc_new _ _)
  obtain ⟨⟨hc0, hc1, hc2⟩, hf0, hf1, hf2⟩ := fresh_en hblk
  have HBLK := Lib.hid hblk
  clear hb hblk
  go_wp2_with fail
  refine find_end rfl rfl rfl ?_ ⟨rfl, ?_⟩
  · simp [World.setCell, Array.getElem?_modify, HBLK.out]
  · repeat (with_reducible refine Below.setCell ?_ (Nat.le_refl w.heap.size) _)
    exact HB.out
set_option maxHeartbeats 1000000 in
theorem find_yes {sb mb : Nat} {L : List Reg} {E : Nat → En} {w : World} (h : SK sb mb L E w) (s : ByteArray) (hn : okNm s.data.toList = true) (ht : hasS L s.data.toList = true) :
    Calls Try.prog 29 #[BP sb, .string s, .bool true] w fun e w' => e = .returned (.tuple #[enA (E (getS L s.data.toList).v), .int .i64 0]) ∧ Below w.heap.size w w' := by
  have hb0 : Below w.heap.size w (w.alloc ZO) := (Below.refl _ _).alloc (Nat.le_refl _) _
  have H := Lib.hid (h.below hb0)
  have HB0 := Lib.hid hb0
  have HV := Lib.hid (fun W => validName_any s W)
  rw [hn] at HV
  have HS := Lib.hid (size_ok hn)
  have HTT := Lib.hid ht
  have hmem := getS_mem L s.data.toList ht
  obtain ⟨r, hr⟩ : ∃ r, r = getS L s.data.toList := ⟨_, rfl⟩
  rw [← hr] at hmem ⊢
  have HR := Lib.hid hr
  have hrl := lt_of_block (h.ent r hmem)
  obtain ⟨en, hen⟩ : ∃ en, en = E r.v := ⟨_, rfl⟩
  have HENT : Hid (∀ W, SK sb mb L E W → W.heap[r.v]? = some (.cells #[.int .i64 en.kind, .string en.tx, .slice en.lo en.ln en.lc] 59 (0, 0))) := Lib.hid (fun W hW => by have := hW.ent r hmem; rw [← hen] at this; exact this)
  rw [← hen]
  obtain ⟨kd, tx, lo, ln, lc⟩ := en
  unfold enA
  simp only at HENT ⊢
  clear h hn hb0 ht hr hmem hen
  go_enter Try.func29, Try.ntmps29
  go_wp2_with fail
  refine (made_any H.out).mono ?_
  rintro e w1 ⟨rfl, rfl⟩
  go_wp2_with fail
  refine (HV.out _).mono ?_
  rintro e w2 ⟨rfl, hb⟩
  have HB := Lib.hid (HB0.out.trans (hb.mono (by simp)))
  have hblk : w2.heap[w.heap.size]? = some (.cells #[.int .i64 0, .string ⟨#[]⟩, .slice none 0 0] 59 (0, 0)) := (hb.block _ (by simp)).trans (heap_alloc_new _ _)
  obtain ⟨⟨hc0, hc1, hc2⟩, hf0, hf1, hf2⟩ := fresh_en hblk
  have HBLK := Lib.hid hblk
  have hbk := H.out.below hb
  have hcb := hbk.c0
  have hrc := HENT.out _ hbk
  obtain ⟨⟨gc0, gc1, gc2⟩, _⟩ := fresh_en hrc
  obtain ⟨D, hown, his⟩ := hbk.map
  have HOWN := Lib.hid hown
  have HIS : Hid (MapIs D L) := Lib.hid his
  clear hb hblk hbk hown his hrc
  have HAT := Lib.hid (HIS.out.at_ s.data.toList HTT.out (.lit (.int .i64 (-1))))
  rw [← HR.out] at HAT
  have HHAS := Lib.hid ((HIS.out.has s.data.toList).trans HTT.out)
  go_wp2_with (at_lookup; refine wpList_lookup_reg _ rfl _ _ rfl mb L.length D s HS.out r rfl HOWN.out rfl HAT.out HHAS.out ?_)
  refine find_end rfl rfl rfl ?_ ⟨rfl, ?_⟩
  · simp [World.setCell, Array.getElem?_modify, HBLK.out]
  · repeat (with_reducible refine Below.setCell ?_ (Nat.le_refl w.heap.size) _)
    exact HB.out
set_option maxHeartbeats 1000000 in
theorem find_no {sb mb : Nat} {L : List Reg} {E : Nat → En} {w : World} (h : SK sb mb L E w) (s : ByteArray) (hn : okNm s.data.toList = true) (ht : hasS L s.data.toList = false) :
    Calls Try.prog 29 #[BP sb, .string s, .bool true] w fun e w' => e = .returned (.tuple #[ZE, .int .i64 0]) ∧ Below w.heap.size w w' := by
  have hb0 : Below w.heap.size w (w.alloc ZO) := (Below.refl _ _).alloc (Nat.le_refl _) _
  have H := Lib.hid (h.below hb0)
  have HB0 := Lib.hid hb0
  have HV := Lib.hid (fun W => validName_any s W)
  rw [hn] at HV
  have HS := Lib.hid (size_ok hn)
  have HTT := Lib.hid ht
  clear h hn hb0 ht
  go_enter Try.func29, Try.ntmps29
  go_wp2_with fail
  refine (made_any H.out).mono ?_
  rintro e w1 ⟨rfl, rfl⟩
  go_wp2_with fail
  refine (HV.out _).mono ?_
  rintro e w2 ⟨rfl, hb⟩
  have HB := Lib.hid (HB0.out.trans (hb.mono (by simp)))
  have hblk : w2.heap[w.heap.size]? = some (.cells #[.int .i64 0, .string ⟨#[]⟩, .slice none 0 0] 59 (0, 0)) := (hb.block _ (by simp)).trans (heap_alloc_new _ _)
  obtain ⟨⟨hc0, hc1, hc2⟩, hf0, hf1, hf2⟩ := fresh_en hblk
  have HBLK := Lib.hid hblk
  have hbk := H.out.below hb
  have hcb := hbk.c0
  obtain ⟨D, hown, his⟩ := hbk.map
  have HOWN := Lib.hid hown
  have HIS : Hid (MapIs D L) := Lib.hid his
  clear hb hblk hbk hown his
  have HHAS := Lib.hid ((HIS.out.has s.data.toList).trans HTT.out)
  go_wp2_with (at_lookup; refine wpList_lookup_none _ rfl _ _ rfl mb L.length D s HS.out rfl HOWN.out rfl HHAS.out ?_)
  refine find_end rfl rfl rfl ?_ ⟨rfl, ?_⟩
  · simp [World.setCell, Array.getElem?_modify, HBLK.out]
  · repeat (with_reducible refine Below.setCell ?_ (Nat.le_refl w.heap.size) _)
    exact HB.out
/- The very entry of a name. -/
theorem get_yes {sb mb : Nat} {L : List Reg} {E : Nat → En} {w : World} (h : SK sb mb L E w) (s : ByteArray) (hs : s.size ≤ maxLen) (ht : hasS L s.data.toList = true) :
    Calls Try.prog 32 #[BP sb, .string s] w fun e w' => e = .returned (.tuple #[BP (getS L s.data.toList).v, .int .i64 0]) ∧ w = w' := by
  have HM := Lib.hid (made_any h)
  have HS := Lib.hid hs
  have hcb := h.c0
  obtain ⟨D, hown, his⟩ := h.map
  have HAT := Lib.hid (his.at_ s.data.toList ht (.lit (.int .i64 (-1))))
  have HHAS := Lib.hid ((his.has s.data.toList).trans ht)
  have HOWN := Lib.hid hown
  obtain ⟨r, hr⟩ : ∃ r, r = getS L s.data.toList := ⟨_, rfl⟩
  rw [← hr] at HAT ⊢
  clear h hs ht hown his hr
  go_enter Try.func32, Try.ntmps32
  go_wp2_with fail
  refine HM.out.mono ?_
  rintro e w1 ⟨rfl, rfl⟩
  go_wp2_with (at_lookup; refine wpList_lookup_reg _ rfl _ _ rfl mb L.length D s HS.out r rfl HOWN.out rfl HAT.out HHAS.out ?_)
  go_ret2
  exact ⟨rfl, rfl⟩
theorem get_no {sb mb : Nat} {L : List Reg} {E : Nat → En} {w : World} (h : SK sb mb L E w) (s : ByteArray) (hs : s.size ≤ maxLen) (ht : hasS L s.data.toList = false) :
    Calls Try.prog 32 #[BP sb, .string s] w fun e w' => e = .returned (.tuple #[.pointer none, .int .i64 6]) ∧ w = w' := by
  have HM := Lib.hid (made_any h)
  have HS := Lib.hid hs
  have hcb := h.c0
  obtain ⟨D, hown, his⟩ := h.map
  have HHAS := Lib.hid ((his.has s.data.toList).trans ht)
  have HOWN := Lib.hid hown
  clear h hs ht hown his
  go_enter Try.func32, Try.ntmps32
  go_wp2_with fail
  refine HM.out.mono ?_
  rintro e w1 ⟨rfl, rfl⟩
  go_wp2_with (at_lookup; refine wpList_lookup_none _ rfl _ _ rfl mb L.length D s HS.out rfl HOWN.out rfl HHAS.out ?_)
  go_ret2
  exact ⟨rfl, rfl⟩
end Go.Proofs.Ytgpanlkcpnlejaa
