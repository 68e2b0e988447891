/- The code's book: Move, Rename. -/
import Derived.Test.YtedbdpklliaoaaaGreatDoorB7
namespace Go.Proofs.YtedbdpklliaoaaaGreatDoor
open Go.RowKit Go.Shelf Go.Maps
set_option maxRecDepth 100000
theorem chg_ok (L : List Reg) (nm : List UInt8) (f : Reg → Reg) (hn : okNm nm = true) (hl : hasS L nm = true ∨ L.length < 500) : chgS L nm 0 f = (0, putS L (f (getS L nm))) := by
  unfold chgS; rw [if_neg (by rw [hn]; decide), if_neg (by decide), if_neg (by rintro ⟨a, b⟩; rcases hl with h | h; rw [a] at h; cases h; omega)]
theorem chg_wrong (L : List Reg) (nm : List UInt8) (x : Int) (f : Reg → Reg) (hn : okNm nm = true) (hx : x ≠ 0) : chgS L nm x f = (x, L) := by
  unfold chgS; rw [if_neg (by rw [hn]; decide), if_pos hx]
def movN (r : Reg) (up : Bool) : Int := if up = true then r.v + r.st else r.v - r.st
def movS (L : List Reg) (nm : List UInt8) (up : Bool) : Int × Int × List Reg :=
  if okNm nm = false then (0, 6, L) else if hasS L nm = false then (0, 0, L) else
    if okN (movN (getS L nm) up) = true then (movN (getS L nm) up, 0, putS L (setV (movN (getS L nm) up) (getS L nm))) else (0, 5, L)
set_option maxHeartbeats 1000000 in
theorem move_call {bb mb : Nat} {L : List Reg} {w : World} (h : BK bb mb L w) (s : ByteArray) (up : Bool) : Calls Tryz.prog 16 #[BP bb, .string s, .bool up] w fun e w' => e = .returned (.tuple #[.int .i64 (movS L s.data.toList up).1, .int .i64 (movS L s.data.toList up).2.1]) ∧ BK bb mb (movS L s.data.toList up).2.2 w' ∧ Kept (· = mb) w w' := by
  have H := Lib.hid h
  unfold movS
  cases hn : okNm s.data.toList with
  | false =>
    rw [if_pos rfl]
    have HF := Lib.hid (find_bad h s hn)
    clear h hn
    go_enter Tryz.func16, Tryz.ntmps16
    go_wp2_with fail
    refine HF.out.mono ?_
    rintro e w1 ⟨rfl, hb⟩
    have hz := hb.size
    have HB := Lib.hid (hb.alloc hz (.cells #[.int .i64 0, .int .i64 0, .string ⟨#[]⟩] 60))
    clear hb
    go_wp2_with fail
    go_ret2
    exact ⟨rfl, H.out.below HB.out, .of HB.out⟩
  | true =>
    rw [if_neg (by decide)]
    cases ht : hasS L s.data.toList with
    | false =>
      rw [if_pos rfl]
      have HF := Lib.hid (find_good h s hn _ rfl _ ht)
      obtain ⟨r, hr⟩ : ∃ r, r = getS L s.data.toList := ⟨_, rfl⟩
      rw [← hr] at HF
      clear h hn ht hr
      go_enter Tryz.func16, Tryz.ntmps16
      go_wp2_with fail
      refine HF.out.mono ?_
      rintro e w1 ⟨rfl, hb⟩
      have hz := hb.size
      have HB := Lib.hid (hb.alloc hz (.cells #[.int .i64 r.v, .int .i64 r.st, .string ⟨r.fm.toArray⟩] 60))
      clear hb
      go_wp2_with fail
      go_ret2
      exact ⟨rfl, H.out.below HB.out, .of HB.out⟩
    | true =>
      rw [if_neg (by decide)]
      have HF := Lib.hid (find_good h s hn _ rfl _ ht)
      have hok := getS_ok L s.data.toList h.ok hn
      have hset : ∀ m : Int, ∀ W, BK bb mb L W → Calls Tryz.prog 17 #[BP bb, .string s, .int .i64 m] W fun e w' => e = .returned (.int .i64 (if okN m = true then 0 else 5)) ∧ BK bb mb (if okN m = true then putS L (setV m (getS L s.data.toList)) else L) w' ∧ Kept (· = mb) W w' := by
        intro m W hW
        have := set_call hW s m
        rcases eRange_cases m with ⟨e1, e2⟩ | ⟨e1, e2⟩
        · rw [e1, chg_ok L _ (setV m) hn (.inl ht)] at this
          rw [e2, if_pos rfl, if_pos rfl]; exact this
        · rw [e1, chg_wrong L _ 5 (setV m) hn (by decide)] at this
          rw [e2, if_neg (by decide), if_neg (by decide)]; exact this
      have HSET := Lib.hid hset
      clear hset
      obtain ⟨r, hr⟩ : ∃ r, r = getS L s.data.toList := ⟨_, rfl⟩
      rw [← hr] at HF hok HSET ⊢
      have hv : -1000000000 ≤ r.v ∧ r.v ≤ 1000000000 := by have := hok.2.1; unfold okN at this; simp at this; omega
      have hst : -1000000000 ≤ r.st ∧ r.st ≤ 1000000000 := by have := hok.2.2.1; unfold okN at this; simp at this; omega
      obtain ⟨hv1, hv2⟩ := hv
      obtain ⟨hs1, hs2⟩ := hst
      clear h hn ht hr hok
      cases up with
      | true =>
        rw [show movN r true = r.v + r.st from rfl]
        cases hm : okN (r.v + r.st) with
        | true =>
          rw [if_pos rfl]
          have HS2 := Lib.hid (HSET.out (r.v + r.st))
          rw [hm, if_pos rfl, if_pos rfl] at HS2
          clear hm
          go_enter Tryz.func16, Tryz.ntmps16
          go_wp2_with fail
          refine HF.out.mono ?_
          rintro e w1 ⟨rfl, hb⟩
          have hz := hb.size
          have HB := Lib.hid (hb.alloc hz (.cells #[.int .i64 r.v, .int .i64 r.st, .string ⟨r.fm.toArray⟩] 60))
          clear hb
          go_wp2_with fail
          refine (HS2.out _ (H.out.below HB.out)).mono ?_
          rintro e w2 ⟨rfl, hbk, hk⟩
          have HBK := Lib.hid hbk
          have HK := Lib.hid ((Kept.of (S := (· = mb)) HB.out).trans hk)
          clear hbk hk
          go_wp2_with fail
          go_ret2
          exact ⟨rfl, HBK.out, HK.out⟩
        | false =>
          rw [if_neg (by decide)]
          have HS2 := Lib.hid (HSET.out (r.v + r.st))
          rw [hm, if_neg (by decide), if_neg (by decide)] at HS2
          clear hm
          go_enter Tryz.func16, Tryz.ntmps16
          go_wp2_with fail
          refine HF.out.mono ?_
          rintro e w1 ⟨rfl, hb⟩
          have hz := hb.size
          have HB := Lib.hid (hb.alloc hz (.cells #[.int .i64 r.v, .int .i64 r.st, .string ⟨r.fm.toArray⟩] 60))
          clear hb
          go_wp2_with fail
          refine (HS2.out _ (H.out.below HB.out)).mono ?_
          rintro e w2 ⟨rfl, hbk, hk⟩
          have HBK := Lib.hid hbk
          have HK := Lib.hid ((Kept.of (S := (· = mb)) HB.out).trans hk)
          clear hbk hk
          go_wp2_with fail
          go_ret2
          exact ⟨rfl, HBK.out, HK.out⟩
      | false =>
        rw [show movN r false = r.v - r.st from rfl]
        cases hm : okN (r.v - r.st) with
        | true =>
          rw [if_pos rfl]
          have HS2 := Lib.hid (HSET.out (r.v - r.st))
          rw [hm, if_pos rfl, if_pos rfl] at HS2
          clear hm
          go_enter Tryz.func16, Tryz.ntmps16
          go_wp2_with fail
          refine HF.out.mono ?_
          rintro e w1 ⟨rfl, hb⟩
          have hz := hb.size
          have HB := Lib.hid (hb.alloc hz (.cells #[.int .i64 r.v, .int .i64 r.st, .string ⟨r.fm.toArray⟩] 60))
          clear hb
          go_wp2_with fail
          refine (HS2.out _ (H.out.below HB.out)).mono ?_
          rintro e w2 ⟨rfl, hbk, hk⟩
          have HBK := Lib.hid hbk
          have HK := Lib.hid ((Kept.of (S := (· = mb)) HB.out).trans hk)
          clear hbk hk
          go_wp2_with fail
          go_ret2
          exact ⟨rfl, HBK.out, HK.out⟩
        | false =>
          rw [if_neg (by decide)]
          have HS2 := Lib.hid (HSET.out (r.v - r.st))
          rw [hm, if_neg (by decide), if_neg (by decide)] at HS2
          clear hm
          go_enter Tryz.func16, Tryz.ntmps16
          go_wp2_with fail
          refine HF.out.mono ?_
          rintro e w1 ⟨rfl, hb⟩
          have hz := hb.size
          have HB := Lib.hid (hb.alloc hz (.cells #[.int .i64 r.v, .int .i64 r.st, .string ⟨r.fm.toArray⟩] 60))
          clear hb
          go_wp2_with fail
          refine (HS2.out _ (H.out.below HB.out)).mono ?_
          rintro e w2 ⟨rfl, hbk, hk⟩
          have HBK := Lib.hid hbk
          have HK := Lib.hid ((Kept.of (S := (· = mb)) HB.out).trans hk)
          clear hbk hk
          go_wp2_with fail
          go_ret2
          exact ⟨rfl, HBK.out, HK.out⟩
end Go.Proofs.YtedbdpklliaoaaaGreatDoor
