/- The law MeasureBack: its walk. -/
import Derived.Test.YteihpeffaeahlaaDoorMB
import Derived.Test.YteihpeffaeahlaaDoorLawTexts
namespace Go.Proofs.YteihpeffaeahlaaDoor
open Go.RowKit
set_option maxRecDepth 100000
theorem len_u (k : Nat) (hk : k < 1000000000) : (texR k 1 ++ [117]).length ≤ 30 := by
  have e : texR k 1 = dec k := by unfold texR; rw [Nat.mod_one, if_neg (by simp), Nat.div_one]
  have := dec_len 9 k (by omega) hk
  rw [e]; simp; omega
theorem len_p (k : Nat) (hk : k < 1000000000) : (texR k 10 ++ [112]).length ≤ 30 := by
  have em : k % 10 * 10000 / 10 = k % 10 * 1000 := by omega
  have := dec_len 9 (k / 10) (by omega) (by omega)
  unfold texR
  rw [em]
  by_cases h0 : 0 < k % 10
  · rw [if_pos (by omega), texP_digit _ (by omega) h0]; simp; omega
  · rw [if_neg (by omega)]; simp; omega
theorem eval_back (l : List UInt8) (s0 s1 k : Nat) (hl : l.length ≤ 30) (h0 : s0 ≤ 1000) (h1 : s1 ≤ 1000) (he : evR ⟨⟨l.toArray⟩, 118, s0, s1, 0, false⟩ = ((k : Int), 0)) (w : World) (hT : Tab w) :
    Calls Tryd.prog 18 #[OS l, .int .u8 118, CX s0 s1 0] w fun e w' => e = .returned (.tuple #[.int .i64 k, .int .i64 0]) ∧ Below w.heap.size w w' := by
  have := eval_any (w := w) ⟨l.toArray⟩ 118 s0 s1 0 (by show l.toArray.size ≤ _; rw [List.size_toArray]; omega) hT
  unfold evalS at this
  rw [if_pos (by
    refine ⟨rfl, ?_, ?_⟩
    · unfold cxOk; omega
    · unfold ok9; omega), he] at this
  exact this
/-- At the head of the law's loop. -/
def BkI (b s0 s1 : Nat) (w : World) (n : Nat) (i : Value) (wr : World) : Prop :=
  (i = .int .i64 0 ∧ n = 2 ∨ i = .int .i64 1 ∧ n = 1 ∨ i = .int .i64 2 ∧ n = 0) ∧ Cxb 23 b s0 s1 0 wr ∧ Tab wr ∧ P10 wr ∧ Below w.heap.size w wr
set_option maxHeartbeats 1000000 in
theorem law_back (n sz vs hr : Int) (w : World) (hT : Tab w) (hP : P10 w) :
    Calls Tryd.prog 6 #[.int .i64 n, CX sz vs hr] w fun e w' => e = .returned (.bool true) ∧ Below w.heap.size w w' := by
  obtain ⟨k, hk, hK⟩ := umod n 1000000000 (by omega) (by omega)
  obtain ⟨s0, hs0, hS0⟩ := umod sz 1001 (by omega) (by omega)
  obtain ⟨s1, hs1, hS1⟩ := umod vs 1001 (by omega) (by omega)
  have HU := Lib.hid (fun W (hT : Tab W) => eval_back _ s0 s1 k (len_u k (by omega)) (by omega) (by omega) (back_u k s0 s1 (by omega)) W hT)
  have HP2 := Lib.hid (fun W (hT : Tab W) => eval_back _ s0 s1 k (len_p k (by omega)) (by omega) (by omega) (back_p k s0 s1 (by omega)) W hT)
  have HTU := Lib.hid (fun W (h : P10 W) => text_some k 1 117 (by omega) rfl W h)
  have HTP := Lib.hid (fun W (h : P10 W) => text_some k 10 112 (by omega) rfl W h)
  generalize texR k 1 ++ [117] = lu at HU HTU
  generalize texR k 10 ++ [112] = lp at HP2 HTP
  have b2 : Below w.heap.size w ((w.alloc (CXo sz vs hr)).alloc (CXo s0 s1 0)) := ((Below.refl _ _).alloc (Nat.le_refl _) _).alloc (by simp) _
  have x2 : Cxb 23 (w.heap.size + 1) s0 s1 0 ((w.alloc (CXo sz vs hr)).alloc (CXo s0 s1 0)) := by
    have := Cxb.new (o := 23) (sz := s0) (vs := s1) (hr := 0) (w.alloc (CXo sz vs hr))
    simpa using this
  have HST := Lib.hid (show BkI (w.heap.size + 1) s0 s1 w 2 (.int .i64 0) ((w.alloc (CXo sz vs hr)).alloc (CXo s0 s1 0)) from ⟨.inl ⟨rfl, rfl⟩, x2, hT.below b2 hT.pos, hP.below b2, b2⟩)
  have HB := Lib.hid (And.intro hk (And.intro hs0 hs1))
  have wk : wrap64 (k : Int) = k := by rw [wrap64]; omega
  have w0 : wrap64 (s0 : Int) = s0 := by rw [wrap64]; omega
  have w1 : wrap64 (s1 : Int) = s1 := by rw [wrap64]; omega
  have c0 : (({ data := #[117, 112] } : ByteArray)[0]'(by decide)).toNat = 117 := rfl
  have c1 : (({ data := #[117, 112] } : ByteArray)[1]'(by decide)).toNat = 112 := rfl
  clear hT hP b2 x2 hk hs0 hs1
  go_enter Tryd.func6, Tryd.ntmps6
  go_wp2_with fail
  clear hK hS0 hS1
  rw [wk, w0, w1]
  go_loopg [7] 2 (fun n i wr => BkI (w.heap.size + 1) s0 s1 w n i wr)
  case atStart => exact HST.out
  case round =>
    obtain ⟨hi, hX, hT, hP, hB⟩ := hrel
    have HX := Lib.hid hX
    have HT := Lib.hid hT
    have HP := Lib.hid hP
    have HBB := Lib.hid hB
    clear hX hT hP hB
    rcases hi with ⟨rfl, hn⟩ | ⟨rfl, hn⟩ | ⟨rfl, hn⟩
    · have HN := Lib.hid hn
      clear hn
      go_wp2_with fail
      refine (HTU.out _ HP.out).mono ?_
      rintro e v1 ⟨rfl, hb1⟩
      have x1 := HX.out.below hb1
      have B1 := Lib.hid (HBB.out.trans (hb1.mono HBB.out.size))
      have T1 := Lib.hid (HT.out.below hb1 HT.out.pos)
      have P1 := Lib.hid (HP.out.below hb1)
      have X1 := Lib.hid x1
      have l0 := x1.c0
      have l1 := x1.c1
      have l2 := x1.c2
      clear hb1 x1
      go_wp2_with fail
      refine (HU.out _ T1.out).mono ?_
      rintro e v2 ⟨rfl, hb2⟩
      have x2 := X1.out.below hb2
      have B2 := Lib.hid (B1.out.trans (hb2.mono B1.out.size))
      have T2 := Lib.hid (T1.out.below hb2 T1.out.pos)
      have P2 := Lib.hid (P1.out.below hb2)
      have X2 := Lib.hid x2
      clear hb2 x2 l0 l1 l2
      go_wp2_with fail
      go_roundg 1
      case measure => have := HN.out; omega
      case rel => exact ⟨.inr (.inl ⟨rfl, rfl⟩), X2.out, T2.out, P2.out, B2.out⟩
    · have HN := Lib.hid hn
      clear hn
      go_wp2_with fail
      refine (HTP.out _ HP.out).mono ?_
      rintro e v1 ⟨rfl, hb1⟩
      have x1 := HX.out.below hb1
      have B1 := Lib.hid (HBB.out.trans (hb1.mono HBB.out.size))
      have T1 := Lib.hid (HT.out.below hb1 HT.out.pos)
      have P1 := Lib.hid (HP.out.below hb1)
      have X1 := Lib.hid x1
      have l0 := x1.c0
      have l1 := x1.c1
      have l2 := x1.c2
      clear hb1 x1
      go_wp2_with fail
      refine (HP2.out _ T1.out).mono ?_
      rintro e v2 ⟨rfl, hb2⟩
      have x2 := X1.out.below hb2
      have B2 := Lib.hid (B1.out.trans (hb2.mono B1.out.size))
      have T2 := Lib.hid (T1.out.below hb2 T1.out.pos)
      have P2 := Lib.hid (P1.out.below hb2)
      have X2 := Lib.hid x2
      clear hb2 x2 l0 l1 l2
      go_wp2_with fail
      go_roundg 0
      case measure => have := HN.out; omega
      case rel => exact ⟨.inr (.inr ⟨rfl, rfl⟩), X2.out, T2.out, P2.out, B2.out⟩
    · clear hn
      go_wp2_with fail
      refine (sane_any _ HT.out).mono ?_
      rintro e v3 ⟨rfl, hb3⟩
      have B3 := Lib.hid (HBB.out.trans (hb3.mono HBB.out.size))
      clear hb3
      go_wp2_with fail
      go_ret
      exact ⟨rfl, B3.out⟩
end Go.Proofs.YteihpeffaeahlaaDoor
