/- strings.IndexAny and ContainsAny with blanks, on whatever bytes. -/
import Derived.Test.YtnffmlfapccgkaaDoorA0
import Derived.Test.YtnffmlfapccgkaaDoorP1
import Derived.Laws.Runes
import Derived.WalkMore
import Derived.Laws.RangeString
import Derived.Lib.OthersKept
import Derived.Lib.SpaceUEq
import Derived.Lib.QuoteLoop
import Derived.Lib.DecodeN
import Derived.Lib.TrimU
import Derived.Shelf.Strings.SlTrimAscii
import Derived.Shelf.Strings.IndexAnyAll
namespace Go.Proofs.YtnffmlfapccgkaaDoor
open Go.RowKit
set_option maxRecDepth 100000
set_option linter.unusedSimpArgs false
set_option linter.unusedVariables false
abbrev blk : ByteArray := ⟨#[32, 9]⟩
theorem ib_empty (c : UInt8) : Lib.indexByte [] c = -1 := rfl
theorem ix_nil (c : Nat) (hc : c < 256) (w : World) : Calls Tryd.prog 57 #[.string ByteArray.empty, .int .u8 (c : Int)] w fun e w' => e = .returned (.int .i64 (-1)) ∧ w = w' := by
  have h := ix_call ByteArray.empty (UInt8.ofNat c) w
  rw [show ((UInt8.ofNat c).toNat : Int) = (c : Int) by simp; omega] at h
  exact h
set_option maxHeartbeats 4000000 in
/-- A rune that is no ASCII is none of the two. -/
theorem rune_none (r : Nat) (h128 : 128 ≤ r) (hv : r < 55296 ∨ (57343 < r ∧ r ≤ 1114111)) (w : World) :
    Calls Tryd.prog 73 #[.string blk, .int .i32 (r : Int)] w fun e w' => e = .returned (.int .i64 (-1)) ∧ Below w.heap.size w w' := by
  have d1 : decide ((0 : Int) ≤ (r : Int)) = true := decide_eq_true (by omega)
  have d2 : decide ((r : Int) < 128) = false := decide_eq_false (by omega)
  by_cases he : r = 65533
  · have d3 : ((r : Int) == 65533) = true := by rw [he]; rfl
    have HIT : Hid ((w.iter blk 0).heap[w.heap.size]? = some (.stringIter blk 0)) := Lib.hid (World.iter_heap w blk 0)
    have HB0 : Hid (Below w.heap.size w (w.iter blk 0)) := Lib.hid (bel0 w _)
    clear he hv h128
    go_enter Tryd.func73, Tryd.ntmps73
    go_wp2_with fail
    go_loopg [5, 6] 2 (fun k _ _ wr => ∃ i : Nat, k + i = 2 ∧ wr.heap[w.heap.size]? = some (.stringIter blk i) ∧ Below w.heap.size w wr)
    case atStart => exact ⟨0, rfl, HIT.out, HB0.out⟩
    case round =>
      obtain ⟨i, hk, hit, hb⟩ := hrel
      have HK := Lib.hid hk
      have HI := Lib.hid hit
      have HB := Lib.hid hb
      clear hb
      by_cases hi : i < 2
      · have hnx : ∀ ty, (Instr.next (.pointer (some ⟨w.heap.size, 0, none⟩)) true ty).run Tryd.prog wr = _ := fun ty => Lib.run_next_any_at wr w.heap.size blk i ty hit hi
        have hdec : Utf8.decode blk i = (blk[i].toNat, 1) := by
          have : i = 0 ∨ i = 1 := by omega
          rcases this with rfl | rfl
          · rfl
          · rfl
        rw [hdec] at hnx
        have hne : ((blk[i].toNat : Int) == 65533) = false := by
          have : i = 0 ∨ i = 1 := by omega
          rcases this with rfl | rfl
          · rfl
          · rfl
        obtain ⟨R, hR⟩ : ∃ R, R = blk[i].toNat := ⟨_, rfl⟩
        rw [← hR] at hnx hne
        have HB2 := Lib.hid (Lib.below_iterAt HB.out (k := w.heap.size) (Nat.le_refl _) blk (i + 1))
        have HI2 := Lib.hid (Lib.iterAt_heap wr w.heap.size blk i (i + 1) hit)
        obtain ⟨W, hW⟩ : ∃ W, W = wr.iterAt w.heap.size blk (i + 1) := ⟨_, rfl⟩
        dsimp only at hnx
        rw [← hW] at hnx HB2 HI2
        clear hk hit hdec hR hW
        go_wp2_with fail
        go_roundg (gk - 1)
        case measure => have := HK.out; omega
        case rel => exact ⟨i + 1, by have := HK.out; omega, HI2.out, HB2.out⟩
      · have hnx : ∀ ty, (Instr.next (.pointer (some ⟨w.heap.size, 0, none⟩)) true ty).run Tryd.prog wr = _ := fun ty => Lib.run_next_end_at wr w.heap.size blk i ty hit hi
        clear hk hit
        go_wp2_with fail
        go_ret
        exact ⟨rfl, HB.out⟩
  · have d3 : ((r : Int) == 65533) = false := beq_eq_false_iff_ne.2 (by omega)
    have HVR := Lib.hid (Tryd.utf8_ValidRune (r : Int) w)
    rw [show Lib.validRune (r : Int) = true by simp only [Lib.validRune, decide_eq_true_eq]; omega] at HVR
    have hval : Utf8.valid (r : Int) = true := by
      simp only [Utf8.valid, Bool.and_eq_true, Bool.or_eq_true, decide_eq_true_eq]; omega
    have hcv : ∀ W, (convert 21 9 (.int .i32 (r : Int))).run Tryd.prog W = .ok (.string (Utf8.encode (r : Int))) W := fun W => run_convert_int_string W 21 9 .i32 (r : Int) (by rw [Tryd.underlying21]; rfl) Tryd.underlying9
    obtain ⟨h2, h4, hl⟩ := encode_facts (r : Int) hval (by omega)
    obtain ⟨E, hE⟩ : ∃ E, E = Utf8.encode (r : Int) := ⟨_, rfl⟩
    rw [← hE] at h2 h4 hl hcv
    obtain ⟨m, hm⟩ : ∃ m, E.size = m + 1 := ⟨E.size - 1, by omega⟩
    have hme : (E.size : Int) - 1 = (m : Int) := by omega
    clear hE hval hv he
    by_cases hm2 : m < 2
    · have hm1 : m = 1 := by omega
      have hlt : 1 < E.size := by omega
      have hx := hl (by omega)
      have hx' : 128 ≤ (E[1]'hlt).toNat := by simpa [hm, hm1] using hx
      have d4 : decide ((m : Int) < 2) = true := decide_eq_true (by omega)
      have hme1 : (E.size : Int) - 1 = 1 := by omega
      have HIX := Lib.hid (fun W => ix_nil (E[1]'hlt).toNat (UInt8.toNat_lt _) W)
      have d5 : ((blk[1].toNat : Int) != ((E[1]'hlt).toNat : Int)) = true := by rw [show ((blk[1].toNat : Nat) : Int) = 9 from rfl, bne_iff_ne]; omega
      have hlt2 : (1 : Int) < (E.size : Int) := by omega
      obtain ⟨c, hc⟩ : ∃ c, c = (E[1]'hlt).toNat := ⟨_, rfl⟩
      clear hl hx hm hm2 hme d4 h128
      subst hm1
      go_enter Tryd.func73, Tryd.ntmps73
      go_wp2_with fail
      refine HVR.out.mono ?_
      rintro e w1 ⟨rfl, rfl⟩
      go_wp2_with fail
      go_step3
      go_wp2_with fail
      go_loopg [9] 0 (fun k i wr => i = .int .i64 1 ∧ Below w1.heap.size w1 wr)
      case atStart => exact ⟨rfl, Below.refl _ _⟩
      case round =>
        obtain ⟨rfl, hb⟩ := hrel
        have HB := Lib.hid hb
        clear hb
        go_wp2_with fail
        go_step3
        go_wp2_with fail
        go_quiet (fail)
        go_wp2_with fail
        have hw2 : IntKind.i64.wrap 2 = 2 := by decide
        go_quiet ((go_at_call 57; exact (HIX.out _).mono fun _ _ ⟨he, hm⟩ => ⟨he, _, hm.symm⟩))
        go_wp2_with fail
        rw [Exit.noGoto_ret]
        simp only [Exit.inBlock, Exit.then, Exit.noGoto_ret]
        go_ret
        exact ⟨rfl, ⟨HB.out.os, HB.out.tape, HB.out.output, HB.out.size, HB.out.block⟩⟩
    · have d4 : decide ((m : Int) < 2) = false := decide_eq_false (by omega)
      clear hl hm2 h128 hm
      go_enter Tryd.func73, Tryd.ntmps73
      go_wp2_with fail
      refine HVR.out.mono ?_
      rintro e w1 ⟨rfl, rfl⟩
      go_wp2_with fail
      go_step3
      go_wp2_with fail
      go_loopg [9] 0 (fun k i wr => i = .int .i64 (m : Int) ∧ wr = w1)
      case atStart => exact ⟨rfl, rfl⟩
      case round =>
        obtain ⟨rfl, hw⟩ := hrel
        subst hw
        go_wp2_with fail
        rw [Exit.noGoto_ret]
        go_ret
        exact ⟨rfl, Below.refl _ _⟩
theorem get_bang (s : ByteArray) (i : Nat) : s.get! i = s.data.toList.getD i 0 := by
  cases s with | mk a => show a[i]! = a.toList.getD i 0; simp [Array.getElem!_eq_getD, List.getD_eq_getElem?_getD]; rfl
/-- At a byte that is no ASCII: the rune is none, and the bytes that it takes are none. -/
theorem dec_high (s : ByteArray) (i : Nat) (hi : i < s.size) (h128 : 128 ≤ (s[i]'hi).toNat) :
    128 ≤ (Utf8.decode s i).1 ∧ ((Utf8.decode s i).1 < 55296 ∨ (57343 < (Utf8.decode s i).1 ∧ (Utf8.decode s i).1 ≤ 1114111)) ∧ 1 ≤ (Utf8.decode s i).2 ∧ i + (Utf8.decode s i).2 ≤ s.size ∧
      ∀ j, j < (Utf8.decode s i).2 → 128 ≤ (s.get! (i + j)).toNat := by
  have h0 : (s.get! i) = s[i] := by rw [get_bang, List.getD_eq_getElem?_getD, byte_at s i hi]; rfl
  have k0 : 128 ≤ (s.get! i).toNat := by rw [h0]; exact h128
  have hv := Lib.decodeN_valid (s.size - i) (s.get! i).toNat (s.get! (i + 1)).toNat (s.get! (i + 2)).toNat (s.get! (i + 3)).toNat (UInt8.toNat_lt _)
  have hc := Lib.decodeN_conts (s.size - i) (s.get! i).toNat (s.get! (i + 1)).toNat (s.get! (i + 2)).toNat (s.get! (i + 3)).toNat
  have hw := Lib.decodeN_width_le (s.size - i) (s.get! i).toNat (s.get! (i + 1)).toNat (s.get! (i + 2)).toNat (s.get! (i + 3)).toNat (by omega)
  have hg := Lib.decodeN_ge1 (s.size - i) (s.get! i).toNat (s.get! (i + 1)).toNat (s.get! (i + 2)).toNat (s.get! (i + 3)).toNat
  have hr : 128 ≤ (Lib.decodeN (s.size - i) (s.get! i).toNat (s.get! (i + 1)).toNat (s.get! (i + 2)).toNat (s.get! (i + 3)).toNat).1 := by
    rcases Lib.decodeN_cases (s.size - i) (s.get! i).toNat (s.get! (i + 1)).toNat (s.get! (i + 2)).toNat (s.get! (i + 3)).toNat with ⟨c, e⟩ | ⟨c1, c2, c3, cv, e⟩ | ⟨c1, c2, c3, c4, cv, e⟩ | ⟨c, e⟩ | e
    · omega
    · rw [e]; exact cv
    · rw [e]; show 128 ≤ _; omega
    · omega
    · rw [e]; show 128 ≤ 65533; omega
  rw [← Lib.decode_at] at hv hc hw hg hr
  refine ⟨hr, hv, hg, by omega, fun j hj => ?_⟩
  obtain ⟨c2, c3, c4, c5⟩ := hc
  have : j = 0 ∨ j = 1 ∨ j = 2 ∨ j = 3 := by omega
  rcases this with rfl | rfl | rfl | rfl
  · exact k0
  · have := (c2 (by omega)).1; omega
  · have := (c3 (by omega)).1; omega
  · have := (c4 (by omega)).1; omega
theorem no_skip {s : ByteArray} {i K : Nat} (h : Lib.NoAny s.data.toList [32, 9] i) (hb : ∀ j, j < K → 128 ≤ (s.get! (i + j)).toNat) : Lib.NoAny s.data.toList [32, 9] (i + K) := by
  intro j b hj hjb
  by_cases hlt : j < i
  · exact h j b hlt hjb
  · have := hb (j - i) (by omega)
    rw [show i + (j - i) = j by omega, get_bang, List.getD_eq_getElem?_getD, hjb] at this
    simp only [Option.getD_some] at this
    have h1 : b ≠ 32 := fun e => by rw [e] at this; exact absurd this (by decide)
    have h2 : b ≠ 9 := fun e => by rw [e] at this; exact absurd this (by decide)
    simp [List.contains, List.elem, beq_eq_false_iff_ne.2 h1, beq_eq_false_iff_ne.2 h2]
def IxR (s : ByteArray) (w : World) (k : Nat) (wr : World) : Prop := ∃ i : Nat, s.size ≤ i + k ∧ i ≤ s.size ∧ wr.heap[w.heap.size]? = some (.stringIter s i) ∧ Below w.heap.size w wr ∧ Lib.NoAny s.data.toList [32, 9] i
set_option maxHeartbeats 4000000 in
theorem ixAny_short (s : ByteArray) (h8 : s.size ≤ 8) (w : World) : Calls Tryd.prog 59 #[.string s, .string blk] w fun e w' => e = .returned (.int .i64 (Lib.indexAny s.data.toList [32, 9])) ∧ Below w.heap.size w w' := by
  have HSU := Lib.hid (fun W => Tryd.strings_shouldUseASCIISet (s.size : Int) W)
  rw [show decide ((8 : Int) < (s.size : Int)) = false from decide_eq_false (by omega)] at HSU
  have HRN := Lib.hid rune_none
  obtain ⟨R0, hR0⟩ : ∃ R0, R0 = Lib.indexAny s.data.toList [32, 9] := ⟨_, rfl⟩
  rw [← hR0]
  have HR := Lib.hid hR0
  have HST : Hid (IxR s w s.size (w.iter s 0)) := Lib.hid ⟨0, by omega, by omega, World.iter_heap w s 0, bel0 w _, Lib.NoAny.zero _ _⟩
  have HLEN := Lib.hid (sz_of s _ rfl)
  clear hR0
  go_enter Tryd.func59, Tryd.ntmps59
  go_wp2_with fail
  refine (HSU.out _).mono ?_
  rintro e w1 ⟨rfl, hw⟩
  rw [hw]
  clear hw
  go_wp2_with fail
  go_loopg [9, 10] s.size (fun k _ _ wr => IxR s w k wr)
  case atStart => exact HST.out
  case round =>
    obtain ⟨i, hk, his, hit, hb, hno⟩ := hrel
    have HK := Lib.hid hk
    have HB := Lib.hid hb
    have HN := Lib.hid hno
    by_cases hi : i < s.size
    · have hnx : ∀ ty, (Instr.next (.pointer (some ⟨w.heap.size, 0, none⟩)) true ty).run Tryd.prog wr = _ := fun ty => Lib.run_next_any_at wr w.heap.size s i ty hit hi
      have hbi : s.data.toList[i]? = some s[i] := byte_at s i hi
      by_cases hx : (s[i]'hi).toNat < 128
      · have hdec : Utf8.decode s i = (s[i].toNat, 1) := decode_ascii s i hi hx
        rw [hdec] at hnx
        have HRA := Lib.hid (fun W => Tryd.strings_IndexRune_ascii blk (s[i].toNat : Int) W (by omega) (by omega))
        rw [show ((s[i].toNat : Int)).toNat.toUInt8 = s[i] by rw [Int.toNat_natCast]; exact UInt8.ofNat_toNat, show (blk.data.toList) = [32, 9] from rfl] at HRA
        have hcon := Lib.contains_iff_indexByte [32, 9] s[i]
        have HB2 := Lib.hid (Lib.below_iterAt HB.out (k := w.heap.size) (Nat.le_refl _) s (i + 1))
        have HI2 := Lib.hid (Lib.iterAt_heap wr w.heap.size s i (i + 1) hit)
        have HBI := Lib.hid hbi
        obtain ⟨c, hc⟩ : ∃ c, c = s[i] := ⟨_, rfl⟩
        rw [← hc] at hnx HRA hcon HBI
        obtain ⟨W, hW⟩ : ∃ W, W = wr.iterAt w.heap.size s (i + 1) := ⟨_, rfl⟩
        dsimp only at hnx
        rw [← hW] at hnx HB2 HI2
        obtain ⟨q, hq⟩ : ∃ q, q = Lib.indexByte [32, 9] c := ⟨_, rfl⟩
        rw [← hq] at HRA hcon
        clear hk hb hno hit hdec hbi hx hc hW hq
        cases hcc : ([32, 9] : List UInt8).contains c with
        | true =>
          rw [hcc] at hcon
          have d1 : decide ((0 : Int) ≤ q) = true := hcon.symm
          have HF := Lib.hid (show R0 = (i : Int) by rw [HR.out]; exact Lib.indexAny_hit HN.out HBI.out hcc)
          clear hcon hcc
          go_wp2_with fail
          refine (HRA.out _).mono ?_
          rintro e w2 ⟨rfl, hw⟩
          rw [hw]
          clear hw
          go_wp2_with fail
          go_ret
          rw [HF.out]
          exact ⟨rfl, HB2.out⟩
        | false =>
          rw [hcc] at hcon
          have d1 : decide ((0 : Int) ≤ q) = false := hcon.symm
          have HNN := Lib.hid (HN.out.succ HBI.out hcc)
          clear hcon hcc
          go_wp2_with fail
          refine (HRA.out _).mono ?_
          rintro e w2 ⟨rfl, hw⟩
          rw [hw]
          clear hw
          go_wp2_with fail
          go_roundg (gk - 1)
          case measure => have := HK.out; omega
          case rel => exact ⟨i + 1, by have := HK.out; omega, by omega, HI2.out, HB2.out, HNN.out⟩
      · obtain ⟨h1, h2, h3, h4, h5⟩ := dec_high s i hi (by omega)
        have HNN := Lib.hid (no_skip hno h5)
        obtain ⟨R, hR⟩ : ∃ R, (Utf8.decode s i).1 = R := ⟨_, rfl⟩
        obtain ⟨K, hK⟩ : ∃ K, (Utf8.decode s i).2 = K := ⟨_, rfl⟩
        rw [hR, hK] at hnx
        rw [hR] at h1 h2
        rw [hK] at h3 h4 HNN
        have HB2 := Lib.hid (Lib.below_iterAt HB.out (k := w.heap.size) (Nat.le_refl _) s (i + K))
        have HI2 := Lib.hid (Lib.iterAt_heap wr w.heap.size s i (i + K) hit)
        obtain ⟨W, hW⟩ : ∃ W, W = wr.iterAt w.heap.size s (i + K) := ⟨_, rfl⟩
        rw [← hW] at hnx HB2 HI2
        have HRA := Lib.hid (HRN.out R h1 h2 W)
        have hlw : w.heap.size < W.heap.size := (Array.getElem?_eq_some_iff.1 HI2.out).1
        have H34 := Lib.hid (And.intro h3 h4)
        clear hk hb hno hit hbi hx hW h1 h2 h3 h4 h5 hR hK
        go_wp2_with fail
        refine HRA.out.mono ?_
        rintro e w2 ⟨rfl, hb2⟩
        have HB3 := Lib.hid hb2
        clear hb2
        go_wp2_with fail
        go_roundg (gk - 1)
        case measure => have := HK.out; omega
        case rel =>
          have := HK.out
          have := H34.out
          exact ⟨i + K, by omega, by omega, (HB3.out.block _ hlw).trans HI2.out, HB2.out.trans (HB3.out.mono HB2.out.size), HNN.out⟩
    · have hnx : ∀ ty, (Instr.next (.pointer (some ⟨w.heap.size, 0, none⟩)) true ty).run Tryd.prog wr = _ := fun ty => Lib.run_next_end_at wr w.heap.size s i ty hit hi
      have HF := Lib.hid (show R0 = -1 by
        rw [HR.out]
        refine Lib.indexAny_none ?_
        rw [← HLEN.out]
        have : i = s.size := by omega
        rw [← this]; exact hno)
      clear hk hb hno hit
      go_wp2_with fail
      go_ret
      rw [HF.out]
      exact ⟨rfl, HB.out⟩
theorem ixAny_any (s : ByteArray) (hs : s.size < 4294967281) (w : World) : Calls Tryd.prog 59 #[.string s, .string blk] w fun e w' => e = .returned (.int .i64 (Lib.indexAny s.data.toList [32, 9])) ∧ Below w.heap.size w w' := by
  by_cases h8 : s.size ≤ 8
  · exact ixAny_short s h8 w
  · have hz : (Tryd.prog.info? 79).map (fun i => (i.zero, i.size)) = some (some (.agg (Array.replicate 256 (.bool false))), 256) := by kernel_rfl
    refine (Any.strings_IndexAny_long Tryd.lays153 (zero_of_info hz).1 (zero_of_info hz).2 s blk w (by decide) (by omega) hs (by decide) (ascii_of_all (by decide))).mono ?_
    rintro e w' ⟨rfl, hw⟩
    rw [hw]
    exact ⟨rfl, ((Below.refl _ _).alloc (Nat.le_refl _) _).alloc (by simp) _⟩
theorem ctAny_any (s : ByteArray) (hs : s.size < 4294967281) (w : World) : Calls Tryd.prog 39 #[.string s, .string blk] w fun e w' => e = .returned (.bool (decide (0 ≤ Lib.indexAny s.data.toList [32, 9]))) ∧ Below w.heap.size w w' := by
  have HC := Lib.hid (ixAny_any s hs w)
  clear hs
  obtain ⟨q, hq⟩ : ∃ q, q = Lib.indexAny s.data.toList [32, 9] := ⟨_, rfl⟩
  rw [← hq] at HC ⊢
  clear hq
  go_enter Tryd.func39, Tryd.ntmps39
  go_wp2_with fail
  refine HC.out.mono ?_
  rintro e w1 ⟨rfl, hb⟩
  have HB := Lib.hid hb
  clear hb
  go_wp2_with fail
  go_ret
  exact ⟨rfl, HB.out⟩
end Go.Proofs.YtnffmlfapccgkaaDoor
