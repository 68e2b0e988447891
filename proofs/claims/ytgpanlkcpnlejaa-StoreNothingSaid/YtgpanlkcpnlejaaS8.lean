/- Texts, as the document says; the law StoreParts. -/
import Derived.Test.YtgpanlkcpnlejaaS7
namespace Go.Proofs.Ytgpanlkcpnlejaa
open Go.RowKit Go.Maps
set_option maxRecDepth 100000
theorem ib_any : ∀ (l : List UInt8) (c : UInt8), decide (0 ≤ Lib.indexByte l c) = l.any (· == c)
  | [], c => rfl
  | b :: l, c => by
    have ih := ib_any l c
    have hg := Lib.indexByte_ge l c
    have e0 : Lib.indexByte (b :: l) c = if (b == c) = true then 0 else if (Lib.indexByte l c == -1) = true then -1 else Lib.indexByte l c + 1 := by rw [Lib.indexByte]
    rw [List.any_cons, ← ih, e0]
    cases h : (b == c) with
    | true => rfl
    | false =>
      rw [Bool.false_or, if_neg (by decide)]
      by_cases e : Lib.indexByte l c = -1
      · rw [if_pos (by simp [e]), e]
      · rw [if_neg (by simpa using e), decide_eq_decide]; omega
def ItR (s : ByteArray) (w : World) (k : Nat) (i : Value) (wr : World) : Prop :=
  ∃ j, k + j = s.size ∧ i = .int .i64 j ∧ (s.data.toList.take j).any (· == 10) = false ∧ w = wr
set_option maxHeartbeats 1000000 in
theorem rIsText_any (s : ByteArray) (hs9 : s.size ≤ 9223372036854775807) (w : World) : Calls Try.prog 8 #[.string s] w fun e w' => e = .returned (.bool (okTx s.data.toList)) ∧ w = w' := by
  have HE := Lib.hid (show okTx s.data.toList = (decide (s.size ≤ 2000) && !(s.data.toList.any (· == 10))) by unfold okTx; rw [ib_any, show s.data.toList.length = s.size by simp])
  have HST : Hid (ItR s w s.size (.int .i64 0) w) := Lib.hid ⟨0, rfl, rfl, rfl, rfl⟩
  have HSL := Lib.hid (show s.data.toList.length = s.size by simp)
  have hmax : s.size ≤ maxLen := by unfold maxLen; omega
  have HS9 := Lib.hid hs9
  go_enter Try.func8, Try.ntmps8
  go_wp2_with fail
  go_loopg [3] s.size (fun k i wr => ItR s w k i wr)
  case atStart => exact HST.out
  case round =>
    obtain ⟨j, hk, rfl, ha, rfl⟩ := hrel
    have HK := Lib.hid hk
    by_cases hj : j < s.size
    · have dj : decide (j < s.size) = true := decide_eq_true hj
      have hjl : j < s.data.toList.length := by rw [HSL.out]; exact hj
      have hc := byte_at s j hj
      have HT := Lib.hid (show (s.data.toList.take (j + 1)).any (· == 10) = (s[j] == 10) by
        rw [List.take_succ_eq_append_getElem hjl, List.any_append, ha]; simp; rfl)
      clear hk ha
      by_cases c3 : s[j] = 10
      · have e3 : (((s[j]).toNat : Int) == 10) = true := by rw [c3]; rfl
        have HQ := Lib.hid (show s.data.toList.any (· == 10) = true from List.any_eq_true.2 ⟨s[j], List.mem_of_getElem? hc, by rw [c3]; rfl⟩)
        clear c3 hc
        go_wp2_with fail
        go_ret
        rw [HE.out, HQ.out]
        exact ⟨by simp, rfl⟩
      · have e3 : (((s[j]).toNat : Int) == 10) = false := by
          rw [beq_eq_false_iff_ne]; intro h; exact c3 (UInt8.toNat_inj.1 (by show (s[j]).toNat = 10; omega))
        have HQ := Lib.hid (show (s[j] == 10) = false by simpa using c3)
        clear c3 hc
        go_wp2_with fail
        go_roundg (gk - 1)
        case measure => have := HK.out; omega
        case rel => have := HK.out; exact ⟨j + 1, by omega, by go_num, by rw [HT.out]; exact HQ.out, rfl⟩
    · have dj : decide (j < s.size) = false := decide_eq_false hj
      have HQ := Lib.hid (show s.data.toList.any (· == 10) = false by rw [← List.take_of_length_le (l := s.data.toList) (i := j) (by rw [HSL.out]; omega)]; exact ha)
      have HZ := Lib.hid (show decide ((s.size : Int) ≤ 2000) = decide (s.size ≤ 2000) by rw [decide_eq_decide]; omega)
      clear hk ha hj
      go_wp2_with fail
      go_ret
      rw [HE.out, HQ.out]
      exact ⟨by simp [HZ.out], rfl⟩
theorem i64_of_wf {x : Int} (h : (Lit.int .i64 x).wf = true) : I64 x := by
  simp only [Lit.wf, IntKind.min, IntKind.max, IntKind.signed, IntKind.bits, Bool.and_eq_true, decide_eq_true_eq, if_true] at h
  unfold I64; omega
/- The law StoreParts. -/
theorem in_span (n : Nat) (f t : Int) (a b : Nat) (h : spanS n f t = ((a : Int), (b : Int))) (i : Nat) (hi : i < n) :
    ((placeS n f ≤ i ∧ i ≤ placeS n t) ∨ (placeS n t ≤ i ∧ i ≤ placeS n f)) ↔ (a ≤ i ∧ i < b) := by
  unfold spanS spanPQ at h
  generalize placeS n f = p at *
  generalize placeS n t = q at *
  split at h
  · simp only [Prod.mk.injEq] at h
    omega
  · simp only [Prod.mk.injEq] at h
    omega
/-- What is left of a text, up to a place. -/
def cutTo (s : ByteArray) (a b i : Nat) : List UInt8 := (s.data.toList.take (min i b)).drop a
theorem cutTo_in (s : ByteArray) (a b i : Nat) (h1 : a ≤ i) (h2 : i < b) (h3 : i < s.size) : cutTo s a b (i + 1) = cutTo s a b i ++ [s[i]] := by
  unfold cutTo
  rw [show min (i + 1) b = i + 1 by omega, show min i b = i by omega, List.take_succ_eq_append_getElem (by simpa using h3), List.drop_append_of_le_length (by simp; omega)]
  rfl
theorem cutTo_out (s : ByteArray) (a b i : Nat) (h : ¬ (a ≤ i ∧ i < b)) : cutTo s a b (i + 1) = cutTo s a b i := by
  unfold cutTo
  by_cases h1 : b ≤ i
  · rw [show min (i + 1) b = b by omega, show min i b = b by omega]
  · rw [List.drop_eq_nil_of_le (by simp; omega), List.drop_eq_nil_of_le (by simp; omega)]
theorem cutTo_all (s : ByteArray) (a b : Nat) (hb : b ≤ s.size) : (⟨(cutTo s a b s.size).toArray⟩ : ByteArray) = s.extract a b := by
  unfold cutTo
  rw [show min s.size b = b by omega]
  apply ByteArray.ext
  apply Array.ext'
  rw [ByteArray.data_extract, Array.toList_extract]
  simp [List.extract, List.drop_take]
theorem cutTo_len (s : ByteArray) (a b i : Nat) (hi : i ≤ s.size) : (cutTo s a b i).length ≤ i := by
  unfold cutTo; simp; omega
def PaR (s : ByteArray) (a b : Nat) (w : World) (k : Nat) (want i : Value) (wr : World) : Prop :=
  ∃ (j : Nat) (x : ByteArray), k + j = s.size ∧ i = .int .i64 j ∧ want = .string x ∧ x.data.toList = cutTo s a b j ∧ w = wr
end Go.Proofs.Ytgpanlkcpnlejaa
