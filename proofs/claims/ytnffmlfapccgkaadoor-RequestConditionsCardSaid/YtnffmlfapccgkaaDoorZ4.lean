/- RequestNots: the law's walk. -/
import Derived.Test.YtnffmlfapccgkaaDoorZ3
namespace Go.Proofs.YtnffmlfapccgkaaDoor
open Go.RowKit Go.Shelf
set_option maxRecDepth 100000
set_option linter.unusedSimpArgs false
set_option linter.unusedVariables false
theorem cond_any (l : List UInt8) (hl : l.length ≤ 100000) (w : World) (hM : MaxI w) : Calls Tryd.prog 17 #[.string (bs l)] w fun e w' => e = .returned (condV l) ∧ Below w.heap.size w w' := by
  cases h : okTx l with
  | false => exact cond_bad l h w
  | true => exact cond_good l h hl w hM
theorem cnR_shape (r : List UInt8) : (∀ nt, cnR nt r = noC 4) ∨ ∃ k nm lf rt rs, ∀ nt, cnR nt r = okC nt k nm lf rt rs := by
  cases r with
  | nil => exact .inl fun _ => rfl
  | cons c t =>
    cases h : bl c with
    | true => exact .inl fun nt => (cn_bl nt c t h).1
    | false =>
      by_cases hd : c = 100 ∨ c = 114
      · by_cases h0 : (cutB t).1 = []
        · exact .inl fun nt => by rw [(cn_d nt c t h hd).1, if_pos h0]
        · exact .inr ⟨c, (cutB t).1, [], [], (cutB t).2, fun nt => by rw [(cn_d nt c t h hd).1, if_neg h0]⟩
      · cases hA : inA c with
        | true => exact .inr ⟨c, [], [], [], t, fun nt => (cn_o nt c t h hd hA).1⟩
        | false =>
          cases hx : (ld c || inB c) with
          | true => exact .inr ⟨120, _, [], [], _, fun nt => (cn_x nt c t h hA hx).1⟩
          | false =>
            cases hct : cutT c t with
            | none => exact .inl fun nt => by rw [(cn_q nt c t h hA hx).1, hct]
            | some p =>
              obtain ⟨x, y, r⟩ := p
              exact .inr ⟨39, [], x, y, r, fun nt => by rw [(cn_q nt c t h hA hx).1, hct]⟩
/-- Three conditions: one mark more turns it. -/
theorem cond3 (l : List UInt8) (hl : l.length ≤ 500) (h0 : skB l = l) : (∃ k : Int, (k = 1 ∨ k = 4) ∧ condV l = noC k ∧ condV (33 :: l) = noC k ∧ condV (33 :: 33 :: l) = noC k) ∨
    ∃ nt k nm lf rt rs, condV l = okC nt k nm lf rt rs ∧ condV (33 :: l) = okC (!nt) k nm lf rt rs ∧ condV (33 :: 33 :: l) = okC nt k nm lf rt rs := by
  have ix : ∀ m : List UInt8, decide (0 ≤ Lib.indexByte (33 :: m) 10) = decide (0 ≤ Lib.indexByte m 10) := by
    intro m
    have hg := Lib.indexByte_ge m 10
    conv => lhs; unfold Lib.indexByte
    rw [if_neg (by decide)]
    by_cases h : Lib.indexByte m 10 = -1
    · rw [h]; rfl
    · rw [if_neg (by simpa using h)]
      simp only [decide_eq_decide]; omega
  have ok : ∀ m : List UInt8, m.length ≤ 1000 → okTx (33 :: m) = okTx m := by
    intro m hm
    unfold okTx
    rw [ix, show decide ((33 :: m).length ≤ 2000) = true from decide_eq_true (by simp; omega), show decide (m.length ≤ 2000) = true from decide_eq_true (by omega)]
  have s1 : skB (33 :: l) = 33 :: l := skB_cons_of (by decide)
  have s2 : skB (33 :: 33 :: l) = 33 :: 33 :: l := skB_cons_of (by decide)
  have e1 : exN (33 :: l) = exN l := rfl
  have e2 : exN (33 :: 33 :: l) = exN l := rfl
  have hle := exN_le l
  have n1 : ntS (33 :: l) = !ntS l := by
    unfold ntS
    rw [s1, e1, h0, List.length_cons]
    rcases (show (l.length - (exN l).length) % 2 = 0 ∨ (l.length - (exN l).length) % 2 = 1 by omega) with e | e
    · rw [e, show (l.length + 1 - (exN l).length) % 2 = 1 by omega]; rfl
    · rw [e, show (l.length + 1 - (exN l).length) % 2 = 0 by omega]; rfl
  have n2 : ntS (33 :: 33 :: l) = ntS l := by
    unfold ntS
    rw [s2, e2, h0, List.length_cons, List.length_cons]
    rcases (show (l.length - (exN l).length) % 2 = 0 ∨ (l.length - (exN l).length) % 2 = 1 by omega) with e | e
    · rw [e, show (l.length + 1 + 1 - (exN l).length) % 2 = 0 by omega]
    · rw [e, show (l.length + 1 + 1 - (exN l).length) % 2 = 1 by omega]
  unfold condV
  rw [ok (33 :: l) (by simp; omega), ok l (by omega), s1, s2, e1, e2, n1, n2, h0]
  cases okTx l with
  | false => exact .inl ⟨1, .inl rfl, rfl, rfl, rfl⟩
  | true =>
    simp only [if_true]
    rcases cnR_shape (exN l) with h | ⟨k, nm, lf, rt, rs, h⟩
    · exact .inl ⟨4, .inr rfl, h _, h _, h _⟩
    · exact .inr ⟨ntS l, k, nm, lf, rt, rs, h _, h _, h _⟩
theorem cat33 (l : List UInt8) : (⟨#[33]⟩ : ByteArray) ++ bs l = bs (33 :: l) ∧ (⟨#[33, 33]⟩ : ByteArray) ++ bs l = bs (33 :: 33 :: l) := by
  constructor <;> (apply ByteArray.ext; rw [ByteArray.data_append]; simp [bs])
set_option maxHeartbeats 8000000 in
theorem law_nots (s : ByteArray) (hs : s.size ≤ maxLen) (w : World) (hM : MaxI w) : Calls Tryd.prog 6 #[.string s] w fun e w' => e = .returned (.bool true) ∧ Below w.heap.size w w' := by
  have HS := Lib.hid (fun W => sane_any W)
  unfold maxLen at hs
  have HSS := Lib.hid hs
  clear hs
  cases hbig : decide ((500 : Int) < (s.size : Int)) with
  | true =>
    go_enter Tryd.func6, Tryd.ntmps6
    go_wp2_with fail
    refine (HS.out _).mono ?_
    rintro e w1 ⟨rfl, hb⟩
    have HB := Lib.hid hb
    clear hb
    go_wp2_with fail
    go_ret
    exact ⟨rfl, HB.out⟩
  | false =>
    have hbn := of_decide_eq_false hbig
    obtain ⟨l, hl⟩ : ∃ l, l = s.data.toList := ⟨_, rfl⟩
    have hsl : s = bs l := by rw [hl, bs_self]
    have hll : l.length ≤ 500 := by rw [hl, show s.data.toList.length = s.size from (sz_of s _ rfl).symm]; omega
    clear hl
    cases hl0 : l with
    | nil =>
      have h0 : ((s.size : Int) == 0) = true := by rw [hsl, hl0, bs_size]; rfl
      clear hsl hbn hl0 hll
      go_enter Tryd.func6, Tryd.ntmps6
      go_wp2_with fail
      refine (HS.out _).mono ?_
      rintro e w1 ⟨rfl, hb⟩
      have HB := Lib.hid hb
      clear hb
      go_wp2_with fail
      go_ret
      exact ⟨rfl, HB.out⟩
    | cons c t =>
      obtain ⟨h0s, hat, _, _⟩ := head_facts s c t (by rw [hsl, hl0])
      have h0 : ((s.size : Int) == 0) = false := beq_eq_false_iff_ne.2 (by omega)
      by_cases hb : bl c = true
      · have hcase : ((s[0].toNat : Int) == 32) = true ∨ (((s[0].toNat : Int) == 32) = false ∧ ((s[0].toNat : Int) == 9) = true) := by
          rcases (bl_iff c).1 hb with h | h
          · left; rw [hat, h]; rfl
          · right; rw [hat, h]; exact ⟨rfl, rfl⟩
        clear hsl hbn hl0 hll hat hb
        rcases hcase with u1 | ⟨u1, u2⟩
        all_goals
          go_enter Tryd.func6, Tryd.ntmps6
          go_wp2_with fail
          refine (HS.out _).mono ?_
          rintro e w1 ⟨rfl, hb⟩
          have HB := Lib.hid hb
          clear hb
          go_wp2_with fail
          go_ret
          exact ⟨rfl, HB.out⟩
      · have hbf : bl c = false := by simpa using hb
        have u1 : ((s[0].toNat : Int) == 32) = false := by
          rw [hat]; refine nb c 32 (fun e => hb ((bl_iff c).2 (.inl e)))
        have u2 : ((s[0].toNat : Int) == 9) = false := by
          rw [hat]; refine nb c 9 (fun e => hb ((bl_iff c).2 (.inr e)))
        have hsk : skB l = l := by rw [hl0]; exact skB_cons_of hbf
        have HC1 := Lib.hid (fun W (hM : MaxI W) => cond_any l (by omega) W hM)
        have HC2 := Lib.hid (fun W (hM : MaxI W) => cond_any (33 :: l) (by simp; omega) W hM)
        have HC3 := Lib.hid (fun W (hM : MaxI W) => cond_any (33 :: 33 :: l) (by simp; omega) W hM)
        have H3 := cond3 l hll hsk
        have X1 := Lib.hid (show (⟨#[33]⟩ : ByteArray) ++ s = bs (33 :: l) by rw [hsl]; exact (cat33 l).1)
        have X2 := Lib.hid (show (⟨#[33, 33]⟩ : ByteArray) ++ s = bs (33 :: 33 :: l) by rw [hsl]; exact (cat33 l).2)
        have hs1 : (⟨#[33]⟩ : ByteArray).size + s.size ≤ 1000000 := by show 1 + _ ≤ _; omega
        have hs2 : (⟨#[33, 33]⟩ : ByteArray).size + s.size ≤ 1000000 := by show 2 + _ ≤ _; omega
        rw [← hsl] at HC1
        have HM := Lib.hid hM
        clear hsl hbn hl0 hll hat hb hbf hsk hM
        rcases H3 with ⟨k, hk, v1, v2, v3⟩ | ⟨nt, k, nm, lf, rt, rs, v1, v2, v3⟩
        · rw [v1] at HC1
          rw [v2] at HC2
          rw [v3] at HC3
          have hk0 : (k != 0) = true := by rcases hk with rfl | rfl <;> rfl
          have hkk : (k != k) = false := by simp
          clear hk v1 v2 v3
          unfold noC at HC1 HC2 HC3
          go_enter Tryd.func6, Tryd.ntmps6
          go_wp2_with fail
          refine (HC1.out _ HM.out).mono ?_
          rintro e w1 ⟨rfl, hb1⟩
          have HB1 := Lib.hid (hb1.trans ((bel0 w1 (.cells zC 33)).mono hb1.size))
          clear hb1
          go_wp2_with fail
          rw [X1.out]
          refine (HC2.out _ (HM.out.below HB1.out (Nat.le_refl _))).mono ?_
          rintro e w2 ⟨rfl, hb2⟩
          have HB2 := Lib.hid (HB1.out.trans ((hb2.trans ((bel0 w2 (.cells zC 33)).mono hb2.size)).mono HB1.out.size))
          clear hb2
          go_wp2_with fail
          rw [X2.out]
          refine (HC3.out _ (HM.out.below HB2.out (Nat.le_refl _))).mono ?_
          rintro e w3 ⟨rfl, hb3⟩
          have HB3 := Lib.hid (HB2.out.trans ((hb3.trans ((bel0 w3 (.cells zC 33)).mono hb3.size)).mono HB2.out.size))
          clear hb3
          go_wp2_with fail
          refine (HS.out _).mono ?_
          rintro e w4 ⟨rfl, hb4⟩
          have HB4 := Lib.hid (HB3.out.trans (hb4.mono HB3.out.size))
          clear hb4
          go_wp2_with fail
          go_ret
          exact ⟨rfl, HB4.out⟩
        · rw [v1] at HC1
          rw [v2] at HC2
          rw [v3] at HC3
          unfold okC at HC1 HC2 HC3
          obtain ⟨R, hR⟩ : ∃ R, R = bs (skB rs) := ⟨_, rfl⟩
          obtain ⟨kk, hkk⟩ : ∃ kk, kk = k.toNat := ⟨_, rfl⟩
          rw [← hR, ← hkk] at HC1 HC2 HC3
          have r1 : (R.toList == R.toList) = true := by simp
          have r2 : ((kk : Int) == (kk : Int)) = true := by simp
          have r3 : (nt != !nt) = true := by cases nt <;> rfl
          have r4 : (nt == nt) = true := by simp
          clear v1 v2 v3 hR hkk
          go_enter Tryd.func6, Tryd.ntmps6
          go_wp2_with fail
          refine (HC1.out _ HM.out).mono ?_
          rintro e w1 ⟨rfl, hb1⟩
          have HA1 := Lib.hid (heap_alloc_new w1 (.cells #[.bool nt, .int .u8 (kk : Int), .string (bs nm), .string (bs lf), .string (bs rt), .string R] 33))
          have HB1 := Lib.hid (hb1.trans ((bel0 w1 (.cells #[.bool nt, .int .u8 (kk : Int), .string (bs nm), .string (bs lf), .string (bs rt), .string R] 33)).mono hb1.size))
          clear hb1
          go_wp2_with fail
          rw [X1.out]
          refine (HC2.out _ (HM.out.below HB1.out (Nat.le_refl _))).mono ?_
          rintro e w2 ⟨rfl, hb2⟩
          have hbb := hb2.trans ((bel0 w2 (.cells #[.bool (!nt), .int .u8 (kk : Int), .string (bs nm), .string (bs lf), .string (bs rt), .string R] 33)).mono hb2.size)
          have HA1' := Lib.hid ((hbb.block w1.heap.size (Array.getElem?_eq_some_iff.1 HA1.out).1).trans HA1.out)
          have HA2 := Lib.hid (heap_alloc_new w2 (.cells #[.bool (!nt), .int .u8 (kk : Int), .string (bs nm), .string (bs lf), .string (bs rt), .string R] 33))
          have HB2 := Lib.hid (HB1.out.trans (hbb.mono HB1.out.size))
          clear hb2 hbb
          go_wp2_with fail
          rw [X2.out]
          refine (HC3.out _ (HM.out.below HB2.out (Nat.le_refl _))).mono ?_
          rintro e w3 ⟨rfl, hb3⟩
          have hbb := hb3.trans ((bel0 w3 (.cells #[.bool nt, .int .u8 (kk : Int), .string (bs nm), .string (bs lf), .string (bs rt), .string R] 33)).mono hb3.size)
          have HB3 := Lib.hid (HB2.out.trans (hbb.mono HB2.out.size))
          obtain ⟨⟨a0, a1, a2, a3, a4, a5⟩, _⟩ := blk6 ((hbb.block w1.heap.size (Array.getElem?_eq_some_iff.1 HA1'.out).1).trans HA1'.out)
          obtain ⟨⟨b0, b1, b2, b3, b4, b5⟩, _⟩ := blk6 ((hbb.block w2.heap.size (Array.getElem?_eq_some_iff.1 HA2.out).1).trans HA2.out)
          clear hb3 hbb
          go_wp2_with fail
          refine (HS.out _).mono ?_
          rintro e w4 ⟨rfl, hb4⟩
          have HB4 := Lib.hid (HB3.out.trans (hb4.mono HB3.out.size))
          clear hb4
          go_wp2_with fail
          go_ret
          exact ⟨rfl, HB4.out⟩
end Go.Proofs.YtnffmlfapccgkaaDoor
