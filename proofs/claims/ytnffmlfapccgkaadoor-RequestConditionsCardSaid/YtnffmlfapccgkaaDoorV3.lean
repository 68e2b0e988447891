/- The document's lines, control bytes, names. -/
import Derived.Test.YtnffmlfapccgkaaDoorV2
namespace Go.Proofs.YtnffmlfapccgkaaDoor
open Go.RowKit Go.Shelf
set_option maxRecDepth 100000
set_option linter.unusedSimpArgs false
set_option linter.unusedVariables false
/-- A line, as the statements have it. -/
def lnS (l : List UInt8) : Bool := l.all (fun c => !(c == 10)) && decide (l.length ≤ 2000)
def IlR (l : List UInt8) (k : Nat) (i : Value) : Prop := ∃ j : Nat, j ≤ l.length ∧ k + j = l.length ∧ i = .int .i64 (j : Int) ∧ (l.take j).all (fun c => !(c == 10)) = true
theorem isLine_any (s : ByteArray) (hs : s.size ≤ maxLen) (w : World) : Calls Tryd.prog 46 #[.string s] w fun e w' => e = .returned (.bool (lnS s.data.toList)) ∧ w = w' := by
  have hlen : s.data.toList.length = s.size := (sz_of s _ rfl).symm
  unfold maxLen at hs
  obtain ⟨l, hl⟩ : ∃ l, l = s.data.toList := ⟨_, rfl⟩
  rw [← hl] at hlen ⊢
  have HL := Lib.hid hl
  have HLEN := Lib.hid hlen
  clear hl hlen
  obtain ⟨R, hR⟩ : ∃ R, R = lnS l := ⟨_, rfl⟩
  rw [← hR]
  have HR := Lib.hid hR
  clear hR
  go_enter Tryd.func46, Tryd.ntmps46
  go_wp2_with fail
  go_loopg [3] l.length (fun k i wr => IlR l k i ∧ wr = w)
  case atStart => exact ⟨⟨0, Nat.zero_le _, rfl, rfl, rfl⟩, rfl⟩
  case round =>
    obtain ⟨⟨j, hj, hk, rfl, ha⟩, hw⟩ := hrel
    subst hw
    have HK := Lib.hid hk
    have HA := Lib.hid ha
    have HJ := Lib.hid hj
    have hjs : j ≤ s.size := by have := HLEN.out; omega
    clear hk ha hj
    by_cases hlt : j < s.size
    · have hjl : j < l.length := by have := HLEN.out; omega
      have HT := Lib.hid (show (l.take (j + 1)).all (fun c => !(c == 10)) = !(l[j] == 10) by rw [List.take_succ_eq_append_getElem hjl, List.all_append, HA.out]; simp)
      have HG := Lib.hid (show s[j] = l[j] from at_of s l HL.out.symm j hlt hjl)
      have d1 : decide (j < s.size) = true := decide_eq_true hlt
      by_cases h10 : l[j] = 10
      · have t1 : ((s[j].toNat : Int) == 10) = true := by rw [HG.out, h10]; rfl
        have HF := Lib.hid (show R = false by
          rw [HR.out]
          unfold lnS
          have : l.all (fun c => !(c == 10)) = false := by
            cases hq : l.all (fun c => !(c == 10)) with
            | false => rfl
            | true =>
              have := List.all_eq_true.1 hq _ (List.getElem_mem hjl)
              rw [h10] at this; cases this
          rw [this]; rfl)
        clear h10
        go_wp2_with fail
        go_ret
        rw [HF.out]
        exact ⟨rfl, rfl⟩
      · have t1 : ((s[j].toNat : Int) == 10) = false := by rw [HG.out]; exact nb _ 10 h10
        have HN := Lib.hid (show (l[j] == 10) = false by simpa using h10)
        clear h10
        go_wp2_with fail
        go_roundg (gk - 1)
        case measure => have := HK.out; omega
        case rel => exact ⟨⟨j + 1, by omega, by have := HK.out; omega, by go_num, by rw [HT.out, HN.out]; rfl⟩, rfl⟩
    · have hje : j = l.length := by have := HLEN.out; have := HJ.out; omega
      have d1 : decide (j < s.size) = false := decide_eq_false hlt
      have HF := Lib.hid (show R = decide ((s.size : Int) ≤ 2000) by
        have ha := HA.out
        rw [hje, List.take_length] at ha
        rw [HR.out]
        unfold lnS
        rw [ha, HLEN.out, Bool.true_and]
        simp only [decide_eq_decide]
        omega)
      clear hje
      go_wp2_with fail
      go_ret
      rw [HF.out]
      exact ⟨rfl, rfl⟩
theorem ln_ok (l : List UInt8) : lnS l = okTx l := by
  unfold lnS okTx
  rw [Bool.and_comm]
  congr 1
  cases h : decide (0 ≤ Lib.indexByte l 10) with
  | true =>
    have h1 := of_decide_eq_true h
    obtain ⟨k, hk⟩ : ∃ k : Nat, Lib.indexByte l 10 = k := ⟨(Lib.indexByte l 10).toNat, by omega⟩
    have h2 := (Lib.indexByte_some hk).1
    cases hq : l.all (fun c => !(c == 10)) with
    | false => rfl
    | true =>
      have h3 := List.all_eq_true.1 hq 10 (List.mem_of_getElem? h2)
      cases h3
  | false =>
    have h1 := of_decide_eq_false h
    have h2 := Lib.indexByte_ge l 10
    have h3 : Lib.indexByte l 10 = -1 := by omega
    refine List.all_eq_true.2 fun c hc => ?_
    obtain ⟨k, hk⟩ := List.getElem?_of_mem hc
    have : c ≠ 10 := fun e => Lib.indexByte_none h3 k (by rw [hk, e])
    simpa using this
theorem rIsLine_any (s : ByteArray) (hs : s.size ≤ maxLen) (w : World) : Calls Tryd.prog 46 #[.string s] w fun e w' => e = .returned (.bool (okTx s.data.toList)) ∧ w = w' := by
  rw [← ln_ok]; exact isLine_any s hs w
def leS (c : UInt8) : Bool := decide ((97 ≤ c.toNat ∧ c.toNat ≤ 122) ∨ (65 ≤ c.toNat ∧ c.toNat ≤ 90))
def dgS (c : UInt8) : Bool := decide (48 ≤ c.toNat ∧ c.toNat ≤ 57)
theorem rletter_any (c : UInt8) (w : World) : Calls Tryd.prog 66 #[.int .u8 (c.toNat : Int)] w fun e w' => e = .returned (.bool (leS c)) ∧ w = w' := by
  have hc := c.toNat_lt
  unfold leS
  obtain ⟨k, hk⟩ : ∃ k, k = c.toNat := ⟨_, rfl⟩
  rw [← hk] at hc ⊢
  clear hk
  go_enter Tryd.func66, Tryd.ntmps66
  go_wp2
  all_goals
    go_ret
    refine ⟨congrArg (fun b => Ending.returned (Value.bool b)) ?_, rfl⟩
    rw [Bool.eq_iff_iff]
    simp only [Bool.or_eq_true, Bool.and_eq_true, decide_eq_true_eq, Bool.false_eq_true, Bool.false_or, Bool.true_or, Bool.false_and, Bool.true_and, eq_self, true_iff, iff_true, false_iff, iff_false]
    omega
theorem rdigit_any (c : UInt8) (w : World) : Calls Tryd.prog 67 #[.int .u8 (c.toNat : Int)] w fun e w' => e = .returned (.bool (dgS c)) ∧ w = w' := by
  have hc := c.toNat_lt
  unfold dgS
  obtain ⟨k, hk⟩ : ∃ k, k = c.toNat := ⟨_, rfl⟩
  rw [← hk] at hc ⊢
  clear hk
  go_enter Tryd.func67, Tryd.ntmps67
  go_wp2
  all_goals
    go_ret
    refine ⟨congrArg (fun b => Ending.returned (Value.bool b)) ?_, rfl⟩
    rw [Bool.eq_iff_iff]
    simp only [Bool.or_eq_true, Bool.and_eq_true, decide_eq_true_eq, Bool.false_eq_true, Bool.false_or, Bool.true_or, Bool.false_and, Bool.true_and, eq_self, true_iff, iff_true, false_iff, iff_false]
    omega
theorem ld_eq (c : UInt8) : ld c = (leS c || dgS c) := by
  unfold ld leS dgS
  rw [Bool.eq_iff_iff]
  simp only [Bool.or_eq_true, decide_eq_true_eq]
  omega
theorem rIsControl_any (c : UInt8) (w : World) : Calls Tryd.prog 47 #[.int .u8 (c.toNat : Int)] w fun e w' => e = .returned (.bool (cc c)) ∧ w = w' := by
  have HL := Lib.hid (fun W => rletter_any c W)
  have HD := Lib.hid (fun W => rdigit_any c W)
  have HB := Lib.hid (fun W => rblank_any c W)
  have h92 : ((c.toNat : Int) != 92) = !(c == 92) := ne_u8 c 92
  unfold cc
  rw [ld_eq]
  obtain ⟨k, hk⟩ : ∃ k, k = c.toNat := ⟨_, rfl⟩
  rw [← hk] at HL HB HD h92 ⊢
  obtain ⟨x, hx⟩ : ∃ x, x = (c == 92) := ⟨_, rfl⟩
  rw [← hx] at h92 ⊢
  obtain ⟨a, ha⟩ : ∃ x, x = leS c := ⟨_, rfl⟩
  obtain ⟨d, hd⟩ : ∃ x, x = dgS c := ⟨_, rfl⟩
  obtain ⟨b, hb⟩ : ∃ x, x = bl c := ⟨_, rfl⟩
  rw [← ha] at HL ⊢
  rw [← hd] at HD ⊢
  rw [← hb] at HB ⊢
  clear hk hx ha hd hb
  cases a
  · cases d
    · cases b
      · cases x
        all_goals
          go_enter Tryd.func47, Tryd.ntmps47
          go_wp2_with fail
          refine (HL.out _).mono ?_
          rintro e w1 ⟨rfl, rfl⟩
          go_wp2_with fail
          refine (HD.out _).mono ?_
          rintro e w1 ⟨rfl, rfl⟩
          go_wp2_with fail
          refine (HB.out _).mono ?_
          rintro e w1 ⟨rfl, rfl⟩
          go_wp2_with fail
          go_ret
          exact ⟨rfl, rfl⟩
      · go_enter Tryd.func47, Tryd.ntmps47
        go_wp2_with fail
        refine (HL.out _).mono ?_
        rintro e w1 ⟨rfl, rfl⟩
        go_wp2_with fail
        refine (HD.out _).mono ?_
        rintro e w1 ⟨rfl, rfl⟩
        go_wp2_with fail
        refine (HB.out _).mono ?_
        rintro e w1 ⟨rfl, rfl⟩
        go_wp2_with fail
        go_ret
        exact ⟨rfl, rfl⟩
    · go_enter Tryd.func47, Tryd.ntmps47
      go_wp2_with fail
      refine (HL.out _).mono ?_
      rintro e w1 ⟨rfl, rfl⟩
      go_wp2_with fail
      refine (HD.out _).mono ?_
      rintro e w1 ⟨rfl, rfl⟩
      go_wp2_with fail
      go_ret
      exact ⟨rfl, rfl⟩
  · go_enter Tryd.func47, Tryd.ntmps47
    go_wp2_with fail
    refine (HL.out _).mono ?_
    rintro e w1 ⟨rfl, rfl⟩
    go_wp2_with fail
    go_ret
    exact ⟨rfl, rfl⟩
theorem cutB_step (l : List UInt8) (j : Nat) (c : UInt8) (hc : l[j]? = some c) (h : bl c = false) : cutB (l.drop j) = (c :: (cutB (l.drop (j + 1))).1, (cutB (l.drop (j + 1))).2) := by
  rw [drop_of hc]
  conv => lhs; unfold cutB
  rw [if_neg (by rw [h]; simp)]
theorem cutB_stop (l : List UInt8) (j : Nat) (h : ∀ c, l[j]? = some c → bl c = true) : cutB (l.drop j) = ([], l.drop (j + 1)) := by
  cases hc : l[j]? with
  | none =>
    have := List.getElem?_eq_none_iff.1 hc
    rw [List.drop_eq_nil_of_le this, List.drop_eq_nil_of_le (by omega)]; rfl
  | some c =>
    rw [drop_of hc]
    conv => lhs; unfold cutB
    rw [if_pos (h c hc)]
theorem rword_any (l : List UInt8) (a : Nat) (ha : a ≤ l.length) (hl : l.length ≤ 1000000) (w : World) : Calls Tryd.prog 43 #[.string (bs l), .int .i64 (a : Int)] w fun e w' => ∃ p : Nat, e = .returned (.int .i64 (p : Int)) ∧ a ≤ p ∧ p ≤ l.length ∧ cutB (l.drop a) = (seg l a p, l.drop (p + 1)) ∧ w = w' := by
  have HSZ := Lib.hid (bs_size l)
  go_enter Tryd.func43, Tryd.ntmps43
  go_wp2_with fail
  go_loopg [1] l.length (fun k x wr => (∃ j : Nat, l.length ≤ j + k ∧ a ≤ j ∧ j ≤ l.length ∧ x = .int .i64 (j : Int) ∧ cutB (l.drop a) = (seg l a j ++ (cutB (l.drop j)).1, (cutB (l.drop j)).2)) ∧ wr = w)
  case atStart => exact ⟨⟨a, by omega, Nat.le_refl _, ha, rfl, by rw [seg_self]; rfl⟩, rfl⟩
  case round =>
    obtain ⟨⟨j, hk, haj, hj, rfl, hs⟩, hw⟩ := hrel
    subst hw
    have HK := Lib.hid hk
    have HS := Lib.hid hs
    clear hk hs
    by_cases hlt : j < l.length
    · obtain ⟨c, hc⟩ := some_of l j hlt
      have hjs : j < (bs l).size := by rw [HSZ.out]; exact hlt
      have d1 : decide (j < (bs l).size) = true := decide_eq_true hjs
      have HB := Lib.hid (fun W => rblank_any c W)
      rw [← bs_at hc hjs] at HB
      cases hb : bl c with
      | false =>
        rw [bs_at hc hjs, hb, ← bs_at hc hjs] at HB
        have HN := Lib.hid (show cutB (l.drop a) = (seg l a (j + 1) ++ (cutB (l.drop (j + 1))).1, (cutB (l.drop (j + 1))).2) by
          rw [HS.out, cutB_step l j c hc hb, ← seg_app l a j (j + 1) haj (by omega) (by omega)]
          rw [show seg l j (j + 1) = [c] from take_of hc]; simp)
        clear hc hb
        go_wp2_with fail
        refine (HB.out _).mono ?_
        rintro e w1 ⟨rfl, rfl⟩
        go_wp2_with fail
        go_roundg (gk - 1)
        case measure => have := HK.out; omega
        case rel => exact ⟨⟨j + 1, by have := HK.out; omega, by omega, by omega, by go_num, HN.out⟩, rfl⟩
      | true =>
        rw [bs_at hc hjs, hb, ← bs_at hc hjs] at HB
        have HN := Lib.hid (show cutB (l.drop a) = (seg l a j, l.drop (j + 1)) by
          rw [HS.out, cutB_stop l j (fun d hd => by rw [hc] at hd; cases hd; exact hb)]; simp)
        clear hc hb
        go_wp2_with fail
        refine (HB.out _).mono ?_
        rintro e w1 ⟨rfl, rfl⟩
        go_wp2_with fail
        go_ret
        exact ⟨j, rfl, haj, hj, HN.out, rfl⟩
    · have d1 : decide (j < (bs l).size) = false := decide_eq_false (by rw [HSZ.out]; exact hlt)
      have HN := Lib.hid (show cutB (l.drop a) = (seg l a j, l.drop (j + 1)) by
        rw [HS.out, cutB_stop l j (fun d hd => by have := lt_of_some hd; omega)]; simp)
      go_wp2_with fail
      go_ret
      exact ⟨j, rfl, haj, hj, HN.out, rfl⟩
theorem rreq_end {F : Func} {a : Act} {W' : World} {t u v g : Nat} {c0 c1 c2 c3 x y : Value} {Q : Ending → World → Prop} (hF : F.results = #[.cell t 48, .tmp u, .tmp v]) (hd : a.defers = []) (h2 : a.tmps.getD t undef = .pointer (some ⟨g, 0, none⟩)) (h3 : a.tmps.getD u undef = x) (h4 : a.tmps.getD v undef = y)
    (e0 : W'.cell? ⟨g, 0, none⟩ = some c0) (e1 : W'.cell? ⟨g, 1, none⟩ = some c1) (e2 : W'.cell? ⟨g, 2, none⟩ = some c2) (e3 : W'.cell? ⟨g, 3, none⟩ = some c3) (hQ : Q (.returned (.tuple #[.agg #[c0, c1, c2, c3], x, y])) W') : bodyPost Tryd.prog F Q Exit.ret a W' := by
  have h2' : a.tmps[t]?.getD undef = .pointer (some ⟨g, 0, none⟩) := by simpa using h2
  have h3' : a.tmps[u]?.getD undef = x := by simpa using h3
  have h4' : a.tmps[v]?.getD undef = y := by simpa using h4
  refine bodyPost_ret (v := .tuple #[.agg #[c0, c1, c2, c3], x, y]) ?_ hd hQ
  simp [results, hF, h2', h3', h4', go_sem, e0, e1, e2, e3]
end Go.Proofs.YtnffmlfapccgkaaDoor
