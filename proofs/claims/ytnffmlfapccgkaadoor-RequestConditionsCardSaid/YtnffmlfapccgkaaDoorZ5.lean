/- The document's conditions: quotes, places. -/
import Derived.Test.YtnffmlfapccgkaaDoorZ4
namespace Go.Proofs.YtnffmlfapccgkaaDoor
open Go.RowKit Go.Shelf
set_option maxRecDepth 100000
set_option linter.unusedSimpArgs false
set_option linter.unusedVariables false
def inO (c : UInt8) : Bool := ([40, 43, 45, 46, 124, 33] : List UInt8).contains c
def qS (c : UInt8) : Bool := !(leS c || dgS c || bl c || c == 92) && !inO c
abbrev oth : ByteArray := ⟨#[40, 43, 45, 46, 124, 33]⟩
theorem inO_at (c : UInt8) (j : Nat) (hj : j < 6) : (oth[j]'hj) = ([40, 43, 45, 46, 124, 33] : List UInt8)[j]'hj := rfl
theorem inO_of (c : UInt8) (h : inO c = true) : ∃ j, ∃ hj : j < 6, oth[j]'hj = c := by
  unfold inO at h
  rw [List.contains_iff_mem] at h
  obtain ⟨j, hj, he⟩ := List.mem_iff_getElem.1 h
  exact ⟨j, hj, he⟩
theorem inO_no (c : UInt8) (h : inO c = false) (j : Nat) (hj : j < 6) : oth[j]'hj ≠ c := by
  intro e
  have : inO c = true := by
    unfold inO
    rw [List.contains_iff_mem]
    exact List.mem_iff_getElem.2 ⟨j, hj, e⟩
  rw [this] at h; cases h
set_option maxHeartbeats 2000000 in
theorem rquotes_any (c : UInt8) (w : World) : Calls Tryd.prog 52 #[.int .u8 (c.toNat : Int)] w fun e w' => e = .returned (.bool (qS c)) ∧ w = w' := by
  have HL := Lib.hid (fun W => rletter_any c W)
  have HD := Lib.hid (fun W => rdigit_any c W)
  have HB := Lib.hid (fun W => rblank_any c W)
  have h92 : ((c.toNat : Int) == 92) = (c == 92) := eq_u8 c 92
  have HEQ : Hid (∀ (j : Nat) (hj : j < 6), (((oth[j]'hj).toNat : Int) == (c.toNat : Int)) = (oth[j]'hj == c)) := Lib.hid fun j hj => eq_u8 _ _
  have hOf := Lib.hid (inO_of c)
  have hNo := Lib.hid (inO_no c)
  unfold qS
  obtain ⟨k, hk⟩ : ∃ k, k = c.toNat := ⟨_, rfl⟩
  rw [← hk] at HL HB HD h92 HEQ ⊢
  obtain ⟨x, hx⟩ : ∃ x, x = (c == 92) := ⟨_, rfl⟩
  rw [← hx] at h92 ⊢
  obtain ⟨a, ha⟩ : ∃ x, x = leS c := ⟨_, rfl⟩
  obtain ⟨d, hd⟩ : ∃ x, x = dgS c := ⟨_, rfl⟩
  obtain ⟨b, hb⟩ : ∃ x, x = bl c := ⟨_, rfl⟩
  obtain ⟨o, ho⟩ : ∃ x, x = inO c := ⟨_, rfl⟩
  rw [← ha] at HL ⊢
  rw [← hd] at HD ⊢
  rw [← hb] at HB ⊢
  rw [← ho] at hOf hNo ⊢
  clear hk hx ha hd hb ho
  cases a
  case true =>
    go_enter Tryd.func52, Tryd.ntmps52
    go_wp2_with fail
    refine (HL.out _).mono ?_
    rintro e w1 ⟨rfl, rfl⟩
    go_wp2_with fail
    go_ret
    exact ⟨rfl, rfl⟩
  cases d
  case true =>
    go_enter Tryd.func52, Tryd.ntmps52
    go_wp2_with fail
    refine (HL.out _).mono ?_
    rintro e w1 ⟨rfl, rfl⟩
    go_wp2_with fail
    refine (HD.out _).mono ?_
    rintro e w1 ⟨rfl, rfl⟩
    go_wp2_with fail
    go_ret
    exact ⟨rfl, rfl⟩
  cases b
  case true =>
    go_enter Tryd.func52, Tryd.ntmps52
    go_wp2_with fail
    refine (HL.out _).mono ?_
    rintro e w1 ⟨rfl, rfl⟩
    go_wp2_with fail
    refine (HD.out _).mono ?_
    rintro e w1 ⟨rfl, rfl⟩
    go_wp2_with fail
    refine (HB.out _).mono ?_
    rintro e w1 ⟨rfl, rfl⟩
    go_wp2_with fail
    go_ret
    exact ⟨rfl, rfl⟩
  cases x
  case true =>
    go_enter Tryd.func52, Tryd.ntmps52
    go_wp2_with fail
    refine (HL.out _).mono ?_
    rintro e w1 ⟨rfl, rfl⟩
    go_wp2_with fail
    refine (HD.out _).mono ?_
    rintro e w1 ⟨rfl, rfl⟩
    go_wp2_with fail
    refine (HB.out _).mono ?_
    rintro e w1 ⟨rfl, rfl⟩
    go_wp2_with fail
    go_ret
    exact ⟨rfl, rfl⟩
  case false =>
    go_enter Tryd.func52, Tryd.ntmps52
    go_wp2_with fail
    refine (HL.out _).mono ?_
    rintro e w1 ⟨rfl, rfl⟩
    go_wp2_with fail
    refine (HD.out _).mono ?_
    rintro e w1 ⟨rfl, rfl⟩
    go_wp2_with fail
    refine (HB.out _).mono ?_
    rintro e w1 ⟨rfl, rfl⟩
    go_wp2_with fail
    go_loopg [4] 6 (fun q i wr => (∃ j : Nat, q + j = 6 ∧ i = .int .i64 (j : Int) ∧ ∀ m (hm : m < 6), m < j → oth[m]'hm ≠ c) ∧ wr = w)
    case atStart => exact ⟨⟨0, rfl, rfl, fun m _ h => absurd h (Nat.not_lt_zero _)⟩, rfl⟩
    case round =>
      obtain ⟨⟨j, hk, rfl, hn⟩, hw⟩ := hrel
      subst hw
      have HK := Lib.hid hk
      have HN := Lib.hid hn
      clear hk hn
      by_cases hj : j < 6
      · have d1 : decide ((j : Int) < 6) = true := decide_eq_true (by omega)
        have d1n : decide (j < 6) = true := decide_eq_true hj
        have hjz : j < oth.size := hj
        have hq := HEQ.out j hj
        by_cases he : oth[j]'hj = c
        · have t1 : (((oth[j]'hjz).toNat : Int) == (k : Int)) = true := by rw [hq]; simpa using he
          have HO := Lib.hid (show o = true by
            cases o with
            | true => rfl
            | false => exact absurd he (hNo.out rfl j hj))
          clear hq he
          go_wp2_with fail
          go_ret
          rw [HO.out]
          exact ⟨rfl, rfl⟩
        · have t1 : (((oth[j]'hjz).toNat : Int) == (k : Int)) = false := by rw [hq]; simpa using he
          have HE := Lib.hid he
          clear hq he
          go_wp2_with fail
          go_roundg (gk - 1)
          case measure => have := HK.out; omega
          case rel => exact ⟨⟨j + 1, by have := HK.out; omega, by go_num, fun m hm h => by
              by_cases e : m = j
              · subst e; exact HE.out
              · exact HN.out m hm (by omega)⟩, rfl⟩
      · have d1 : decide ((j : Int) < 6) = false := decide_eq_false (by omega)
        have d1n : decide (j < 6) = false := decide_eq_false hj
        have HO := Lib.hid (show o = false by
          cases o with
          | false => rfl
          | true =>
            obtain ⟨m, hm, he⟩ := hOf.out rfl
            exact absurd he (HN.out m hm (by omega)))
        go_wp2_with fail
        go_ret
        rw [HO.out]
        exact ⟨rfl, rfl⟩
theorem cutC_step (c : UInt8) (l : List UInt8) (j : Nat) (a : UInt8) (h : l[j]? = some a) (hne : a ≠ c) : cutC c (l.drop j) = match cutC c (l.drop (j + 1)) with
    | none => none
    | some (x, y) => some (a :: x, y) := by
  rw [drop_of h]
  conv => lhs; unfold cutC
  rw [if_neg hne]
  cases cutC c (l.drop (j + 1)) <;> rfl
theorem cutC_hit (c : UInt8) (l : List UInt8) (j : Nat) (h : l[j]? = some c) : cutC c (l.drop j) = some ([], l.drop (j + 1)) := by
  rw [drop_of h]
  conv => lhs; unfold cutC
  rw [if_pos rfl]
def ToR (c : UInt8) (l : List UInt8) (a k : Nat) (x : Value) : Prop := ∃ j : Nat, l.length ≤ j + k ∧ a ≤ j ∧ j ≤ l.length ∧ x = .int .i64 (j : Int) ∧ cutC c (l.drop a) = match cutC c (l.drop j) with
    | none => none
    | some (x, y) => some (seg l a j ++ x, y)
/-- What the place of a byte tells. -/
def ToP (c : UInt8) (l : List UInt8) (a : Nat) (e : Ending) : Prop := (e = .returned (.int .i64 (-1)) ∧ cutC c (l.drop a) = none) ∨ ∃ p : Nat, e = .returned (.int .i64 (p : Int)) ∧ a ≤ p ∧ p < l.length ∧ cutC c (l.drop a) = some (seg l a p, l.drop (p + 1))
set_option maxHeartbeats 2000000 in
theorem rto_any (c : UInt8) (l : List UInt8) (a : Nat) (ha : a ≤ l.length) (hl : l.length ≤ 100000) (w : World) : Calls Tryd.prog 44 #[.string (bs l), .int .i64 (a : Int), .int .u8 (c.toNat : Int)] w fun e w' => ToP c l a e ∧ w = w' := by
  have HSZ := Lib.hid (bs_size l)
  obtain ⟨kc, hkc⟩ : ∃ k, k = c.toNat := ⟨_, rfl⟩
  have HKC := Lib.hid hkc
  rw [← hkc]
  clear hkc
  go_enter Tryd.func44, Tryd.ntmps44
  go_wp2_with fail
  go_loopg [1] l.length (fun k x wr => ToR c l a k x ∧ wr = w)
  case atStart => exact ⟨⟨a, by omega, Nat.le_refl _, ha, rfl, by
    rw [seg_self]
    cases cutC c (l.drop a) with
    | none => rfl
    | some p => rfl⟩, rfl⟩
  case round =>
    obtain ⟨⟨j, hk, haj, hj, rfl, hs⟩, hw⟩ := hrel
    subst hw
    have HK := Lib.hid hk
    have HS := Lib.hid hs
    clear hk hs
    by_cases hlt : j < l.length
    · obtain ⟨b, hb⟩ := some_of l j hlt
      have hjs : j < (bs l).size := by rw [HSZ.out]; exact hlt
      have d1 : decide (j < (bs l).size) = true := decide_eq_true hjs
      have hat := bs_at hb hjs
      by_cases he : b = c
      · have t1 : (((bs l)[j].toNat : Int) == (kc : Int)) = true := by rw [hat, he, HKC.out]; simp
        have HF := Lib.hid (show cutC c (l.drop a) = some (seg l a j, l.drop (j + 1)) by rw [HS.out, cutC_hit c l j (by rw [hb, he])]; simp)
        clear hb he hat
        go_wp2_with fail
        go_ret
        exact ⟨.inr ⟨j, rfl, haj, hlt, HF.out⟩, rfl⟩
      · have t1 : (((bs l)[j].toNat : Int) == (kc : Int)) = false := by rw [hat, HKC.out]; exact nb b c he
        have HF := Lib.hid (show cutC c (l.drop a) = match cutC c (l.drop (j + 1)) with | none => none | some (x, y) => some (seg l a (j + 1) ++ x, y) by
          rw [HS.out, cutC_step c l j b hb he]
          cases cutC c (l.drop (j + 1)) with
          | none => rfl
          | some p =>
            obtain ⟨x, y⟩ := p
            dsimp only
            rw [← seg_app l a j (j + 1) haj (by omega) (by omega), show seg l j (j + 1) = [b] from take_of hb]; simp)
        clear hb he hat
        go_wp2_with fail
        go_roundg (gk - 1)
        case measure => have := HK.out; omega
        case rel => exact ⟨⟨j + 1, by have := HK.out; omega, by omega, by omega, by go_num, HF.out⟩, rfl⟩
    · have d1 : decide (j < (bs l).size) = false := decide_eq_false (by rw [HSZ.out]; exact hlt)
      have HF := Lib.hid (show cutC c (l.drop a) = none by rw [HS.out, List.drop_eq_nil_of_le (show l.length ≤ j by omega)]; rfl)
      go_wp2_with fail
      go_ret
      exact ⟨.inl ⟨rfl, HF.out⟩, rfl⟩
theorem cutB_blank : ∀ (l : List UInt8), (cutB l).1.length < l.length → ∃ b, l[(cutB l).1.length]? = some b ∧ bl b = true
  | [], h => absurd h (Nat.not_lt_zero _)
  | c :: t, h => by
    unfold cutB at h ⊢
    cases hb : bl c with
    | true => exact ⟨c, by simp, hb⟩
    | false =>
      rw [hb] at h
      simp only [Bool.false_eq_true, if_false, List.length_cons, List.getElem?_cons_succ] at h ⊢
      exact cutB_blank t (by omega)
/-- Behind a word. -/
theorem word_behind (l : List UInt8) (a p : Nat) (hap : a ≤ p) (hp : p ≤ l.length) (h : cutB (l.drop a) = (seg l a p, l.drop (p + 1))) : skB (l.drop p) = skB (l.drop (p + 1)) := by
  by_cases hlt : p < l.length
  · have h1 : (cutB (l.drop a)).1.length = p - a := by rw [h]; exact seg_len l a p hp
    obtain ⟨b, hb, hbl⟩ := cutB_blank (l.drop a) (by rw [h1, List.length_drop]; omega)
    rw [h1, List.getElem?_drop, show a + (p - a) = p by omega] at hb
    exact skB_drop l p b hb hbl
  · rw [List.drop_eq_nil_of_le (by omega), List.drop_eq_nil_of_le (by omega)]
end Go.Proofs.YtnffmlfapccgkaaDoor
