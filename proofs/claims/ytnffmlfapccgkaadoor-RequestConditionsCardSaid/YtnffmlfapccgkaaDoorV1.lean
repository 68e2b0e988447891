/- The document's blanks, words and tails. -/
import Derived.Test.YtnffmlfapccgkaaDoorW7
namespace Go.Proofs.YtnffmlfapccgkaaDoor
open Go.RowKit Go.Shelf
set_option maxRecDepth 100000
set_option linter.unusedSimpArgs false
set_option linter.unusedVariables false
theorem rblank_any (c : UInt8) (w : World) : Calls Tryd.prog 51 #[.int .u8 (c.toNat : Int)] w fun e w' => e = .returned (.bool (bl c)) ∧ w = w' := by
  have h32 : ((c.toNat : Int) == 32) = (c == 32) := eq_u8 c 32
  have h9 : ((c.toNat : Int) == 9) = (c == 9) := eq_u8 c 9
  unfold bl
  obtain ⟨k, hk⟩ : ∃ k, k = c.toNat := ⟨_, rfl⟩
  rw [← hk] at h32 h9 ⊢
  obtain ⟨x, hx⟩ : ∃ x, x = (c == 32) := ⟨_, rfl⟩
  obtain ⟨y, hy⟩ : ∃ y, y = (c == 9) := ⟨_, rfl⟩
  rw [← hx] at h32 ⊢
  rw [← hy] at h9 ⊢
  clear hk hx hy
  cases x <;> cases y
  all_goals
    go_enter Tryd.func51, Tryd.ntmps51
    go_wp2_with fail
    go_ret
    exact ⟨rfl, rfl⟩
theorem skB_drop (l : List UInt8) (j : Nat) (c : UInt8) (hc : l[j]? = some c) (h : bl c = true) : skB (l.drop j) = skB (l.drop (j + 1)) := by
  rw [drop_of hc, skB_cons_bl h]
theorem skB_stop (l : List UInt8) (j : Nat) (h : ∀ c, l[j]? = some c → bl c = false) : skB (l.drop j) = l.drop j := by
  cases hc : l[j]? with
  | none => rw [List.drop_eq_nil_of_le (List.getElem?_eq_none_iff.1 hc)]; rfl
  | some c => rw [drop_of hc, skB_cons_of (h c hc)]
theorem rskip_any (l : List UInt8) (a : Nat) (ha : a ≤ l.length) (hl : l.length ≤ 1000000) (w : World) : Calls Tryd.prog 25 #[.string (bs l), .int .i64 (a : Int)] w fun e w' => ∃ p : Nat, e = .returned (.int .i64 (p : Int)) ∧ a ≤ p ∧ p ≤ l.length ∧ l.drop p = skB (l.drop a) ∧ w = w' := by
  have HSZ := Lib.hid (bs_size l)
  go_enter Tryd.func25, Tryd.ntmps25
  go_wp2_with fail
  go_loopg [1] l.length (fun k x wr => (∃ j : Nat, l.length ≤ j + k ∧ a ≤ j ∧ j ≤ l.length ∧ x = .int .i64 (j : Int) ∧ skB (l.drop a) = skB (l.drop j)) ∧ wr = w)
  case atStart => exact ⟨⟨a, by omega, Nat.le_refl _, ha, rfl, rfl⟩, rfl⟩
  case round =>
    obtain ⟨⟨j, hk, haj, hj, rfl, hs⟩, hw⟩ := hrel
    subst hw
    have HK := Lib.hid hk
    have HS := Lib.hid hs
    clear hk hs
    by_cases hlt : j < l.length
    · obtain ⟨c, hc⟩ := some_of l j hlt
      have hjs : j < (bs l).size := by rw [HSZ.out]; exact hlt
      have d1 : decide (j < (bs l).size) = true := decide_eq_true hjs
      have HB := Lib.hid (fun W => rblank_any c W)
      rw [← bs_at hc hjs] at HB
      cases hb : bl c with
      | true =>
        rw [bs_at hc hjs, hb, ← bs_at hc hjs] at HB
        have HN := Lib.hid (skB_drop l j c hc hb)
        clear hc hb
        go_wp2_with fail
        refine (HB.out _).mono ?_
        rintro e w1 ⟨rfl, rfl⟩
        go_wp2_with fail
        go_roundg (gk - 1)
        case measure => have := HK.out; omega
        case rel => exact ⟨⟨j + 1, by have := HK.out; omega, by omega, by omega, by go_num, by rw [HS.out, HN.out]⟩, rfl⟩
      | false =>
        rw [bs_at hc hjs, hb, ← bs_at hc hjs] at HB
        have HN := Lib.hid (skB_stop l j (fun d hd => by rw [hc] at hd; cases hd; exact hb))
        clear hc hb
        go_wp2_with fail
        refine (HB.out _).mono ?_
        rintro e w1 ⟨rfl, rfl⟩
        go_wp2_with fail
        go_ret
        exact ⟨j, rfl, haj, hj, by rw [HS.out, HN.out], rfl⟩
    · have d1 : decide (j < (bs l).size) = false := decide_eq_false (by rw [HSZ.out]; exact hlt)
      have HN := Lib.hid (skB_stop l j (fun d hd => by have := lt_of_some hd; omega))
      go_wp2_with fail
      go_ret
      exact ⟨j, rfl, haj, hj, by rw [HS.out, HN.out], rfl⟩
/-- Bytes from one place up to another. -/
def seg (l : List UInt8) (a b : Nat) : List UInt8 := (l.take b).drop a
theorem seg_app (l : List UInt8) (a b c : Nat) (h1 : a ≤ b) (h2 : b ≤ c) (h3 : c ≤ l.length) : seg l a b ++ seg l b c = seg l a c := by
  unfold seg
  have e : l.take b = (l.take c).take b := by rw [List.take_take, Nat.min_eq_left h2]
  rw [e, ← List.drop_append_of_le_length (by rw [List.length_take, List.length_take]; omega), List.take_append_drop]
theorem seg_len (l : List UInt8) (a b : Nat) (h : b ≤ l.length) : (seg l a b).length = b - a := by unfold seg; rw [List.length_drop, List.length_take]; omega
theorem seg_self (l : List UInt8) (a : Nat) : seg l a a = [] := by unfold seg; exact List.drop_eq_nil_of_le (by rw [List.length_take]; omega)
theorem bs_app (a b : List UInt8) : bs a ++ bs b = bs (a ++ b) := by apply ByteArray.ext; rw [ByteArray.data_append]; simp [bs]
theorem bs_seg (l : List UInt8) (a b : Nat) (h : b ≤ l.length) : (bs l).extract a b = bs (seg l a b) := by rw [bs_ext _ _ _ (by rw [bs_size]; exact h), bs_list]; rfl
theorem tn_end (l : List UInt8) (a : Nat) (ha : a ≤ l.length) : a + tn (l.drop a) ≤ l.length := by
  have := tn_le (l.drop a)
  rw [List.length_drop] at this
  omega
def TlR (l : List UInt8) (a k : Nat) (x o : Value) : Prop := ∃ j : Nat, l.length ≤ j + k ∧ a ≤ j ∧ j ≤ l.length ∧ x = .int .i64 (j : Int) ∧ o = .string (bs (seg l a j)) ∧ a + tn (l.drop a) = j + tn (l.drop j)
set_option maxHeartbeats 2000000 in
theorem rtail_any (l : List UInt8) (a : Nat) (ha : a ≤ l.length) (hl : l.length ≤ 100000) (w : World) : Calls Tryd.prog 26 #[.string (bs l), .int .i64 (a : Int)] w fun e w' => e = .returned (.tuple #[.string (bs (seg l a (a + tn (l.drop a)))), .int .i64 ((a + tn (l.drop a) : Nat) : Int)]) ∧ w = w' := by
  have HSZ := Lib.hid (bs_size l)
  obtain ⟨T, hT⟩ : ∃ T, T = a + tn (l.drop a) := ⟨_, rfl⟩
  rw [← hT]
  have HT := Lib.hid hT
  clear hT
  go_enter Tryd.func26, Tryd.ntmps26
  go_wp2_with fail
  go_loopg [1, 6] l.length (fun k x o wr => TlR l a k x o ∧ wr = w)
  case atStart => exact ⟨⟨a, by omega, Nat.le_refl _, ha, rfl, by rw [seg_self]; rfl, rfl⟩, rfl⟩
  case round =>
    obtain ⟨⟨j, hk, haj, hj, rfl, rfl, hs⟩, hw⟩ := hrel
    subst hw
    have HK := Lib.hid hk
    have HS := Lib.hid hs
    clear hk hs
    by_cases hgo : ∃ c, l[j]? = some c ∧ bl c = false
    · obtain ⟨c, hc, hbl⟩ := hgo
      have hlt := lt_of_some hc
      have hjs : j < (bs l).size := by rw [HSZ.out]; exact hlt
      have d1 : decide (j < (bs l).size) = true := decide_eq_true hjs
      have hat := bs_at hc hjs
      have HB := Lib.hid (fun W => rblank_any c W)
      rw [hbl, ← hat] at HB
      have HN := Lib.hid (tn_step l j c hc hbl)
      have hb := bh_le l j hlt
      have hbo := bh_of hc
      obtain ⟨q, hq⟩ : ∃ q, q = bh l j := ⟨_, rfl⟩
      rw [← hq] at HN hb hbo
      have HX := Lib.hid (show bs (seg l a j) ++ (bs l).extract j q = bs (seg l a q) by rw [bs_seg _ _ _ hb.2, bs_app, seg_app l a j q haj (by omega) hb.2])
      have hss : (bs (seg l a j)).size + ((bs l).extract j q).size ≤ 1000000 := by
        rw [bs_seg _ _ _ hb.2, bs_size, bs_size, seg_len _ _ _ (by omega), seg_len _ _ _ hb.2]; omega
      have HQ := Lib.hid hb
      by_cases hn : c = 92 ∧ j + 1 < l.length
      · have hqe : q = j + 2 := by have h2 := hn.2; rw [hbo, if_pos hn.1, Nat.min_eq_left (by omega)]
        have t1 : (((bs l)[j].toNat : Int) == 92) = true := by rw [hat, hn.1]; rfl
        have d2 : decide ((j : Int) + 1 < ((bs l).size : Int)) = true := decide_eq_true (by rw [HSZ.out]; omega)
        have e4 : j + 2 ≤ (bs l).size := by rw [HSZ.out]; omega
        have hjz : j ≤ 100000 := by omega
        clear hc hbl hat hb hbo hq hn
        subst hqe
        go_wp2_with fail
        refine (HB.out _).mono ?_
        rintro e w1 ⟨rfl, rfl⟩
        go_wp2_with fail
        rw [HX.out]
        go_roundg (gk - 1)
        case measure => have := HK.out; have := HQ.out; omega
        case rel => exact ⟨⟨_, by have := HK.out; have := HQ.out; omega, by omega, HQ.out.2, by go_num, rfl, by rw [HS.out, HN.out]⟩, rfl⟩
      · have hqe : q = j + 1 := by
          by_cases h92 : c = 92
          · have h2 : ¬ j + 1 < l.length := fun h => hn ⟨h92, h⟩
            rw [hbo, if_pos h92, Nat.min_eq_right (by omega)]; omega
          · rw [hbo, if_neg h92]
        have hcase : (((bs l)[j].toNat : Int) == 92) = false ∨ ((((bs l)[j].toNat : Int) == 92) = true ∧ decide ((j : Int) + 1 < ((bs l).size : Int)) = false) := by
          by_cases h92 : c = 92
          · right
            refine ⟨by rw [hat, h92]; rfl, decide_eq_false ?_⟩
            rw [HSZ.out]
            have : ¬ j + 1 < l.length := fun h => hn ⟨h92, h⟩
            omega
          · left; rw [hat]; exact nb _ 92 h92
        have e4 : j + 1 ≤ (bs l).size := by rw [HSZ.out]; omega
        have hjz : j ≤ 100000 := by omega
        clear hc hbl hat hb hbo hq hn
        subst hqe
        rcases hcase with t1 | ⟨t1, d2⟩
        all_goals
          go_wp2_with fail
          refine (HB.out _).mono ?_
          rintro e w1 ⟨rfl, rfl⟩
          go_wp2_with fail
          rw [HX.out]
          go_roundg (gk - 1)
          case measure => have := HK.out; have := HQ.out; omega
          case rel => exact ⟨⟨_, by have := HK.out; have := HQ.out; omega, by omega, HQ.out.2, by go_num, rfl, by rw [HS.out, HN.out]⟩, rfl⟩
    · have htn : tn (l.drop j) = 0 := by
        by_cases hlt : j < l.length
        · obtain ⟨c, hc⟩ := some_of l j hlt
          rw [drop_of hc]
          refine tn_bl ?_
          cases hb : bl c with
          | true => rfl
          | false => exact absurd ⟨c, hc, hb⟩ hgo
        · rw [List.drop_eq_nil_of_le (by omega)]; rfl
      have HF := Lib.hid (show T = j by rw [HT.out, HS.out, htn]; rfl)
      by_cases hlt : j < l.length
      · obtain ⟨c, hc⟩ := some_of l j hlt
        have hbl : bl c = true := by
          cases hb : bl c with
          | true => rfl
          | false => exact absurd ⟨c, hc, hb⟩ hgo
        have hjs : j < (bs l).size := by rw [HSZ.out]; exact hlt
        have d1 : decide (j < (bs l).size) = true := decide_eq_true hjs
        have HB := Lib.hid (fun W => rblank_any c W)
        rw [hbl, ← bs_at hc hjs] at HB
        clear hgo htn hc hbl
        go_wp2_with fail
        refine (HB.out _).mono ?_
        rintro e w1 ⟨rfl, rfl⟩
        go_wp2_with fail
        go_ret2
        rw [HF.out]
        exact ⟨rfl, rfl⟩
      · have d1 : decide (j < (bs l).size) = false := decide_eq_false (by rw [HSZ.out]; exact hlt)
        clear hgo htn
        go_wp2_with fail
        go_ret2
        rw [HF.out]
        exact ⟨rfl, rfl⟩
end Go.Proofs.YtnffmlfapccgkaaDoor
