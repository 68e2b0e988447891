/- Contracts of the specification: which operator stands there. -/
import Derived.Test.YteihpeffaeahlaaDoorR4
import Derived.Test.YteihpeffaeahlaaDoorLawLeft
namespace Go.Proofs.YteihpeffaeahlaaDoor
open Go.RowKit
set_option maxRecDepth 100000
theorem cut_two (s : ByteArray) (p : Nat) (h : p + 1 < s.size) : s.extract p (p + 2) = ⟨[s[p], s[p + 1]].toArray⟩ := by
  rw [Lib.extract_eq]
  congr 2
  have h1 : s.data.toList.drop p = s[p] :: s[p + 1] :: s.data.toList.drop (p + 2) := by
    rw [List.drop_eq_getElem_cons (by simpa using (by omega : p < s.size)), List.drop_eq_getElem_cons (by simpa using h)]
    rfl
  rw [h1, show p + 2 - p = 2 by omega]
  rfl
theorem cut_one (s : ByteArray) (p : Nat) (h : p < s.size) : s.extract p (p + 1) = ⟨[s[p]].toArray⟩ := by
  rw [Lib.extract_eq]
  congr 2
  have h1 : s.data.toList.drop p = s[p] :: s.data.toList.drop (p + 1) := by
    rw [List.drop_eq_getElem_cons (by simpa using h)]; rfl
  rw [h1, show p + 1 - p = 1 by omega]
  rfl
theorem opB_all (c : UInt8) (h : ∀ m, m < 10 → opB m ≠ c) : ¬ isOp c := by
  intro ho
  have h0 := h 0 (by omega)
  have h1 := h 1 (by omega)
  have h2 := h 2 (by omega)
  have h3 := h 3 (by omega)
  have h4 := h 4 (by omega)
  have h5 := h 5 (by omega)
  have h6 := h 6 (by omega)
  have h7 := h 7 (by omega)
  have h8 := h 8 (by omega)
  have h9 := h 9 (by omega)
  rcases ho with rfl | rfl | rfl | rfl | rfl | rfl | rfl | rfl | rfl | rfl
  · exact h0 rfl
  · exact h1 rfl
  · exact h2 rfl
  · exact h3 rfl
  · exact h4 rfl
  · exact h5 rfl
  · exact h6 rfl
  · exact h7 rfl
  · exact h8 rfl
  · exact h9 rfl
def RoI (c : UInt8) (w : World) (n : Nat) (i : Value) (wr : World) : Prop := ∃ j : Nat, n + j = 10 ∧ i = .int .i64 j ∧ (∀ m, m < j → opB m ≠ c) ∧ wr = w
theorem drop_two (s : ByteArray) (p : Nat) (h : p + 1 < s.size) : s.data.toList.drop p = s[p] :: s[p + 1] :: s.data.toList.drop (p + 2) := by
  rw [List.drop_eq_getElem_cons (by simpa using (by omega : p < s.size)), List.drop_eq_getElem_cons (by simpa using h)]
  rfl
set_option maxHeartbeats 1000000 in
theorem roperator_any (r : RS) (p : Nat) (hl : r.s.size ≤ 9223372036854775800) (hp : p ≤ r.l.length) (w : World) :
    Calls Tryd.prog 59 #[RA r, .int .i64 p] w fun e w' => e = .returned (.tuple #[OS (opr r.l p), .int .i64 ((p + (opr r.l p).length : Nat) : Int)]) ∧ Below w.heap.size w w' := by
  have hlen : r.l.length = r.s.size := Rok.len
  by_cases h0 : p < r.s.size
  · have hn1 : ((p : Int) + 1).toNat = p + 1 := by omega
    have hn2 : ((p : Int) + 2).toNat = p + 2 := by omega
    have c1 := cut_one r.s p h0
    have hpos : (∃ h1 : p + 1 < r.s.size, r.s[p + 1] = 61 ∧ (r.s[p] = 60 ∨ r.s[p] = 62 ∨ r.s[p] = 61)) ∨ (∃ h1 : p + 1 < r.s.size, ¬ (r.s[p + 1] = 61 ∧ (r.s[p] = 60 ∨ r.s[p] = 62 ∨ r.s[p] = 61))) ∨ ¬ p + 1 < r.s.size := by
      by_cases h1 : p + 1 < r.s.size
      · by_cases h2 : r.s[p + 1] = 61 ∧ (r.s[p] = 60 ∨ r.s[p] = 62 ∨ r.s[p] = 61)
        · exact .inl ⟨h1, h2⟩
        · exact .inr (.inl ⟨h1, h2⟩)
      · exact .inr (.inr h1)
    rcases hpos with ⟨h1, hd, hc⟩ | ⟨h1, hn⟩ | h1
    · have c2 := cut_two r.s p h1
      have e := opr_two r.l p _ _ _ (drop_two r.s p h1)
      rw [if_pos ⟨hd, hc⟩, hd] at e
      rw [hd] at c2
      have HE := Lib.hid e
      clear e hd
      have h1i : (p : Int) + 1 < (r.s.size : Int) := by omega
      rcases hc with hc | hc | hc
      all_goals
        rw [hc] at c2
        have HC := Lib.hid hc
        clear hc c1
        go_enter Tryd.func59, Tryd.ntmps59
        go_wp2_with fail
        go_ret2
        rw [HE.out, HC.out]
        exact ⟨rfl, (Below.refl _ _).alloc (Nat.le_refl _) _⟩
    case' inr.inl =>
      have c2 := cut_two r.s p h1
      have e : opr r.l p = if isOp (r.s[p]'h0) then [r.s[p]'h0] else [] := by rw [opr_two r.l p _ _ _ (drop_two r.s p h1), if_neg hn]
      have t1 : ((r.s.extract p (p + 2)).toList == [60, 61]) = false := by
        rw [c2, Lib.toList_data]; simp only [beq_eq_false_iff_ne]; intro h; simp at h; exact hn ⟨h.2, .inl h.1⟩
      have t2 : ((r.s.extract p (p + 2)).toList == [62, 61]) = false := by
        rw [c2, Lib.toList_data]; simp only [beq_eq_false_iff_ne]; intro h; simp at h; exact hn ⟨h.2, .inr (.inl h.1)⟩
      have t3 : ((r.s.extract p (p + 2)).toList == [61, 61]) = false := by
        rw [c2, Lib.toList_data]; simp only [beq_eq_false_iff_ne]; intro h; simp at h; exact hn ⟨h.2, .inr (.inr h.1)⟩
      have HE := Lib.hid e
      have h1i : (p : Int) + 1 < (r.s.size : Int) := by omega
      clear e hn c2
      obtain ⟨T, hT⟩ : ∃ T, r.s.extract p (p + 2) = T := ⟨_, rfl⟩
      rw [hT] at t1 t2 t3
      go_enter Tryd.func59, Tryd.ntmps59
      go_wp2_with fail
      clear t1 t2 t3 h1i h1
    case' inr.inr =>
      have hd : r.l.drop p = [r.s[p]] := by
        unfold RS.l
        rw [List.drop_eq_getElem_cons (by simpa using h0), List.drop_eq_nil_of_le (by simp; omega)]
        rfl
      have e := opr_last r.l p _ hd
      have HE := Lib.hid e
      have h1i : ¬ (p : Int) + 1 < (r.s.size : Int) := by omega
      clear e hd
      go_enter Tryd.func59, Tryd.ntmps59
      go_wp2_with fail
      clear h1i h1
    all_goals
      go_loopg [8] 10 (fun n i wr => RoI (r.s[p]'h0) (w.alloc (.cells #[.string r.s, .int .u8 r.sc.toNat, .int .i64 r.sz, .int .i64 r.vs, .int .i64 r.hr, .bool r.fm] 70)) n i wr)
      case atStart => exact ⟨0, rfl, rfl, fun m hm => absurd hm (by omega), rfl⟩
      case round =>
        obtain ⟨j, hn, rfl, hm, rfl⟩ := hrel
        have HN := Lib.hid hn
        have HM := Lib.hid hm
        by_cases hj : j < 10
        · have hji : (j : Int) < 10 := by omega
          have hnj : ((j : Int) + 1).toNat = j + 1 := by omega
          have hcj := opB_cut j hj
          have hj2 : (j : Int) + 1 ≤ 10 := by omega
          clear hn hm
          by_cases hk : opB j = r.s[p]'h0
          · have e2 : opr r.l p = [r.s[p]'h0] := by rw [HE.out, if_pos (by rw [← hk]; exact opB_is j hj)]
            have HE2 := Lib.hid e2
            have ht : (opB j == r.s[p]'h0) = true := by simpa using hk
            clear e2 hk
            go_wp2_with fail
            go_ret2
            rw [HE2.out]
            exact ⟨rfl, (Below.refl _ _).alloc (Nat.le_refl _) _⟩
          · have HK := Lib.hid hk
            have ht : (opB j == r.s[p]'h0) = false := by simpa using hk
            clear hk
            go_wp2_with fail
            go_roundg (9 - j)
            case measure => have := HN.out; omega
            case rel =>
              have hn := HN.out
              refine ⟨j + 1, by omega, by go_num, ?_, rfl⟩
              intro m hm
              by_cases e : m = j
              · rw [e]; exact HK.out
              · exact HM.out m (by omega)
        · have e2 : opr r.l p = [] := by rw [HE.out, if_neg (opB_all _ fun m hm2 => hm m (by omega))]
          have HE2 := Lib.hid e2
          clear e2 hn hm
          go_wp2_with fail
          go_ret2
          rw [HE2.out]
          exact ⟨by simp, (Below.refl _ _).alloc (Nat.le_refl _) _⟩
  · have e : opr r.l p = [] := opr_none _ _ (.inl (List.drop_eq_nil_of_le (by omega)))
    have HE := Lib.hid e
    clear e
    go_enter Tryd.func59, Tryd.ntmps59
    go_wp2_with fail
    go_ret2
    rw [HE.out]
    exact ⟨by simp, (Below.refl _ _).alloc (Nat.le_refl _) _⟩
end Go.Proofs.YteihpeffaeahlaaDoor
