/- Does a line go on? Both ways of asking. -/
import Derived.Test.YtoggjiblhcbmjaaDoorOS
namespace Go.Proofs.YtoggjiblhcbmjaaDoor
open Go.RowKit Go.Shelf
set_option maxRecDepth 100000
theorem par_eq (t : Nat) : (((t : Int) % 2 : Int) == 1) = (t % 2 == 1) := by
  have : t % 2 = 0 ∨ t % 2 = 1 := by omega
  rcases this with e | e
  · rw [e, show ((t : Int) % 2) = 0 by omega]; rfl
  · rw [e, show ((t : Int) % 2) = 1 by omega]; rfl
theorem ret_par (t : Nat) : Ending.returned (.bool (((t : Int) % 2 : Int) == 1)) = .returned (.bool (t % 2 == 1)) := by rw [par_eq]
theorem goesOn_any (s : ByteArray) (hs : s.size ≤ 140737488351232) (w : World) : Calls Tryd.prog 22 #[.string s] w fun e w' => e = .returned (.bool (oddS s.data.toList)) ∧ w = w' := by
  have HT := Lib.hid (fun W => Tryd.strings_TrimRight_one s 92 (by decide) W (by omega))
  rw [show (⟨(Lib.trimRightB s.data.toList 92).toArray⟩ : ByteArray) = bs (Lib.trimRightB s.data.toList 92) from rfl] at HT
  have hlen : s.data.toList.length = s.size := (sz_of s _ rfl).symm
  have htr := trim_len s.data.toList
  have hle := twR_le s.data.toList.reverse
  rw [List.length_reverse] at hle
  have hX : (bs (Lib.trimRightB s.data.toList 92)).size + twR s.data.toList.reverse = s.size := by
    rw [bs_size, ← hlen, htr]
    unfold Lib.trimRightB
    rw [List.length_reverse]; omega
  obtain ⟨X, hXX⟩ : ∃ X, X = bs (Lib.trimRightB s.data.toList 92) := ⟨_, rfl⟩
  obtain ⟨t, ht⟩ : ∃ t, t = twR s.data.toList.reverse := ⟨_, rfl⟩
  have HR := Lib.hid (show oddS s.data.toList = (t % 2 == 1) by unfold oddS; rw [oddR_tw, ht])
  rw [← hXX, ← ht] at hX
  rw [← hXX] at HT
  rw [HR.out]
  have hxs : X.size ≤ s.size := by omega
  have HD := Lib.hid (show (s.size : Int) - (X.size : Int) = (t : Int) by omega)
  clear hX hXX ht hlen htr hle HR
  go_enter Tryd.func22, Tryd.ntmps22
  go_wp2_with fail
  refine (HT.out _).mono ?_
  rintro e w1 ⟨rfl, rfl⟩
  go_wp2_with fail
  go_ret
  rw [HD.out]
  exact ⟨ret_par t, rfl⟩
theorem tw_step (r : List UInt8) (j : Nat) (hj : j < r.length) (h : r[j] = 92) : twR (r.drop j) = 1 + twR (r.drop (j + 1)) := by
  rw [List.drop_eq_getElem_cons hj, twR_cons, if_pos h]; omega
theorem tw_stop (r : List UInt8) (j : Nat) (h : ∀ (hj : j < r.length), r[j] ≠ 92) : twR (r.drop j) = 0 := by
  by_cases hj : j < r.length
  · rw [List.drop_eq_getElem_cons hj, twR_cons, if_neg (h hj)]
  · rw [List.drop_eq_nil_of_le (by omega)]; rfl
set_option maxHeartbeats 1000000 in
theorem odd_any (s : ByteArray) (hs : s.size ≤ 140737488351232) (w : World) : Calls Tryd.prog 26 #[.string s] w fun e w' => e = .returned (.bool (oddS s.data.toList)) ∧ w = w' := by
  have hlen : s.data.toList.length = s.size := (sz_of s _ rfl).symm
  obtain ⟨r, hr⟩ : ∃ r, r = s.data.toList.reverse := ⟨_, rfl⟩
  have hrl : r.length = s.size := by rw [hr, List.length_reverse]; exact hlen
  have HAT : Hid (∀ (j p : Nat) (hp : p + j + 1 = s.size) (h : p < s.size) (hjr : j < r.length), s[p] = r[j]) := Lib.hid (by
    intro j p hp h hjr
    have h1 : s[p] = s.data.toList[p] := rfl
    rw [h1]
    simp only [hr, List.getElem_reverse]
    congr 1
    omega)
  have HR := Lib.hid (show oddS s.data.toList = (twR r % 2 == 1) by unfold oddS; rw [oddR_tw, hr])
  obtain ⟨R, hR⟩ : ∃ R, R = oddS s.data.toList := ⟨_, rfl⟩
  rw [← hR] at HR ⊢
  have HRL := Lib.hid hrl
  clear hlen hr hR hrl
  go_enter Tryd.func26, Tryd.ntmps26
  go_wp2_with fail
  go_loopg [3] s.size (fun k i wr => (∃ j : Nat, k + j = s.size ∧ i = .int .i64 (j : Int) ∧ twR r = j + twR (r.drop j)) ∧ wr = w)
  case atStart => exact ⟨⟨0, rfl, rfl, by rw [List.drop_zero]; omega⟩, rfl⟩
  case round =>
    obtain ⟨⟨j, hk, rfl, ht⟩, hw⟩ := hrel
    subst hw
    have HK := Lib.hid hk
    have HT := Lib.hid ht
    clear hk ht
    by_cases hj : j < s.size
    · have d1 : decide (j < s.size) = true := decide_eq_true hj
      obtain ⟨p, hp⟩ : ∃ p, p + j + 1 = s.size := ⟨s.size - 1 - j, by omega⟩
      have hpl : p < s.size := by omega
      have hpe : (s.size : Int) - 1 - (j : Int) = (p : Int) := by omega
      have hjr : j < r.length := by rw [HRL.out]; exact hj
      have HG := Lib.hid (HAT.out j p hp hpl hjr)
      have HPP := Lib.hid hp
      clear hp
      by_cases h92 : r[j] = 92
      · have t1 : ((s[p].toNat : Int) == 92) = true := by rw [HG.out, h92]; rfl
        have HS := Lib.hid (tw_step r j hjr h92)
        clear h92
        go_wp2_with fail
        go_roundg (gk - 1)
        case measure => have := HK.out; omega
        case rel => exact ⟨⟨j + 1, by have := HK.out; omega, by go_num, by rw [HT.out, HS.out]; omega⟩, rfl⟩
      · have t1 : ((s[p].toNat : Int) == 92) = false := by rw [HG.out]; exact nb _ 92 h92
        have HS := Lib.hid (tw_stop r j (fun _ => h92))
        clear h92
        go_wp2_with fail
        go_ret
        rw [HR.out, HT.out, HS.out, Nat.add_zero]
        exact ⟨ret_par j, rfl⟩
    · have d1 : decide (j < s.size) = false := decide_eq_false hj
      have HS := Lib.hid (tw_stop r j (fun h => by have := HRL.out; omega))
      go_wp2_with fail
      go_ret
      rw [HR.out, HT.out, HS.out, Nat.add_zero]
      exact ⟨ret_par j, rfl⟩
end Go.Proofs.YtoggjiblhcbmjaaDoor
