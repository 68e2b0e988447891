/- What is written is reckoned again: the plain mathematics. -/
import Derived.Test.YteihpeffaeahlaaDoorRG
namespace Go.Proofs.YteihpeffaeahlaaDoor
open Go.RowKit
theorem cnt_dec (n : Nat) (rest : List UInt8) (hn : n < 10 ^ 9) (hr : ∀ c, rest.head? = some c → isDg c = false) :
    cnt (dec n ++ rest) 9 0 = (dec n).length ∧ dval (dec n ++ rest) 0 (dec n).length = n := by
  have hlen := dec_len 9 n (by omega) hn
  have hat : ∀ i, i < (dec n).length → (dec n ++ rest)[i]? = (dec n)[i]? := fun i hi => List.getElem?_append_left hi
  constructor
  · refine cnt_eq _ _ _ _ hlen (fun i hi => ?_) (.inr ?_)
    · unfold dg; rw [Nat.zero_add, hat i hi, List.getElem?_eq_getElem hi]
      exact dec_all n _ (List.getElem_mem hi)
    · unfold dg
      rw [Nat.zero_add, List.getElem?_append_right (Nat.le_refl _), Nat.sub_self, ← List.head?_eq_getElem?]
      cases e : rest.head? with
      | none => rfl
      | some c => exact hr c e
  · rw [dval_ext _ (dec n) 0 0 _ fun i hi => by rw [Nat.zero_add, hat i hi]]
    exact dval_dec n
theorem at_rest (n : Nat) (rest : List UInt8) (i : Nat) : (dec n ++ rest)[(dec n).length + i]? = rest[i]? := by
  rw [List.getElem?_append_right (by omega), Nat.add_sub_cancel_left]
theorem num_unit (n : Nat) (c k : UInt8) (sz vs u : Int) (hn : n < 10 ^ 9) (hc : isDg c = false) (hc2 : c ≠ 46) (hu : unitK c sz vs = some u) :
    numS (dec n ++ [c]) k sz vs 0 = some ((n : Int) * u, (dec n ++ [c]).length) := by
  obtain ⟨h1, h2⟩ := cnt_dec n [c] hn (fun d hd => by have e : c = d := (by simpa using hd); rw [← e]; exact hc)
  have hpos := dec_pos n
  have hp : pt (dec n ++ [c]) (dec n).length = false := by
    unfold pt
    have := at_rest n [c] 0
    rw [Nat.add_zero] at this
    rw [this]
    have : (c == 46) = false := by simpa using hc2
    simp [hc2]
  have hfn : fracN (dec n ++ [c]) (dec n).length = 0 := by unfold fracN; rw [hp]; rfl
  have hfv : fracV (dec n ++ [c]) (dec n).length = 0 := by unfold fracV; rw [hp]; rfl
  have hfe : fracE (dec n ++ [c]) (dec n).length = (dec n).length := by unfold fracE; rw [hp]; rfl
  have hun : unS (dec n ++ [c]) k sz vs (dec n).length = (u, (dec n).length + 1) := by
    unfold unS unitAt
    have := at_rest n [c] 0
    rw [Nat.add_zero] at this
    rw [this]
    simp [hu]
  unfold numS
  rw [h1, Nat.zero_add, hfn, hfv, hfe, hun, h2, if_neg (by omega)]
  simp
theorem num_pt (n m : Nat) (k : UInt8) (sz vs : Int) (hn : n < 10 ^ 9) (hm : m < 10) :
    numS (dec n ++ 46 :: dgB m :: [112]) k sz vs 0 = some ((n : Int) * 10 + (m : Int), (dec n ++ 46 :: dgB m :: [112]).length) := by
  obtain ⟨h1, h2⟩ := cnt_dec n (46 :: dgB m :: [112]) hn (fun d hd => by have e : 46 = d := (by simpa using hd); rw [← e]; decide)
  have hpos := dec_pos n
  have a0 := at_rest n (46 :: dgB m :: [112]) 0
  have a1 := at_rest n (46 :: dgB m :: [112]) 1
  have a2 := at_rest n (46 :: dgB m :: [112]) 2
  have hl : (dec n ++ 46 :: dgB m :: [112]).length = (dec n).length + 3 := by simp
  generalize dec n ++ 46 :: dgB m :: [112] = l at *
  rw [Nat.add_zero] at a0
  have a0' : l[(dec n).length]? = some 46 := a0
  have a1' : l[(dec n).length + 1]? = some (dgB m) := a1
  have a2' : l[(dec n).length + 2]? = some 112 := a2
  have d1 : dg l ((dec n).length + 1) = true := by unfold dg; rw [a1']; exact (dgB_dg m hm).1
  have d2 : dg l ((dec n).length + 2) = false := by unfold dg; rw [a2']; decide
  have hp : pt l (dec n).length = true := by unfold pt; rw [a0', d1]; rfl
  have hc : cnt l 9 ((dec n).length + 1) = 1 := cnt_eq _ _ _ _ (by omega) (fun i hi => by have e : i = 0 := (by omega); rw [e]; exact d1) (.inr d2)
  have hfn : fracN l (dec n).length = 1 := by unfold fracN; rw [if_pos hp, hc]
  have hfv : fracV l (dec n).length = m := by
    unfold fracV; rw [if_pos hp, hc]
    simp only [dval, Nat.zero_mul, Nat.zero_add, Nat.add_zero]
    unfold dgv; rw [a1']
    simp [(dgB_dg m hm).2]
  have hfe : fracE l (dec n).length = (dec n).length + 2 := by unfold fracE; rw [if_pos hp, hc]
  have hun : unS l k sz vs ((dec n).length + 2) = (10, (dec n).length + 3) := by
    unfold unS unitAt
    rw [a2']
    rfl
  unfold numS
  rw [h1, Nat.zero_add, hfn, hfv, hfe, hun, h2, if_neg (by omega), hl]
  simp
theorem ev_num (l : List UInt8) (s0 s1 : Int) (c : UInt8) (v : Int) (hc : l[0]? = some c) (hd : isDg c = true) (hn : numS l 118 s0 s1 0 = some (v, l.length)) (hv : ok9 v) :
    evR ⟨⟨l.toArray⟩, 118, s0, s1, 0, false⟩ = (v, 0) := by
  have hd' : 48 ≤ c.toNat ∧ c.toNat ≤ 57 := by simpa [isDg] using hd
  have h1 : c ≠ 32 := by rintro rfl; simp at hd'
  have h2 : c ≠ 40 := by rintro rfl; simp at hd'
  have h3 : isSg c = false := by
    unfold isSg
    simp only [Bool.or_eq_false_iff, beq_eq_false_iff_ne]
    refine ⟨⟨⟨?_, ?_⟩, ?_⟩, ?_⟩ <;> (rintro rfl; simp at hd')
  generalize hr : (⟨⟨l.toArray⟩, 118, s0, s1, 0, false⟩ : RS) = r
  have hrl : r.l = l := by rw [← hr]; rfl
  unfold evR
  rw [hrl]
  rw [show 2 * l.length + 3 = (2 * l.length + 1 + 1) + 1 by omega, ex1, opd_num r (by rw [← hr]) _ 0 0 v l.length c (by rw [hrl]; exact hc) h1 h2 h3 (by rw [hrl, ← hr]; exact hn) hv]
  simp only
  rw [rst_end r _ l.length 0 v rfl (by rw [hrl]; exact opr_none _ _ (.inl (List.drop_eq_nil_of_le (Nat.le_refl _))))]
  simp only
  rw [if_neg (by omega)]
theorem head_dec (n : Nat) (rest : List UInt8) : ∃ c, (dec n ++ rest)[0]? = some c ∧ isDg c = true := by
  have hpos := dec_pos n
  refine ⟨(dec n)[0], ?_, dec_all n _ (List.getElem_mem hpos)⟩
  rw [List.getElem?_append_left hpos, List.getElem?_eq_getElem hpos]
theorem back_u (k : Nat) (s0 s1 : Int) (hk : k < 1000000000) : evR ⟨⟨(texR k 1 ++ [117]).toArray⟩, 118, s0, s1, 0, false⟩ = ((k : Int), 0) := by
  have e : texR k 1 = dec k := by
    unfold texR
    rw [Nat.mod_one, if_neg (by simp), Nat.div_one]
  rw [e]
  obtain ⟨c, hc, hd⟩ := head_dec k [117]
  have := num_unit k 117 118 s0 s1 1 hk (by decide) (by decide) rfl
  rw [Int.mul_one] at this
  exact ev_num _ s0 s1 c k hc hd this (by unfold ok9; omega)
theorem texP_digit (m : Nat) (h : m < 10) (h0 : 0 < m) : texP (m * 1000) = [dgB m] := by
  have : m = 1 ∨ m = 2 ∨ m = 3 ∨ m = 4 ∨ m = 5 ∨ m = 6 ∨ m = 7 ∨ m = 8 ∨ m = 9 := by omega
  rcases this with rfl | rfl | rfl | rfl | rfl | rfl | rfl | rfl | rfl <;> (show _ = _; kernel_rfl)
theorem back_p (k : Nat) (s0 s1 : Int) (hk : k < 1000000000) : evR ⟨⟨(texR k 10 ++ [112]).toArray⟩, 118, s0, s1, 0, false⟩ = ((k : Int), 0) := by
  have em : k % 10 * 10000 / 10 = k % 10 * 1000 := by omega
  by_cases h0 : 0 < k % 10
  · have e : texR k 10 ++ [112] = dec (k / 10) ++ 46 :: dgB (k % 10) :: [112] := by
      unfold texR
      rw [em, if_pos (by omega), texP_digit _ (by omega) h0]
      simp
    rw [e]
    obtain ⟨c, hc, hd⟩ := head_dec (k / 10) (46 :: dgB (k % 10) :: [112])
    have := num_pt (k / 10) (k % 10) 118 s0 s1 (by omega) (by omega)
    rw [show ((k / 10 : Nat) : Int) * 10 + ((k % 10 : Nat) : Int) = (k : Int) by omega] at this
    exact ev_num _ s0 s1 c k hc hd this (by unfold ok9; omega)
  · have e : texR k 10 = dec (k / 10) := by
      unfold texR
      rw [em, if_neg (by omega)]
    rw [e]
    obtain ⟨c, hc, hd⟩ := head_dec (k / 10) [112]
    have := num_unit (k / 10) 112 118 s0 s1 10 (by omega) (by decide) (by decide) rfl
    rw [show ((k / 10 : Nat) : Int) * 10 = (k : Int) by omega] at this
    exact ev_num _ s0 s1 c k hc hd this (by unfold ok9; omega)
end Go.Proofs.YteihpeffaeahlaaDoor
