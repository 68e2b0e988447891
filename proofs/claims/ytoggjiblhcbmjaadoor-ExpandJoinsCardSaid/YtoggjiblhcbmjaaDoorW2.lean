/- The code's escapes: names and quoted texts. -/
import Derived.Test.YtoggjiblhcbmjaaDoorW1
namespace Go.Proofs.YtoggjiblhcbmjaaDoor
open Go.RowKit Go.Shelf
set_option maxRecDepth 100000
theorem name_nil (s : ByteArray) (hl : s.data.toList = []) (w : World) : Calls Tryd.prog 72 #[.string s] w fun e w' => e = .returned (.tuple #[.string (bs (nameS []).1), .int .i64 ((nameS []).2 : Int)]) ∧ Below w.heap.size w w' := by
  obtain rfl : s = ⟨#[]⟩ := str_of s [] hl
  clear hl
  go_enter Tryd.func72, Tryd.ntmps72
  go_wp2_with fail
  go_ret2
  exact ⟨rfl, Below.refl _ _⟩
set_option maxHeartbeats 1000000 in
theorem name_40 (s : ByteArray) (t : List UInt8) (hl : s.data.toList = 40 :: t) (hs : s.size ≤ maxLen) (w : World) : Calls Tryd.prog 72 #[.string s] w fun e w' => e = .returned (.tuple #[.string (bs (nameS (40 :: t)).1), .int .i64 ((nameS (40 :: t)).2 : Int)]) ∧ Below w.heap.size w w' := by
  unfold maxLen at hs
  have hsz := sz_of s _ hl
  rw [List.length_cons] at hsz
  have h1 : 0 < s.size := by omega
  have e0 := at_of s _ hl 0 h1 (by simp)
  simp only [List.getElem_cons_zero] at e0
  have hne : s.toList.isEmpty = false := by rw [Lib.toList_data, hl]; rfl
  have t0 : ((s[0].toNat : Int) == 40) = true := by rw [e0]; rfl
  obtain ⟨R, hR⟩ : ∃ R, R = nameS (40 :: t) := ⟨_, rfl⟩
  rw [← hR]
  rw [nameS, if_pos rfl] at hR
  by_cases h2 : 2 ≤ t.length
  · match t, h2 with
    | a :: b :: r, h2 =>
      have hb1 : 1 < s.size := by simp only [List.length_cons] at hsz; omega
      have hb2 : 2 < s.size := by simp only [List.length_cons] at hsz; omega
      have d1 : decide ((2 : Int) < (s.size : Int)) = true := decide_eq_true (by omega)
      have e1 := at_of s _ hl 1 hb1 (by simp)
      have e2 := at_of s _ hl 2 hb2 (by simp)
      simp only [List.getElem_cons_succ, List.getElem_cons_zero] at e1 e2
      have HA := Lib.hid (fun W => inSh_any s[1] W)
      have HB := Lib.hid (fun W => inSh_any s[2] W)
      have HX := Lib.hid (show s.extract 1 3 = bs [a, b] by rw [bs_ext s 1 3 hb2, hl]; rfl)
      have hR2 : R = if inSh s[1] = true ∧ inSh s[2] = true then ([a, b], 3) else (([] : List UInt8), 0) := by rw [hR, e1, e2]; simp
      clear e0 e1 e2 hsz h2 hl hR
      cases i1 : inSh s[1] with
      | false =>
        rw [i1] at HA
        have HR := Lib.hid (show R = ([], 0) by rw [hR2, i1, if_neg (by simp)])
        clear i1 hR2
        go_enter Tryd.func72, Tryd.ntmps72
        go_wp2_with fail
        refine (HA.out _).mono ?_
        rintro e w1 ⟨rfl, rfl⟩
        go_wp2_with fail
        go_ret2
        rw [HR.out]
        exact ⟨rfl, Below.refl _ _⟩
      | true =>
        rw [i1] at HA
        cases i2 : inSh s[2] with
        | false =>
          rw [i2] at HB
          have HR := Lib.hid (show R = ([], 0) by rw [hR2, i2, if_neg (by simp)])
          clear i1 i2 hR2
          go_enter Tryd.func72, Tryd.ntmps72
          go_wp2_with fail
          refine (HA.out _).mono ?_
          rintro e w1 ⟨rfl, rfl⟩
          go_wp2_with fail
          refine (HB.out _).mono ?_
          rintro e w1 ⟨rfl, rfl⟩
          go_wp2_with fail
          go_ret2
          rw [HR.out]
          exact ⟨rfl, Below.refl _ _⟩
        | true =>
          rw [i2] at HB
          have HR := Lib.hid (show R = ([a, b], 3) by rw [hR2, i1, i2, if_pos ⟨rfl, rfl⟩])
          clear i1 i2 hR2
          go_enter Tryd.func72, Tryd.ntmps72
          go_wp2_with fail
          refine (HA.out _).mono ?_
          rintro e w1 ⟨rfl, rfl⟩
          go_wp2_with fail
          refine (HB.out _).mono ?_
          rintro e w1 ⟨rfl, rfl⟩
          go_wp2_with fail
          go_ret2
          rw [HR.out, HX.out]
          exact ⟨rfl, Below.refl _ _⟩
  · have HR := Lib.hid (show R = ([], 0) by rw [hR, if_neg (fun h => h2 h.1)])
    have d1 : decide ((2 : Int) < (s.size : Int)) = false := decide_eq_false (by omega)
    clear e0 hsz h2 hl hR
    go_enter Tryd.func72, Tryd.ntmps72
    go_wp2_with fail
    go_ret2
    rw [HR.out]
    exact ⟨rfl, Below.refl _ _⟩
set_option maxHeartbeats 1000000 in
theorem name_91 (s : ByteArray) (t : List UInt8) (hl : s.data.toList = 91 :: t) (hs : s.size ≤ maxLen) (w : World) : Calls Tryd.prog 72 #[.string s] w fun e w' => e = .returned (.tuple #[.string (bs (nameS (91 :: t)).1), .int .i64 ((nameS (91 :: t)).2 : Int)]) ∧ Below w.heap.size w w' := by
  unfold maxLen at hs
  have hsz := sz_of s _ hl
  rw [List.length_cons] at hsz
  have h1 : 0 < s.size := by omega
  have e0 := at_of s _ hl 0 h1 (by simp)
  simp only [List.getElem_cons_zero] at e0
  have hne : s.toList.isEmpty = false := by rw [Lib.toList_data, hl]; rfl
  have t0 : ((s[0].toNat : Int) == 40) = false := by rw [e0]; rfl
  have t1 : ((s[0].toNat : Int) == 91) = true := by rw [e0]; rfl
  obtain ⟨R, hR⟩ : ∃ R, R = nameS (91 :: t) := ⟨_, rfl⟩
  rw [← hR]
  rw [nameS, if_neg (by decide), if_pos rfl] at hR
  have HI := Lib.hid (fun W => ix93 (s.extract 0 (min (s.size : Int) 22).toNat) W)
  have hx : (s.extract 0 (min (s.size : Int) 22).toNat).data.toList = (91 :: t).take 22 := by
    rw [show (min (s.size : Int) 22).toNat = min s.size 22 by omega, bs_ext s 0 _ (by omega), bs_list, List.drop_zero, hl]
    by_cases h : s.size ≤ 22
    · rw [Nat.min_eq_left h, List.take_of_length_le (by simp; omega), List.take_of_length_le (by simp; omega)]
    · rw [Nat.min_eq_right (by omega)]
  rw [hx] at HI
  have hige := Lib.indexByte_ge ((91 :: t).take 22) 93
  have hilt : ¬ Lib.indexByte ((91 :: t).take 22) 93 < 0 → (Lib.indexByte ((91 :: t).take 22) 93).toNat < s.size := by
    intro h
    have h3 := ix_le _ _ h
    have h4 := List.length_take_le' 22 (91 :: t)
    rw [List.length_cons] at h4
    omega
  generalize Lib.indexByte ((91 :: t).take 22) 93 = i at *
  by_cases hi : 0 < i
  · obtain ⟨k, rfl⟩ : ∃ k : Nat, i = k := ⟨i.toNat, by omega⟩
    have hk0 : 0 < k := by omega
    have hks : k < s.size := by have := hilt (by omega); omega
    have hxk : s.extract 1 k = bs (t.take (k - 1)) := by
      rw [bs_ext s 1 k (by omega), hl]
      obtain ⟨m, rfl⟩ : ∃ m, k = m + 1 := ⟨k - 1, by omega⟩
      simp
    have HV := Lib.hid (fun W => validName_any (s.extract 1 k) W)
    rw [hxk, bs_list] at HV
    have HX := Lib.hid hxk
    have d1 : decide ((0 : Int) < (k : Int)) = true := decide_eq_true (by omega)
    rw [Int.toNat_natCast] at hR
    cases hv : okNm (t.take (k - 1)) with
    | true =>
      rw [hv] at HV
      have HR := Lib.hid (show R = (t.take (k - 1), k + 1) by rw [hR, if_pos ⟨by omega, hv⟩])
      clear hR e0 hx hige hilt hxk hl hsz hi hv
      go_enter Tryd.func72, Tryd.ntmps72
      go_wp2_with fail
      refine (HI.out _).mono ?_
      rintro e w1 ⟨rfl, rfl⟩
      go_wp2_with fail
      rw [HX.out]
      refine (HV.out _).mono ?_
      rintro e w1 ⟨rfl, hb⟩
      have HB := Lib.hid hb
      clear hb
      go_wp2_with fail
      go_ret2
      rw [HR.out, HX.out]
      exact ⟨rfl, HB.out⟩
    | false =>
      rw [hv] at HV
      have HR := Lib.hid (show R = ([], 0) by rw [hR, if_neg (fun h => by rw [hv] at h; exact absurd h.2 (by decide))])
      clear hR e0 hx hige hilt hxk hl hsz hi hv
      go_enter Tryd.func72, Tryd.ntmps72
      go_wp2_with fail
      refine (HI.out _).mono ?_
      rintro e w1 ⟨rfl, rfl⟩
      go_wp2_with fail
      rw [HX.out]
      refine (HV.out _).mono ?_
      rintro e w1 ⟨rfl, hb⟩
      have HB := Lib.hid hb
      clear hb
      go_wp2_with fail
      go_ret2
      rw [HR.out]
      exact ⟨rfl, HB.out⟩
  · have d1 : decide ((0 : Int) < i) = false := decide_eq_false hi
    have HR := Lib.hid (show R = ([], 0) by rw [hR, if_neg (fun h => hi h.1)])
    clear hR e0 hx hige hilt hl hsz hi
    go_enter Tryd.func72, Tryd.ntmps72
    go_wp2_with fail
    refine (HI.out _).mono ?_
    rintro e w1 ⟨rfl, rfl⟩
    go_wp2_with fail
    go_ret2
    rw [HR.out]
    exact ⟨rfl, Below.refl _ _⟩
theorem name_one (s : ByteArray) (c : UInt8) (t : List UInt8) (hl : s.data.toList = c :: t) (hc : c ≠ 40) (hd : c ≠ 91) (hs : s.size ≤ maxLen) (w : World) : Calls Tryd.prog 72 #[.string s] w fun e w' => e = .returned (.tuple #[.string (bs (nameS (c :: t)).1), .int .i64 ((nameS (c :: t)).2 : Int)]) ∧ Below w.heap.size w w' := by
  unfold maxLen at hs
  have hsz := sz_of s _ hl
  rw [List.length_cons] at hsz
  have h1 : 0 < s.size := by omega
  have e0 := at_of s _ hl 0 h1 (by simp)
  simp only [List.getElem_cons_zero] at e0
  have hne : s.toList.isEmpty = false := by rw [Lib.toList_data, hl]; rfl
  have nb : ∀ d : UInt8, c ≠ d → ((c.toNat : Int) == (d.toNat : Int)) = false := by
    intro d hd
    have : c.toNat ≠ d.toNat := fun h => hd (UInt8.toNat_inj.1 h)
    simp; omega
  have t0 : ((s[0].toNat : Int) == 40) = false := by rw [e0]; exact nb 40 hc
  have t1 : ((s[0].toNat : Int) == 91) = false := by rw [e0]; exact nb 91 hd
  obtain ⟨R, hR⟩ : ∃ R, R = nameS (c :: t) := ⟨_, rfl⟩
  rw [← hR]
  rw [nameS, if_neg hc, if_neg hd, ← e0] at hR
  have HA := Lib.hid (fun W => inSh_any s[0] W)
  have HX := Lib.hid (show s.extract 0 1 = bs [s[0]] by rw [bs_ext s 0 1 h1, hl, e0]; rfl)
  cases i1 : inSh s[0] with
  | false =>
    rw [i1] at HA hR
    have HR := Lib.hid (show R = ([], 0) by rw [hR, if_neg (by decide)])
    clear hR e0 hl hsz i1 hc hd nb
    go_enter Tryd.func72, Tryd.ntmps72
    go_wp2_with fail
    refine (HA.out _).mono ?_
    rintro e w1 ⟨rfl, rfl⟩
    go_wp2_with fail
    go_ret2
    rw [HR.out]
    exact ⟨rfl, Below.refl _ _⟩
  | true =>
    rw [i1] at HA hR
    have HR := Lib.hid (show R = ([s[0]], 1) by rw [hR, if_pos rfl])
    clear hR e0 hl hsz i1 hc hd nb
    go_enter Tryd.func72, Tryd.ntmps72
    go_wp2_with fail
    refine (HA.out _).mono ?_
    rintro e w1 ⟨rfl, rfl⟩
    go_wp2_with fail
    go_ret2
    rw [HR.out, HX.out]
    exact ⟨rfl, Below.refl _ _⟩
theorem name_any (s : ByteArray) (hs : s.size ≤ maxLen) (w : World) : Calls Tryd.prog 72 #[.string s] w fun e w' => e = .returned (.tuple #[.string (bs (nameS s.data.toList).1), .int .i64 ((nameS s.data.toList).2 : Int)]) ∧ Below w.heap.size w w' := by
  cases hl : s.data.toList with
  | nil => exact name_nil s hl w
  | cons c t =>
    by_cases h1 : c = 40
    · subst h1; exact name_40 s t hl hs w
    · by_cases h2 : c = 91
      · subst h2; exact name_91 s t hl hs w
      · exact name_one s c t hl h1 h2 hs w
end Go.Proofs.YtoggjiblhcbmjaaDoor
