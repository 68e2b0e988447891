/- Contracts: how a number is written. -/
import Derived.Test.YteihpeffaeahlaaDoorRE
import Derived.Lib.SmallJoins
namespace Go.Proofs.YteihpeffaeahlaaDoor
open Go.RowKit
set_option maxRecDepth 100000
theorem decDigits_dec (n : Nat) : Lib.decDigits n = dec n := by
  induction n using Nat.strongRecOn with
  | _ n ih =>
    rw [Lib.decDigits]
    split
    · rename_i h; rw [dec_small n h]; rfl
    · rename_i h; rw [dec_big n h, ih (n / 10) (by omega)]; rfl
theorem itoa_dec (n : Nat) : Lib.itoa n = dec n := by
  unfold Lib.itoa
  rw [if_neg (by omega), Int.toNat_natCast, decDigits_dec]
theorem below_grow (w : World) (os : Array Obj) : Below w.heap.size w (Sort.grow w os) :=
  ⟨rfl, rfl, rfl, by simp, fun k hk => by unfold Sort.grow; exact Array.getElem?_append_left hk⟩
abbrev P10 (w : World) : Prop := Lib.TabIs Tryd.prog w "internal/strconv.uint64pow10" .u64 Lib.pow10Tab
theorem gP10 : Tryd.prog.globalNamed "internal/strconv.uint64pow10" = some 2 := by kernel_rfl
theorem P10.below {w w' : World} (h : P10 w) (k : Below w.heap.size w w') : P10 w' := Joins.var_stays gP10 h k (Nat.le_refl _)
theorem itoa_call (n : Nat) (hn : n ≤ 9223372036854775807) (w : World) (h : P10 w) :
    Calls Tryd.prog 29 #[.int .i64 n] w fun e w' => e = .returned (.string ⟨(dec n).toArray⟩) ∧ Below w.heap.size w w' := by
  refine (Tryd.strconv_Itoa n (by omega) (by omega) w h).mono ?_
  rintro e w' ⟨rfl, k, os, rfl⟩
  exact ⟨by rw [itoa_dec], (below_drewN (Below.refl _ _) k).trans (by exact below_grow (w.drewN k) os)⟩
def ixT (c : UInt8) : Int := Lib.indexByte [117, 112, 80, 105] c
theorem indexT (c : UInt8) (w : World) : Calls Tryd.prog 27 #[.string ⟨#[117, 112, 80, 105]⟩, .int .u8 c.toNat] w fun e w' => e = .returned (.int .i64 (ixT c)) ∧ w' = w := by
  have := Tryd.strings_IndexByte ⟨#[117, 112, 80, 105]⟩ c.toNat w
  simp only [Int.toNat_natCast] at this
  rw [show c.toNat.toUInt8 = c by simp [Nat.toUInt8]] at this
  exact this
/-- The letters that Text takes, and what one of each is. -/
def texU (k : UInt8) : Option Nat := if k = 117 then some 1 else if k = 112 then some 10 else if k = 80 then some 120 else if k = 105 then some 720 else none
theorem ixT_texU (k : UInt8) : decide (ixT k < 0) = (texU k).isNone := by
  unfold ixT texU
  by_cases h1 : k = 117
  · subst h1; decide
  by_cases h2 : k = 112
  · subst h2; decide
  by_cases h3 : k = 80
  · subst h3; decide
  by_cases h4 : k = 105
  · subst h4; decide
  rw [if_neg h1, if_neg h2, if_neg h3, if_neg h4]
  have e : ∀ x : UInt8, k ≠ x → (x == k) = false := fun x hx => by simpa using Ne.symm hx
  have e' : ∀ x : UInt8, k ≠ x → (k == x) = false := fun x hx => by simpa using hx
  simp [Lib.indexByte, h1, h2, h3, h4, e _ h1, e _ h2, e _ h3, e _ h4, e' _ h1, e' _ h2, e' _ h3, e' _ h4, Ne.symm h1, Ne.symm h2, Ne.symm h3, Ne.symm h4]
theorem texU_k {k : UInt8} {u : Nat} (h : texU k = some u) : k = 117 ∨ k = 112 ∨ k = 80 ∨ k = 105 := by
  unfold texU at h
  by_cases h1 : k = 117
  · exact .inl h1
  by_cases h2 : k = 112
  · exact .inr (.inl h2)
  by_cases h3 : k = 80
  · exact .inr (.inr (.inl h3))
  by_cases h4 : k = 105
  · exact .inr (.inr (.inr h4))
  rw [if_neg h1, if_neg h2, if_neg h3, if_neg h4] at h
  cases h
theorem texU_unitK {k : UInt8} {u : Nat} (h : texU k = some u) : unitK k 0 0 = some (u : Int) ∧ 1 ≤ u ∧ u ≤ 720 ∧ k.toNat < 128 := by
  unfold texU at h
  by_cases h1 : k = 117
  · subst h1; cases h; exact ⟨rfl, by omega, by omega, by decide⟩
  by_cases h2 : k = 112
  · subst h2; cases h; exact ⟨rfl, by omega, by omega, by decide⟩
  by_cases h3 : k = 80
  · subst h3; cases h; exact ⟨rfl, by omega, by omega, by decide⟩
  by_cases h4 : k = 105
  · subst h4; cases h; exact ⟨rfl, by omega, by omega, by decide⟩
  rw [if_neg h1, if_neg h2, if_neg h3, if_neg h4] at h
  cases h
/-- What stands behind the point. -/
def texP (m : Nat) : List UInt8 := Lib.trimRightB ((dec (10000 + m)).drop 1) 48
def texR (n u : Nat) : List UInt8 := if 0 < n % u * 10000 / u then dec (n / u) ++ 46 :: texP (n % u * 10000 / u) else dec (n / u)
def textS (n : Int) (k : UInt8) : List UInt8 × Int := if n < 0 then ([], 1) else match texU k with | none => ([], 1) | some u => (texR n.toNat u ++ [k], 0)
theorem wrap_z (t z : Nat) (h : t < 10000) (hz : z = 10000 + t) : wrap64 (10000 + (t : Int)) = (z : Int) ∧ z < 20000 := by
  rw [wrap64]; omega
theorem dec_z (z : Nat) (h : z < 20000) : (dec z).length ≤ 5 := dec_len 5 z (by omega) (by omega)
theorem z_le (z : Nat) (h : z < 20000) : z ≤ 9223372036854775807 := by omega
theorem enc117 : Utf8.encode 117 = ⟨#[117]⟩ := by rfl
theorem enc112 : Utf8.encode 112 = ⟨#[112]⟩ := by rfl
theorem enc80 : Utf8.encode 80 = ⟨#[80]⟩ := by rfl
theorem enc105 : Utf8.encode 105 = ⟨#[105]⟩ := by rfl
theorem trimR_len (l : List UInt8) (c : UInt8) : (Lib.trimRightB l c).length ≤ l.length := by
  unfold Lib.trimRightB
  rw [List.length_reverse]
  have := (List.dropWhile_sublist (p := fun x => x == c) (l := l.reverse)).length_le
  rwa [List.length_reverse] at this
theorem drop_one (db : ByteArray) (l : List UInt8) (h : db = ⟨l.toArray⟩) : (db.extract 1 db.size).data.toList = l.drop 1 := by
  rw [h, ByteArray.data_extract, Array.toList_extract]
  have : (⟨l.toArray⟩ : ByteArray).size = l.length := rfl
  rw [this, List.extract_eq_take_drop]
  simp only [List.drop_one]
  exact List.take_of_length_le (by simp)
theorem wrap_t (t : Nat) (h : t < 10000) : wrap64 (t : Int) = t := by rw [wrap64]; omega
set_option maxHeartbeats 1000000 in
theorem text_some (n u : Nat) (k : UInt8) (hn : n ≤ 9223372036854775807) (hu : texU k = some u) (w : World) (h : P10 w) :
    Calls Tryd.prog 12 #[.int .i64 n, .int .u8 k.toNat] w fun e w' => e = .returned (.tuple #[OS (texR n u ++ [k]), .int .i64 0]) ∧ Below w.heap.size w w' := by
  obtain ⟨hk, hu1, hu2, hk8⟩ := texU_unitK hu
  have hix : decide (ixT k < 0) = false := by rw [ixT_texU, hu]; rfl
  have HU := Lib.hid (unitOf_some k 0 0 0 u hk (by decide))
  have HK := Lib.hid hu
  have t0 : decide ((n : Int) < 0) = false := decide_eq_false (by omega)
  have H10 := Lib.hid h
  have hun : (u : Int) ≠ 0 := by omega
  obtain ⟨q, hq⟩ : ∃ q, q = n / u := ⟨_, rfl⟩
  obtain ⟨m, hm⟩ : ∃ m, m = n % u := ⟨_, rfl⟩
  obtain ⟨t, ht⟩ : ∃ t, t = m * 10000 / u := ⟨_, rfl⟩
  have hqn : q ≤ 9223372036854775807 := by rw [hq]; exact Nat.le_trans (Nat.div_le_self _ _) hn
  have hmu : m < u := by rw [hm]; exact Nat.mod_lt _ (by omega)
  have ht4 : t < 10000 := by rw [ht]; exact Nat.div_lt_of_lt_mul (Nat.mul_lt_mul_of_pos_right hmu (by decide))
  have hw1 : wrap64 ((n : Int) / (u : Int)) = (q : Int) := by
    rw [← Int.natCast_ediv, ← hq, wrap64]; omega
  have hw2 : (n : Int) % (u : Int) = (m : Int) := by rw [← Int.natCast_emod, ← hm]
  have hw3 : (m : Int) * 10000 / (u : Int) = (t : Int) := by rw [ht]; simp
  obtain ⟨y, hy⟩ : ∃ y, y = m * 10000 := ⟨_, rfl⟩
  have hw5 : (m : Int) * 10000 = (y : Int) := by rw [hy]; simp
  have HW5 := Lib.hid hw5
  have HW5' := Lib.hid (show IntKind.i64.wrap ((m : Int) * 10000) = (y : Int) by rw [hw5]; exact IntWalk.i64_in _ (by omega))
  have HW6 := Lib.hid (show wrap64 ((y : Int) / (u : Int)) = (t : Int) by rw [← hw5, hw3]; exact wrap_t t ht4)
  have HW4 := Lib.hid (show wrap64 ((m : Int) * 10000 / (u : Int)) = (t : Int) by rw [hw3]; exact wrap_t t ht4)
  have HE := Lib.hid (show texR n u = if 0 < t then dec q ++ 46 :: texP t else dec q by unfold texR; rw [← hm, ← hq, ← ht])
  have hqi : (q : Int) ≤ 9223372036854775807 := by omega
  have HQN := Lib.hid hqn
  clear hk hu h hq hm ht hqn hqi hw3 hw5 hy
  go_enter Tryd.func12, Tryd.ntmps12
  go_wp2_with (first | (go_at_call 27; refine (indexT _ _).mono ?_; rintro e w' ⟨rfl, rfl⟩) | (go_at_call 28; refine (HU.out _).mono ?_; rintro e w' ⟨rfl, rfl⟩))
  have P1 : P10 (w'.alloc (CXo 0 0 0)) := P10.below H10.out ((Below.refl _ _).alloc (Nat.le_refl _) _)
  refine (itoa_call q HQN.out _ P1).mono ?_
  rintro e w1 ⟨rfl, hb1⟩
  have B1 := Lib.hid (((Below.refl w'.heap.size w').alloc (Nat.le_refl _) (CXo 0 0 0)).trans (hb1.mono (by simp)))
  have P2 := Lib.hid (P10.below P1 hb1)
  have lq : (dec q).length ≤ 20 := dec_len 20 q (by omega) (by have := HQN.out; omega)
  have HT4 := Lib.hid ht4
  clear hb1 P1 hw1 hn ht4
  have hw5 := HW5.out
  have hw5' := HW5'.out
  have hw6 := HW6.out
  by_cases h0 : 0 < t
  · have t1 : decide (0 < t) = true := decide_eq_true h0
    obtain ⟨z, hz⟩ : ∃ z, z = 10000 + t := ⟨_, rfl⟩
    have HW7 := Lib.hid (wrap_z t z HT4.out hz).1
    have hz2 := (wrap_z t z HT4.out hz).2
    have lz1 := dec_pos z
    have lz2 := dec_z z hz2
    have HEE := HE.out
    rw [if_pos h0] at HEE
    unfold texP at HEE
    rw [← hz] at HEE
    have HE2 := Lib.hid HEE
    have HZ2 := Lib.hid hz2
    clear h0 HEE hz hz2
    go_wp2_with fail
    rw [HW7.out]
    refine (itoa_call z (z_le z HZ2.out) _ P2.out).mono ?_
    rintro e w2 ⟨rfl, hb2⟩
    have B2 := Lib.hid (B1.out.trans (hb2.mono B1.out.size))
    obtain ⟨db, hdb⟩ : ∃ db : ByteArray, db = ⟨(dec z).toArray⟩ := ⟨_, rfl⟩
    have hds : db.size = (dec z).length := by rw [hdb]; rfl
    rw [← hdb]
    have hd1 : (1 : Int) ≤ (db.size : Int) := by omega
    have hd5 : db.size ≤ 5 := by omega
    have HDB := Lib.hid hdb
    clear hb2 hw5 hw5' hw6 hw2 hdb hds lz1 lz2
    have hxs : (db.extract 1 db.size).size ≤ 5 := by rw [ByteArray.size_extract]; omega
    have HTR := Lib.hid (fun W => Tryd.strings_TrimRight_one (db.extract 1 db.size) 48 (by decide) W (Nat.le_trans hxs (by decide)))
    obtain ⟨tb, htb⟩ : ∃ tb : ByteArray, tb = ⟨(Lib.trimRightB (db.extract 1 db.size).data.toList 48).toArray⟩ := ⟨_, rfl⟩
    have htz : tb.size ≤ 5 := by
      rw [htb]
      show (Lib.trimRightB (db.extract 1 db.size).data.toList 48).toArray.size ≤ 5
      rw [List.size_toArray]
      exact Nat.le_trans (trimR_len _ _) (by rw [← Lib.size_eq]; exact hxs)
    rw [← htb] at HTR
    have HTB := Lib.hid (show tb = ⟨(Lib.trimRightB ((dec z).drop 1) 48).toArray⟩ by rw [htb, drop_one db _ HDB.out])
    clear htb hxs
    go_wp2_with fail
    refine (HTR.out _).mono ?_
    rintro e w3 ⟨rfl, rfl⟩
    have HKK := Lib.hid (texU_k HK.out)
    have x1 := enc117
    have x2 := enc112
    have x3 := enc80
    have x4 := enc105
    rcases HKK.out with rfl | rfl | rfl | rfl
    all_goals
      go_wp2_with fail
      go_ret2
      rw [HE2.out, HTB.out]
      refine ⟨?_, B2.out⟩
      congr 4
  · have t1 : decide (0 < t) = false := decide_eq_false h0
    have HEE := HE.out
    rw [if_neg h0] at HEE
    have HE2 := Lib.hid HEE
    have HKK := Lib.hid (texU_k HK.out)
    clear h0 HEE
    have x1 := enc117
    have x2 := enc112
    have x3 := enc80
    have x4 := enc105
    rcases HKK.out with rfl | rfl | rfl | rfl
    all_goals
      go_wp2_with fail
      go_ret2
      rw [HE2.out]
      refine ⟨?_, B1.out⟩
      congr 4
theorem text_none (k : UInt8) (n : Int) (hu : n < 0 ∨ texU k = none) (w : World) :
    Calls Tryd.prog 12 #[.int .i64 n, .int .u8 k.toNat] w fun e w' => e = .returned (.tuple #[OS [], .int .i64 1]) ∧ Below w.heap.size w w' := by
  by_cases h0 : n < 0
  · have t0 : decide (n < 0) = true := decide_eq_true h0
    clear hu h0
    go_enter Tryd.func12, Tryd.ntmps12
    go_wp2_with (first | (go_at_call 27; refine (indexT _ _).mono ?_; rintro e w' ⟨rfl, rfl⟩))
    go_ret2
    exact ⟨rfl, Below.refl _ _⟩
  · have hu' : texU k = none := by rcases hu with h | h; exact absurd h h0; exact h
    have t0 : decide (n < 0) = false := decide_eq_false h0
    have hix : decide (ixT k < 0) = true := by rw [ixT_texU, hu']; rfl
    clear hu h0 hu'
    go_enter Tryd.func12, Tryd.ntmps12
    go_wp2_with (first | (go_at_call 27; refine (indexT _ _).mono ?_; rintro e w' ⟨rfl, rfl⟩))
    go_ret2
    exact ⟨rfl, Below.refl _ _⟩
theorem text_any (n : Int) (k : UInt8) (hn : n ≤ 9223372036854775807) (w : World) (h : P10 w) :
    Calls Tryd.prog 12 #[.int .i64 n, .int .u8 k.toNat] w fun e w' => e = .returned (.tuple #[OS (textS n k).1, .int .i64 (textS n k).2]) ∧ Below w.heap.size w w' := by
  unfold textS
  by_cases h0 : n < 0
  · rw [if_pos h0]; exact text_none k n (.inl h0) w
  · rw [if_neg h0]
    cases hu : texU k with
    | none => exact text_none k n (.inr hu) w
    | some u =>
      have := text_some n.toNat u k (by omega) hu w h
      rw [show ((n.toNat : Nat) : Int) = n by omega] at this
      exact this
end Go.Proofs.YteihpeffaeahlaaDoor
