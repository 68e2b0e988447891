/- Contracts of the specification: how a number is written. -/
import Derived.Test.YteihpeffaeahlaaDoorRF
namespace Go.Proofs.YteihpeffaeahlaaDoor
open Go.RowKit
set_option maxRecDepth 100000
theorem dgB_zero (d : Nat) (h : d < 10) (e : dgB d = 48) : d = 0 := by
  have := (dgB_dg d h).2
  rw [e] at this
  have h2 : (48 : UInt8).toNat = 48 := rfl
  omega
theorem dec_five (z : Nat) (h1 : 10000 < z) (h2 : z < 20000) : dec z = [dgB 1, dgB (z / 10 / 10 / 10 % 10), dgB (z / 10 / 10 % 10), dgB (z / 10 % 10), dgB (z % 10)] := by
  rw [dec_big z (by omega), dec_big (z / 10) (by omega), dec_big (z / 10 / 10) (by omega), dec_big (z / 10 / 10 / 10) (by omega), dec_small (z / 10 / 10 / 10 / 10) (by omega)]
  rw [show z / 10 / 10 / 10 / 10 = 1 by omega]
  rfl
theorem dropWhile_all (p : UInt8 → Bool) (l : List UInt8) (h : l.dropWhile p = []) : ∀ x ∈ l, p x = true := by
  induction l with
  | nil => intro x hx; cases hx
  | cons a l ih =>
    rw [List.dropWhile] at h
    split at h
    · rename_i ha
      intro x hx
      rcases List.mem_cons.1 hx with rfl | hx
      · exact ha
      · exact ih h x hx
    · cases h
theorem trim_nil (l : List UInt8) (h : Lib.trimRightB l 48 = []) : ∀ x ∈ l, x = 48 := by
  unfold Lib.trimRightB at h
  rw [List.reverse_eq_nil_iff] at h
  intro x hx
  have := dropWhile_all _ _ h x (List.mem_reverse.2 hx)
  simpa using this
theorem trim_ne (z : Nat) (h1 : 10000 < z) (h2 : z < 20000) : Lib.trimRightB ((dec z).drop 1) 48 ≠ [] := by
  intro h
  have ha := trim_nil _ h
  rw [dec_five z h1 h2] at ha
  simp only [List.drop_succ_cons, List.drop_zero, List.mem_cons, List.not_mem_nil, or_false, forall_eq_or_imp, forall_eq] at ha
  have e1 := dgB_zero _ (by omega) ha.1
  have e2 := dgB_zero _ (by omega) ha.2.1
  have e3 := dgB_zero _ (by omega) ha.2.2.1
  have e4 := dgB_zero _ (by omega) ha.2.2.2
  omega
theorem trim_snoc (l : List UInt8) (c : UInt8) : Lib.trimRightB (l ++ [c]) 48 = if c = 48 then Lib.trimRightB l 48 else l ++ [c] := by
  unfold Lib.trimRightB
  by_cases h : c = 48
  · rw [if_pos h]; simp [h]
  · rw [if_neg h]
    have : (c == 48) = false := by simpa using h
    simp [this]
theorem last_cut (cb : ByteArray) (m : Nat) (hm : m + 1 = cb.size) (hlt : m < cb.size) : cb.data.toList = (cb.extract 0 m).data.toList ++ [cb[m]] := by
  have hl : cb.data.toList.length = m + 1 := by rw [← Lib.size_eq, hm]
  rw [ByteArray.data_extract, Array.toList_extract, List.extract_eq_take_drop]
  simp only [List.drop_zero, Nat.sub_zero]
  have h1 := List.take_append_drop m cb.data.toList
  rw [List.drop_eq_getElem_cons (by omega), List.drop_eq_nil_of_le (by omega)] at h1
  exact h1.symm
theorem conv2 (k : UInt8) (W : World) : (convert 59 9 (.slice (some ⟨W.heap.size, 0, none⟩) 1 1)).run Tryd.prog (W.alloc (.cells #[.int .u8 k.toNat] 5)) =
    .ok (.string ⟨[k].toArray⟩) (W.alloc (.cells #[.int .u8 k.toNat] 5)) := by
  refine run_convert_bytes_back (P := Tryd.prog) _ 59 9 5 ⟨W.heap.size, 0, none⟩ 1 [k] Tryd.underlying59 Tryd.underlying5 Tryd.underlying9 ?_
  intro j hj
  obtain rfl : j = 0 := by simpa using hj
  simp [go_sem]
theorem conv117 (W : World) : (convert 59 9 (.slice (some ⟨W.heap.size, 0, none⟩) 1 1)).run Tryd.prog (W.alloc (.cells #[.int .u8 117] 5)) = .ok (.string ⟨#[117]⟩) (W.alloc (.cells #[.int .u8 117] 5)) := conv2 117 W
theorem conv112 (W : World) : (convert 59 9 (.slice (some ⟨W.heap.size, 0, none⟩) 1 1)).run Tryd.prog (W.alloc (.cells #[.int .u8 112] 5)) = .ok (.string ⟨#[112]⟩) (W.alloc (.cells #[.int .u8 112] 5)) := conv2 112 W
theorem conv80 (W : World) : (convert 59 9 (.slice (some ⟨W.heap.size, 0, none⟩) 1 1)).run Tryd.prog (W.alloc (.cells #[.int .u8 80] 5)) = .ok (.string ⟨#[80]⟩) (W.alloc (.cells #[.int .u8 80] 5)) := conv2 80 W
theorem conv105 (W : World) : (convert 59 9 (.slice (some ⟨W.heap.size, 0, none⟩) 1 1)).run Tryd.prog (W.alloc (.cells #[.int .u8 105] 5)) = .ok (.string ⟨#[105]⟩) (W.alloc (.cells #[.int .u8 105] 5)) := conv2 105 W
/-- At the head of the loop that cuts zeros. -/
def TrI (tp : List UInt8) (w : World) (n : Nat) (p : Value) (wr : World) : Prop :=
  ∃ cb : ByteArray, p = .string cb ∧ Lib.trimRightB cb.data.toList 48 = tp ∧ n = cb.size ∧ cb.size ≤ 5 ∧ w = wr
set_option maxHeartbeats 2000000 in
theorem rtext_some (n u : Nat) (k : UInt8) (hn : n ≤ 9223372036854775807) (hu : texU k = some u) (w : World) :
    Calls Tryd.prog 14 #[.int .i64 n, .int .u8 k.toNat] w fun e w' => e = .returned (.tuple #[OS (texR n u ++ [k]), .int .i64 0]) ∧ Below w.heap.size w w' := by
  obtain ⟨hk, hu1, hu2, hk8⟩ := texU_unitK hu
  have HU := Lib.hid (runit_some k 0 0 0 u hk (by decide))
  have HK := Lib.hid hu
  have t0 : decide ((n : Int) < 0) = false := decide_eq_false (by omega)
  have hun : (u : Int) ≠ 0 := by omega
  obtain ⟨q, hq⟩ : ∃ q, q = n / u := ⟨_, rfl⟩
  obtain ⟨m, hm⟩ : ∃ m, m = n % u := ⟨_, rfl⟩
  obtain ⟨t, ht⟩ : ∃ t, t = m * 10000 / u := ⟨_, rfl⟩
  have hqn : q ≤ 9223372036854775807 := by rw [hq]; exact Nat.le_trans (Nat.div_le_self _ _) hn
  have hmu : m < u := by rw [hm]; exact Nat.mod_lt _ (by omega)
  have ht4 : t < 10000 := by rw [ht]; exact Nat.div_lt_of_lt_mul (Nat.mul_lt_mul_of_pos_right hmu (by decide))
  have hw1 : wrap64 ((n : Int) / (u : Int)) = (q : Int) := by
    rw [← Int.natCast_ediv, ← hq, wrap64]; omega
  have hw2 : (n : Int) % (u : Int) = (m : Int) := by rw [← Int.natCast_emod, ← hm]
  have hw3 : (m : Int) * 10000 / (u : Int) = (t : Int) := by rw [ht]; simp
  obtain ⟨y, hy⟩ : ∃ y, y = m * 10000 := ⟨_, rfl⟩
  have hw5 : (m : Int) * 10000 = (y : Int) := by rw [hy]; simp
  have HW5 := Lib.hid hw5
  have HW5' := Lib.hid (show IntKind.i64.wrap ((m : Int) * 10000) = (y : Int) by rw [hw5]; exact IntWalk.i64_in _ (by omega))
  have HW6 := Lib.hid (show wrap64 ((y : Int) / (u : Int)) = (t : Int) by rw [← hw5, hw3]; exact wrap_t t ht4)
  have HE := Lib.hid (show texR n u = if 0 < t then dec q ++ 46 :: texP t else dec q by unfold texR; rw [← hm, ← hq, ← ht])
  have HQN := Lib.hid hqn
  have HT4 := Lib.hid ht4
  have hkk := texU_k hu
  have hkx : ((k.toNat : Int) == 117) = true ∨ ((k.toNat : Int) == 117) = false := by cases ((k.toNat : Int) == 117) <;> simp
  clear hk hu hq hm ht hqn hw3 hw5 hy ht4 hkx hk8
  rcases hkk with rfl | rfl | rfl | rfl
  all_goals
    go_enter Tryd.func14, Tryd.ntmps14
    go_wp2_with (first | (go_at_call 31; refine (HU.out _).mono ?_; rintro e w' ⟨rfl, rfl⟩))
    refine (digits_str q HQN.out _).mono ?_
    rintro e w1 ⟨rfl, hb1⟩
    have B1 := Lib.hid (((Below.refl w.heap.size w).alloc (Nat.le_refl _) (CXp 0 0 0)).trans (hb1.mono (by simp)))
    have lq : (dec q).length ≤ 20 := dec_len 20 q (by omega) (by have := HQN.out; omega)
    have hw5 := HW5.out
    have hw5' := HW5'.out
    have hw6 := HW6.out
    clear hb1 hw1
    by_cases h0 : 0 < t
    · have t1 : decide (0 < t) = true := decide_eq_true h0
      obtain ⟨z, hz⟩ : ∃ z, z = 10000 + t := ⟨_, rfl⟩
      have HW7 := Lib.hid (wrap_z t z HT4.out hz).1
      have hz2 := (wrap_z t z HT4.out hz).2
      have hz1 : 10000 < z := by omega
      have HNE := Lib.hid (trim_ne z hz1 hz2)
      have lz1 := dec_pos z
      have lz2 := dec_z z hz2
      have HEE := HE.out
      rw [if_pos h0] at HEE
      unfold texP at HEE
      rw [← hz] at HEE
      have HE2 := Lib.hid HEE
      have HZ2 := Lib.hid hz2
      clear h0 HEE hz hz2 hz1
      go_wp2_with fail
      rw [HW7.out]
      refine (digits_str z (z_le z HZ2.out) _).mono ?_
      rintro e w2 ⟨rfl, hb2⟩
      have B2 := Lib.hid (B1.out.trans (hb2.mono B1.out.size))
      obtain ⟨db, hdb⟩ : ∃ db : ByteArray, db = ⟨(dec z).toArray⟩ := ⟨_, rfl⟩
      have hds : db.size = (dec z).length := by rw [hdb]; rfl
      rw [← hdb]
      have hd1 : (1 : Int) ≤ (db.size : Int) := by omega
      have hd5 : db.size ≤ 5 := by omega
      have HDB := Lib.hid hdb
      clear hb2 hw5 hw5' hw6 hw2 hdb hds lz1 lz2
      have hxs : (db.extract 1 db.size).size ≤ 5 := by rw [ByteArray.size_extract]; omega
      have hdx := drop_one db _ HDB.out
      obtain ⟨cb0, hcb0⟩ : ∃ cb0, cb0 = db.extract 1 db.size := ⟨_, rfl⟩
      rw [← hcb0] at hxs hdx
      have HCB := Lib.hid hcb0
      have HDX := Lib.hid hdx
      clear hcb0 hdx
      go_wp2_with fail
      rw [← HCB.out]
      go_loopg [9] cb0.size (fun n p wr => TrI (Lib.trimRightB ((dec z).drop 1) 48) w2 n p wr)
      case atStart => exact ⟨cb0, rfl, by rw [HDX.out], rfl, hxs, rfl⟩
      case round =>
        obtain ⟨cb, rfl, htp, hn2, hc5, rfl⟩ := hrel
        have hne : cb.data.toList ≠ [] := by
          intro h
          rw [h] at htp
          exact HNE.out htp.symm
        have hpos : 0 < cb.size := by rw [Lib.size_eq]; exact List.length_pos_iff.2 hne
        obtain ⟨m, hm⟩ : ∃ m, m + 1 = cb.size := ⟨cb.size - 1, by omega⟩
        have hmlt : m < cb.size := by omega
        have hmi : (cb.size : Int) - 1 = (m : Int) := by omega
        have hmi2 : (m : Int) ≤ (cb.size : Int) := by omega
        have hcut := last_cut cb m hm hmlt
        rw [hcut, trim_snoc] at htp
        have HTP := Lib.hid htp
        have HN2 := Lib.hid hn2
        have HCUT := Lib.hid hcut
        have HM := Lib.hid hm
        clear htp hne hcut hn2 hm hpos
        by_cases h48 : cb[m] = 48
        · have t48 : ((cb[m].toNat : Int) == 48) = true := by rw [h48]; rfl
          have HTP2 := HTP.out
          rw [if_pos h48] at HTP2
          have HTP3 := Lib.hid HTP2
          clear h48 HTP2
          go_wp2_with fail
          go_roundg m
          case measure => have := HN2.out; have := HM.out; omega
          case rel => exact ⟨cb.extract 0 m, rfl, HTP3.out, by rw [ByteArray.size_extract]; omega, by rw [ByteArray.size_extract]; omega, rfl⟩
        · have t48 : ((cb[m].toNat : Int) == 48) = false := ne_b (c := 48) h48
          have HTP2 := HTP.out
          rw [if_neg h48, ← HCUT.out] at HTP2
          have HTP3 := Lib.hid HTP2
          have x1 := conv117
          have x2 := conv112
          have x3 := conv80
          have x4 := conv105
          clear h48 HTP2
          go_wp2_with fail
          go_ret2
          rw [HE2.out, ← HTP3.out]
          refine ⟨?_, B2.out.alloc B2.out.size _⟩
          congr 4
    · have t1 : decide (0 < t) = false := decide_eq_false h0
      have HEE := HE.out
      rw [if_neg h0] at HEE
      have HE2 := Lib.hid HEE
      have x1 := conv117
      have x2 := conv112
      have x3 := conv80
      have x4 := conv105
      clear h0 HEE
      go_wp2_with fail
      go_ret2
      rw [HE2.out]
      refine ⟨?_, B1.out.alloc B1.out.size _⟩
      congr 4
theorem bne_b {k c : UInt8} (h : k ≠ c) : ((k.toNat : Int) != (c.toNat : Int)) = true := by rw [bne, ne_b h]; rfl
theorem rtext_none (k : UInt8) (n : Int) (hu : n < 0 ∨ texU k = none) (w : World) :
    Calls Tryd.prog 14 #[.int .i64 n, .int .u8 k.toNat] w fun e w' => e = .returned (.tuple #[OS [], .int .i64 1]) ∧ Below w.heap.size w w' := by
  by_cases h0 : n < 0
  · have t0 : decide (n < 0) = true := decide_eq_true h0
    clear hu h0
    go_enter Tryd.func14, Tryd.ntmps14
    go_wp2_with fail
    go_ret2
    exact ⟨rfl, Below.refl _ _⟩
  · have hu' : texU k = none := by rcases hu with h | h; exact absurd h h0; exact h
    have t0 : decide (n < 0) = false := decide_eq_false h0
    have x1 : k ≠ 117 := by rintro rfl; cases hu'
    have x2 : k ≠ 112 := by rintro rfl; cases hu'
    have x3 : k ≠ 80 := by rintro rfl; cases hu'
    have x4 : k ≠ 105 := by rintro rfl; cases hu'
    have y1 : ((k.toNat : Int) != 117) = true := bne_b x1
    have y2 : ((k.toNat : Int) != 112) = true := bne_b x2
    have y3 : ((k.toNat : Int) != 80) = true := bne_b x3
    have y4 : ((k.toNat : Int) != 105) = true := bne_b x4
    clear hu h0 hu' x1 x2 x3 x4
    go_enter Tryd.func14, Tryd.ntmps14
    go_wp2_with fail
    go_ret2
    exact ⟨rfl, Below.refl _ _⟩
theorem rtext_any (n : Int) (k : UInt8) (hn : n ≤ 9223372036854775807) (w : World) :
    Calls Tryd.prog 14 #[.int .i64 n, .int .u8 k.toNat] w fun e w' => e = .returned (.tuple #[OS (textS n k).1, .int .i64 (textS n k).2]) ∧ Below w.heap.size w w' := by
  unfold textS
  by_cases h0 : n < 0
  · rw [if_pos h0]; exact rtext_none k n (.inl h0) w
  · rw [if_neg h0]
    cases hu : texU k with
    | none => exact rtext_none k n (.inr hu) w
    | some u =>
      have := rtext_some n.toNat u k (by omega) hu w
      rw [show ((n.toNat : Nat) : Int) = n by omega] at this
      exact this
end Go.Proofs.YteihpeffaeahlaaDoor
