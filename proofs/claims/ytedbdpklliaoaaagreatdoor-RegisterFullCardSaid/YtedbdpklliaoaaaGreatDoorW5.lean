/- Contracts: the code's texts and Write. -/
import Derived.Test.YtedbdpklliaoaaaGreatDoorW4
namespace Go.Proofs.YtedbdpklliaoaaaGreatDoor
open Go.RowKit Go.Shelf
set_option maxRecDepth 100000
theorem rl_up (n : Nat) : ((if n = 0 ∨ 39999 < n then dec n else rom n).map upB) = (if n = 0 ∨ 39999 < n then dec n else (rom n).map upB) := by
  split
  · exact map_up_dec n
  · rfl
theorem ll_up (n : Nat) : ((if n = 0 then [48] else lets n).map upB) = (if n = 0 then [48] else (lets n).map upB) := by
  split
  · rfl
  · rfl
theorem rl_ok (n : Nat) (h : n ≤ 1000000000) : (if n = 0 ∨ 39999 < n then dec n else rom n).length ≤ 1000 ∧ ∀ c ∈ (if n = 0 ∨ 39999 < n then dec n else rom n), c.toNat < 128 := by
  split
  · refine ⟨Nat.le_trans (dec_len 10 n (by omega) (by omega)) (by omega), fun c hc => ?_⟩
    have := dec_digit n c hc; omega
  · refine ⟨Nat.le_trans (rom_len n (by omega)) (by omega), fun c hc => ?_⟩
    have := rom_range n c hc; omega
theorem ll_ok (n : Nat) (h : n ≤ 1000000000) : (if n = 0 then [48] else lets n).length ≤ 1000 ∧ ∀ c ∈ (if n = 0 then [48] else lets n), c.toNat < 128 := by
  split
  · refine ⟨by simp, fun c hc => ?_⟩
    obtain rfl := List.mem_singleton.1 hc; decide
  · refine ⟨Nat.le_trans (lets_len 10 n (by omega)) (by omega), fun c hc => ?_⟩
    have := lets_range n c hc; omega
/-- A format of digits. -/
theorem dig_form (s : ByteArray) (hf : isForm s.data.toList = true) (h : okW s.data.toList = false) : 1 ≤ s.size ∧ s.size ≤ 9 ∧ s.data.toList.all isDg = true := by
  rw [isForm_eq, h, Bool.false_or] at hf
  simp only [Bool.and_eq_true, decide_eq_true_eq] at hf
  have : s.data.toList.length = s.size := by simp
  exact ⟨by omega, by omega, hf.2⟩
theorem txtN_dig (n : Nat) (l : List UInt8) (h : okW l = false) : txtN n l = List.replicate (l.length - (dec n).length) 48 ++ dec n := by
  unfold okW at h
  simp only [Bool.or_eq_false_iff, beq_eq_false_iff_ne, ne_eq] at h
  unfold txtN
  rw [if_neg h.1.1.1, if_neg h.1.1.2, if_neg h.1.2, if_neg h.2]
theorem text_nn (N : Nat) (hN : N ≤ 1000000000) (s : ByteArray) (hf : isForm s.data.toList = true) (w : World) (hT : TB w) :
    Calls Tryz.prog 37 #[.int .i64 N, .string s] w fun e w' => e = .returned (.string ⟨(txtN N s.data.toList).toArray⟩) ∧ Below w.heap.size w w' := by
  have d0 : decide ((N : Int) < 0) = false := decide_eq_false (by omega)
  cases h : okW s.data.toList with
  | true =>
    have hc := okW_cases s h
    have HR := Lib.hid (roman_any N hN w hT)
    have HL := Lib.hid (letters_any N (by omega) w)
    have HRO := Lib.hid (rl_ok N hN)
    have HLO := Lib.hid (ll_ok N hN)
    have HRU := Lib.hid (rl_up N)
    have HLU := Lib.hid (ll_up N)
    have HX1 : Hid (txtN N [105] = if N = 0 ∨ 39999 < N then dec N else rom N) := Lib.hid rfl
    have HX2 : Hid (txtN N [73] = if N = 0 ∨ 39999 < N then dec N else (rom N).map upB) := Lib.hid rfl
    have HX3 : Hid (txtN N [97] = if N = 0 then [48] else lets N) := Lib.hid rfl
    have HX4 : Hid (txtN N [65] = if N = 0 then [48] else (lets N).map upB) := Lib.hid rfl
    obtain ⟨r, hr⟩ : ∃ r, r = (if N = 0 ∨ 39999 < N then dec N else rom N) := ⟨_, rfl⟩
    obtain ⟨t, ht⟩ : ∃ t, t = (if N = 0 then [48] else lets N) := ⟨_, rfl⟩
    rw [← hr] at HR HRO HRU HX1
    rw [← ht] at HL HLO HLU HX3
    clear h hf hT hr ht
    rcases hc with rfl | rfl | rfl | rfl
    · go_enter Tryz.func37, Tryz.ntmps37
      go_wp2_with fail
      refine HR.out.mono ?_
      rintro e w1 ⟨rfl, hb⟩
      have HB := Lib.hid hb
      clear hb
      go_wp2_with fail
      go_ret
      exact ⟨congrArg (fun x : List UInt8 => Ending.returned (.string ⟨x.toArray⟩)) HX1.out.symm, HB.out⟩
    · go_enter Tryz.func37, Tryz.ntmps37
      go_wp2_with fail
      refine HR.out.mono ?_
      rintro e w1 ⟨rfl, hb⟩
      have HB := Lib.hid hb
      clear hb
      go_wp2_with fail
      refine (upper_call r HRO.out.1 HRO.out.2 _).mono ?_
      rintro e w2 ⟨rfl, hb⟩
      have HB2 := Lib.hid (HB.out.trans (hb.mono HB.out.size))
      clear hb
      go_wp2_with fail
      go_ret
      exact ⟨congrArg (fun x : List UInt8 => Ending.returned (.string ⟨x.toArray⟩)) (HRU.out.trans HX2.out.symm), HB2.out⟩
    · go_enter Tryz.func37, Tryz.ntmps37
      go_wp2_with fail
      refine HL.out.mono ?_
      rintro e w1 ⟨rfl, rfl⟩
      go_wp2_with fail
      go_ret
      exact ⟨congrArg (fun x : List UInt8 => Ending.returned (.string ⟨x.toArray⟩)) HX3.out.symm, Below.refl _ _⟩
    · go_enter Tryz.func37, Tryz.ntmps37
      go_wp2_with fail
      refine HL.out.mono ?_
      rintro e w1 ⟨rfl, rfl⟩
      go_wp2_with fail
      refine (upper_call t HLO.out.1 HLO.out.2 _).mono ?_
      rintro e w2 ⟨rfl, hb⟩
      have HB := Lib.hid hb
      clear hb
      go_wp2_with fail
      go_ret
      exact ⟨congrArg (fun x : List UInt8 => Ending.returned (.string ⟨x.toArray⟩)) (HLU.out.trans HX4.out.symm), HB.out⟩
  | false =>
    obtain ⟨h1, h2, h3, h4⟩ := okW_not s h
    obtain ⟨hs1, hs9, _⟩ := dig_form s hf h
    have HI := Lib.hid (itoa_call N (by omega) w hT)
    have hl := dec_len 10 N (by omega) (by omega)
    have hp := dec_pos N
    have HX := Lib.hid (txtN_dig N s.data.toList h)
    rw [show s.data.toList.length = s.size by simp] at HX
    obtain ⟨d, hd⟩ : ∃ d : ByteArray, d = ⟨(dec N).toArray⟩ := ⟨_, rfl⟩
    have hds : d.size = (dec N).length := by rw [hd]; show (dec N).toArray.size = _; simp
    rw [← hds] at HX hl hp
    rw [← hd] at HI
    have HD := Lib.hid hd
    clear hf h hT hd hds
    obtain ⟨c, hc⟩ : ∃ c, c = s.size - d.size := ⟨_, rfl⟩
    rw [← hc] at HX
    have HM : Hid (max (0 : Int) ((s.size : Int) - (d.size : Int)) = (c : Int)) := Lib.hid (by omega)
    have hcl : c ≤ 1000 := by omega
    clear hc
    go_enter Tryz.func37, Tryz.ntmps37
    go_wp2_with fail
    refine HI.out.mono ?_
    rintro e w1 ⟨rfl, hb⟩
    have HB := Lib.hid hb
    clear hb
    go_wp2_with fail
    rw [HM.out]
    refine (repeat_call c hcl _).mono ?_
    rintro e w2 ⟨rfl, hb⟩
    have HB2 := Lib.hid (HB.out.trans (hb.mono HB.out.size))
    obtain ⟨z, hz⟩ : ∃ z : ByteArray, z = ⟨(List.replicate c 48).toArray⟩ := ⟨_, rfl⟩
    have hzs : z.size = c := by rw [hz]; show (List.replicate c 48).toArray.size = _; simp
    have hzl : z.size ≤ 1000 := by omega
    rw [← hz]
    have HZ := Lib.hid hz
    clear hb hz hzs
    go_wp2_with fail
    go_ret
    refine ⟨?_, HB2.out⟩
    rw [HX.out]
    refine congrArg (fun x : ByteArray => Ending.returned (.string x)) ?_
    show z ++ d = _
    rw [HZ.out, HD.out, bytes_app]
theorem text_any (n : Int) (hn : okN n = true) (s : ByteArray) (hf : isForm s.data.toList = true) (w : World) (hT : TB w) :
    Calls Tryz.prog 37 #[.int .i64 n, .string s] w fun e w' => e = .returned (.string ⟨(txt n s.data.toList).toArray⟩) ∧ Below w.heap.size w w' := by
  unfold okN at hn
  simp only [Bool.and_eq_true, decide_eq_true_eq] at hn
  by_cases h0 : n < 0
  · obtain ⟨N, hN⟩ : ∃ N : Nat, -n = N := ⟨n.natAbs, by omega⟩
    have HX := Lib.hid (show txt n s.data.toList = 45 :: txtN N s.data.toList by unfold txt; rw [if_pos h0, show n.natAbs = N by omega])
    have HT := Lib.hid (text_nn N (by omega) s hf w hT)
    have hlen : (txtN N s.data.toList).length ≤ 1000 := by
      have hd := dec_len 10 N (by omega) (by omega)
      cases h : okW s.data.toList with
      | true =>
        rcases okW_cases s h with rfl | rfl | rfl | rfl
        · exact (rl_ok N (by omega)).1
        · show (if N = 0 ∨ 39999 < N then dec N else (rom N).map upB).length ≤ 1000
          rw [← rl_up, List.length_map]; exact (rl_ok N (by omega)).1
        · exact (ll_ok N (by omega)).1
        · show (if N = 0 then [48] else (lets N).map upB).length ≤ 1000
          rw [← ll_up, List.length_map]; exact (ll_ok N (by omega)).1
      | false =>
        obtain ⟨_, hs9, _⟩ := dig_form s hf h
        rw [txtN_dig _ _ h, List.length_append, List.length_replicate]
        have : s.data.toList.length = s.size := by simp
        omega
    obtain ⟨t, ht⟩ : ∃ t : ByteArray, t = ⟨(txtN N s.data.toList).toArray⟩ := ⟨_, rfl⟩
    have hts : t.size ≤ 1000 := by rw [ht]; show (txtN N s.data.toList).toArray.size ≤ _; simpa using hlen
    rw [← ht] at HT
    have HTT := Lib.hid ht
    have HNN := Lib.hid hN
    have d0 : decide (n < 0) = true := decide_eq_true h0
    clear hf hT ht hlen hN
    go_enter Tryz.func37, Tryz.ntmps37
    go_wp2_with fail
    rw [HNN.out]
    refine HT.out.mono ?_
    rintro e w2 ⟨rfl, hb⟩
    have HB2 := Lib.hid hb
    clear hb
    go_wp2_with fail
    go_ret
    refine ⟨?_, HB2.out⟩
    rw [HX.out]
    refine congrArg (fun x : ByteArray => Ending.returned (.string x)) ?_
    show (⟨#[45]⟩ : ByteArray) ++ t = _
    rw [HTT.out, bytes_cons]
  · obtain ⟨N, rfl⟩ : ∃ N : Nat, n = N := ⟨n.toNat, by omega⟩
    have := text_nn N (by omega) s hf w hT
    rwa [show txt (N : Int) s.data.toList = txtN N s.data.toList by unfold txt; rw [if_neg h0]; rfl]
theorem write_any (n : Int) (s : ByteArray) (hs : s.size ≤ 9223372036854775807) (w : World) (hT : TB w) :
    Calls Tryz.prog 25 #[.int .i64 n, .string s] w fun e w' => e = .returned (.tuple #[.string ⟨(writeS n s.data.toList).1.toArray⟩, .int .i64 (writeS n s.data.toList).2]) ∧ Below w.heap.size w w' := by
  have HF := Lib.hid (formError_any s w hs)
  have HT := Lib.hid hT
  cases hf : isForm s.data.toList with
  | false =>
    have HX := Lib.hid (show writeS n s.data.toList = ([], 4) by unfold writeS; rw [if_pos hf])
    rw [show eForm s.data.toList = 4 by unfold eForm; rw [hf]; rfl] at HF
    clear hf hT
    go_enter Tryz.func25, Tryz.ntmps25
    go_wp2_with fail
    refine HF.out.mono ?_
    rintro e w2 ⟨rfl, hb⟩
    have HB2 := Lib.hid hb
    clear hb
    go_wp2_with fail
    go_ret2
    rw [HX.out]
    exact ⟨rfl, HB2.out⟩
  | true =>
    rw [show eForm s.data.toList = 0 by unfold eForm; rw [hf]; rfl] at HF
    have HFF := Lib.hid hf
    cases hn : okN n with
    | false =>
      have HX := Lib.hid (show writeS n s.data.toList = ([], 5) by unfold writeS; rw [hf, hn]; rfl)
      have HE := Lib.hid (show eRange n = 5 by unfold eRange; rw [hn]; rfl)
      clear hf hT hn
      go_enter Tryz.func25, Tryz.ntmps25
      go_wp2_with fail
      refine HF.out.mono ?_
      rintro e w2 ⟨rfl, hb⟩
      have HB2 := Lib.hid hb
      clear hb
      go_wp2_with fail
      refine (rangeError_any n _).mono ?_
      rw [HE.out]
      rintro e w3 ⟨rfl, rfl⟩
      go_wp2_with fail
      go_ret2
      rw [HX.out]
      exact ⟨rfl, HB2.out⟩
    | true =>
      have HX := Lib.hid (show writeS n s.data.toList = (txt n s.data.toList, 0) by unfold writeS; rw [hf, hn]; rfl)
      have HE := Lib.hid (show eRange n = 0 by unfold eRange; rw [hn]; rfl)
      have HN := Lib.hid hn
      clear hf hT hn
      go_enter Tryz.func25, Tryz.ntmps25
      go_wp2_with fail
      refine HF.out.mono ?_
      rintro e w2 ⟨rfl, hb⟩
      have HB2 := Lib.hid hb
      clear hb
      go_wp2_with fail
      refine (rangeError_any n _).mono ?_
      rw [HE.out]
      rintro e w3 ⟨rfl, rfl⟩
      go_wp2_with fail
      refine (text_any n HN.out s HFF.out _ (HT.out.below HB2.out (Nat.le_refl _))).mono ?_
      rintro e w4 ⟨rfl, hb⟩
      have HB3 := Lib.hid (HB2.out.trans (hb.mono HB2.out.size))
      clear hb
      go_wp2_with fail
      go_ret2
      rw [HX.out]
      exact ⟨rfl, HB3.out⟩
end Go.Proofs.YtedbdpklliaoaaaGreatDoor
