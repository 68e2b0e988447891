/- Contracts of the specification: Write. -/
import Derived.Test.YtedbdpklliaoaaaGreatDoorV2
namespace Go.Proofs.YtedbdpklliaoaaaGreatDoor
open Go.RowKit Go.Shelf
set_option maxRecDepth 100000
def PdR (N : Nat) (s : ByteArray) (w : World) (k : Nat) (t : Value) (wr : World) : Prop :=
  ∃ (c : Nat) (x : ByteArray), k + c = s.size - (dec N).length ∧ t = .string x ∧ x = ⟨(List.replicate c 48 ++ dec N).toArray⟩ ∧ w = wr
theorem rWrite_dig (N : Nat) (hN : N ≤ 1000000000) (s : ByteArray) (hf : isForm s.data.toList = true) (h : okW s.data.toList = false) (w : World) :
    Calls Tryz.prog 68 #[.int .i64 N, .string s] w fun e w' => e = .returned (.tuple #[.string ⟨(txtN N s.data.toList).toArray⟩, .int .i64 0]) ∧ Below w.heap.size w w' := by
  have d0 : decide ((N : Int) < 0) = false := decide_eq_false (by omega)
  obtain ⟨h1, h2, h3, h4⟩ := okW_not s h
  obtain ⟨hs1, hs9, hall⟩ := dig_form s hf h
  have hn : okN (N : Int) = true := by unfold okN; simp; omega
  have HF := Lib.hid (rIsForm_any s w (by omega))
  rw [hf] at HF
  have HFit := Lib.hid (rfits_any N w)
  rw [hn] at HFit
  have HDG := Lib.hid (digits_str N (by omega) w)
  have hl := dec_len 10 N (by omega) (by omega)
  have hp := dec_pos N
  have HX := Lib.hid (txtN_dig N s.data.toList h)
  rw [show s.data.toList.length = s.size by simp] at HX
  have hb0 := byte_at s 0 hs1
  have hd0 : isDg s[0] = true := List.all_eq_true.1 hall _ (List.mem_of_getElem? hb0)
  unfold isDg at hd0
  simp only [decide_eq_true_eq] at hd0
  have d1 : decide ((48 : Int) ≤ ((s[0]).toNat : Int)) = true := decide_eq_true (by omega)
  have d2 : decide (((s[0]).toNat : Int) ≤ 57) = true := decide_eq_true (by omega)
  have hs0 : 0 < s.size := hs1
  clear hf h hn hall hb0 hd0
  go_enter Tryz.func68, Tryz.ntmps68
  go_wp2_with fail
  refine HF.out.mono ?_
  rintro e w1 ⟨rfl, rfl⟩
  go_wp2_with fail
  refine HFit.out.mono ?_
  rintro e w1 ⟨rfl, rfl⟩
  go_wp2_with fail
  refine HDG.out.mono ?_
  rintro e w1 ⟨rfl, hb⟩
  have HB := Lib.hid hb
  clear hb
  go_wp2_with fail
  go_loopg [8] (s.size - (dec N).length) (fun k t wr => PdR N s w1 k t wr)
  case atStart => exact ⟨0, _, rfl, rfl, by simp, rfl⟩
  case round =>
    obtain ⟨c, x, hk, rfl, hx, rfl⟩ := hrel
    have hxs : x.size = c + (dec N).length := by rw [hx]; show (List.replicate c 48 ++ dec N).toArray.size = _; simp
    have HK := Lib.hid hk
    have HXX := Lib.hid hx
    have HXS := Lib.hid hxs
    have hx100 : x.size ≤ 100 := by omega
    by_cases hc : gk = 0
    · have d4 : decide (x.size < s.size) = false := decide_eq_false (by omega)
      have HR := Lib.hid (show s.size - (dec N).length = c by omega)
      by_cases hone : 1 < s.size
      · have d3 : decide ((1 : Int) < (s.size : Int)) = true := decide_eq_true (by omega)
        clear hk hx hxs hc hone
        go_wp2_with fail
        go_ret2
        rw [HX.out, HR.out, HXX.out]
        exact ⟨rfl, HB.out⟩
      · have d3 : decide ((1 : Int) < (s.size : Int)) = false := decide_eq_false (by omega)
        clear hk hx hxs hc hone
        go_wp2_with fail
        go_ret2
        rw [HX.out, HR.out, HXX.out]
        exact ⟨rfl, HB.out⟩
    · have d4 : decide (x.size < s.size) = true := decide_eq_true (by omega)
      have d3 : decide ((1 : Int) < (s.size : Int)) = true := decide_eq_true (by omega)
      clear hk hx hxs
      go_wp2_with fail
      go_roundg (gk - 1)
      case measure => omega
      case rel =>
        have := HK.out
        refine ⟨c + 1, _, by omega, rfl, ?_, rfl⟩
        rw [HXX.out, bytes_cons]; rfl
theorem great_l (l : List UInt8) (hl : l.length ≤ 1000) (w : World) : Calls Tryz.prog 91 #[.string ⟨l.toArray⟩] w fun e w' => e = .returned (.string ⟨(l.map upB).toArray⟩) ∧ Below w.heap.size w w' :=
  great_any ⟨l.toArray⟩ (by show l.toArray.size ≤ _; rw [List.size_toArray]; omega) w
theorem ll_le (N : Nat) (hN : N ≤ 1000000000) : (lets N).length ≤ 1000 := Nat.le_trans (lets_len 10 N (by omega)) (by omega)
set_option maxHeartbeats 2000000 in
theorem rWrite_w (N : Nat) (hN : N ≤ 1000000000) (s : ByteArray) (h : okW s.data.toList = true) (w : World) :
    Calls Tryz.prog 68 #[.int .i64 N, .string s] w fun e w' => e = .returned (.tuple #[.string ⟨(txtN N s.data.toList).toArray⟩, .int .i64 0]) ∧ Below w.heap.size w w' := by
  have d0 : decide ((N : Int) < 0) = false := decide_eq_false (by omega)
  have hn : okN (N : Int) = true := by unfold okN; simp; omega
  have hf : isForm s.data.toList = true := by rw [isForm_eq, h]; rfl
  have hs9 : s.size ≤ 9223372036854775807 := by rcases okW_cases s h with rfl | rfl | rfl | rfl <;> decide
  have HF := Lib.hid (rIsForm_any s w hs9)
  rw [hf] at HF
  have HFit := Lib.hid (rfits_any N w)
  rw [hn] at HFit
  have HDG := Lib.hid (digits_str N (by omega) w)
  have hc := okW_cases s h
  have HX1 : Hid (txtN N [105] = if N = 0 ∨ 39999 < N then dec N else rom N) := Lib.hid rfl
  have HX2 : Hid (txtN N [73] = if N = 0 ∨ 39999 < N then dec N else (rom N).map upB) := Lib.hid rfl
  have HX3 : Hid (txtN N [97] = if N = 0 then [48] else lets N) := Lib.hid rfl
  have HX4 : Hid (txtN N [65] = if N = 0 then [48] else (lets N).map upB) := Lib.hid rfl
  have HDL := Lib.hid (dec_len 10 N (by omega) (by omega))
  have b105 : (UInt8.toNat 105) = 105 := rfl
  have b73 : (UInt8.toNat 73) = 73 := rfl
  have b97 : (UInt8.toNat 97) = 97 := rfl
  have b65 : (UInt8.toNat 65) = 65 := rfl
  by_cases h0 : N = 0
  · subst h0
    have hg := Lib.hid (fun W => great_any ⟨#[48]⟩ (by decide) W)
    clear hf h hn hs9
    rcases hc with rfl | rfl | rfl | rfl
    all_goals
      go_enter Tryz.func68, Tryz.ntmps68
      go_wp2_with fail
      refine HF.out.mono ?_
      rintro e w1 ⟨rfl, rfl⟩
      go_wp2_with fail
      refine HFit.out.mono ?_
      rintro e w1 ⟨rfl, rfl⟩
      go_wp2_with fail
      refine HDG.out.mono ?_
      rintro e w1 ⟨rfl, hb⟩
      have HB := Lib.hid hb
      clear hb
      go_wp2_with fail
    · go_ret2
      exact ⟨rfl, HB.out⟩
    · refine (hg.out _).mono ?_
      rintro e w2 ⟨rfl, hb⟩
      have HB2 := Lib.hid (HB.out.trans (hb.mono HB.out.size))
      clear hb
      go_wp2_with fail
      go_ret2
      exact ⟨rfl, HB2.out⟩
    · go_ret2
      exact ⟨rfl, HB.out⟩
    · refine (hg.out _).mono ?_
      rintro e w2 ⟨rfl, hb⟩
      have HB2 := Lib.hid (HB.out.trans (hb.mono HB.out.size))
      clear hb
      go_wp2_with fail
      go_ret2
      exact ⟨rfl, HB2.out⟩
  · have d5 : ((N : Int) == 0) = false := by simp; omega
    have HLL := Lib.hid (ll_le N hN)
    have HLT := Lib.hid (fun W => rletters_any N (by omega) W)
    have HX3' : Hid (txtN N [97] = lets N) := Lib.hid (by rw [HX3.out, if_neg h0])
    have HX4' : Hid (txtN N [65] = (lets N).map upB) := Lib.hid (by rw [HX4.out, if_neg h0])
    have HN := Lib.hid hN
    by_cases h4 : 39999 < N
    · have d6 : decide ((N : Int) ≤ 39999) = false := decide_eq_false (by omega)
      have HX1' : Hid (txtN N [105] = dec N) := Lib.hid (by rw [HX1.out, if_pos (.inr h4)])
      have HX2' : Hid (txtN N [73] = (dec N).map upB) := Lib.hid (by rw [HX2.out, if_pos (.inr h4), map_up_dec])
      clear hf h hn hs9 h0 h4 hN
      rcases hc with rfl | rfl | rfl | rfl
      all_goals
        go_enter Tryz.func68, Tryz.ntmps68
        go_wp2_with fail
        refine HF.out.mono ?_
        rintro e w1 ⟨rfl, rfl⟩
        go_wp2_with fail
        refine HFit.out.mono ?_
        rintro e w1 ⟨rfl, rfl⟩
        go_wp2_with fail
        refine HDG.out.mono ?_
        rintro e w1 ⟨rfl, hb⟩
        have HB := Lib.hid hb
        clear hb
        go_wp2_with fail
      · go_ret2
        rw [HX1'.out]
        exact ⟨rfl, HB.out⟩
      · refine (great_l (dec N) (Nat.le_trans HDL.out (by omega)) _).mono ?_
        rintro e w3 ⟨rfl, hb⟩
        have HB3 := Lib.hid (HB.out.trans (hb.mono HB.out.size))
        clear hb
        go_wp2_with fail
        go_ret2
        rw [HX2'.out]
        exact ⟨rfl, HB3.out⟩
      · refine (HLT.out _).mono ?_
        rintro e w2 ⟨rfl, hb⟩
        have HB2 := Lib.hid (HB.out.trans (hb.mono HB.out.size))
        clear hb
        go_wp2_with fail
        go_ret2
        rw [HX3'.out]
        exact ⟨rfl, HB2.out⟩
      · refine (HLT.out _).mono ?_
        rintro e w2 ⟨rfl, hb⟩
        have HB2 := Lib.hid (HB.out.trans (hb.mono HB.out.size))
        clear hb
        go_wp2_with fail
        refine (great_l (lets N) HLL.out _).mono ?_
        rintro e w3 ⟨rfl, hb⟩
        have HB3 := Lib.hid (HB2.out.trans (hb.mono HB2.out.size))
        clear hb
        go_wp2_with fail
        go_ret2
        rw [HX4'.out]
        exact ⟨rfl, HB3.out⟩
    · have d6 : decide ((N : Int) ≤ 39999) = true := decide_eq_true (by omega)
      have HX1' : Hid (txtN N [105] = rom N) := Lib.hid (by rw [HX1.out, if_neg (by omega)])
      have HX2' : Hid (txtN N [73] = (rom N).map upB) := Lib.hid (by rw [HX2.out, if_neg (by omega)])
      have HRM := Lib.hid (fun W => rroman_any N (by omega) W)
      have HRL := Lib.hid (show (rom N).length ≤ 1000 from Nat.le_trans (rom_len N (by omega)) (by omega))
      clear hf h hn hs9 h0 h4 hN
      rcases hc with rfl | rfl | rfl | rfl
      all_goals
        go_enter Tryz.func68, Tryz.ntmps68
        go_wp2_with fail
        refine HF.out.mono ?_
        rintro e w1 ⟨rfl, rfl⟩
        go_wp2_with fail
        refine HFit.out.mono ?_
        rintro e w1 ⟨rfl, rfl⟩
        go_wp2_with fail
        refine HDG.out.mono ?_
        rintro e w1 ⟨rfl, hb⟩
        have HB := Lib.hid hb
        clear hb
        go_wp2_with fail
      · refine (HRM.out _).mono ?_
        rintro e w2 ⟨rfl, hb⟩
        have HB2 := Lib.hid (HB.out.trans (hb.mono HB.out.size))
        clear hb
        go_wp2_with fail
        go_ret2
        rw [HX1'.out]
        exact ⟨rfl, HB2.out⟩
      · refine (HRM.out _).mono ?_
        rintro e w2 ⟨rfl, hb⟩
        have HB2 := Lib.hid (HB.out.trans (hb.mono HB.out.size))
        clear hb
        go_wp2_with fail
        refine (great_l (rom N) HRL.out _).mono ?_
        rintro e w3 ⟨rfl, hb⟩
        have HB3 := Lib.hid (HB2.out.trans (hb.mono HB2.out.size))
        clear hb
        go_wp2_with fail
        go_ret2
        rw [HX2'.out]
        exact ⟨rfl, HB3.out⟩
      · refine (HLT.out _).mono ?_
        rintro e w2 ⟨rfl, hb⟩
        have HB2 := Lib.hid (HB.out.trans (hb.mono HB.out.size))
        clear hb
        go_wp2_with fail
        go_ret2
        rw [HX3'.out]
        exact ⟨rfl, HB2.out⟩
      · refine (HLT.out _).mono ?_
        rintro e w2 ⟨rfl, hb⟩
        have HB2 := Lib.hid (HB.out.trans (hb.mono HB.out.size))
        clear hb
        go_wp2_with fail
        refine (great_l (lets N) HLL.out _).mono ?_
        rintro e w3 ⟨rfl, hb⟩
        have HB3 := Lib.hid (HB2.out.trans (hb.mono HB2.out.size))
        clear hb
        go_wp2_with fail
        go_ret2
        rw [HX4'.out]
        exact ⟨rfl, HB3.out⟩
theorem rWrite_nn (N : Nat) (hN : N ≤ 1000000000) (s : ByteArray) (hf : isForm s.data.toList = true) (w : World) :
    Calls Tryz.prog 68 #[.int .i64 N, .string s] w fun e w' => e = .returned (.tuple #[.string ⟨(txtN N s.data.toList).toArray⟩, .int .i64 0]) ∧ Below w.heap.size w w' := by
  cases h : okW s.data.toList with
  | true => exact rWrite_w N hN s h w
  | false => exact rWrite_dig N hN s hf h w
theorem txtN_len (N : Nat) (hN : N ≤ 1000000000) (s : ByteArray) (hf : isForm s.data.toList = true) : (txtN N s.data.toList).length ≤ 1000 := by
  have hd := dec_len 10 N (by omega) (by omega)
  cases h : okW s.data.toList with
  | true =>
    rcases okW_cases s h with rfl | rfl | rfl | rfl
    · exact (rl_ok N (by omega)).1
    · show (if N = 0 ∨ 39999 < N then dec N else (rom N).map upB).length ≤ 1000
      rw [← rl_up, List.length_map]; exact (rl_ok N (by omega)).1
    · exact (ll_ok N (by omega)).1
    · show (if N = 0 then [48] else (lets N).map upB).length ≤ 1000
      rw [← ll_up, List.length_map]; exact (ll_ok N (by omega)).1
  | false =>
    obtain ⟨_, hs9, _⟩ := dig_form s hf h
    rw [txtN_dig _ _ h, List.length_append, List.length_replicate]
    have : s.data.toList.length = s.size := by simp
    omega
theorem rWrite_any (n : Int) (s : ByteArray) (hs : s.size ≤ 9223372036854775807) (w : World) :
    Calls Tryz.prog 68 #[.int .i64 n, .string s] w fun e w' => e = .returned (.tuple #[.string ⟨(writeS n s.data.toList).1.toArray⟩, .int .i64 (writeS n s.data.toList).2]) ∧ Below w.heap.size w w' := by
  have HF := Lib.hid (rIsForm_any s w hs)
  have HFit := Lib.hid (rfits_any n w)
  cases hf : isForm s.data.toList with
  | false =>
    have HX := Lib.hid (show writeS n s.data.toList = ([], 4) by unfold writeS; rw [if_pos hf])
    rw [hf] at HF
    clear hf
    go_enter Tryz.func68, Tryz.ntmps68
    go_wp2_with fail
    refine HF.out.mono ?_
    rintro e w1 ⟨rfl, rfl⟩
    go_wp2_with fail
    go_ret2
    rw [HX.out]
    exact ⟨rfl, Below.refl _ _⟩
  | true =>
    rw [hf] at HF
    cases hn : okN n with
    | false =>
      have HX := Lib.hid (show writeS n s.data.toList = ([], 5) by unfold writeS; rw [hf, hn]; rfl)
      rw [hn] at HFit
      clear hf hn
      go_enter Tryz.func68, Tryz.ntmps68
      go_wp2_with fail
      refine HF.out.mono ?_
      rintro e w1 ⟨rfl, rfl⟩
      go_wp2_with fail
      refine HFit.out.mono ?_
      rintro e w1 ⟨rfl, rfl⟩
      go_wp2_with fail
      go_ret2
      rw [HX.out]
      exact ⟨rfl, Below.refl _ _⟩
    | true =>
      have hn' := hn
      unfold okN at hn'
      simp only [Bool.and_eq_true, decide_eq_true_eq] at hn'
      have HW := Lib.hid (show writeS n s.data.toList = (txt n s.data.toList, 0) by unfold writeS; rw [hf, hn]; rfl)
      by_cases h0 : n < 0
      · obtain ⟨N, hN⟩ : ∃ N : Nat, -n = N := ⟨n.natAbs, by omega⟩
        have HX := Lib.hid (show txt n s.data.toList = 45 :: txtN N s.data.toList by unfold txt; rw [if_pos h0, show n.natAbs = N by omega])
        have HT := Lib.hid (rWrite_nn N (by omega) s hf w)
        have hlen := txtN_len N (by omega) s hf
        obtain ⟨t, ht⟩ : ∃ t : ByteArray, t = ⟨(txtN N s.data.toList).toArray⟩ := ⟨_, rfl⟩
        have hts : t.size ≤ 1000 := by rw [ht]; show (txtN N s.data.toList).toArray.size ≤ _; simpa using hlen
        rw [← ht] at HT
        have HTT := Lib.hid ht
        have HNN := Lib.hid hN
        have d0 : decide (n < 0) = true := decide_eq_true h0
        rw [hn] at HFit
        clear hf ht hlen hN hn
        go_enter Tryz.func68, Tryz.ntmps68
        go_wp2_with fail
        refine HF.out.mono ?_
        rintro e w1 ⟨rfl, rfl⟩
        go_wp2_with fail
        refine HFit.out.mono ?_
        rintro e w1 ⟨rfl, rfl⟩
        go_wp2_with fail
        rw [HNN.out]
        refine HT.out.mono ?_
        rintro e w2 ⟨rfl, hb⟩
        have HB2 := Lib.hid hb
        clear hb
        go_wp2_with fail
        go_ret2
        refine ⟨?_, HB2.out⟩
        rw [HW.out, HX.out]
        refine congrArg (fun x : ByteArray => Ending.returned (.tuple #[.string x, .int .i64 0])) ?_
        show (⟨#[45]⟩ : ByteArray) ++ t = _
        rw [HTT.out, bytes_cons]
      · obtain ⟨N, rfl⟩ : ∃ N : Nat, n = N := ⟨n.toNat, by omega⟩
        have := rWrite_nn N (by omega) s hf w
        rw [HW.out]
        rwa [show txt (N : Int) s.data.toList = txtN N s.data.toList by unfold txt; rw [if_neg h0]; rfl]
end Go.Proofs.YtedbdpklliaoaaaGreatDoor
