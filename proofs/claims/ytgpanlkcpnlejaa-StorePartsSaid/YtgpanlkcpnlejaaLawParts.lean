/- The law StoreParts: its walk. -/
import Derived.Test.YtgpanlkcpnlejaaS8
namespace Go.Proofs.Ytgpanlkcpnlejaa
open Go.RowKit Go.Maps
set_option maxRecDepth 100000
theorem byte_ex (s : ByteArray) (j : Nat) (h : j < s.size) : (s.extract j (j + 1)).data.toList = [s[j]] := by
  rw [ByteArray.data_extract, Array.toList_extract]
  simp [List.extract]
  rw [List.drop_eq_getElem_cons (by simpa using h)]
  rfl
theorem snoc_ex (x s : ByteArray) (j : Nat) (h : j < s.size) : (x ++ s.extract j (j + 1)).data.toList = x.data.toList ++ [s[j]] := by
  rw [← byte_ex s j h, ByteArray.data_append, Array.toList_append]
set_option maxHeartbeats 4000000 in
theorem law_parts (s : ByteArray) (f t : Int) (hs9 : s.size ≤ 9223372036854775807) (hf : I64 f) (ht : I64 t) (w : World) :
    Calls Try.prog 5 #[.string s, .int .i64 f, .int .i64 t] w fun e w' => e = .returned (.bool true) ∧ Below w.heap.size w w' := by
  have HI := Lib.hid (fun W => rIsText_any s hs9 W)
  cases hok : okTx s.data.toList with
  | false =>
    rw [hok] at HI
    clear hok hs9 hf ht
    go_enter Try.func5, Try.ntmps5
    go_wp2_with fail
    refine (HI.out _).mono ?_
    rintro e w1 ⟨rfl, rfl⟩
    go_wp2_with fail
    refine (sane_any _).mono ?_
    rintro e w2 ⟨rfl, hb⟩
    have HB := Lib.hid hb
    clear hb
    go_wp2_with fail
    go_ret
    exact ⟨rfl, HB.out⟩
  | true =>
    rw [hok] at HI
    have hz := okTx_size hok
    have HOK := Lib.hid hok
    obtain ⟨a, b, hab, hle, hbz⟩ := span_nat s.size f t
    have HAB := Lib.hid hab
    have HPI := Lib.hid (in_span s.size f t a b hab)
    have HCUT := Lib.hid (cutTo_all s a b hbz)
    have I1 := Lib.hid (place_in s.size f hz hf)
    have I2 := Lib.hid (place_in s.size t hz ht)
    have HF := Lib.hid hf
    have HT := Lib.hid ht
    clear hok hs9 hf ht hab
    go_enter Try.func5, Try.ntmps5
    go_wp2_with fail
    refine (HI.out _).mono ?_
    rintro e w1 ⟨rfl, rfl⟩
    go_wp2_with fail
    refine (new_any _).mono ?_
    rintro e w1 ⟨rfl, hk, hb⟩
    have HK1 := Lib.hid (hk E9)
    have HB1 := Lib.hid hb
    clear hk hb
    go_wp2_with fail
    refine (define_new HK1.out ⟨#[97]⟩ s HOK.out rfl rfl (by simp)).mono ?_
    rintro e w2 ⟨rfl, ⟨eb, hbs, hk⟩, hw⟩
    have HK2 : Hid (SK (w.heap.size + 1) w.heap.size [⟨[97], eb⟩] (upd E9 eb ⟨1, s, none, 0, 0⟩) w2) := Lib.hid hk
    have HB2 := Lib.hid (HB1.out.trans (hw.to HB1.out.size (fun k e => Nat.le_of_eq e.symm)))
    have HBS := Lib.hid (Nat.le_trans HB1.out.size hbs)
    clear hk hw hbs
    have e1 : (getS [⟨[97], eb⟩] (⟨#[97]⟩ : ByteArray).data.toList) = ⟨[97], eb⟩ := get_one _ _
    have HP := part_str HK2.out ⟨#[97]⟩ f t HF.out HT.out (by unfold maxLen; decide) (has_one _ _) (by rw [e1, upd_same]) (by rw [e1, upd_same]; exact hz) a b (by rw [e1, upd_same]; exact HAB.out)
    rw [e1, upd_same] at HP
    have HP' := Lib.hid HP
    clear HP
    go_wp2_with fail
    refine HP'.out.mono ?_
    rintro e w3 ⟨rfl, hk, hw⟩
    have HB3 := Lib.hid (HB2.out.trans (hw.to HB2.out.size (fun k e => by have := HBS.out; omega)))
    have HTX := text_yes hk ⟨#[97]⟩ (by unfold maxLen; decide) (has_one _ _) (by rw [e1, upd_same])
    rw [e1, upd_same] at HTX
    have HTX' := Lib.hid HTX
    clear hk hw HTX e1
    obtain ⟨g, hg⟩ : ∃ g, g = s.extract a b := ⟨_, rfl⟩
    have HG : Hid (g = s.extract a b) := Lib.hid hg
    rw [← hg] at HTX'
    clear hg
    go_wp2_with fail
    refine HTX'.out.mono ?_
    rintro e w4 ⟨rfl, rfl⟩
    go_upto_if 37 with (fail)
    go_cut [1] (fun x wx => x = .int .i64 (placeS s.size f) ∧ w3 = wx)
    case first =>
      go_wp2_with fail
      · have h0 : f < 0 := by assumption
        have HE := Lib.hid (show wrap64 (f + s.size) = placeS s.size f by unfold placeS; rw [if_pos h0, Int.add_comm]; exact IntWalk.wrap64_in _ (by have := HF.out; unfold I64 at this; omega))
        go_meet
        exact ⟨by show Value.int .i64 (wrap64 (f + s.size)) = _; rw [HE.out], rfl⟩
      · have h0 : ¬ f < 0 := Int.not_lt.2 (by assumption)
        have HE := Lib.hid (show f = placeS s.size f by unfold placeS; rw [if_neg h0])
        go_meet
        exact ⟨by show Value.int .i64 f = _; rw [← HE.out], rfl⟩
    case rest =>
      obtain ⟨rfl, rfl⟩ := hcut
      go_upto_if 42 with (fail)
      go_cut [2] (fun x wx => x = .int .i64 (placeS s.size t) ∧ w3 = wx)
      case first =>
        go_wp2_with fail
        · have h0 : t < 0 := by assumption
          have HE := Lib.hid (show wrap64 (t + s.size) = placeS s.size t by unfold placeS; rw [if_pos h0, Int.add_comm]; exact IntWalk.wrap64_in _ (by have := HT.out; unfold I64 at this; omega))
          go_meet
          exact ⟨by show Value.int .i64 (wrap64 (t + s.size)) = _; rw [HE.out], rfl⟩
        · have h0 : ¬ t < 0 := Int.not_lt.2 (by assumption)
          have HE := Lib.hid (show t = placeS s.size t by unfold placeS; rw [if_neg h0])
          go_meet
          exact ⟨by show Value.int .i64 t = _; rw [← HE.out], rfl⟩
      case rest =>
        obtain ⟨rfl, rfl⟩ := hcut
        generalize placeS s.size f = p at *
        generalize placeS s.size t = q at *
        have HST : Hid (PaR s a b w3 s.size (.string ⟨#[]⟩) (.int .i64 0) w3) := Lib.hid ⟨0, ⟨#[]⟩, rfl, rfl, rfl, by simp [cutTo], rfl⟩
        go_wp2_with fail
        go_loopg [11, 12] s.size (fun k x i wr => PaR s a b w3 k x i wr)
        case atStart => exact HST.out
        case round =>
          obtain ⟨j, x, hk, rfl, rfl, hx, rfl⟩ := hrel
          have HK := Lib.hid hk
          have HX := Lib.hid hx
          by_cases hj : j < s.size
          · have dj : decide (j < s.size) = true := decide_eq_true hj
            have HIN := Lib.hid (HPI.out j hj)
            have hxl := cutTo_len s a b j (by omega)
            rw [← hx, show x.data.toList.length = x.size by simp] at hxl
            have hj2 : j ≤ 2000 := by omega
            have HJ := Lib.hid hj
            clear hk hx
            go_wp2_with fail
            all_goals
              go_roundg (gk - 1)
              case measure => have := HK.out; have := HJ.out; omega
              case rel =>
                have h1 := HIN.out
                have h2 := HK.out
                have h3 := HJ.out
                first
                  | exact ⟨j + 1, _, by omega, by go_num, rfl, by rw [cutTo_in s a b j (h1.1 (by omega)).1 (h1.1 (by omega)).2 h3, ← HX.out]; exact snoc_ex x s j h3, rfl⟩
                  | exact ⟨j + 1, _, by omega, by go_num, rfl, by rw [cutTo_out s a b j (fun h => by have := h1.2 h; omega), ← HX.out], rfl⟩
          · have dj : decide (j < s.size) = false := decide_eq_false hj
            have hxg : x = g := (by
              rw [HG.out, ← HCUT.out]
              apply ByteArray.ext
              apply Array.ext'
              rw [hx, show j = s.size by omega])
            subst hxg
            clear hk hj hx
            go_wp2_with fail
            refine (sane_any _).mono ?_
            rintro e w5 ⟨rfl, hb⟩
            have HB5 := Lib.hid (HB3.out.trans (hb.mono HB3.out.size))
            clear hb
            go_wp2_with fail
            go_ret
            exact ⟨rfl, HB5.out⟩
end Go.Proofs.Ytgpanlkcpnlejaa
