/- The law StoreFull: its walk. -/
import Derived.Test.YtgpanlkcpnlejaaF0
import Derived.Test.YtgpanlkcpnlejaaF1
namespace Go.Proofs.Ytgpanlkcpnlejaa
open Go.RowKit Go.Maps
set_option maxRecDepth 100000
abbrev mNm : ByteArray := ⟨#[109, 111, 114, 101]⟩
set_option maxHeartbeats 4000000 in
theorem full_walk (A : Int) (_ : I64 A) (w : World) :
    Calls Try.prog 7 #[.int .i64 A] w fun e w' => e = .returned (.bool true) ∧ Below w.heap.size w w' := by
  obtain ⟨a, ha, hA⟩ := umod A 500 (by omega)
  have ha5 : a < 500 := by omega
  clear ha
  go_enter Try.func7, Try.ntmps7
  go_wp2_with fail
  refine (new_any _).mono ?_
  rintro e w1 ⟨rfl, hbk, hb⟩
  have HST : Hid (FuR (w.heap.size + 1) w.heap.size w 500 (.int .i64 0) w1) := Lib.hid ⟨0, [], E9, rfl, rfl, hbk E9, NmIs.zero, hb, fun r hr => by cases hr⟩
  clear hbk hb
  go_wp2_with fail
  go_loopg [4] 500 (fun k i wr => FuR (w.heap.size + 1) w.heap.size w k i wr)
  case atStart => exact HST.out
  case round =>
    obtain ⟨j, L, E, hk, rfl, hbk, hnm, hb, hlo⟩ := hrel
    have HLO := Lib.hid hlo
    clear hlo
    have HK := Lib.hid hk
    have HBK := Lib.hid hbk
    have HNM : Hid (NmIs L j) := Lib.hid hnm
    have HB := Lib.hid hb
    clear hbk hnm hb
    by_cases hj : j < 500
    · have dj : decide ((j : Int) < 500) = true := decide_eq_true (by omega)
      have hq0 : 0 ≤ (j : Int) / 26 := by omega
      have hq1 : (j : Int) / 26 ≤ 19 := by omega
      have hr0 : 0 ≤ (j : Int) % 26 := by omega
      have hr1 : (j : Int) % 26 ≤ 25 := by omega
      have hcv := two_bytes j hj wr
      have HFB := Lib.hid (fNm_bytes j)
      obtain ⟨x, hx⟩ : ∃ x : ByteArray, x = ⟨#[UInt8.ofNat (97 + j / 26), UInt8.ofNat (97 + j % 26)]⟩ := ⟨_, rfl⟩
      have hxz : x.size = 2 := by rw [hx]; rfl
      have hxz2 : x.size ≤ 2 := by omega
      rw [← hx] at hcv HFB
      have HJ := Lib.hid hj
      have hba := (Below.refl wr.heap.size wr).alloc (Nat.le_refl _) (.cells #[.int .u8 (97 + (j : Int) / 26), .int .u8 (97 + (j : Int) % 26)] 5)
      have HBA := Lib.hid (HB.out.trans (hba.mono HB.out.size))
      have HDEF := Lib.hid (define_new (HBK.out.below hba) ((⟨#[110]⟩ : ByteArray) ++ x) ⟨#[120]⟩ rfl (by rw [HFB.out]; exact fNm_ok j hj) (by rw [HFB.out]; exact HNM.out.not hj) (by rw [HNM.out.1]; exact hj))
      rw [HFB.out] at HDEF
      clear hk hj hx hba hxz
      go_wp2_with fail
      refine HDEF.out.mono ?_
      rintro e w3 ⟨rfl, ⟨b, hbs, hk3⟩, hw3⟩
      have HK3 := Lib.hid hk3
      have HB3 := Lib.hid (HBA.out.trans (hw3.to HBA.out.size (fun k e => Nat.le_of_eq e.symm)))
      have HBS := Lib.hid (Nat.le_trans HBA.out.size hbs)
      clear hk3 hw3 hbs
      go_wp2_with fail
      go_roundg (gk - 1)
      case measure => have := HK.out; have := HJ.out; omega
      case rel =>
        have := HK.out
        have := HJ.out
        exact ⟨j + 1, _, _, by omega, by first | rfl | (congr 1; unfold wrap64; omega), HK3.out, HNM.out.step HJ.out HBK.out.asc b, HB3.out, fun r hr => by
          rcases mem_put L _ r hr with rfl | hr
          · exact HBS.out
          · exact HLO.out r hr⟩
    · have dj : decide ((j : Int) < 500) = false := decide_eq_false (by omega)
      have hj5 : j = 500 := by omega
      have HNM : Hid (NmIs L 500) := Lib.hid (by rw [← hj5]; exact HNM.out)
      have hq0 : 0 ≤ (a : Int) / 26 := by omega
      have hq1 : (a : Int) / 26 ≤ 19 := by omega
      have hr0 : 0 ≤ (a : Int) % 26 := by omega
      have hr1 : (a : Int) % 26 ≤ 25 := by omega
      have hcv := two_bytes a ha5 wr
      have HFB := Lib.hid (fNm_bytes a)
      obtain ⟨x, hx⟩ : ∃ x : ByteArray, x = ⟨#[UInt8.ofNat (97 + a / 26), UInt8.ofNat (97 + a % 26)]⟩ := ⟨_, rfl⟩
      have hxz2 : x.size ≤ 2 := by rw [hx]; exact Nat.le_refl _
      rw [← hx] at hcv HFB
      have hba := (Below.refl wr.heap.size wr).alloc (Nat.le_refl _) (.cells #[.int .u8 (97 + (a : Int) / 26), .int .u8 (97 + (a : Int) % 26)] 5)
      have HBA := Lib.hid (HB.out.trans (hba.mono HB.out.size))
      have HBK0 := Lib.hid (HBK.out.below hba)
      have hhas : hasS L (fNm a) = true := (HNM.out.2 _).2 ⟨a, ha5, rfl⟩
      have HHAS := Lib.hid hhas
      have HA5 := Lib.hid ha5
      clear hk hj hj5 hx hba hhas
      go_wp2_with fail
      refine (define_bad HBK0.out ⟨#[111, 110, 101, 32, 109, 111, 114, 101]⟩ ⟨#[120]⟩ rfl (by decide)).mono ?_
      rintro e w2 ⟨rfl, hb2⟩
      have HBK2 := Lib.hid (HBK0.out.below hb2)
      have HB2 := Lib.hid (HBA.out.trans (hb2.mono HBA.out.size))
      clear hb2
      go_wp2_with fail
      refine (define_full HBK2.out mNm ⟨#[120]⟩ rfl (by decide) HNM.out.more HNM.out.1).mono ?_
      rintro e w3 ⟨rfl, hb3⟩
      have HBK3 := Lib.hid (HBK2.out.below hb3)
      have HB3 := Lib.hid (HB2.out.trans (hb3.mono HB2.out.size))
      clear hb3
      go_wp2_with fail
      refine (alias_give HBK3.out mNm ((⟨#[110]⟩ : ByteArray) ++ x) (size_ok (by rw [HFB.out]; exact fNm_ok a HA5.out)) (by rw [HFB.out]; exact HHAS.out) (by decide) (by
        rw [Lib.toList_data, Lib.toList_data, HFB.out, beq_eq_false_iff_ne]; exact (fNm_more a).symm) 9 (fun W w' => W = w') (fun W hW => give_full (HBK3.out.below hW) mNm _ (by unfold maxLen; decide) HNM.out.more HNM.out.1)).mono ?_
      rintro e w4 ⟨rfl, W4, hb4, rfl⟩
      have HBK4 := Lib.hid (HBK3.out.below hb4)
      have HB4 := Lib.hid (HB3.out.trans (hb4.mono HB3.out.size))
      clear hb4
      go_wp2_with fail
      refine (macro_nil_full HBK4.out mNm (by decide) HNM.out.more HNM.out.1).mono ?_
      rintro e w5 ⟨rfl, hb5⟩
      have HBK5 := Lib.hid (HBK4.out.below hb5)
      have HB5 := Lib.hid (HB4.out.trans (hb5.mono HB4.out.size))
      clear hb5
      go_wp2_with fail
      refine (append_put HBK5.out mNm ⟨#[]⟩ rfl (by decide) (by unfold entOf; rw [HNM.out.more, if_neg (by decide)]; decide) (by unfold entOf; rw [HNM.out.more, if_neg (by decide)]; decide) 9 (fun W w' => Below W.heap.size W w') (fun W hW => put_full (HBK5.out.below hW) mNm 1 _ none 0 0 (by decide) HNM.out.more HNM.out.1)).mono ?_
      rintro e w6 ⟨rfl, W6, hb6, hb66⟩
      have HBK6 := Lib.hid (HBK5.out.below (hb6.trans (hb66.mono hb6.size)))
      have HB6 := Lib.hid (HB5.out.trans ((hb6.trans (hb66.mono hb6.size)).mono HB5.out.size))
      clear hb6 hb66
      go_wp2_with fail
      refine (define_old HBK6.out ((⟨#[110]⟩ : ByteArray) ++ x) ⟨#[121]⟩ rfl (by rw [HFB.out]; exact fNm_ok a HA5.out) (by rw [HFB.out]; exact HHAS.out)).mono ?_
      rintro e w7 ⟨rfl, hk7, hw7⟩
      have hga : hasS L ((⟨#[110]⟩ : ByteArray) ++ x).data.toList = true := by rw [HFB.out]; exact HHAS.out
      have hlo := HLO.out _ (getS_mem L _ hga)
      have HB7 := Lib.hid (HB6.out.trans (hw7.to HB6.out.size (fun k e => by rw [e]; exact hlo)))
      have HR := Lib.hid (rename_ok hk7 ((⟨#[110]⟩ : ByteArray) ++ x) mNm (size_ok (by rw [HFB.out]; exact fNm_ok a HA5.out)) hga (by decide))
      have HMB := Lib.hid (show w.heap.size ≤ w.heap.size from Nat.le_refl _)
      clear hk7 hw7 hga hlo
      go_wp2_with fail
      refine HR.out.mono ?_
      rintro e w8 ⟨rfl, hk8, hw8⟩
      have HB8 := Lib.hid (HB7.out.trans (hw8.to HB7.out.size (fun k e => Nat.le_of_eq e.symm)))
      have hno : hasS (putS (delS L ((⟨#[110]⟩ : ByteArray) ++ x).data.toList) ⟨mNm.data.toList, (getS L ((⟨#[110]⟩ : ByteArray) ++ x).data.toList).v⟩) ((⟨#[110]⟩ : ByteArray) ++ x).data.toList = false := by
        rw [hasS_put, hasS_del, HFB.out]
        have : (mNm.data.toList == fNm a) = false := by rw [beq_eq_false_iff_ne]; exact (fNm_more a).symm
        simp only [this]; simp
      have hlen : (putS (delS L ((⟨#[110]⟩ : ByteArray) ++ x).data.toList) ⟨mNm.data.toList, (getS L ((⟨#[110]⟩ : ByteArray) ++ x).data.toList).v⟩).length = 500 := by
        have h1 := len_del L (fNm a) HBK.out.asc
        rw [HHAS.out, if_pos rfl, HNM.out.1] at h1
        have h2 : hasS (delS L (fNm a)) mNm.data.toList = false := by
          rw [hasS_del]
          have : hasS L mNm.data.toList = false := HNM.out.more
          rw [this]; simp
        rw [HFB.out, len_put _ _ (asc_del _ _ HBK.out.asc)]
        simp only [h2]
        simp; omega
      have HD := Lib.hid (define_full hk8 ((⟨#[110]⟩ : ByteArray) ++ x) ⟨#[122]⟩ rfl (by rw [HFB.out]; exact fNm_ok a HA5.out) hno hlen)
      clear hk8 hw8 hno hlen
      go_wp2_with fail
      refine HD.out.mono ?_
      rintro e w9 ⟨rfl, hb9⟩
      have HB9 := Lib.hid (HB8.out.trans (hb9.mono HB8.out.size))
      clear hb9
      go_wp2_with fail
      refine (sane_any _).mono ?_
      rintro e wa ⟨rfl, hba⟩
      have HBa := Lib.hid (HB9.out.trans (hba.mono HB9.out.size))
      clear hba
      go_wp2_with fail
      go_ret
      exact ⟨rfl, HBa.out⟩
end Go.Proofs.Ytgpanlkcpnlejaa
