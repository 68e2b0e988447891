/- The law RegisterFull: its walk. -/
import Derived.Test.YtedbdpklliaoaaaGreatDoorB6
import Derived.Test.YtedbdpklliaoaaaGreatDoorSane
namespace Go.Proofs.YtedbdpklliaoaaaGreatDoor
open Go.RowKit Go.Shelf Go.Maps
set_option maxRecDepth 100000
theorem chg_ok (L : List Reg) (nm : List UInt8) (f : Reg → Reg) (hn : okNm nm = true) (hl : hasS L nm = true ∨ L.length < 500) : chgS L nm 0 f = (0, putS L (f (getS L nm))) := by
  unfold chgS; rw [if_neg (by rw [hn]; decide), if_neg (by decide), if_neg (by rintro ⟨a, b⟩; rcases hl with h | h; rw [a] at h; cases h; omega)]
theorem chg_full (L : List Reg) (nm : List UInt8) (f : Reg → Reg) (hn : okNm nm = true) (h1 : hasS L nm = false) (h2 : L.length = 500) : chgS L nm 0 f = (9, L) := by
  unfold chgS; rw [if_neg (by rw [hn]; decide), if_neg (by decide), if_pos ⟨h1, h2⟩]
theorem eRange_ok (n : Int) (h : okN n = true) : eRange n = 0 := by rcases eRange_cases n with ⟨a, _⟩ | ⟨_, b⟩; exact a; rw [h] at b; cases b
theorem set_name {bb mb : Nat} {L : List Reg} {w : World} (h : BK bb mb L w) (ds : ByteArray) (m : Nat) (hds : ds = ⟨(dec m).toArray⟩) (hm : m < 1000000) (n : Int) (hl : hasS L (rNm m) = true ∨ L.length < 500) (hv : okN n = true) :
    Calls Tryz.prog 17 #[BP bb, .string ((⟨#[114]⟩ : ByteArray) ++ ds), .int .i64 n] w fun e w' => e = .returned (.int .i64 0) ∧ BK bb mb (putS L (setV n (getS L (rNm m)))) w' ∧ Kept (· = mb) w w' := by
  rw [hds, bytes_cons]
  have := set_call h ⟨(114 :: dec m).toArray⟩ n
  have e := chg_ok L (rNm m) (setV n) (rNm_ok m hm) hl
  rw [eRange_ok n hv, show (⟨(114 :: dec m).toArray⟩ : ByteArray).data.toList = rNm m from rfl, e] at this
  exact this
theorem set_full {bb mb : Nat} {L : List Reg} {w : World} (h : BK bb mb L w) (s : ByteArray) (n : Int) (hs : okNm s.data.toList = true) (h1 : hasS L s.data.toList = false) (h2 : L.length = 500) (hv : okN n = true) :
    Calls Tryz.prog 17 #[BP bb, .string s, .int .i64 n] w fun e w' => e = .returned (.int .i64 9) ∧ BK bb mb L w' ∧ Kept (· = mb) w w' := by
  have := set_call h s n
  rw [eRange_ok n hv, chg_full L _ (setV n) hs h1 h2] at this
  exact this
theorem step_full {bb mb : Nat} {L : List Reg} {w : World} (h : BK bb mb L w) (s : ByteArray) (n : Int) (hs : okNm s.data.toList = true) (h1 : hasS L s.data.toList = false) (h2 : L.length = 500) (hv : okN n = true) :
    Calls Tryz.prog 18 #[BP bb, .string s, .int .i64 n] w fun e w' => e = .returned (.int .i64 9) ∧ BK bb mb L w' ∧ Kept (· = mb) w w' := by
  have := step_call h s n
  rw [eRange_ok n hv, chg_full L _ (setSt n) hs h1 h2] at this
  exact this
theorem format_full {bb mb : Nat} {L : List Reg} {w : World} (h : BK bb mb L w) (s f : ByteArray) (hs : okNm s.data.toList = true) (h1 : hasS L s.data.toList = false) (h2 : L.length = 500) (hf : eForm f.data.toList = 0) (hf9 : f.size ≤ 9223372036854775807) :
    Calls Tryz.prog 19 #[BP bb, .string s, .string f] w fun e w' => e = .returned (.int .i64 9) ∧ BK bb mb L w' ∧ Kept (· = mb) w w' := by
  have := format_call h s f hf9
  rw [hf, chg_full L _ (setFm f.data.toList) hs h1 h2] at this
  exact this
theorem row_value {w : World} {base n : Nat} {v : Value} {ds : List Value} (h : w.ownsRow base 9 1 v n ds) : ∃ o cap, v = .slice o n cap := by
  rcases h.2 with ⟨hv, hn⟩ | ⟨g, cap, cur, hv, _⟩
  · exact ⟨none, 0, by rw [hv, hn]⟩
  · exact ⟨_, _, hv⟩
theorem decimal_add (a j : Nat) (h : a + j ≤ 1000000) (w : World) : Calls Tryz.prog 24 #[.int .i64 (wrap64 ((a : Int) + (j : Int)))] w fun e w' => e = .returned (.string ⟨(dec (a + j)).toArray⟩) ∧ Below w.heap.size w w' := by
  have := decimal_any (a + j) h w
  rwa [show (((a + j : Nat) : Int)) = wrap64 ((a : Int) + (j : Int)) by unfold wrap64; omega] at this
theorem decimal_add0 (a j : Nat) (h : a + j ≤ 1000000) (w : World) : Calls Tryz.prog 24 #[.int .i64 ((a : Int) + (j : Int))] w fun e w' => e = .returned (.string ⟨(dec (a + j)).toArray⟩) ∧ Below w.heap.size w w' := by
  have := decimal_any (a + j) h w
  rwa [Int.natCast_add] at this
theorem dec_z (n : Nat) (h : n < 1000000) : (⟨(dec n).toArray⟩ : ByteArray).size ≤ 7 := by
  have := dec_len 6 n (by omega) (by omega)
  show (dec n).toArray.size ≤ 7
  rw [List.size_toArray]; omega
def FuR (a bb mb : Nat) (w : World) (k : Nat) (i : Value) (wr : World) : Prop :=
  ∃ (j : Nat) (L : List Reg), k + j = 500 ∧ i = .int .i64 j ∧ BK bb mb L wr ∧ NmIs L a j ∧ Below w.heap.size w wr
set_option maxHeartbeats 4000000 in
theorem full_walk (A V : Int) (w : World) (hT : TB w) :
    Calls Tryz.prog 6 #[.int .i64 A, .int .i64 V] w fun e w' => e = .returned (.bool true) ∧ Below w.heap.size w w' := by
  obtain ⟨a, ha, hA⟩ := umod A 100000 (by omega) (by omega)
  obtain ⟨b, hb, hB⟩ := umod A 500 (by omega) (by omega)
  have HT := Lib.hid hT
  have HLT : Hid (a < 100000 ∧ b < 500) := Lib.hid ⟨by omega, by omega⟩
  clear hT
  by_cases h1 : V < -1000000000
  · have e1 : decide (V < -1000000000) = true := decide_eq_true h1
    have HV : Hid (okN 7 = true) := Lib.hid (by decide)
    clear h1
    go_enter Tryz.func6, Tryz.ntmps6
    go_wp2_with fail
    refine (new_any _).mono ?_
    rintro e w1 ⟨rfl, hbk, hb⟩
    have HST : Hid (FuR a (w.heap.size + 1) w.heap.size w 500 (.int .i64 0) w1) := Lib.hid ⟨0, [], rfl, rfl, hbk, NmIs.zero a, hb⟩
    clear hbk hb
    go_wp2_with fail
    go_loopg [7] 500 (fun k i wr => FuR a (w.heap.size + 1) w.heap.size w k i wr)
    case atStart => exact HST.out
    case round =>
      obtain ⟨j, L, hk, rfl, hbk, hnm, hb⟩ := hrel
      have HK := Lib.hid hk
      have HBK := Lib.hid hbk
      have HNM : Hid (NmIs L a j) := Lib.hid hnm
      have HB := Lib.hid hb
      clear hbk hnm hb
      by_cases hj : j < 500
      · have dj : decide ((j : Int) < 500) = true := decide_eq_true (by omega)
        have HJ := Lib.hid hj
        have HD := Lib.hid (fun W => decimal_add a j (by omega) W)
        obtain ⟨ds, hds⟩ : ∃ ds : ByteArray, ds = ⟨(dec (a + j)).toArray⟩ := ⟨_, rfl⟩
        have hdz : ds.size ≤ 7 := by rw [hds]; exact dec_z _ (by omega)
        rw [← hds] at HD
        have HDS := Lib.hid hds
        clear hds
        clear hk
        clear hj
        go_wp2_with fail
        with_reducible refine (HD.out _).mono ?_
        rintro e w2 ⟨rfl, hb2⟩
        have hbk2 := HBK.out.below hb2
        have HBK2 := Lib.hid hbk2
        have HB2 := Lib.hid (HB.out.trans (hb2.mono HB.out.size))
        clear hb2 hbk2
        go_wp2_with fail
        refine (set_name HBK2.out ds (a + j) HDS.out (by have := HJ.out; omega) (7) (.inr (by rw [HNM.out.1]; exact HJ.out)) HV.out).mono ?_
        rintro e w3 ⟨rfl, hbk3, hk3⟩
        have HBK3 := Lib.hid hbk3
        have HB3 := Lib.hid (HB2.out.trans (hk3.to HB2.out.size (fun k hk => by omega)))
        clear hbk3 hk3
        go_wp2_with fail
        go_roundg (gk - 1)
        case measure => have := HK.out; have := HJ.out; omega
        case rel =>
          have := HK.out
          have := HJ.out
          exact ⟨j + 1, _, by omega, by congr 1; unfold wrap64; omega, HBK3.out, HNM.out.step HBK2.out.asc _ (getS_nm _ _), HB3.out⟩
      · have dj : decide ((j : Int) < 500) = false := decide_eq_false (by omega)
        have hj5 : j = 500 := by omega
        have HNM : Hid (NmIs L a 500) := Lib.hid (by rw [← hj5]; exact HNM.out)
        clear hj hj5
        have HD := Lib.hid (fun W => decimal_add0 a b (by omega) W)
        obtain ⟨ds, hds⟩ : ∃ ds : ByteArray, ds = ⟨(dec (a + b)).toArray⟩ := ⟨_, rfl⟩
        have hdz : ds.size ≤ 7 := by rw [hds]; exact dec_z _ (by omega)
        rw [← hds] at HD
        have HDS := Lib.hid hds
        clear hds
        clear hk
        go_wp2_with fail
        with_reducible refine (HD.out _).mono ?_
        rintro e w2 ⟨rfl, hb2⟩
        have HBK2 := Lib.hid (HBK.out.below hb2)
        have HB2 := Lib.hid (HB.out.trans (hb2.mono HB.out.size))
        clear hb2
        go_wp2_with fail
        refine (set_full HBK2.out ⟨#[109, 111, 114, 101]⟩ (7) (by decide) HNM.out.more HNM.out.1 HV.out).mono ?_
        rintro e w3 ⟨rfl, hbk3, hk3⟩
        have HBK3 := Lib.hid hbk3
        have HB3 := Lib.hid (HB2.out.trans (hk3.to HB2.out.size (fun k hk => by omega)))
        clear hbk3 hk3
        go_wp2_with fail
        refine (step_full HBK3.out ⟨#[109, 111, 114, 101]⟩ 1 (by decide) HNM.out.more HNM.out.1 (by decide)).mono ?_
        rintro e w4 ⟨rfl, hbk4, hk4⟩
        have HBK4 := Lib.hid hbk4
        have HB4 := Lib.hid (HB3.out.trans (hk4.to HB3.out.size (fun k hk => by omega)))
        clear hbk4 hk4
        go_wp2_with fail
        refine (format_full HBK4.out ⟨#[109, 111, 114, 101]⟩ ⟨#[105]⟩ (by decide) HNM.out.more HNM.out.1 (by decide) (by decide)).mono ?_
        rintro e w5 ⟨rfl, hbk5, hk5⟩
        have HBK5 := Lib.hid hbk5
        have HB5 := Lib.hid (HB4.out.trans (hk5.to HB4.out.size (fun k hk => by omega)))
        clear hbk5 hk5
        go_wp2_with fail
        refine (set_name HBK5.out ds (a + b) HDS.out (by have := HLT.out; omega) 1 (.inl ((HNM.out.2 _).2 ⟨b, HLT.out.2, rfl⟩)) (by decide)).mono ?_
        rintro e w6 ⟨rfl, hbk6, hk6⟩
        have HBK6 := Lib.hid hbk6
        have HB6 := Lib.hid (HB5.out.trans (hk6.to HB5.out.size (fun k hk => by omega)))
        clear hbk6 hk6
        go_wp2_with fail
        refine (has_call HBK6.out ⟨#[109, 111, 114, 101]⟩).mono ?_
        rintro e w7 ⟨rfl, hb7⟩
        have HBK7 := Lib.hid (HBK6.out.below hb7)
        have HB7 := Lib.hid (HB6.out.trans (hb7.mono HB6.out.size))
        have hmore : (okNm (⟨#[109, 111, 114, 101]⟩ : ByteArray).data.toList && hasS (putS L (setV 1 (getS L (rNm (a + b))))) (⟨#[109, 111, 114, 101]⟩ : ByteArray).data.toList) = false := by
          rw [hasS_put, show hasS L (⟨#[109, 111, 114, 101]⟩ : ByteArray).data.toList = false from HNM.out.more, show (setV 1 (getS L (rNm (a + b)))).nm = rNm (a + b) from getS_nm _ _]
          have : (rNm (a + b) == (⟨#[109, 111, 114, 101]⟩ : ByteArray).data.toList) = false := by
            rw [beq_eq_false_iff_ne]; intro h; exact absurd (List.cons.inj h).1 (by decide)
          rw [this]; simp
        have hlen6 : (putS L (setV 1 (getS L (rNm (a + b))))).length = 500 := by
          rw [len_put _ _ HBK5.out.asc, show (setV 1 (getS L (rNm (a + b)))).nm = rNm (a + b) from getS_nm _ _, (HNM.out.2 _).2 ⟨b, HLT.out.2, rfl⟩]; exact HNM.out.1
        rw [hmore]
        have HN := Lib.hid (names_call HBK7.out)
        rw [hlen6] at HN
        clear hb7 hmore hlen6
        go_wp2_with fail
        refine HN.out.mono ?_
        rintro e w8 ⟨v, rfl, hrow, hb8⟩
        obtain ⟨o8, cap8, rfl⟩ := row_value hrow
        have HB8 := Lib.hid (HB7.out.trans (hb8.mono HB7.out.size))
        have T8 := Lib.hid (HT.out.below HB8.out (Nat.le_refl _))
        clear hrow hb8
        go_wp2_with fail
        refine (sane_any _ T8.out).mono ?_
        rintro e w9 ⟨rfl, hb9⟩
        have HB9 := Lib.hid (HB8.out.trans (hb9.mono HB8.out.size))
        clear hb9
        go_wp2_with fail
        go_ret
        exact ⟨rfl, HB9.out⟩
  have e1 : decide (V < -1000000000) = false := decide_eq_false h1
  by_cases h2 : 1000000000 < V
  · have e2 : decide (1000000000 < V) = true := decide_eq_true h2
    have HV : Hid (okN 7 = true) := Lib.hid (by decide)
    clear h1 h2
    go_enter Tryz.func6, Tryz.ntmps6
    go_wp2_with fail
    refine (new_any _).mono ?_
    rintro e w1 ⟨rfl, hbk, hb⟩
    have HST : Hid (FuR a (w.heap.size + 1) w.heap.size w 500 (.int .i64 0) w1) := Lib.hid ⟨0, [], rfl, rfl, hbk, NmIs.zero a, hb⟩
    clear hbk hb
    go_wp2_with fail
    go_loopg [7] 500 (fun k i wr => FuR a (w.heap.size + 1) w.heap.size w k i wr)
    case atStart => exact HST.out
    case round =>
      obtain ⟨j, L, hk, rfl, hbk, hnm, hb⟩ := hrel
      have HK := Lib.hid hk
      have HBK := Lib.hid hbk
      have HNM : Hid (NmIs L a j) := Lib.hid hnm
      have HB := Lib.hid hb
      clear hbk hnm hb
      by_cases hj : j < 500
      · have dj : decide ((j : Int) < 500) = true := decide_eq_true (by omega)
        have HJ := Lib.hid hj
        have HD := Lib.hid (fun W => decimal_add a j (by omega) W)
        obtain ⟨ds, hds⟩ : ∃ ds : ByteArray, ds = ⟨(dec (a + j)).toArray⟩ := ⟨_, rfl⟩
        have hdz : ds.size ≤ 7 := by rw [hds]; exact dec_z _ (by omega)
        rw [← hds] at HD
        have HDS := Lib.hid hds
        clear hds
        clear hk
        clear hj
        go_wp2_with fail
        with_reducible refine (HD.out _).mono ?_
        rintro e w2 ⟨rfl, hb2⟩
        have hbk2 := HBK.out.below hb2
        have HBK2 := Lib.hid hbk2
        have HB2 := Lib.hid (HB.out.trans (hb2.mono HB.out.size))
        clear hb2 hbk2
        go_wp2_with fail
        refine (set_name HBK2.out ds (a + j) HDS.out (by have := HJ.out; omega) (7) (.inr (by rw [HNM.out.1]; exact HJ.out)) HV.out).mono ?_
        rintro e w3 ⟨rfl, hbk3, hk3⟩
        have HBK3 := Lib.hid hbk3
        have HB3 := Lib.hid (HB2.out.trans (hk3.to HB2.out.size (fun k hk => by omega)))
        clear hbk3 hk3
        go_wp2_with fail
        go_roundg (gk - 1)
        case measure => have := HK.out; have := HJ.out; omega
        case rel =>
          have := HK.out
          have := HJ.out
          exact ⟨j + 1, _, by omega, by congr 1; unfold wrap64; omega, HBK3.out, HNM.out.step HBK2.out.asc _ (getS_nm _ _), HB3.out⟩
      · have dj : decide ((j : Int) < 500) = false := decide_eq_false (by omega)
        have hj5 : j = 500 := by omega
        have HNM : Hid (NmIs L a 500) := Lib.hid (by rw [← hj5]; exact HNM.out)
        clear hj hj5
        have HD := Lib.hid (fun W => decimal_add0 a b (by omega) W)
        obtain ⟨ds, hds⟩ : ∃ ds : ByteArray, ds = ⟨(dec (a + b)).toArray⟩ := ⟨_, rfl⟩
        have hdz : ds.size ≤ 7 := by rw [hds]; exact dec_z _ (by omega)
        rw [← hds] at HD
        have HDS := Lib.hid hds
        clear hds
        clear hk
        go_wp2_with fail
        with_reducible refine (HD.out _).mono ?_
        rintro e w2 ⟨rfl, hb2⟩
        have HBK2 := Lib.hid (HBK.out.below hb2)
        have HB2 := Lib.hid (HB.out.trans (hb2.mono HB.out.size))
        clear hb2
        go_wp2_with fail
        refine (set_full HBK2.out ⟨#[109, 111, 114, 101]⟩ (7) (by decide) HNM.out.more HNM.out.1 HV.out).mono ?_
        rintro e w3 ⟨rfl, hbk3, hk3⟩
        have HBK3 := Lib.hid hbk3
        have HB3 := Lib.hid (HB2.out.trans (hk3.to HB2.out.size (fun k hk => by omega)))
        clear hbk3 hk3
        go_wp2_with fail
        refine (step_full HBK3.out ⟨#[109, 111, 114, 101]⟩ 1 (by decide) HNM.out.more HNM.out.1 (by decide)).mono ?_
        rintro e w4 ⟨rfl, hbk4, hk4⟩
        have HBK4 := Lib.hid hbk4
        have HB4 := Lib.hid (HB3.out.trans (hk4.to HB3.out.size (fun k hk => by omega)))
        clear hbk4 hk4
        go_wp2_with fail
        refine (format_full HBK4.out ⟨#[109, 111, 114, 101]⟩ ⟨#[105]⟩ (by decide) HNM.out.more HNM.out.1 (by decide) (by decide)).mono ?_
        rintro e w5 ⟨rfl, hbk5, hk5⟩
        have HBK5 := Lib.hid hbk5
        have HB5 := Lib.hid (HB4.out.trans (hk5.to HB4.out.size (fun k hk => by omega)))
        clear hbk5 hk5
        go_wp2_with fail
        refine (set_name HBK5.out ds (a + b) HDS.out (by have := HLT.out; omega) 1 (.inl ((HNM.out.2 _).2 ⟨b, HLT.out.2, rfl⟩)) (by decide)).mono ?_
        rintro e w6 ⟨rfl, hbk6, hk6⟩
        have HBK6 := Lib.hid hbk6
        have HB6 := Lib.hid (HB5.out.trans (hk6.to HB5.out.size (fun k hk => by omega)))
        clear hbk6 hk6
        go_wp2_with fail
        refine (has_call HBK6.out ⟨#[109, 111, 114, 101]⟩).mono ?_
        rintro e w7 ⟨rfl, hb7⟩
        have HBK7 := Lib.hid (HBK6.out.below hb7)
        have HB7 := Lib.hid (HB6.out.trans (hb7.mono HB6.out.size))
        have hmore : (okNm (⟨#[109, 111, 114, 101]⟩ : ByteArray).data.toList && hasS (putS L (setV 1 (getS L (rNm (a + b))))) (⟨#[109, 111, 114, 101]⟩ : ByteArray).data.toList) = false := by
          rw [hasS_put, show hasS L (⟨#[109, 111, 114, 101]⟩ : ByteArray).data.toList = false from HNM.out.more, show (setV 1 (getS L (rNm (a + b)))).nm = rNm (a + b) from getS_nm _ _]
          have : (rNm (a + b) == (⟨#[109, 111, 114, 101]⟩ : ByteArray).data.toList) = false := by
            rw [beq_eq_false_iff_ne]; intro h; exact absurd (List.cons.inj h).1 (by decide)
          rw [this]; simp
        have hlen6 : (putS L (setV 1 (getS L (rNm (a + b))))).length = 500 := by
          rw [len_put _ _ HBK5.out.asc, show (setV 1 (getS L (rNm (a + b)))).nm = rNm (a + b) from getS_nm _ _, (HNM.out.2 _).2 ⟨b, HLT.out.2, rfl⟩]; exact HNM.out.1
        rw [hmore]
        have HN := Lib.hid (names_call HBK7.out)
        rw [hlen6] at HN
        clear hb7 hmore hlen6
        go_wp2_with fail
        refine HN.out.mono ?_
        rintro e w8 ⟨v, rfl, hrow, hb8⟩
        obtain ⟨o8, cap8, rfl⟩ := row_value hrow
        have HB8 := Lib.hid (HB7.out.trans (hb8.mono HB7.out.size))
        have T8 := Lib.hid (HT.out.below HB8.out (Nat.le_refl _))
        clear hrow hb8
        go_wp2_with fail
        refine (sane_any _ T8.out).mono ?_
        rintro e w9 ⟨rfl, hb9⟩
        have HB9 := Lib.hid (HB8.out.trans (hb9.mono HB8.out.size))
        clear hb9
        go_wp2_with fail
        go_ret
        exact ⟨rfl, HB9.out⟩
  · have e2 : decide (1000000000 < V) = false := decide_eq_false h2
    have HV : Hid (okN V = true) := Lib.hid (by unfold okN; simp; omega)
    clear h1 h2
    go_enter Tryz.func6, Tryz.ntmps6
    go_wp2_with fail
    refine (new_any _).mono ?_
    rintro e w1 ⟨rfl, hbk, hb⟩
    have HST : Hid (FuR a (w.heap.size + 1) w.heap.size w 500 (.int .i64 0) w1) := Lib.hid ⟨0, [], rfl, rfl, hbk, NmIs.zero a, hb⟩
    clear hbk hb
    go_wp2_with fail
    go_loopg [7] 500 (fun k i wr => FuR a (w.heap.size + 1) w.heap.size w k i wr)
    case atStart => exact HST.out
    case round =>
      obtain ⟨j, L, hk, rfl, hbk, hnm, hb⟩ := hrel
      have HK := Lib.hid hk
      have HBK := Lib.hid hbk
      have HNM : Hid (NmIs L a j) := Lib.hid hnm
      have HB := Lib.hid hb
      clear hbk hnm hb
      by_cases hj : j < 500
      · have dj : decide ((j : Int) < 500) = true := decide_eq_true (by omega)
        have HJ := Lib.hid hj
        have HD := Lib.hid (fun W => decimal_add a j (by omega) W)
        obtain ⟨ds, hds⟩ : ∃ ds : ByteArray, ds = ⟨(dec (a + j)).toArray⟩ := ⟨_, rfl⟩
        have hdz : ds.size ≤ 7 := by rw [hds]; exact dec_z _ (by omega)
        rw [← hds] at HD
        have HDS := Lib.hid hds
        clear hds
        clear hk
        clear hj
        go_wp2_with fail
        with_reducible refine (HD.out _).mono ?_
        rintro e w2 ⟨rfl, hb2⟩
        have hbk2 := HBK.out.below hb2
        have HBK2 := Lib.hid hbk2
        have HB2 := Lib.hid (HB.out.trans (hb2.mono HB.out.size))
        clear hb2 hbk2
        go_wp2_with fail
        refine (set_name HBK2.out ds (a + j) HDS.out (by have := HJ.out; omega) (V) (.inr (by rw [HNM.out.1]; exact HJ.out)) HV.out).mono ?_
        rintro e w3 ⟨rfl, hbk3, hk3⟩
        have HBK3 := Lib.hid hbk3
        have HB3 := Lib.hid (HB2.out.trans (hk3.to HB2.out.size (fun k hk => by omega)))
        clear hbk3 hk3
        go_wp2_with fail
        go_roundg (gk - 1)
        case measure => have := HK.out; have := HJ.out; omega
        case rel =>
          have := HK.out
          have := HJ.out
          exact ⟨j + 1, _, by omega, by congr 1; unfold wrap64; omega, HBK3.out, HNM.out.step HBK2.out.asc _ (getS_nm _ _), HB3.out⟩
      · have dj : decide ((j : Int) < 500) = false := decide_eq_false (by omega)
        have hj5 : j = 500 := by omega
        have HNM : Hid (NmIs L a 500) := Lib.hid (by rw [← hj5]; exact HNM.out)
        clear hj hj5
        have HD := Lib.hid (fun W => decimal_add0 a b (by omega) W)
        obtain ⟨ds, hds⟩ : ∃ ds : ByteArray, ds = ⟨(dec (a + b)).toArray⟩ := ⟨_, rfl⟩
        have hdz : ds.size ≤ 7 := by rw [hds]; exact dec_z _ (by omega)
        rw [← hds] at HD
        have HDS := Lib.hid hds
        clear hds
        clear hk
        go_wp2_with fail
        with_reducible refine (HD.out _).mono ?_
        rintro e w2 ⟨rfl, hb2⟩
        have HBK2 := Lib.hid (HBK.out.below hb2)
        have HB2 := Lib.hid (HB.out.trans (hb2.mono HB.out.size))
        clear hb2
        go_wp2_with fail
        refine (set_full HBK2.out ⟨#[109, 111, 114, 101]⟩ (V) (by decide) HNM.out.more HNM.out.1 HV.out).mono ?_
        rintro e w3 ⟨rfl, hbk3, hk3⟩
        have HBK3 := Lib.hid hbk3
        have HB3 := Lib.hid (HB2.out.trans (hk3.to HB2.out.size (fun k hk => by omega)))
        clear hbk3 hk3
        go_wp2_with fail
        refine (step_full HBK3.out ⟨#[109, 111, 114, 101]⟩ 1 (by decide) HNM.out.more HNM.out.1 (by decide)).mono ?_
        rintro e w4 ⟨rfl, hbk4, hk4⟩
        have HBK4 := Lib.hid hbk4
        have HB4 := Lib.hid (HB3.out.trans (hk4.to HB3.out.size (fun k hk => by omega)))
        clear hbk4 hk4
        go_wp2_with fail
        refine (format_full HBK4.out ⟨#[109, 111, 114, 101]⟩ ⟨#[105]⟩ (by decide) HNM.out.more HNM.out.1 (by decide) (by decide)).mono ?_
        rintro e w5 ⟨rfl, hbk5, hk5⟩
        have HBK5 := Lib.hid hbk5
        have HB5 := Lib.hid (HB4.out.trans (hk5.to HB4.out.size (fun k hk => by omega)))
        clear hbk5 hk5
        go_wp2_with fail
        refine (set_name HBK5.out ds (a + b) HDS.out (by have := HLT.out; omega) 1 (.inl ((HNM.out.2 _).2 ⟨b, HLT.out.2, rfl⟩)) (by decide)).mono ?_
        rintro e w6 ⟨rfl, hbk6, hk6⟩
        have HBK6 := Lib.hid hbk6
        have HB6 := Lib.hid (HB5.out.trans (hk6.to HB5.out.size (fun k hk => by omega)))
        clear hbk6 hk6
        go_wp2_with fail
        refine (has_call HBK6.out ⟨#[109, 111, 114, 101]⟩).mono ?_
        rintro e w7 ⟨rfl, hb7⟩
        have HBK7 := Lib.hid (HBK6.out.below hb7)
        have HB7 := Lib.hid (HB6.out.trans (hb7.mono HB6.out.size))
        have hmore : (okNm (⟨#[109, 111, 114, 101]⟩ : ByteArray).data.toList && hasS (putS L (setV 1 (getS L (rNm (a + b))))) (⟨#[109, 111, 114, 101]⟩ : ByteArray).data.toList) = false := by
          rw [hasS_put, show hasS L (⟨#[109, 111, 114, 101]⟩ : ByteArray).data.toList = false from HNM.out.more, show (setV 1 (getS L (rNm (a + b)))).nm = rNm (a + b) from getS_nm _ _]
          have : (rNm (a + b) == (⟨#[109, 111, 114, 101]⟩ : ByteArray).data.toList) = false := by
            rw [beq_eq_false_iff_ne]; intro h; exact absurd (List.cons.inj h).1 (by decide)
          rw [this]; simp
        have hlen6 : (putS L (setV 1 (getS L (rNm (a + b))))).length = 500 := by
          rw [len_put _ _ HBK5.out.asc, show (setV 1 (getS L (rNm (a + b)))).nm = rNm (a + b) from getS_nm _ _, (HNM.out.2 _).2 ⟨b, HLT.out.2, rfl⟩]; exact HNM.out.1
        rw [hmore]
        have HN := Lib.hid (names_call HBK7.out)
        rw [hlen6] at HN
        clear hb7 hmore hlen6
        go_wp2_with fail
        refine HN.out.mono ?_
        rintro e w8 ⟨v, rfl, hrow, hb8⟩
        obtain ⟨o8, cap8, rfl⟩ := row_value hrow
        have HB8 := Lib.hid (HB7.out.trans (hb8.mono HB7.out.size))
        have T8 := Lib.hid (HT.out.below HB8.out (Nat.le_refl _))
        clear hrow hb8
        go_wp2_with fail
        refine (sane_any _ T8.out).mono ?_
        rintro e w9 ⟨rfl, hb9⟩
        have HB9 := Lib.hid (HB8.out.trans (hb9.mono HB8.out.size))
        clear hb9
        go_wp2_with fail
        go_ret
        exact ⟨rfl, HB9.out⟩
end Go.Proofs.YtedbdpklliaoaaaGreatDoor
