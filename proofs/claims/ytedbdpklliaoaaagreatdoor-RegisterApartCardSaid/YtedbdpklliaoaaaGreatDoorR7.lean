/- The document's book: Set, Step, Format. -/
import Derived.Test.YtedbdpklliaoaaaGreatDoorR6
import Derived.Test.YtedbdpklliaoaaaGreatDoorV2
namespace Go.Proofs.YtedbdpklliaoaaaGreatDoor
open Go.RowKit Go.Shelf Go.Maps
set_option maxRecDepth 100000
theorem chg_pt (L : List Reg) (nm : List UInt8) (f : Reg → Reg) (hn : okNm nm = true) (hf : (f (getS L nm)).nm = nm) : chgS L nm 0 f = ptS L (f (getS L nm)) := by
  unfold chgS ptS
  rw [if_neg (by rw [hn]; decide), if_neg (by decide), hf]
set_option maxHeartbeats 1000000 in
theorem rSet_any {B bx : Nat} {v : Value} {L : List Reg} {w : World} (h : RK B bx v L w) (hA : Asc L) (hl : L.length ≤ 500) (s : ByteArray) (n : Int) :
    Calls Tryz.prog 26 #[BP bx, .string s, .int .i64 n] w fun e w' => ∃ v', e = .returned (.int .i64 (chgS L s.data.toList (eRange n) (setV n)).1) ∧ RK B bx v' (chgS L s.data.toList (eRange n) (setV n)).2 w' ∧ Kept (fun k => k = bx ∨ v.ownBlock = some k) w w' ∧ ∀ k, v'.ownBlock = some k → v.ownBlock = some k ∨ w.heap.size ≤ k := by
  have HN := Lib.hid (rIsName_any s w)
  have H := Lib.hid h
  cases hn : okNm s.data.toList with
  | false =>
    rw [show chgS L s.data.toList (eRange n) (setV n) = (6, L) by unfold chgS; rw [if_pos hn]]
    rw [hn] at HN
    clear h hn
    go_enter Tryz.func26, Tryz.ntmps26
    go_wp2_with fail
    refine HN.out.mono ?_
    rintro e w1 ⟨rfl, rfl⟩
    go_wp2_with fail
    go_ret
    exact ⟨v, rfl, H.out, Kept.refl _ _, fun k hk => .inl hk⟩
  | true =>
    rw [hn] at HN
    rcases eRange_cases n with ⟨he, hv⟩ | ⟨he, hv⟩
    · rw [he, chg_pt L s.data.toList (setV n) hn (getS_nm L _)]
      have HC := Lib.hid (fun W => rfits_any n W)
      have HG := Lib.hid (fun W hW => rget_any (h.below (w' := W) hW) hA hl s)
      have HP := Lib.hid (fun W hW => rput_any (h.below (w' := W) hW) hA hl (setV n (getS L s.data.toList)))
      rw [hv] at HC
      obtain ⟨r, hr⟩ : ∃ r, r = getS L s.data.toList := ⟨_, rfl⟩
      rw [← hr] at HG HP ⊢
      have HP2 : Hid (∀ W, Below w.heap.size w W → Calls Tryz.prog 51 #[BP bx, .agg #[.string ⟨r.nm.toArray⟩, .int .i64 n, .int .i64 r.st, .string ⟨r.fm.toArray⟩]] W fun e w' => ∃ v', e = .returned (.int .i64 (ptS L (setV n r)).1) ∧ RK B bx v' (ptS L (setV n r)).2 w' ∧ Kept (fun k => k = bx ∨ v.ownBlock = some k) W w' ∧ ∀ k, v'.ownBlock = some k → v.ownBlock = some k ∨ W.heap.size ≤ k) := Lib.hid HP.out
      clear h hn he hv hr HP
      unfold regX at HG
      go_enter Tryz.func26, Tryz.ntmps26
      go_wp2_with fail
      refine HN.out.mono ?_
      rintro e w1 ⟨rfl, rfl⟩
      go_wp2_with fail
      refine (HC.out _).mono ?_
      rintro e w2 ⟨rfl, rfl⟩
      go_wp2_with fail
      refine (HG.out _ (Below.refl _ _)).mono ?_
      rintro e w3 ⟨rfl, hb3⟩
      have HB3 := Lib.hid hb3
      have hz3 := hb3.size
      clear hb3
      go_wp2_with fail
      have hbw := HB3.out.alloc hz3 (.cells #[.string ⟨r.nm.toArray⟩, .int .i64 n, .int .i64 r.st, .string ⟨r.fm.toArray⟩] 74)
      have HBW := Lib.hid hbw
      refine (HP2.out _ hbw).mono ?_
      rintro e w4 ⟨v', rfl, hr4, hk4, hf4⟩
      have HR4 := Lib.hid hr4
      have HK4 := Lib.hid hk4
      have HF4 := Lib.hid hf4
      clear hr4 hk4 hf4 hbw
      go_wp2_with fail
      go_ret
      refine ⟨v', rfl, HR4.out, (Kept.of HBW.out).trans HK4.out, fun k hk => ?_⟩
      rcases HF4.out k hk with h | h
      · exact .inl h
      · exact .inr (Nat.le_trans HBW.out.size h)
    · rw [show chgS L s.data.toList (eRange n) (setV n) = (5, L) by unfold chgS; rw [if_neg (by rw [hn]; decide), if_pos (by rw [he]; decide), he]]
      have HC := Lib.hid (fun W => rfits_any n W)
      rw [hv] at HC
      clear h hn he hv
      go_enter Tryz.func26, Tryz.ntmps26
      go_wp2_with fail
      refine HN.out.mono ?_
      rintro e w1 ⟨rfl, rfl⟩
      go_wp2_with fail
      refine (HC.out _).mono ?_
      rintro e w2 ⟨rfl, rfl⟩
      go_wp2_with fail
      go_ret
      exact ⟨v, rfl, H.out, Kept.refl _ _, fun k hk => .inl hk⟩
set_option maxHeartbeats 1000000 in
theorem rStep_any {B bx : Nat} {v : Value} {L : List Reg} {w : World} (h : RK B bx v L w) (hA : Asc L) (hl : L.length ≤ 500) (s : ByteArray) (n : Int) :
    Calls Tryz.prog 27 #[BP bx, .string s, .int .i64 n] w fun e w' => ∃ v', e = .returned (.int .i64 (chgS L s.data.toList (eRange n) (setSt n)).1) ∧ RK B bx v' (chgS L s.data.toList (eRange n) (setSt n)).2 w' ∧ Kept (fun k => k = bx ∨ v.ownBlock = some k) w w' ∧ ∀ k, v'.ownBlock = some k → v.ownBlock = some k ∨ w.heap.size ≤ k := by
  have HN := Lib.hid (rIsName_any s w)
  have H := Lib.hid h
  cases hn : okNm s.data.toList with
  | false =>
    rw [show chgS L s.data.toList (eRange n) (setSt n) = (6, L) by unfold chgS; rw [if_pos hn]]
    rw [hn] at HN
    clear h hn
    go_enter Tryz.func27, Tryz.ntmps27
    go_wp2_with fail
    refine HN.out.mono ?_
    rintro e w1 ⟨rfl, rfl⟩
    go_wp2_with fail
    go_ret
    exact ⟨v, rfl, H.out, Kept.refl _ _, fun k hk => .inl hk⟩
  | true =>
    rw [hn] at HN
    rcases eRange_cases n with ⟨he, hv⟩ | ⟨he, hv⟩
    · rw [he, chg_pt L s.data.toList (setSt n) hn (getS_nm L _)]
      have HC := Lib.hid (fun W => rfits_any n W)
      have HG := Lib.hid (fun W hW => rget_any (h.below (w' := W) hW) hA hl s)
      have HP := Lib.hid (fun W hW => rput_any (h.below (w' := W) hW) hA hl (setSt n (getS L s.data.toList)))
      rw [hv] at HC
      obtain ⟨r, hr⟩ : ∃ r, r = getS L s.data.toList := ⟨_, rfl⟩
      rw [← hr] at HG HP ⊢
      have HP2 : Hid (∀ W, Below w.heap.size w W → Calls Tryz.prog 51 #[BP bx, .agg #[.string ⟨r.nm.toArray⟩, .int .i64 r.v, .int .i64 n, .string ⟨r.fm.toArray⟩]] W fun e w' => ∃ v', e = .returned (.int .i64 (ptS L (setSt n r)).1) ∧ RK B bx v' (ptS L (setSt n r)).2 w' ∧ Kept (fun k => k = bx ∨ v.ownBlock = some k) W w' ∧ ∀ k, v'.ownBlock = some k → v.ownBlock = some k ∨ W.heap.size ≤ k) := Lib.hid HP.out
      clear h hn he hv hr HP
      unfold regX at HG
      go_enter Tryz.func27, Tryz.ntmps27
      go_wp2_with fail
      refine HN.out.mono ?_
      rintro e w1 ⟨rfl, rfl⟩
      go_wp2_with fail
      refine (HC.out _).mono ?_
      rintro e w2 ⟨rfl, rfl⟩
      go_wp2_with fail
      refine (HG.out _ (Below.refl _ _)).mono ?_
      rintro e w3 ⟨rfl, hb3⟩
      have HB3 := Lib.hid hb3
      have hz3 := hb3.size
      clear hb3
      go_wp2_with fail
      have hbw := HB3.out.alloc hz3 (.cells #[.string ⟨r.nm.toArray⟩, .int .i64 r.v, .int .i64 n, .string ⟨r.fm.toArray⟩] 74)
      have HBW := Lib.hid hbw
      refine (HP2.out _ hbw).mono ?_
      rintro e w4 ⟨v', rfl, hr4, hk4, hf4⟩
      have HR4 := Lib.hid hr4
      have HK4 := Lib.hid hk4
      have HF4 := Lib.hid hf4
      clear hr4 hk4 hf4 hbw
      go_wp2_with fail
      go_ret
      refine ⟨v', rfl, HR4.out, (Kept.of HBW.out).trans HK4.out, fun k hk => ?_⟩
      rcases HF4.out k hk with h | h
      · exact .inl h
      · exact .inr (Nat.le_trans HBW.out.size h)
    · rw [show chgS L s.data.toList (eRange n) (setSt n) = (5, L) by unfold chgS; rw [if_neg (by rw [hn]; decide), if_pos (by rw [he]; decide), he]]
      have HC := Lib.hid (fun W => rfits_any n W)
      rw [hv] at HC
      clear h hn he hv
      go_enter Tryz.func27, Tryz.ntmps27
      go_wp2_with fail
      refine HN.out.mono ?_
      rintro e w1 ⟨rfl, rfl⟩
      go_wp2_with fail
      refine (HC.out _).mono ?_
      rintro e w2 ⟨rfl, rfl⟩
      go_wp2_with fail
      go_ret
      exact ⟨v, rfl, H.out, Kept.refl _ _, fun k hk => .inl hk⟩
set_option maxHeartbeats 1000000 in
theorem rFormat_any {B bx : Nat} {v : Value} {L : List Reg} {w : World} (h : RK B bx v L w) (hA : Asc L) (hl : L.length ≤ 500) (s : ByteArray) (n : ByteArray) (hn9 : n.size ≤ 9223372036854775807) :
    Calls Tryz.prog 28 #[BP bx, .string s, .string n] w fun e w' => ∃ v', e = .returned (.int .i64 (chgS L s.data.toList (eForm n.data.toList) (setFm n.data.toList)).1) ∧ RK B bx v' (chgS L s.data.toList (eForm n.data.toList) (setFm n.data.toList)).2 w' ∧ Kept (fun k => k = bx ∨ v.ownBlock = some k) w w' ∧ ∀ k, v'.ownBlock = some k → v.ownBlock = some k ∨ w.heap.size ≤ k := by
  have HN := Lib.hid (rIsName_any s w)
  have H := Lib.hid h
  cases hn : okNm s.data.toList with
  | false =>
    rw [show chgS L s.data.toList (eForm n.data.toList) (setFm n.data.toList) = (6, L) by unfold chgS; rw [if_pos hn]]
    rw [hn] at HN
    clear h hn
    go_enter Tryz.func28, Tryz.ntmps28
    go_wp2_with fail
    refine HN.out.mono ?_
    rintro e w1 ⟨rfl, rfl⟩
    go_wp2_with fail
    go_ret
    exact ⟨v, rfl, H.out, Kept.refl _ _, fun k hk => .inl hk⟩
  | true =>
    rw [hn] at HN
    rcases eForm_cases n.data.toList with ⟨he, hv⟩ | ⟨he, hv⟩
    · rw [he, chg_pt L s.data.toList (setFm n.data.toList) hn (getS_nm L _)]
      have HC := Lib.hid (fun W => (fun W => rIsForm_any n W hn9) W)
      have HG := Lib.hid (fun W hW => rget_any (h.below (w' := W) hW) hA hl s)
      have HP := Lib.hid (fun W hW => rput_any (h.below (w' := W) hW) hA hl (setFm n.data.toList (getS L s.data.toList)))
      rw [hv] at HC
      obtain ⟨r, hr⟩ : ∃ r, r = getS L s.data.toList := ⟨_, rfl⟩
      rw [← hr] at HG HP ⊢
      have HP2 : Hid (∀ W, Below w.heap.size w W → Calls Tryz.prog 51 #[BP bx, .agg #[.string ⟨r.nm.toArray⟩, .int .i64 r.v, .int .i64 r.st, .string n]] W fun e w' => ∃ v', e = .returned (.int .i64 (ptS L (setFm n.data.toList r)).1) ∧ RK B bx v' (ptS L (setFm n.data.toList r)).2 w' ∧ Kept (fun k => k = bx ∨ v.ownBlock = some k) W w' ∧ ∀ k, v'.ownBlock = some k → v.ownBlock = some k ∨ W.heap.size ≤ k) := Lib.hid HP.out
      clear h hn he hv hr HP
      unfold regX at HG
      go_enter Tryz.func28, Tryz.ntmps28
      go_wp2_with fail
      refine HN.out.mono ?_
      rintro e w1 ⟨rfl, rfl⟩
      go_wp2_with fail
      refine (HC.out _).mono ?_
      rintro e w2 ⟨rfl, rfl⟩
      go_wp2_with fail
      refine (HG.out _ (Below.refl _ _)).mono ?_
      rintro e w3 ⟨rfl, hb3⟩
      have HB3 := Lib.hid hb3
      have hz3 := hb3.size
      clear hb3
      go_wp2_with fail
      have hbw := HB3.out.alloc hz3 (.cells #[.string ⟨r.nm.toArray⟩, .int .i64 r.v, .int .i64 r.st, .string n] 74)
      have HBW := Lib.hid hbw
      refine (HP2.out _ hbw).mono ?_
      rintro e w4 ⟨v', rfl, hr4, hk4, hf4⟩
      have HR4 := Lib.hid hr4
      have HK4 := Lib.hid hk4
      have HF4 := Lib.hid hf4
      clear hr4 hk4 hf4 hbw
      go_wp2_with fail
      go_ret
      refine ⟨v', rfl, HR4.out, (Kept.of HBW.out).trans HK4.out, fun k hk => ?_⟩
      rcases HF4.out k hk with h | h
      · exact .inl h
      · exact .inr (Nat.le_trans HBW.out.size h)
    · rw [show chgS L s.data.toList (eForm n.data.toList) (setFm n.data.toList) = (4, L) by unfold chgS; rw [if_neg (by rw [hn]; decide), if_pos (by rw [he]; decide), he]]
      have HC := Lib.hid (fun W => (fun W => rIsForm_any n W hn9) W)
      rw [hv] at HC
      clear h hn he hv
      go_enter Tryz.func28, Tryz.ntmps28
      go_wp2_with fail
      refine HN.out.mono ?_
      rintro e w1 ⟨rfl, rfl⟩
      go_wp2_with fail
      refine (HC.out _).mono ?_
      rintro e w2 ⟨rfl, rfl⟩
      go_wp2_with fail
      go_ret
      exact ⟨v, rfl, H.out, Kept.refl _ _, fun k hk => .inl hk⟩
end Go.Proofs.YtedbdpklliaoaaaGreatDoor
