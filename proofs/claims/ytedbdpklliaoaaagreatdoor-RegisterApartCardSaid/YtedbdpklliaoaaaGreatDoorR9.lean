/- The document's book: Move. -/
import Derived.Test.YtedbdpklliaoaaaGreatDoorR8
namespace Go.Proofs.YtedbdpklliaoaaaGreatDoor
open Go.RowKit Go.Shelf Go.Maps
set_option maxRecDepth 100000
theorem RK.far {B bx : Nat} {v : Value} {L : List Reg} {w : World} (h : RK B bx v L w) (k : Nat) (hk : w.heap.size ≤ k) : ¬ (k = bx ∨ v.ownBlock = some k) := by
  rintro (rfl | e)
  · have := h.lt; omega
  · have := (h.row.lt k e).2; omega
set_option maxHeartbeats 2000000 in
theorem rMove_any {B bx : Nat} {v : Value} {L : List Reg} {w : World} (h : RK B bx v L w) (hA : Asc L) (hl : L.length ≤ 500) (hoks : ∀ r ∈ L, regOk r) (s : ByteArray) (up : Bool) :
    Calls Tryz.prog 29 #[BP bx, .string s, .bool up] w fun e w' => ∃ v', e = .returned (.tuple #[.int .i64 (movS L s.data.toList up).1, .int .i64 (movS L s.data.toList up).2.1]) ∧ RK B bx v' (movS L s.data.toList up).2.2 w' ∧ Kept (fun k => k = bx ∨ v.ownBlock = some k) w w' ∧ ∀ k, v'.ownBlock = some k → v.ownBlock = some k ∨ w.heap.size ≤ k := by
  have HN := Lib.hid (rIsName_any s w)
  have H := Lib.hid h
  have HH := Lib.hid (fun W hW => rHas_any (h.below (w' := W) hW) hA hl s)
  have HG := Lib.hid (fun W hW => rget_any (h.below (w' := W) hW) hA hl s)
  have HDIS : Hid (∀ W, Below w.heap.size w W → ¬ (W.heap.size = bx ∨ v.ownBlock = some W.heap.size)) := Lib.hid (fun W hW => h.far _ hW.size)
  unfold movS
  cases hn : okNm s.data.toList with
  | false =>
    rw [if_pos rfl]
    rw [hn] at HN
    clear h hn
    go_enter Tryz.func29, Tryz.ntmps29
    go_wp2_with fail
    refine HN.out.mono ?_
    rintro e w1 ⟨rfl, rfl⟩
    go_wp2_with fail
    go_ret2
    exact ⟨v, rfl, H.out, Kept.refl _ _, fun k hk => .inl hk⟩
  | true =>
    rw [if_neg (by decide)]
    rw [hn] at HN
    cases ht : hasS L s.data.toList with
    | false =>
      rw [if_pos rfl]
      rw [ht] at HH
      clear h hn ht
      go_enter Tryz.func29, Tryz.ntmps29
      go_wp2_with fail
      refine HN.out.mono ?_
      rintro e w1 ⟨rfl, rfl⟩
      go_wp2_with fail
      refine (HH.out _ (Below.refl _ _)).mono ?_
      rintro e w2 ⟨rfl, hb2⟩
      have HB2 := Lib.hid hb2
      clear hb2
      go_wp2_with fail
      go_ret2
      exact ⟨v, rfl, H.out.below HB2.out, .of HB2.out, fun k hk => .inl hk⟩
    | true =>
      rw [if_neg (by decide)]
      rw [ht] at HH
      have hok := getS_ok L s.data.toList hoks hn
      have hnm := getS_nm L s.data.toList
      obtain ⟨r, hr⟩ : ∃ r, r = getS L s.data.toList := ⟨_, rfl⟩
      rw [← hr] at hok hnm HG ⊢
      unfold regX at HG
      have hv : -1000000000 ≤ r.v ∧ r.v ≤ 1000000000 := by have := hok.2.1; unfold okN at this; simp at this; omega
      have hst : -1000000000 ≤ r.st ∧ r.st ≤ 1000000000 := by have := hok.2.2.1; unfold okN at this; simp at this; omega
      obtain ⟨hv1, hv2⟩ := hv
      obtain ⟨hs1, hs2⟩ := hst
      cases up with
      | true =>
        rw [show movN r true = r.v + r.st from rfl]
        cases hm : okN (r.v + r.st) with
        | true =>
          rw [if_pos rfl]
          have HC := Lib.hid (fun W => rfits_any (r.v + r.st) W)
          rw [hm] at HC
          have HP := Lib.hid (fun W hW => rput_any (h.below (w' := W) hW) hA hl (setV (r.v + r.st) r))
          rw [show ptS L (setV (r.v + r.st) r) = (0, putS L (setV (r.v + r.st) r)) by unfold ptS; rw [if_neg (by rw [show (setV (r.v + r.st) r).nm = s.data.toList from hnm, ht]; simp)]] at HP
          have HP2 : Hid (∀ W, Below w.heap.size w W → Calls Tryz.prog 51 #[BP bx, .agg #[.string ⟨r.nm.toArray⟩, .int .i64 (r.v + r.st), .int .i64 r.st, .string ⟨r.fm.toArray⟩]] W fun e w' => ∃ v', e = .returned (.int .i64 0) ∧ RK B bx v' (putS L (setV (r.v + r.st) r)) w' ∧ Kept (fun k => k = bx ∨ v.ownBlock = some k) W w' ∧ ∀ k, v'.ownBlock = some k → v.ownBlock = some k ∨ W.heap.size ≤ k) := Lib.hid HP.out
          clear h hn ht hr hok hnm hm HP
          go_enter Tryz.func29, Tryz.ntmps29
          go_wp2_with fail
          refine HN.out.mono ?_
          rintro e w1 ⟨rfl, rfl⟩
          go_wp2_with fail
          refine (HH.out _ (Below.refl _ _)).mono ?_
          rintro e w2 ⟨rfl, hb2⟩
          have HB2 := Lib.hid hb2
          clear hb2
          go_wp2_with fail
          refine (HG.out _ HB2.out).mono ?_
          rintro e w3 ⟨rfl, hb3⟩
          have hb3' := HB2.out.trans (hb3.mono HB2.out.size)
          have HB3 := Lib.hid hb3'
          have hz3 := hb3'.size
          clear hb3 hb3'
          go_wp2_with fail
          refine (HC.out _).mono ?_
          rintro e w4 ⟨rfl, rfl⟩
          go_wp2_with fail
          have hbw := HB3.out.alloc hz3 (.cells #[.string ⟨r.nm.toArray⟩, .int .i64 (r.v + r.st), .int .i64 r.st, .string ⟨r.fm.toArray⟩] 74)
          have HBW := Lib.hid hbw
          refine (HP2.out _ hbw).mono ?_
          rintro e w5 ⟨v', rfl, hr4, hk4, hf4⟩
          have HR4 := Lib.hid hr4
          have HK4 := Lib.hid hk4
          have HF4 := Lib.hid hf4
          have hblk := hk4.block w3.heap.size (by simp) (HDIS.out w3 HB3.out)
          rw [heap_alloc_new] at hblk
          obtain ⟨⟨c0, c1, c2, c3⟩, _⟩ := fresh_rr hblk
          clear hr4 hk4 hf4 hbw hblk
          go_wp2_with fail
          go_ret2
          refine ⟨v', rfl, HR4.out, (Kept.of HBW.out).trans HK4.out, fun k hk => ?_⟩
          rcases HF4.out k hk with h | h
          · exact .inl h
          · exact .inr (Nat.le_trans HBW.out.size h)
        | false =>
          rw [if_neg (by decide)]
          have HC := Lib.hid (fun W => rfits_any (r.v + r.st) W)
          rw [hm] at HC
          clear h hn ht hr hok hnm hm
          go_enter Tryz.func29, Tryz.ntmps29
          go_wp2_with fail
          refine HN.out.mono ?_
          rintro e w1 ⟨rfl, rfl⟩
          go_wp2_with fail
          refine (HH.out _ (Below.refl _ _)).mono ?_
          rintro e w2 ⟨rfl, hb2⟩
          have HB2 := Lib.hid hb2
          clear hb2
          go_wp2_with fail
          refine (HG.out _ HB2.out).mono ?_
          rintro e w3 ⟨rfl, hb3⟩
          have hb3' := HB2.out.trans (hb3.mono HB2.out.size)
          have HB3 := Lib.hid hb3'
          have hz3 := hb3'.size
          clear hb3 hb3'
          go_wp2_with fail
          refine (HC.out _).mono ?_
          rintro e w4 ⟨rfl, rfl⟩
          go_wp2_with fail
          go_ret2
          have hbw := HB3.out.alloc hz3 (.cells #[.string ⟨r.nm.toArray⟩, .int .i64 r.v, .int .i64 r.st, .string ⟨r.fm.toArray⟩] 74)
          exact ⟨v, rfl, H.out.below hbw, .of hbw, fun k hk => .inl hk⟩
      | false =>
        rw [show movN r false = r.v - r.st from rfl]
        cases hm : okN (r.v - r.st) with
        | true =>
          rw [Int.sub_eq_add_neg] at hm ⊢
          rw [if_pos rfl]
          have HC := Lib.hid (fun W => rfits_any (r.v + -r.st) W)
          rw [hm] at HC
          have HP := Lib.hid (fun W hW => rput_any (h.below (w' := W) hW) hA hl (setV (r.v + -r.st) r))
          rw [show ptS L (setV (r.v + -r.st) r) = (0, putS L (setV (r.v + -r.st) r)) by unfold ptS; rw [if_neg (by rw [show (setV (r.v + -r.st) r).nm = s.data.toList from hnm, ht]; simp)]] at HP
          have HP2 : Hid (∀ W, Below w.heap.size w W → Calls Tryz.prog 51 #[BP bx, .agg #[.string ⟨r.nm.toArray⟩, .int .i64 (r.v + -r.st), .int .i64 r.st, .string ⟨r.fm.toArray⟩]] W fun e w' => ∃ v', e = .returned (.int .i64 0) ∧ RK B bx v' (putS L (setV (r.v + -r.st) r)) w' ∧ Kept (fun k => k = bx ∨ v.ownBlock = some k) W w' ∧ ∀ k, v'.ownBlock = some k → v.ownBlock = some k ∨ W.heap.size ≤ k) := Lib.hid HP.out
          clear h hn ht hr hok hnm hm HP
          go_enter Tryz.func29, Tryz.ntmps29
          go_wp2_with fail
          refine HN.out.mono ?_
          rintro e w1 ⟨rfl, rfl⟩
          go_wp2_with fail
          refine (HH.out _ (Below.refl _ _)).mono ?_
          rintro e w2 ⟨rfl, hb2⟩
          have HB2 := Lib.hid hb2
          clear hb2
          go_wp2_with fail
          refine (HG.out _ HB2.out).mono ?_
          rintro e w3 ⟨rfl, hb3⟩
          have hb3' := HB2.out.trans (hb3.mono HB2.out.size)
          have HB3 := Lib.hid hb3'
          have hz3 := hb3'.size
          clear hb3 hb3'
          go_wp2_with fail
          refine (HC.out _).mono ?_
          rintro e w4 ⟨rfl, rfl⟩
          go_wp2_with fail
          have hbw := HB3.out.alloc hz3 (.cells #[.string ⟨r.nm.toArray⟩, .int .i64 (r.v + -r.st), .int .i64 r.st, .string ⟨r.fm.toArray⟩] 74)
          have HBW := Lib.hid hbw
          refine (HP2.out _ hbw).mono ?_
          rintro e w5 ⟨v', rfl, hr4, hk4, hf4⟩
          have HR4 := Lib.hid hr4
          have HK4 := Lib.hid hk4
          have HF4 := Lib.hid hf4
          have hblk := hk4.block w3.heap.size (by simp) (HDIS.out w3 HB3.out)
          rw [heap_alloc_new] at hblk
          obtain ⟨⟨c0, c1, c2, c3⟩, _⟩ := fresh_rr hblk
          clear hr4 hk4 hf4 hbw hblk
          go_wp2_with fail
          go_ret2
          refine ⟨v', rfl, HR4.out, (Kept.of HBW.out).trans HK4.out, fun k hk => ?_⟩
          rcases HF4.out k hk with h | h
          · exact .inl h
          · exact .inr (Nat.le_trans HBW.out.size h)
        | false =>
          rw [Int.sub_eq_add_neg] at hm ⊢
          rw [if_neg (by decide)]
          have HC := Lib.hid (fun W => rfits_any (r.v + -r.st) W)
          rw [hm] at HC
          clear h hn ht hr hok hnm hm
          go_enter Tryz.func29, Tryz.ntmps29
          go_wp2_with fail
          refine HN.out.mono ?_
          rintro e w1 ⟨rfl, rfl⟩
          go_wp2_with fail
          refine (HH.out _ (Below.refl _ _)).mono ?_
          rintro e w2 ⟨rfl, hb2⟩
          have HB2 := Lib.hid hb2
          clear hb2
          go_wp2_with fail
          refine (HG.out _ HB2.out).mono ?_
          rintro e w3 ⟨rfl, hb3⟩
          have hb3' := HB2.out.trans (hb3.mono HB2.out.size)
          have HB3 := Lib.hid hb3'
          have hz3 := hb3'.size
          clear hb3 hb3'
          go_wp2_with fail
          refine (HC.out _).mono ?_
          rintro e w4 ⟨rfl, rfl⟩
          go_wp2_with fail
          go_ret2
          have hbw := HB3.out.alloc hz3 (.cells #[.string ⟨r.nm.toArray⟩, .int .i64 r.v, .int .i64 r.st, .string ⟨r.fm.toArray⟩] 74)
          exact ⟨v, rfl, H.out.below hbw, .of hbw, fun k hk => .inl hk⟩
end Go.Proofs.YtedbdpklliaoaaaGreatDoor
