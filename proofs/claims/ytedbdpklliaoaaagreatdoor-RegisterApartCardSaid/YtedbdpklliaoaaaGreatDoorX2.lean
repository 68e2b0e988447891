/- Both books have the same names. -/
import Derived.Test.YtedbdpklliaoaaaGreatDoorX1
namespace Go.Proofs.YtedbdpklliaoaaaGreatDoor
open Go.RowKit Go.Shelf Go.Maps
set_option maxRecDepth 100000
theorem names_shape {w : World} {base n : Nat} {v : Value} {ds : List Value} (h : w.ownsRow base 9 1 v n ds) : ∃ o cap, v = .slice o n cap ∧ n ≤ cap ∧ (cap : Int) ≤ 9223372036854775807 := by
  rcases h.2 with ⟨hv, hn⟩ | ⟨g, cap, cur, hv, _, _, h1, h2, _⟩
  · exact ⟨none, 0, by rw [hv, hn], by omega, by omega⟩
  · exact ⟨_, _, hv, h1, by unfold maxLen at h2; omega⟩
theorem names_kept {B n : Nat} {v : Value} {xs : List Value} {w w' : World} (h : w.ownsRow B 9 1 v n xs) (k : Below w.heap.size w w') : w'.ownsRow B 9 1 v n xs := by
  refine ⟨h.1, ?_⟩
  rcases h.2 with hn | ⟨g, cap, cur, hv, hb, hg, rest⟩
  · exact .inl hn
  · refine .inr ⟨g, cap, cur, hv, hb, ?_, rest⟩
    have hlt : g < w.heap.size := by
      rcases Nat.lt_or_ge g w.heap.size with h | h
      · exact h
      · rw [Array.getElem?_eq_none h] at hg; cases hg
    rw [k.block g hlt]; exact hg
theorem names_at {B n cap : Nat} {o : Option Addr} {xs : List (List UInt8)} {w : World} (h : w.ownsRow B 9 1 (.slice o n cap) n (xs.map encStr)) (i : Nat) (hi : i < n) (hx : i < xs.length) :
    ∃ g, o = some ⟨g, 0, none⟩ ∧ w.cell? ⟨g, i, none⟩ = some (.string ⟨(xs[i]).toArray⟩) := by
  rcases h.2 with ⟨hv, hn⟩ | ⟨g, cap', cur, hv, _, hh, h1, h2, h3, h4⟩
  · omega
  · obtain ⟨rfl, rfl⟩ : o = some ⟨g, 0, none⟩ ∧ cap = cap' := by simpa using hv
    have a0 : (xs.map encStr)[i]? = some (.string ⟨(xs[i]).toArray⟩) := by simp [encStr, hx]
    rw [← h4, List.getElem?_take, if_pos (by omega), Array.getElem?_toList] at a0
    exact ⟨g, rfl, by simp [World.cell?, hh, a0]⟩
def SmR (L : List Reg) (w : World) (k : Nat) (i : Value) (wr : World) : Prop := ∃ j : Nat, k + j = L.length ∧ i = .int .i64 j ∧ Below w.heap.size w wr
set_option maxHeartbeats 2000000 in
theorem same_any {bb mb B bx : Nat} {v : Value} {L : List Reg} {w : World} (hb : BK bb mb L w) (hx : RK B bx v L w) (hT : TB w) :
    Calls Tryz.prog 10 #[BP bb, BP bx] w fun e w' => e = .returned (.bool true) ∧ Below w.heap.size w w' := by
  have hl := hb.len
  have C1 := Lib.hid (names_call hb)
  have D1 := Lib.hid (fun W hW => rNames_any (hx.below (w' := W) hW) hl)
  have HA := Lib.hid (fun W (hW : Below w.heap.size w W) => fun s => asked_any (hb.below hW) (hx.below hW) (hT.below hW (Nat.le_refl _)) s)
  clear hb hx hT
  have hnl := Lib.hid (show (nmsOf L).length = L.length by simp [nmsOf])
  go_enter Tryz.func10, Tryz.ntmps10
  go_wp2_with fail
  refine C1.out.mono ?_
  rintro e w1 ⟨v1, rfl, hr1, hb1⟩
  have H1 := Lib.hid hb1
  have HR1 := Lib.hid hr1
  clear hb1 hr1
  go_wp2_with fail
  refine (D1.out _ H1.out).mono ?_
  rintro e w2 ⟨v2, rfl, hr2, hb2⟩
  have hr1 := names_kept HR1.out hb2
  obtain ⟨o1, cap1, rfl, hlc1, hcp1⟩ := names_shape hr1
  obtain ⟨o2, cap2, rfl, hlc2, hcp2⟩ := names_shape hr2
  have H2 := Lib.hid (H1.out.trans (hb2.mono H1.out.size))
  have HR1 := Lib.hid hr1
  have HR2 := Lib.hid hr2
  have HST : Hid (SmR L w2 L.length (.int .i64 0) w2) := Lib.hid ⟨0, rfl, rfl, Below.refl _ _⟩
  clear hb2 hr1 hr2
  go_wp2_with fail
  go_loopg [7] L.length (fun k i wr => SmR L w2 k i wr)
  case atStart => exact HST.out
  case round =>
    obtain ⟨j, hk, rfl, hb⟩ := hrel
    have HB := Lib.hid hb
    have HK := Lib.hid hk
    have HW := Lib.hid (H2.out.trans (hb.mono H2.out.size))
    have HWD := Lib.hid (show Below w.heap.size w wr.drew from ⟨HW.out.os, HW.out.tape, HW.out.output, HW.out.size, HW.out.block⟩)
    have HBD := Lib.hid (show Below w2.heap.size w2 wr.drew from ⟨hb.os, hb.tape, hb.output, hb.size, hb.block⟩)
    by_cases hj : j < L.length
    · have d1 : decide (j < L.length) = true := decide_eq_true hj
      have hjn : j < (nmsOf L).length := by rw [hnl.out]; exact hj
      obtain ⟨g1, rfl, c1⟩ := names_at (names_kept HR1.out hb) j hj hjn
      obtain ⟨g2, rfl, c2⟩ := names_at (names_kept HR2.out hb) j hj hjn
      obtain ⟨x, hx⟩ : ∃ x : ByteArray, x = ⟨((nmsOf L)[j]).toArray⟩ := ⟨_, rfl⟩
      rw [← hx] at c1 c2
      have HJ := Lib.hid hj
      have hj5 : j < 1000 := by omega
      clear hb hk hx hjn
      go_wp2_with fail
      go_still_tail 16, (by kernel_rfl)
      change wpList _ _ _ _ _ wr.drew
      go_wp2_with fail
      refine (HA.out _ HWD.out x).mono ?_
      rintro e w3 ⟨rfl, hb3⟩
      have HB3 := Lib.hid (HBD.out.trans (hb3.mono HBD.out.size))
      clear hb3
      go_wp2_with fail
      go_roundg (gk - 1)
      case measure => have := HK.out; have := HJ.out; omega
      case rel =>
        have := HK.out
        have := HJ.out
        exact ⟨j + 1, by omega, by go_num, HB3.out⟩
    · have d1 : decide (j < L.length) = false := decide_eq_false hj
      clear hb hk hj
      go_wp2_with fail
      go_ret
      exact ⟨rfl, HW.out⟩
end Go.Proofs.YtedbdpklliaoaaaGreatDoor
