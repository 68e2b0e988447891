/- The law RegisterApart: its walk. -/
import Derived.Test.YtedbdpklliaoaaaGreatDoorLawDoes
namespace Go.Proofs.YtedbdpklliaoaaaGreatDoor
open Go.RowKit Go.Shelf Go.Maps
set_option maxRecDepth 100000
theorem apart_step {S0 S1 mb bx : Nat} {v v' : Value} {u w x : World} (h : Kept (fun k => k < S0) u w) (hS : u.heap.size = S1) (d : Dn mb bx v v' w x) (h1 : mb < S0) (h2 : bx < S0) (ho : ∀ k, v.ownBlock = some k → k < S0 ∨ S1 ≤ k) :
    Kept (fun k => k < S0) u x ∧ ∀ k, v'.ownBlock = some k → k < S0 ∨ S1 ≤ k := by
  have hk := d.kept
  have hz := h.size
  refine ⟨⟨hk.os.trans h.os, hk.tape.trans h.tape, hk.output.trans h.output, Nat.le_trans h.size hk.size, fun i hi hs => ?_⟩, fun k e => ?_⟩
  · refine (hk.block i (by omega) ?_).trans (h.block i hi hs)
    rintro (e | e | e)
    · omega
    · omega
    · rcases ho i e with e | e <;> omega
  · rcases d.own k e with e | e
    · exact ho k e
    · exact .inr (by omega)
def ApR (T n bb mb bx : Nat) (w u : World) (S0 : Nat) (k : Nat) (i : Value) (wr : World) : Prop :=
  ∃ (j : Nat) (v : Value) (L : List Reg), k + j = n ∧ i = .int .i64 j ∧ Two T bb mb T bx v L wr ∧ Below T w wr ∧ Kept (fun k => k < S0) u wr ∧ ∀ k, v.ownBlock = some k → k < S0 ∨ u.heap.size ≤ k
set_option maxHeartbeats 8000000 in
theorem law_apart (a : Option Addr) (n cap : Nat) (a2 : Option Addr) (n2 cap2 : Nat) (w : World) (hT : TB w) (hD : DeedsIn a n w) (hD2 : DeedsIn a2 n2 w) :
    Calls Tryz.prog 4 #[.slice a n cap, .slice a2 n2 cap2] w fun e w' => e = .returned (.bool true) ∧ Below w.heap.size w w' := by
  have HT := Lib.hid hT
  have HD := Lib.hid hD
  have HD2 := Lib.hid hD2
  clear hT hD hD2
  by_cases h60 : 40 < n
  · have t1 : decide ((40 : Int) < (n : Int)) = true := decide_eq_true (by omega)
    clear h60
    go_enter Tryz.func4, Tryz.ntmps4
    go_wp2_with fail
    refine (sane_any _ HT.out).mono ?_
    rintro e w' ⟨rfl, hb⟩
    have HB := Lib.hid hb
    clear hb
    go_wp2_with fail
    go_ret
    exact ⟨rfl, HB.out⟩
  have t1 : decide ((40 : Int) < (n : Int)) = false := decide_eq_false (by omega)
  have hn60 : n ≤ 40 := by omega
  clear h60
  by_cases h60 : 20 < n2
  · have t2 : decide ((20 : Int) < (n2 : Int)) = true := decide_eq_true (by omega)
    clear h60
    go_enter Tryz.func4, Tryz.ntmps4
    go_wp2_with fail
    refine (sane_any _ HT.out).mono ?_
    rintro e w' ⟨rfl, hb⟩
    have HB := Lib.hid hb
    clear hb
    go_wp2_with fail
    go_ret
    exact ⟨rfl, HB.out⟩
  have t2 : decide ((20 : Int) < (n2 : Int)) = false := decide_eq_false (by omega)
  have hn62 : n2 ≤ 20 := by omega
  clear h60
  go_enter Tryz.func4, Tryz.ntmps4
  go_wp2_with fail
  refine (new_any _).mono ?_
  rintro e w1 ⟨rfl, hbk, hb1⟩
  obtain ⟨htwo, hbt⟩ := two_new _ _ hbk hb1
  have HST : Hid (DoR w.heap.size n (w.heap.size + 1) w.heap.size w.heap.size w1.heap.size w n (.int .i64 0) (w1.alloc (.cells #[.slice none 0 0] 29))) := Lib.hid ⟨0, _, _, rfl, rfl, htwo, hbt⟩
  clear hbk hb1 htwo hbt t1 t2
  go_wp2_with fail
  go_loopg [7] n (fun k i wr => DoR w.heap.size n (w.heap.size + 1) w.heap.size w.heap.size w1.heap.size w k i wr)
  case atStart => exact HST.out
  case round =>
    obtain ⟨j, v, L, hk, rfl, htwo, hb⟩ := hrel
    have HK := Lib.hid hk
    have HTW := Lib.hid htwo
    have HB := Lib.hid hb
    have HTT := Lib.hid (HT.out.below hb (Nat.le_refl _))
    by_cases hj : j < n
    · have dj : decide (j < n) = true := decide_eq_true hj
      obtain ⟨b, off, rfl, hbl, D, m, nm, fm, hf, c0, c1, c2, c3⟩ := (HD.out.below hb) j hj
      have HJ := Lib.hid hj
      have hj60 : j ≤ 60 := by omega
      have HDO := Lib.hid (does_any htwo HTT.out D m nm fm hf)
      clear hk hj htwo hb hf hbl
      go_wp2_with fail
      refine HDO.out.mono ?_
      rintro e w2 ⟨v', L', rfl, htwo2, hdn⟩
      have HB2 := Lib.hid (HB.out.trans (HTW.out.to hdn))
      have HTW2 := Lib.hid htwo2
      clear htwo2 hdn
      go_wp2_with fail
      go_roundg (gk - 1)
      case measure => have := HK.out; have := HJ.out; omega
      case rel => have := HK.out; have := HJ.out; exact ⟨j + 1, v', L', by omega, by go_num, HTW2.out, HB2.out⟩
    · have dj : decide (j < n) = false := decide_eq_false hj
      have HC := Lib.hid (copy_call htwo.bk)
      have hlt := htwo.bk.lt
      have hbx := htwo.rk.lt
      obtain ⟨S0, hS0⟩ : ∃ S0, S0 = wr.heap.size := ⟨_, rfl⟩
      have HS0 := Lib.hid hS0
      have HLT : Hid (w.heap.size < S0 ∧ w1.heap.size < S0) := Lib.hid ⟨by rw [hS0]; exact hlt.2, by rw [hS0]; exact hbx⟩
      clear hS0
      clear hk hj htwo hb hlt hbx
      go_wp2_with fail
      refine HC.out.mono ?_
      rintro e w2 ⟨cb, cm, rfl, hcb, hcm, hck, hb2⟩
      have HTW2 := Lib.hid (HTW.out.below hb2)
      have HCK := Lib.hid hck
      have HCB : Hid (S0 ≤ cb ∧ S0 ≤ cm ∧ S0 ≤ w2.heap.size) := Lib.hid ⟨by rw [HS0.out]; exact hcb, by rw [HS0.out]; exact hcm, by rw [HS0.out]; exact hb2.size⟩
      have HB2 := Lib.hid hb2
      clear hcb hcm hck hb2
      go_wp2_with fail
      refine (rCopy_any HTW2.out.rk HTW2.out.bk.len).mono ?_
      rintro e w3 ⟨cx, vy, rfl, hry, hb3⟩
      have HRY := Lib.hid hry
      have HCK3 := Lib.hid (HCK.out.below hb3)
      have HTW3 := Lib.hid (HTW2.out.below hb3)
      have HB3 := Lib.hid (HB.out.trans ((HB2.out.trans (hb3.mono HB2.out.size)).mono HB.out.size))
      have HW2 := Lib.hid HB2.out.size
      have HW3 := Lib.hid hb3.size
      have HST2 : Hid (ApR w.heap.size n2 (w.heap.size + 1) w.heap.size w1.heap.size w w3 S0 n2 (.int .i64 0) w3) := Lib.hid ⟨0, v, L, rfl, rfl, HTW3.out, HB3.out, Kept.refl _ _, fun k hk => .inl (by rw [HS0.out]; exact (HTW.out.rk.row.lt k hk).2)⟩
      clear hry hb3
      go_wp2_with fail
      go_loopg [10] n2 (fun k i wx => ApR w.heap.size n2 (w.heap.size + 1) w.heap.size w1.heap.size w w3 S0 k i wx)
      case atStart => exact HST2.out
      case round =>
        obtain ⟨j2, v2, L2, hk2, rfl, htwo4, hb4, hkp, how⟩ := hrel
        have HK2 := Lib.hid hk2
        have HTW4 := Lib.hid htwo4
        have HB4 := Lib.hid hb4
        have HKP := Lib.hid hkp
        have HOW := Lib.hid how
        have HTT4 := Lib.hid (HT.out.below hb4 (Nat.le_refl _))
        by_cases hj : j2 < n2
        · have dj : decide (j2 < n2) = true := decide_eq_true hj
          obtain ⟨b, off, rfl, hbl, D, m, nm, fm, hf, c0, c1, c2, c3⟩ := (HD2.out.below hb4) j2 hj
          have HJ := Lib.hid hj
          have hj60 : j2 ≤ 60 := by omega
          have HDO := Lib.hid (does_any htwo4 HTT4.out D m nm fm hf)
          clear hk2 hj htwo4 hb4 hf hbl hkp how
          go_wp2_with fail
          refine HDO.out.mono ?_
          rintro e w5 ⟨v', L', rfl, htwo5, hdn⟩
          have HB5 := Lib.hid (HB4.out.trans (HTW4.out.to hdn))
          have HAP := Lib.hid (apart_step HKP.out rfl hdn HLT.out.1 HLT.out.2 HOW.out)
          have HTW5 := Lib.hid htwo5
          clear htwo5 hdn
          go_wp2_with fail
          go_roundg (gk - 1)
          case measure => have := HK2.out; have := HJ.out; omega
          case rel => have := HK2.out; have := HJ.out; exact ⟨j2 + 1, v', L', by omega, by go_num, HTW5.out, HB5.out, HAP.out.1, HAP.out.2⟩
        · have dj : decide (j2 < n2) = false := decide_eq_false hj
          have hcb := HCB.out
          have hck4 := HCK3.out.kept hkp (by omega) (by omega)
          have hry4 := HRY.out.kept hkp (by have := HRY.out.bx; omega) (fun g hg => by have := (HRY.out.row.lt g hg).1; omega)
          have HSA := Lib.hid (same_any hck4 hry4 HTT4.out)
          clear hk2 hj htwo4 hb4 hkp how hcb hck4 hry4
          go_wp2_with fail
          refine HSA.out.mono ?_
          rintro e w5 ⟨rfl, hb5⟩
          have HB5 := Lib.hid (HB4.out.trans (hb5.mono HB4.out.size))
          have HTW5 := Lib.hid (HTW4.out.below hb5)
          have HT5 := Lib.hid (HT.out.below HB5.out (Nat.le_refl _))
          clear hb5
          go_wp2_with fail
          refine (same_any HTW5.out.bk HTW5.out.rk HT5.out).mono ?_
          rintro e w6 ⟨rfl, hb6⟩
          have HB6 := Lib.hid (HB5.out.trans (hb6.mono HB5.out.size))
          have HT6 := Lib.hid (HT.out.below HB6.out (Nat.le_refl _))
          clear hb6
          go_wp2_with fail
          refine (sane_any _ HT6.out).mono ?_
          rintro e w7 ⟨rfl, hb7⟩
          have HB7 := Lib.hid (HB6.out.trans (hb7.mono HB6.out.size))
          clear hb7
          go_wp2_with fail
          go_ret
          exact ⟨rfl, HB7.out⟩
end Go.Proofs.YtedbdpklliaoaaaGreatDoor
