/- The law RegisterDoes: its walk. -/
import Derived.Test.YtedbdpklliaoaaaGreatDoorX7
namespace Go.Proofs.YtedbdpklliaoaaaGreatDoor
open Go.RowKit Go.Shelf Go.Maps
set_option maxRecDepth 100000
/-- Two new books. -/
theorem two_new (w w1 : World) (hb : BK (w.heap.size + 1) w.heap.size [] w1) (hw : Below w.heap.size w w1) :
    Two w.heap.size (w.heap.size + 1) w.heap.size w.heap.size w1.heap.size (.slice none 0 0) [] (w1.alloc (.cells #[.slice none 0 0] 29)) ∧ Below w.heap.size w (w1.alloc (.cells #[.slice none 0 0] 29)) := by
  have h1 := hb.lt
  have hk : Below w1.heap.size w1 (w1.alloc (.cells #[.slice none 0 0] 29)) := (Below.refl _ _).alloc (Nat.le_refl _) _
  refine ⟨⟨hb.below hk, ⟨heap_alloc_new _ _, World.ownsRow_nil _ _ _ _, by simp [Value.ownBlock], by omega⟩, by omega, by omega, fun k hk => by simp [Value.ownBlock] at hk, by omega, by omega, by omega⟩, hw.trans (hk.mono hw.size)⟩
def DoR (T n bb mb B bx : Nat) (w : World) (k : Nat) (i : Value) (wr : World) : Prop :=
  ∃ (j : Nat) (v : Value) (L : List Reg), k + j = n ∧ i = .int .i64 j ∧ Two T bb mb B bx v L wr ∧ Below T w wr
set_option maxHeartbeats 4000000 in
theorem law_does (a : Option Addr) (n cap : Nat) (w : World) (hT : TB w) (hD : DeedsIn a n w) :
    Calls Tryz.prog 3 #[.slice a n cap] w fun e w' => e = .returned (.bool true) ∧ Below w.heap.size w w' := by
  have HT := Lib.hid hT
  have HD := Lib.hid hD
  clear hT hD
  by_cases h60 : 60 < n
  · have t1 : decide ((60 : Int) < (n : Int)) = true := decide_eq_true (by omega)
    clear h60
    go_enter Tryz.func3, Tryz.ntmps3
    go_wp2_with fail
    refine (sane_any _ HT.out).mono ?_
    rintro e w' ⟨rfl, hb⟩
    have HB := Lib.hid hb
    clear hb
    go_wp2_with fail
    go_ret
    exact ⟨rfl, HB.out⟩
  · have t1 : decide ((60 : Int) < (n : Int)) = false := decide_eq_false (by omega)
    have hn60 : n ≤ 60 := by omega
    clear h60
    go_enter Tryz.func3, Tryz.ntmps3
    go_wp2_with fail
    refine (new_any _).mono ?_
    rintro e w1 ⟨rfl, hbk, hb1⟩
    obtain ⟨htwo, hbt⟩ := two_new _ _ hbk hb1
    have HST : Hid (DoR w.heap.size n (w.heap.size + 1) w.heap.size w.heap.size w1.heap.size w n (.int .i64 0) (w1.alloc (.cells #[.slice none 0 0] 29))) := Lib.hid ⟨0, _, _, rfl, rfl, htwo, hbt⟩
    clear hbk hb1 htwo hbt t1
    go_wp2_with fail
    go_loopg [5] n (fun k i wr => DoR w.heap.size n (w.heap.size + 1) w.heap.size w.heap.size w1.heap.size w k i wr)
    case atStart => exact HST.out
    case round =>
      obtain ⟨j, v, L, hk, rfl, htwo, hb⟩ := hrel
      have HK := Lib.hid hk
      have HTW := Lib.hid htwo
      have HB := Lib.hid hb
      have HTT := Lib.hid (HT.out.below hb (Nat.le_refl _))
      by_cases hj : j < n
      · have dj : decide (j < n) = true := decide_eq_true hj
        obtain ⟨b, off, rfl, hbl, D, m, nm, fm, hf, c0, c1, c2, c3⟩ := (HD.out.below hb) j hj
        have HF := Lib.hid hf
        have HJ := Lib.hid hj
        have hj60 : j ≤ 60 := by omega
        have HDO := Lib.hid (does_any htwo HTT.out D m nm fm hf)
        clear hk hj htwo hb hf hbl
        go_wp2_with fail
        refine HDO.out.mono ?_
        rintro e w2 ⟨v', L', rfl, htwo2, hdn⟩
        have HB2 := Lib.hid (HB.out.trans (HTW.out.to hdn))
        have HT2 := Lib.hid (HT.out.below HB2.out (Nat.le_refl _))
        have HTW2 := Lib.hid htwo2
        clear htwo2 hdn
        go_wp2_with fail
        refine (same_any HTW2.out.bk HTW2.out.rk HT2.out).mono ?_
        rintro e w3 ⟨rfl, hb3⟩
        have HTW3 := Lib.hid (HTW2.out.below hb3)
        have HB3 := Lib.hid (HB2.out.trans (hb3.mono HB2.out.size))
        clear hb3
        go_wp2_with fail
        go_roundg (gk - 1)
        case measure => have := HK.out; have := HJ.out; omega
        case rel => have := HK.out; have := HJ.out; exact ⟨j + 1, v', L', by omega, by go_num, HTW3.out, HB3.out⟩
      · have dj : decide (j < n) = false := decide_eq_false hj
        clear hk hj htwo hb
        go_wp2_with fail
        refine (sane_any _ HTT.out).mono ?_
        rintro e w4 ⟨rfl, hb4⟩
        have HB4 := Lib.hid (HB.out.trans (hb4.mono HB.out.size))
        clear hb4
        go_wp2_with fail
        go_ret
        exact ⟨rfl, HB4.out⟩
end Go.Proofs.YtedbdpklliaoaaaGreatDoor
