/- Both books: a deed that moves; one that asks. -/
import Derived.Test.YtedbdpklliaoaaaGreatDoorX3
namespace Go.Proofs.YtedbdpklliaoaaaGreatDoor
open Go.RowKit Go.Shelf Go.Maps
set_option maxRecDepth 100000
set_option maxHeartbeats 2000000 in
theorem does_3 {T bb mb B bx : Nat} {v : Value} {L : List Reg} {w : World} (h : Two T bb mb B bx v L w) (D n : Int) (nm fm : ByteArray) (hD : (IntKind.u64.wrap D).tmod 7 = 3) (up : Bool) (hup : decide (0 ≤ n) = up) :
    Calls Tryz.prog 9 #[BP bb, BP bx, .agg #[.int .i64 D, .string nm, .string fm, .int .i64 n]] w fun e w' => ∃ v' L', e = .returned (.bool true) ∧ Two T bb mb B bx v' L' w' ∧ Dn mb bx v v' w w' := by
  have hbw := (Below.refl w.heap.size w).alloc (Nat.le_refl _) (.cells #[.int .i64 D, .string nm, .string fm, .int .i64 n] 32)
  have HB := Lib.hid (h.below hbw)
  have HBW := Lib.hid (Dn.of (mb := mb) (bx := bx) (v := v) hbw)
  have HC := Lib.hid (move_call HB.out.bk nm up)
  have HR := Lib.hid (fun w1 (k : Kept (· = mb) (w.alloc (.cells #[.int .i64 D, .string nm, .string fm, .int .i64 n] 32)) w1) => rMove_any (HB.out.rk1 k) HB.out.bk.asc HB.out.bk.len HB.out.bk.ok nm up)
  have H0 := Lib.hid h
  generalize movS L nm.data.toList up = R at HC HR
  obtain ⟨r1, r2, L'⟩ := R
  clear h hbw
  go_enter Tryz.func9, Tryz.ntmps9
  go_wp2_with fail
  refine HC.out.mono ?_
  rintro e w1 ⟨rfl, hbk, hk1⟩
  have HBK1 := Lib.hid hbk
  have HK1 := Lib.hid hk1
  have hblk := hk1.block w.heap.size (by simp) (fun e => by have e' : w.heap.size = mb := e; have := H0.out.bk.lt; omega)
  rw [heap_alloc_new] at hblk
  obtain ⟨⟨c0, c1, c2, c3⟩, _⟩ := fresh_dd hblk
  clear hbk hk1 hblk
  go_wp2_with fail
  refine (HR.out _ HK1.out).mono ?_
  rintro e w2 ⟨v', rfl, hr2, hk2, ho2⟩
  have HX := Lib.hid (HB.out.step HK1.out HBK1.out hr2 ⟨hk2, ho2⟩)
  clear hr2 hk2 ho2
  go_wp2_with fail
  go_ret
  exact ⟨v', _, by simp, HX.out.1, HBW.out.trans HX.out.2⟩
set_option maxHeartbeats 2000000 in
theorem does_6 {T bb mb B bx : Nat} {v : Value} {L : List Reg} {w : World} (h : Two T bb mb B bx v L w) (hT : TB w) (D n : Int) (nm fm : ByteArray) (hD : (IntKind.u64.wrap D).tmod 7 = 6) :
    Calls Tryz.prog 9 #[BP bb, BP bx, .agg #[.int .i64 D, .string nm, .string fm, .int .i64 n]] w fun e w' => ∃ v' L', e = .returned (.bool true) ∧ Two T bb mb B bx v' L' w' ∧ Dn mb bx v v' w w' := by
  have hbw := (Below.refl w.heap.size w).alloc (Nat.le_refl _) (.cells #[.int .i64 D, .string nm, .string fm, .int .i64 n] 32)
  have HB := Lib.hid (h.below hbw)
  have HBW := Lib.hid (Dn.of (mb := mb) (bx := bx) (v := v) hbw)
  have HC := Lib.hid (asked_any HB.out.bk HB.out.rk (hT.below hbw (Nat.le_refl _)) nm)
  clear h hbw hT
  go_enter Tryz.func9, Tryz.ntmps9
  go_wp2_with fail
  refine HC.out.mono ?_
  rintro e w1 ⟨rfl, hb⟩
  have HX := Lib.hid (HB.out.below hb)
  have HY := Lib.hid (Dn.of (mb := mb) (bx := bx) (v := v) hb)
  clear hb
  go_wp2_with fail
  go_ret
  exact ⟨v, _, rfl, HX.out, HBW.out.trans HY.out⟩
end Go.Proofs.YtedbdpklliaoaaaGreatDoor
