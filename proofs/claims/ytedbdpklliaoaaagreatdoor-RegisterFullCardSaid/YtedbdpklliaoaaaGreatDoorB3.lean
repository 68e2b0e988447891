/- The code's book: a name that is not there; registers are told. -/
import Derived.Test.YtedbdpklliaoaaaGreatDoorB2
import Derived.Deep.DeepCutAuto
namespace Go.Proofs.YtedbdpklliaoaaaGreatDoor
open Go.RowKit Go.Shelf Go.Maps
set_option maxRecDepth 100000
def FnW (w : World) (x y z : Value) (wx : World) : Prop := wx.heap[w.heap.size]? = some (.cells #[x, y, z] 60 (0, 0)) ∧ Below w.heap.size w wx
set_option maxHeartbeats 400000 in
theorem find_no {bb mb : Nat} {L : List Reg} {w : World} (h : BK bb mb L w) (s : ByteArray) (hn : okNm s.data.toList = true) (ht : hasS L s.data.toList = false) :
    Calls Tryz.prog 36 #[BP bb, .string s] w fun e w' => e = .returned (.tuple #[.agg #[.int .i64 0, .int .i64 0, .string ⟨#[48]⟩], .bool false, .int .i64 0]) ∧ Below w.heap.size w w' := by
  have hb0 : Below w.heap.size w (w.alloc (.cells #[.int .i64 0, .int .i64 0, .string ⟨#[]⟩] 60)) := (Below.refl _ _).alloc (Nat.le_refl _) _
  have H := Lib.hid (h.below hb0)
  have HB0 := Lib.hid hb0
  have HV := Lib.hid (fun W => validName_any s W)
  rw [hn] at HV
  have hs : s.size ≤ maxLen := by
    rw [okNm_eq] at hn
    simp only [Bool.and_eq_true, decide_eq_true_eq] at hn
    unfold maxLen; omega
  have HS := Lib.hid hs
  have HTT := Lib.hid ht
  clear h hn hb0 hs ht
  go_enter Tryz.func36, Tryz.ntmps36
  go_wp2_with fail
  refine (made_any H.out).mono ?_
  rintro e w1 ⟨rfl, rfl⟩
  go_wp2_with fail
  refine (HV.out _).mono ?_
  rintro e w2 ⟨rfl, hb⟩
  have HB := Lib.hid (HB0.out.trans (hb.mono (by simp)))
  have hblk : w2.heap[w.heap.size]? = some (.cells #[.int .i64 0, .int .i64 0, .string ⟨#[]⟩] 60 (0, 0)) := (hb.block _ (by simp)).trans (heap_alloc_new _ _)
  obtain ⟨⟨hc0, hc1, hc2⟩, hf0, hf1, hf2⟩ := fresh_reg hblk
  have HBLK := Lib.hid hblk
  have hbk : BK bb mb L w2 := H.out.below hb
  have hcb := hbk.c0
  have hlt := hbk.lt
  have hbne : bb ≠ w.heap.size := by
    intro e
    have h1 := hbk.cell
    rw [e, hblk] at h1
    simp at h1
  obtain ⟨D, hown, his⟩ := hbk.map
  have HOWN := Lib.hid hown
  have HIS : Hid (MapIs D L) := Lib.hid his
  clear hb hblk hbk hown his
  have HHAS := Lib.hid ((HIS.out.has s.data.toList).trans HTT.out)
  go_upto_region 5 with (fail)
  go_cut [5] (fun t wx => t = .bool false ∧ FnW w (.int .i64 0) (.int .i64 0) (.string ⟨#[]⟩) wx)
  case first =>
    go_wp2_with (at_lookup; refine wpList_lookup_none _ rfl _ _ rfl mb L.length D s HS.out rfl HOWN.out rfl HHAS.out ?_)
    go_meet
    refine ⟨rfl, ?_, ?_⟩
    · simp [World.setCell, Array.getElem?_modify, HBLK.out]
    · repeat (with_reducible refine Below.setCell ?_ (Nat.le_refl w.heap.size) _)
      exact HB.out
  case rest =>
    obtain ⟨rfl, hblk2, hbe2⟩ := hcut
    obtain ⟨⟨hc0, hc1, hc2⟩, hf0, hf1, hf2⟩ := fresh_reg hblk2
    have HBLK2 := Lib.hid hblk2
    have HBE2 := Lib.hid hbe2
    clear hblk2 hbe2
    go_upto_region 7 with (fail)
    go_cut [4] (fun t wx => t = .pointer (some ⟨w.heap.size, 0, none⟩) ∧ FnW w (.int .i64 0) (.int .i64 0) (.string ⟨#[48]⟩) wx)
    case first =>
      go_wp2_with fail
      go_meet
      refine ⟨rfl, ?_, ?_⟩
      · simp [World.setCell, Array.getElem?_modify, HBLK2.out]
      · repeat (with_reducible refine Below.setCell ?_ (Nat.le_refl w.heap.size) _)
        exact HBE2.out
    case rest =>
      obtain ⟨rfl, hblk3, hbe3⟩ := hcut
      obtain ⟨⟨gc0, gc1, gc2⟩, gf0, gf1, gf2⟩ := fresh_reg hblk3
      have HBLK3 := Lib.hid hblk3
      have HBE3 := Lib.hid hbe3
      clear hblk3 hbe3 hc0 hc1 hc2 hf0 hf1 hf2
      go_wp2_with fail
      refine find_end rfl rfl rfl rfl ?_ ⟨rfl, ?_⟩
      · simp [World.setCell, Array.getElem?_modify, HBLK3.out]
      · repeat (with_reducible refine Below.setCell ?_ (Nat.le_refl w.heap.size) _)
        exact HBE3.out
end Go.Proofs.YtedbdpklliaoaaaGreatDoor
