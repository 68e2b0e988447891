/- Both books are asked for a name. -/
import Derived.Test.YtedbdpklliaoaaaGreatDoorRE
namespace Go.Proofs.YtedbdpklliaoaaaGreatDoor
open Go.RowKit Go.Shelf Go.Maps
set_option maxRecDepth 100000
theorem has_ok {L : List Reg} (h : ∀ r ∈ L, regOk r) (nm : List UInt8) : (okNm nm && hasS L nm) = hasS L nm := by
  cases e : hasS L nm with
  | false => simp
  | true =>
    have h1 := (h _ (getS_mem L nm e)).1
    rw [getS_nm] at h1
    rw [h1]; rfl
set_option maxHeartbeats 2000000 in
theorem asked_any {bb mb B bx : Nat} {v : Value} {L : List Reg} {w : World} (hb : BK bb mb L w) (hx : RK B bx v L w) (hT : TB w) (s : ByteArray) :
    Calls Tryz.prog 32 #[BP bb, BP bx, .string s] w fun e w' => e = .returned (.bool true) ∧ Below w.heap.size w w' := by
  have hA := hb.asc
  have hl := hb.len
  have hok := hb.ok
  have C1 := Lib.hid (fun W hW => value_call (hb.below (w' := W) hW) s)
  have D1 := Lib.hid (fun W hW => rValue_any (hx.below (w' := W) hW) hA hl hok s)
  have C2 := Lib.hid (fun W hW => text_call (hb.below (w' := W) hW) (hT.below hW (Nat.le_refl _)) s)
  have D2 := Lib.hid (fun W hW => rText_any (hx.below (w' := W) hW) hA hl hok s)
  have C3 := Lib.hid (fun W hW => has_call (hb.below (w' := W) hW) s)
  have D3 := Lib.hid (fun W hW => rHas_any (hx.below (w' := W) hW) hA hl s)
  have C4 := Lib.hid (fun W hW => formatOf_call (hb.below (w' := W) hW) s)
  have D4 := Lib.hid (fun W hW => rFormatOf_any (hx.below (w' := W) hW) hA hl hok s)
  rw [has_ok hok] at C3
  generalize (if okNm s.data.toList = true then (getS L s.data.toList).v else 0) = n at C1 D1
  generalize (if okNm s.data.toList = true then (0 : Int) else 6) = ec at C1 D1 C2 D2 C4 D4
  generalize hasS L s.data.toList = hs at C3 D3
  generalize (⟨(if okNm s.data.toList = true then txt (getS L s.data.toList).v (getS L s.data.toList).fm else []).toArray⟩ : ByteArray) = tx at C2 D2
  generalize (⟨(if okNm s.data.toList = true then (getS L s.data.toList).fm else []).toArray⟩ : ByteArray) = fm at C4 D4
  clear hb hx hT hA hl hok
  have H0 := Lib.hid (Below.refl w.heap.size w)
  go_enter Tryz.func32, Tryz.ntmps32
  go_wp2_with fail
  refine (C1.out _ H0.out).mono ?_
  rintro e w1 ⟨rfl, hb⟩
  have H1 := Lib.hid (H0.out.trans (hb.mono H0.out.size))
  clear hb
  go_wp2_with fail
  refine (D1.out _ H1.out).mono ?_
  rintro e w2 ⟨rfl, hb⟩
  have H2 := Lib.hid (H1.out.trans (hb.mono H1.out.size))
  clear hb
  go_wp2_with fail
  refine (C2.out _ H2.out).mono ?_
  rintro e w3 ⟨rfl, hb⟩
  have H3 := Lib.hid (H2.out.trans (hb.mono H2.out.size))
  clear hb
  go_wp2_with fail
  refine (D2.out _ H3.out).mono ?_
  rintro e w4 ⟨rfl, hb⟩
  have H4 := Lib.hid (H3.out.trans (hb.mono H3.out.size))
  clear hb
  go_wp2_with fail
  refine (C3.out _ H4.out).mono ?_
  rintro e w5 ⟨rfl, hb⟩
  have H5 := Lib.hid (H4.out.trans (hb.mono H4.out.size))
  clear hb
  go_wp2_with fail
  refine (D3.out _ H5.out).mono ?_
  rintro e w6 ⟨rfl, hb⟩
  have H6 := Lib.hid (H5.out.trans (hb.mono H5.out.size))
  clear hb
  go_wp2_with fail
  refine (C4.out _ H6.out).mono ?_
  rintro e w7 ⟨rfl, hb⟩
  have H7 := Lib.hid (H6.out.trans (hb.mono H6.out.size))
  clear hb
  go_wp2_with fail
  refine (D4.out _ H7.out).mono ?_
  rintro e w8 ⟨rfl, hb⟩
  have H8 := Lib.hid (H7.out.trans (hb.mono H7.out.size))
  clear hb
  go_wp2_with fail
  go_ret
  exact ⟨by simp, H8.out⟩
end Go.Proofs.YtedbdpklliaoaaaGreatDoor
