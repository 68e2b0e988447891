/- Return. -/
import Derived.Test.YtfobbcddedcepaaDoorBC
namespace Go.Proofs.YtfobbcddedcepaaDoor
open Go.RowKit
set_option maxRecDepth 100000
set_option linter.unusedSimpArgs false
set_option linter.unusedVariables false
/-- Where the first frame of kind 2 stands. -/
def IfP (F : List Fr) (w : World) (e : Ending) (w' : World) : Prop := e = .returned (.int .i64 (F.findIdx isMacro : Nat)) ∧ Below w.heap.size w w'
def IfR (w : World) (n : Nat) (F : List Fr) (k : Nat) (i : Value) (wr : World) : Prop := ∃ j : Nat, k + j = n ∧ i = .int .i64 j ∧ (∀ (i : Nat) (f : Fr), i < j → F[i]? = some f → isMacro f = false) ∧ Below w.heap.size w wr
theorem find_at {p : Fr → Bool} {F : List Fr} {j : Nat} {f : Fr} (h : F[j]? = some f) (hp : p f = true) (hn : ∀ (i : Nat) (f : Fr), i < j → F[i]? = some f → p f = false) : F.findIdx p = j := by
  have hj := (List.getElem?_eq_some_iff.1 h).1
  have hf := (List.getElem?_eq_some_iff.1 h).2
  rw [List.findIdx_eq hj]
  refine ⟨by rw [hf]; exact hp, fun i hi => ?_⟩
  exact hn i _ hi (List.getElem?_eq_getElem (by omega))
set_option maxHeartbeats 1000000 in
theorem indexF_any {sb g c : Nat} {F : List Fr} {rs : List RF} {w : World} (h : CK sb g c F rs w) (hex : ∃ (i : Nat) (f : Fr), F[i]? = some f ∧ isMacro f = true) : Calls Tryd.prog 55 #[.slice (some ⟨g, 0, none⟩) F.length c, .func (.func 54) #[] #[]] w (IfP F w) := by
  have H := Lib.hid h
  have HEX := Lib.hid hex
  have HST : Hid (IfR w F.length F F.length (.int .i64 0) w) := Lib.hid ⟨0, rfl, rfl, fun i f hi => by omega, Below.refl _ _⟩
  have hl50 := h.len
  clear h hex
  go_enter Tryd.func55, Tryd.ntmps55
  go_wp2_with fail
  go_loopg [8] F.length (fun k i wr => IfR w F.length F k i wr)
  case atStart => exact HST.out
  case round =>
    obtain ⟨j, hk, rfl, hno, hb⟩ := hrel
    have HK := Lib.hid hk
    have HB := Lib.hid hb
    have HNO := Lib.hid hno
    by_cases hj : j < F.length
    · have dj : decide (j < F.length) = true := decide_eq_true hj
      have hck := H.out.below hb
      have hrj : rs[j]? = some (rs[j]'(by rw [H.out.rl]; exact hj)) := List.getElem?_eq_getElem (by rw [H.out.rl]; exact hj)
      have hfj : F[j]? = some F[j] := List.getElem?_eq_getElem hj
      obtain ⟨f, hf⟩ : ∃ f, f = F[j] := ⟨_, rfl⟩
      rw [← hf] at hfj
      obtain ⟨r, hr⟩ : ∃ r, r = rs[j]'(by rw [H.out.rl]; exact hj) := ⟨_, rfl⟩
      rw [← hr] at hrj
      have hri := H.out.fr.2 j r f hrj hfj
      obtain ⟨⟨b0, b1, b2, b3, b4⟩, _⟩ := hck.fc j r hrj
      have hw := fun W => isMacro_w r W
      unfold rfA at hw
      have hq := q_macro r f hri
      have HQ := Lib.hid hq
      have HF := Lib.hid hfj
      have HJ := Lib.hid hj
      have hj0 : (0 : Int) ≤ (j : Int) := by omega
      have hj1 : (j : Int) < (F.length : Int) := by omega
      generalize qMacro r = q at *
      have HW := Lib.hid hw
      clear hk hno hb hck hrj hfj hf hr hri hw hq hj
      go_wp2_with fail
      refine (HW.out _).mono ?_
      rintro e w2 ⟨rfl, hb2⟩
      have HB2 := Lib.hid (HB.out.trans (hb2.mono HB.out.size))
      clear hb2
      cases q with
      | true =>
        go_wp2_with fail
        go_ret
        refine ⟨?_, HB2.out⟩
        rw [find_at HF.out HQ.out.symm HNO.out]; rfl
      | false =>
        go_wp2_with fail
        go_roundg (gk - 1)
        case measure => have := HK.out; have := HJ.out; omega
        case rel =>
          have := HK.out
          have := HJ.out
          refine ⟨j + 1, by omega, by go_num, fun i f hi hf => ?_, HB2.out⟩
          by_cases e : i = j
          · subst e
            rw [HF.out] at hf
            rw [← Option.some.inj hf]; exact HQ.out.symm
          · exact HNO.out i f (by omega) hf
    · obtain ⟨i, f, hf, hm⟩ := HEX.out
      have hi := (List.getElem?_eq_some_iff.1 hf).1
      have := hno i f (by omega) hf
      rw [hm] at this; cases this
/-- Return in plain words. -/
def retS (F : List Fr) (all : Bool) : Int × List Fr := if topS isMacro F = 0 then (8, F) else (0, F.take (if all then F.findIdx isMacro else topS isMacro F - 1))
set_option maxHeartbeats 1000000 in
theorem return_any {sb g c : Nat} {F : List Fr} {rs : List RF} {w : World} (h : CK sb g c F rs w) (all : Bool) : Calls Tryd.prog 21 #[BP sb, .bool all] w (DoP sb g (retS F all) w) := by
  have HM := Lib.hid (made_any h)
  have ht := top_isMacro h
  unfold TopP at ht
  rw [h.top q_macro] at ht
  have hle := topS_le isMacro F
  have hat : 0 < topS isMacro F → ∃ x, F[topS isMacro F - 1]? = some x ∧ isMacro x = true := fun hp => topN_at isMacro F F.length hp
  have hP : retS F all = if topS isMacro F = 0 then (8, F) else (0, F.take (if all then F.findIdx isMacro else topS isMacro F - 1)) := rfl
  have hl50 := h.len
  generalize topS isMacro F = k at *
  have H := Lib.hid h
  cases k with
  | zero =>
    rw [show ((0 : Nat) : Int) - 1 = -1 by rfl] at ht
    generalize gotR rs 0 = r at ht
    have HT := Lib.hid ht
    rw [if_pos rfl] at hP
    have HP := Lib.hid hP
    have d1 : decide ((-1 : Int) < 0) = true := by decide
    clear ht hP h hat
    go_enter Tryd.func21, Tryd.ntmps21
    go_wp2_with fail
    refine HM.out.mono ?_
    rintro e w1 ⟨rfl, rfl⟩
    go_wp2_with fail
    refine HT.out.mono ?_
    rintro e w1 ⟨rfl, hb1⟩
    have HB := Lib.hid (hb1.alloc hb1.size (.cells #[.int .i64 r.kd, .string r.nm, .slice r.lo r.ln r.lc, .slice r.ao r.an r.ac, .int .i64 r.tk] 64))
    clear hb1
    go_wp2_with fail
    go_ret
    rw [HP.out]
    exact ⟨rfl, g, ⟨c, rs, H.out.below HB.out⟩, Kept.of HB.out, .inl rfl⟩
  | succ k =>
    rw [show ((k + 1 : Nat) : Int) - 1 = (k : Int) by omega] at ht
    rw [if_neg (by omega), Nat.add_sub_cancel] at hP
    obtain ⟨f, hf, hm⟩ := hat (by omega)
    rw [Nat.add_sub_cancel] at hf
    generalize gotR rs (k + 1) = r at ht
    have HT := Lib.hid ht
    have d1 : decide ((k : Int) < 0) = false := by simp
    have HEX : Hid (∃ (i : Nat) (f : Fr), F[i]? = some f ∧ isMacro f = true) := Lib.hid ⟨k, f, hf, hm⟩
    have hfi : F.findIdx isMacro < F.length := List.findIdx_lt_length_of_exists ⟨f, List.mem_of_getElem? hf, hm⟩
    clear ht h hat hf hm
    cases all with
    | false =>
      have HP := Lib.hid hP
      clear hP
      go_enter Tryd.func21, Tryd.ntmps21
      go_wp2_with fail
      refine HM.out.mono ?_
      rintro e w1 ⟨rfl, rfl⟩
      go_wp2_with fail
      refine HT.out.mono ?_
      rintro e w1 ⟨rfl, hb1⟩
      have hb2 := hb1.alloc hb1.size (.cells #[.int .i64 r.kd, .string r.nm, .slice r.lo r.ln r.lc, .slice r.ao r.an r.ac, .int .i64 r.tk] 64)
      have HB := Lib.hid hb2
      have hc := cut_any (H.out.below hb2) k (by omega)
      have HC := Lib.hid hc
      clear hb1 hb2 hc
      go_wp2_with fail
      refine HC.out.mono ?_
      rintro e w3 ⟨rfl, hck, hkp⟩
      have HCK := Lib.hid hck
      have HKP := Lib.hid hkp
      clear hck hkp
      go_wp2_with fail
      go_ret
      rw [HP.out]
      exact ⟨rfl, g, ⟨c, _, HCK.out⟩, (Kept.of HB.out).trans HKP.out, .inl rfl⟩
    | true =>
      have HP := Lib.hid hP
      have HFI := Lib.hid hfi
      clear hP
      go_enter Tryd.func21, Tryd.ntmps21
      go_wp2_with fail
      refine HM.out.mono ?_
      rintro e w1 ⟨rfl, rfl⟩
      go_wp2_with fail
      refine HT.out.mono ?_
      rintro e w1 ⟨rfl, hb1⟩
      have hb2 := hb1.alloc hb1.size (.cells #[.int .i64 r.kd, .string r.nm, .slice r.lo r.ln r.lc, .slice r.ao r.an r.ac, .int .i64 r.tk] 64)
      have HB := Lib.hid hb2
      have hck2 := H.out.below hb2
      have c0 := hck2.c0.1
      have hif := indexF_any hck2 HEX.out
      unfold IfP at hif
      generalize F.findIdx isMacro = m at hif HP HFI
      have HIF := Lib.hid hif
      clear hb1 hb2 hck2 hif
      go_wp2_with fail
      refine HIF.out.mono ?_
      rintro e w3 ⟨rfl, hb3⟩
      have hb4 := HB.out.trans (hb3.mono HB.out.size)
      have hc := cut_any (H.out.below hb4) m (by have := HFI.out; omega)
      have HB4 := Lib.hid hb4
      have HC := Lib.hid hc
      clear hb3 hb4 hc
      go_wp2_with fail
      refine HC.out.mono ?_
      rintro e w5 ⟨rfl, hck, hkp⟩
      have HCK := Lib.hid hck
      have HKP := Lib.hid hkp
      clear hck hkp
      go_wp2_with fail
      go_ret
      rw [HP.out]
      exact ⟨rfl, g, ⟨c, _, HCK.out⟩, (Kept.of HB4.out).trans HKP.out, .inl rfl⟩
end Go.Proofs.YtfobbcddedcepaaDoor
