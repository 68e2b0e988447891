/- The code's Words. -/
import Derived.Test.YtnffmlfapccgkaaDoorW4
namespace Go.Proofs.YtnffmlfapccgkaaDoor
open Go.RowKit Go.Shelf
set_option maxRecDepth 100000
set_option linter.unusedSimpArgs false
set_option linter.unusedVariables false
/-- What Words leaves. -/
def WsP (l : List UInt8) (w : World) (e : Ending) (w' : World) : Prop :=
  ∃ A c, e = .returned (.slice A (wds l).length c) ∧ StrsAt w' A (wds l).length ((wds l).map bs) ∧ (c : Int) ≤ 9223372036854775807 ∧ (wds l).length ≤ c ∧ Below w.heap.size w w' ∧ ∀ q, A = some q → w.heap.size ≤ q.block
theorem own_new {w : World} {base n c : Nat} {e : TypeId} {size : Nat} {A : Option Addr} {xs : List Value} (h : w.ownsRow base e size (.slice A n c) n xs) : ∀ q, A = some q → base ≤ q.block := by
  intro q hq
  subst hq
  rcases h.2 with ⟨hv, _⟩ | ⟨g, cap, cur, hv, hb, _⟩
  · cases hv
  · injection hv with hv
    cases hv
    exact hb
def WsR (l : List UInt8) (w : World) (k : Nat) (s v : Value) (wr : World) : Prop :=
  ∃ (m : List UInt8) (outs : List (List UInt8)), s = .string (bs (skB m)) ∧ m.length ≤ k ∧ wds l = outs ++ wds m ∧ outs.length + m.length ≤ l.length ∧ wr.ownsRow w.heap.size 9 1 v outs.length (outs.map encS) ∧ Below w.heap.size w wr
set_option maxHeartbeats 4000000 in
theorem words_any (l : List UInt8) (hl : l.length ≤ 100000) (w : World) : Calls Tryd.prog 13 #[.string (bs l)] w (WsP l w) := by
  obtain ⟨i0, hi0, hz0, hz1, hz2⟩ := info_parts info_str
  have HSK := Lib.hid (fun s W => skip_any s W)
  have HS0 := Lib.hid (skip_any (bs l) w)
  rw [bs_list] at HS0
  have HL := Lib.hid hl
  go_enter Tryd.func13, Tryd.ntmps13
  go_wp2_with fail
  refine HS0.out.mono ?_
  rintro e w1 ⟨rfl, hb⟩
  have HB1 := Lib.hid hb
  clear hb
  go_wp2_with fail
  go_loopg [0, 3, 4] l.length (fun k s v _ wr => WsR l w k s v wr)
  case atStart => exact ⟨l, [], rfl, Nat.le_refl _, rfl, by simp, World.ownsRow_nil _ _ _ _, HB1.out⟩
  case round =>
    obtain ⟨m, outs, rfl, hk, hw, hle, hown, hb⟩ := hrel
    obtain ⟨o, cap, rfl, hcp1, hcp2⟩ := row_shape hown
    have HK := Lib.hid hk
    have HO := Lib.hid hown
    have HW := Lib.hid hw
    have HB := Lib.hid hb
    have hsz := hb.size
    clear hk hown hw hb
    cases hm : skB m with
    | nil =>
      have hne : ((bs ([] : List UInt8)).toList).isEmpty = true := by rw [Lib.toList_data, bs_list]; rfl
      have hne2 : (bs ([] : List UInt8)).toList = [] := by rw [Lib.toList_data, bs_list]
      obtain ⟨S, hS⟩ : ∃ S, S = bs ([] : List UInt8) := ⟨_, rfl⟩
      rw [← hS] at hne hne2 ⊢
      have HF := Lib.hid (show wds l = outs by rw [HW.out, wds_nil hm]; simp)
      clear hm hS
      go_wp2_with fail
      go_ret
      unfold WsP
      rw [HF.out]
      have h1 := own_strs HO.out
      exact ⟨o, cap, rfl, h1, hcp2, hcp1, HB.out, own_new HO.out⟩
    | cons c t =>
      have hhd := skB_head hm
      have hml := skB_le m
      rw [hm, List.length_cons] at hml
      have hwl := wdS_le c t hhd
      have HC := Lib.hid (fun W => cutWord_any c t (by have := HL.out; omega) W)
      have HWD := Lib.hid (wds_cons hm)
      obtain ⟨x, hx⟩ : ∃ x, x = (wdS (c :: t)).1 := ⟨_, rfl⟩
      obtain ⟨r, hr⟩ : ∃ r, r = (wdS (c :: t)).2 := ⟨_, rfl⟩
      rw [← hx, ← hr] at HC HWD hwl
      have hne : ((bs (c :: t)).toList).isEmpty = false := by rw [Lib.toList_data, bs_list]; rfl
      have hne2 : ¬ (bs (c :: t)).toList = [] := by rw [Lib.toList_data, bs_list]; simp
      have HSR := Lib.hid (fun W => HSK.out (bs r) W)
      rw [bs_list] at HSR
      obtain ⟨S, hS⟩ : ∃ S, S = bs (c :: t) := ⟨_, rfl⟩
      rw [← hS] at HC hne hne2 ⊢
      have hn5 : outs.length ≤ 100000 := by have := HL.out; omega
      have hml2 : r.length + 1 ≤ m.length := by omega
      clear hm hx hr hhd hml hwl hS
      go_wp2_with fail
      refine (HC.out _).mono ?_
      rintro e w2 ⟨rfl, hb2⟩
      have ho3 := own_below HO.out hb2
      have hz3 : w.heap.size ≤ w2.heap.size := Nat.le_trans hsz hb2.size
      have HRW := Lib.hid (fun g e => (ho3.lt g e).1)
      have HRA := Lib.hid (ho3.alloc (.cells #[.string (bs x)] 9))
      have HSRC := Lib.hid (cell_one_new w2 (.string (bs x)))
      have HB3 := Lib.hid (HB.out.trans (hb2.mono hsz))
      clear ho3 hb2
      go_wp2_with (first
        | (at_builtin; refine wpList_append_own _ rfl _ _ 25 rfl w.heap.size 9 i0 (.string ⟨#[]⟩) 1 16 Tryd.underlying25 hi0 hz0 hz1 hz2 rfl (by decide) _ _ _ rfl HRA.out ⟨_, 0, none⟩ 1 1 [.string (bs x)] rfl rfl HSRC.out (fun u hu => by simp at hu; subst hu; rfl) (by unfold maxLen; omega) (by omega) (by simp; omega) ?_
           intro v1 w4 hown1 hgrow1 _
           rw [outs_snoc] at hown1
           have HO4 := Lib.hid hown1
           have HG4 := Lib.hid hgrow1
           clear hown1 hgrow1))
      have HB4 := Lib.hid ((HB3.out.trans ((bel0 w2 (.cells #[.string (bs x)] 9)).mono hz3)).trans (grown_below HG4.out (fun g e => HRW.out g e) (by simp; omega)))
      obtain ⟨w5, hw5⟩ : ∃ w5 : World, w5 = w4 := ⟨_, rfl⟩
      go_wp2_with fail
      refine (HSR.out _).mono ?_
      rintro e w6 ⟨rfl, hb6⟩
      have HB6 := Lib.hid hb6
      clear hb6
      go_wp2_with fail
      go_roundg (gk - 1)
      case measure => have := HK.out; omega
      case rel =>
        exact ⟨r, outs ++ [x], rfl, by have := HK.out; omega, by rw [HW.out, HWD.out]; simp, by rw [List.length_append]; simp; omega, own_below (by rw [List.length_append]; exact HO4.out) HB6.out, HB4.out.trans (HB6.out.mono HB4.out.size)⟩
end Go.Proofs.YtnffmlfapccgkaaDoor
