/- Frames of kinds 2 and 3 are put on top. -/
import Derived.Test.YtfobbcddedcepaaDoorBD
namespace Go.Proofs.YtfobbcddedcepaaDoor
open Go.RowKit
set_option maxRecDepth 100000
set_option linter.unusedSimpArgs false
set_option linter.unusedVariables false
def okName (s : ByteArray) : Bool := decide (1 ≤ s.size) && decide (s.size ≤ 100)
def okLs (ls : List Ln) : Bool := decide (ls.length ≤ 20000) && ls.all okLn
theorem validName_any (s : ByteArray) (w : World) : Calls Tryd.prog 50 #[.string s] w fun e w' => e = .returned (.bool (okName s)) ∧ w = w' := by
  by_cases h1 : 1 ≤ s.size
  · have d1 : decide ((1 : Int) ≤ (s.size : Int)) = true := decide_eq_true (by omega)
    have HX := Lib.hid (show okName s = decide ((s.size : Int) ≤ 100) by unfold okName; rw [decide_eq_true h1, Bool.true_and, decide_eq_decide]; omega)
    clear h1
    go_enter Tryd.func50, Tryd.ntmps50
    go_wp2_with fail
    go_ret
    rw [HX.out]
    exact ⟨rfl, rfl⟩
  · have d1 : decide ((1 : Int) ≤ (s.size : Int)) = false := decide_eq_false (by omega)
    have HX := Lib.hid (show okName s = false by unfold okName; rw [decide_eq_false h1]; rfl)
    clear h1
    go_enter Tryd.func50, Tryd.ntmps50
    go_wp2_with fail
    go_ret
    rw [HX.out]
    exact ⟨rfl, rfl⟩
abbrev Lt (W : World) : TypeId → Nat → Prop := fun _ b => b < W.heap.size
/-- Lines, texts that are handed over. -/
structure LsIn (w : World) (A : Option Addr) (n c : Nat) (ls : List Ln) : Prop where
  rd : LnsAt (Lt w) w A n ls
  nil : A = none → n = 0
  le : n ≤ c
  cap : (c : Int) ≤ 9223372036854775807
structure SsIn (w : World) (A : Option Addr) (n c : Nat) (xs : List ByteArray) : Prop where
  rd : StrsAt (Lt w) w A n xs
  nil : A = none → n = 0
  le : n ≤ c
  cap : (c : Int) ≤ 9223372036854775807
  fit : n * 16 ≤ 140737488351232
theorem LsIn.below {w w' : World} {A : Option Addr} {n c : Nat} {ls : List Ln} (h : LsIn w A n c ls) (k : Below w.heap.size w w') : LsIn w' A n c ls :=
  ⟨h.rd.keep fun e b hb => ⟨k.block b hb, Nat.lt_of_lt_of_le hb k.size⟩, h.nil, h.le, h.cap⟩
theorem SsIn.below {w w' : World} {A : Option Addr} {n c : Nat} {xs : List ByteArray} (h : SsIn w A n c xs) (k : Below w.heap.size w w') : SsIn w' A n c xs :=
  ⟨h.rd.keep fun e b hb => ⟨k.block b hb, Nat.lt_of_lt_of_le hb k.size⟩, h.nil, h.le, h.cap, h.fit⟩
theorem validLs_any {w : World} {A : Option Addr} {n c : Nat} {ls : List Ln} (h : LsIn w A n c ls) : Calls Tryd.prog 51 #[.slice A n c] w fun e w' => e = .returned (.bool (okLs ls)) ∧ Below w.heap.size w w' := by
  have hl := h.rd.len
  by_cases h1 : n ≤ 20000
  · have d1 : decide ((n : Int) ≤ 20000) = true := decide_eq_true (by omega)
    have HX := Lib.hid (show okLs ls = ls.all okLn by unfold okLs; rw [decide_eq_true (by omega), Bool.true_and])
    have HV := Lib.hid (validLines_any (c := c) h.rd (fun _ _ hb => hb) (by have := h.le; have := h.cap; omega))
    clear h h1 hl
    generalize ls.all okLn = t at HX HV
    go_enter Tryd.func51, Tryd.ntmps51
    go_wp2_with fail
    refine HV.out.mono ?_
    rintro e w1 ⟨rfl, hb⟩
    have HB := Lib.hid hb
    clear hb
    go_wp2_with fail
    go_ret
    rw [HX.out]
    exact ⟨rfl, HB.out⟩
  · have d1 : decide ((n : Int) ≤ 20000) = false := decide_eq_false (by omega)
    have HX := Lib.hid (show okLs ls = false by unfold okLs; rw [decide_eq_false (by omega), Bool.false_and])
    clear h h1 hl
    go_enter Tryd.func51, Tryd.ntmps51
    go_wp2_with fail
    go_ret
    rw [HX.out]
    exact ⟨rfl, Below.refl _ _⟩
/-- Lines that are copied. -/
structure CpP (ls : List Ln) (n : Nat) (w : World) (e : Ending) (w' : World) : Prop where
  ex : ∃ A c, e = .returned (.slice A n c) ∧ LnsAt (Tg w') w' A n ls ∧ (A = none → n = 0) ∧ n ≤ c ∧ (c : Int) ≤ 9223372036854775807
  below : Below w.heap.size w w'
theorem copies_any {w : World} {A : Option Addr} {n c : Nat} {ls : List Ln} (h : LsIn w A n c ls) (hok : okLs ls = true) : Calls Tryd.prog 52 #[.slice A n c] w (CpP ls n w) := by
  unfold okLs at hok
  simp only [Bool.and_eq_true, decide_eq_true_eq] at hok
  have hl := h.rd.len
  refine (copyLines_any (c := c) h.rd (fun _ _ hb => hb) h.nil (by omega) (okLn_bx hok.2)).mono ?_
  rintro e w' ⟨A', c', rs, rfl, ho, ha, hb⟩
  obtain ⟨o, cap, hv, h1, h2⟩ := row_shape ho
  injection hv with e1 e2 e3
  subst e3
  exact ⟨⟨A', c', rfl, ⟨⟨rs, ReadsP.of_own ho (fun g cs hg _ => ⟨cs, _, hg⟩), ha⟩, h.rd.len⟩, own_none ho, h1, h2⟩, hb⟩
def macS (F : List Fr) (nm : ByteArray) (ls : List Ln) (ar : List ByteArray) : Int × List Fr := if okName nm && okLs ls then pushS F ⟨2, nm, ls, ar, 0⟩ else (1, F)
def waitS (F : List Fr) (ls : List Ln) : Int × List Fr := if okLs ls then pushS F ⟨3, ⟨#[]⟩, ls, [], 0⟩ else (1, F)
theorem DoP.from {sb g : Nat} {R : Int × List Fr} {w W : World} {e : Ending} {w' : World} (h : DoP sb g R W e w') (hb : Below w.heap.size w W) : DoP sb g R w e w' := by
  obtain ⟨he, g', hc, hk, hg⟩ := h
  refine ⟨he, g', hc, (Kept.of hb).trans hk, ?_⟩
  rcases hg with e | e
  · exact .inl e
  · exact .inr (Nat.le_trans hb.size e)
theorem DoP.arg {sb g c : Nat} {F : List Fr} {rs : List RF} {w w' : World} (h : CK sb g c F rs w) (k : Int) (hb : Below w.heap.size w w') : DoP sb g (k, F) w (.returned (.int .i64 k)) w' :=
  ⟨rfl, g, ⟨c, rs, h.below hb⟩, Kept.of hb, .inl rfl⟩
theorem okLs_ok {ls : List Ln} (h : okLs ls = true) : ls.length ≤ 20000 ∧ ls.all okLn = true := by
  unfold okLs at h
  simpa using h
set_option maxHeartbeats 1000000 in
theorem macro_any {sb g c : Nat} {F : List Fr} {rs : List RF} {w : World} (h : CK sb g c F rs w) (nm : ByteArray) {A : Option Addr} {n cA : Nat} {ls : List Ln} (hl : LsIn w A n cA ls) {B : Option Addr} {m cB : Nat} {ar : List ByteArray} (hs : SsIn w B m cB ar) :
    Calls Tryd.prog 18 #[BP sb, .string nm, .slice A n cA, .slice B m cB] w (DoP sb g (macS F nm ls ar) w) := by
  have HM := Lib.hid (made_any h)
  have hN := fun W => validName_any nm W
  have hV := validLs_any hl
  have hP : macS F nm ls ar = if okName nm && okLs ls then pushS F ⟨2, nm, ls, ar, 0⟩ else (1, F) := rfl
  have H := Lib.hid h
  have HL := Lib.hid hl
  have HS := Lib.hid hs
  cases hn : okName nm with
  | false =>
    rw [hn] at hN hP
    have HN := Lib.hid hN
    rw [Bool.false_and, if_neg (by decide)] at hP
    have HP := Lib.hid hP
    clear h hN hV hP hl hs hn
    go_enter Tryd.func18, Tryd.ntmps18
    go_wp2_with fail
    refine HM.out.mono ?_
    rintro e w1 ⟨rfl, rfl⟩
    go_wp2_with fail
    refine (HN.out _).mono ?_
    rintro e w1 ⟨rfl, rfl⟩
    go_wp2_with fail
    go_ret
    rw [HP.out]
    exact DoP.arg H.out 1 (Below.refl _ _)
  | true =>
    rw [hn] at hN hP
    have HN := Lib.hid hN
    rw [Bool.true_and] at hP
    cases hv : okLs ls with
    | false =>
      rw [hv] at hV hP
      rw [if_neg (by decide)] at hP
      have HV := Lib.hid hV
      have HP := Lib.hid hP
      clear h hN hV hP hl hs hn hv
      go_enter Tryd.func18, Tryd.ntmps18
      go_wp2_with fail
      refine HM.out.mono ?_
      rintro e w1 ⟨rfl, rfl⟩
      go_wp2_with fail
      refine (HN.out _).mono ?_
      rintro e w1 ⟨rfl, rfl⟩
      go_wp2_with fail
      refine HV.out.mono ?_
      rintro e w1 ⟨rfl, hb⟩
      have HB := Lib.hid hb
      clear hb
      go_wp2_with fail
      go_ret
      rw [HP.out]
      exact DoP.arg H.out 1 HB.out
    | true =>
      rw [hv] at hV hP
      rw [if_pos rfl] at hP
      have HV := Lib.hid hV
      have HP := Lib.hid hP
      have HOK := Lib.hid hv
      clear h hN hV hP hl hs hn hv
      go_enter Tryd.func18, Tryd.ntmps18
      go_wp2_with fail
      refine HM.out.mono ?_
      rintro e w1 ⟨rfl, rfl⟩
      go_wp2_with fail
      refine (HN.out _).mono ?_
      rintro e w1 ⟨rfl, rfl⟩
      go_wp2_with fail
      refine HV.out.mono ?_
      rintro e w1 ⟨rfl, hb⟩
      have HB := Lib.hid hb
      have hc := copies_any (HL.out.below hb) HOK.out
      have HC := Lib.hid hc
      clear hb hc
      go_wp2_with fail
      refine HC.out.mono ?_
      rintro e w2 ⟨⟨A2, c2, rfl, hl2, hn2, hle2, hcap2⟩, hb2⟩
      have HB2 := Lib.hid (HB.out.trans (hb2.mono HB.out.size))
      have HL2 : Hid (LnsAt (Tg w2) w2 A2 n ls ∧ (A2 = none → n = 0) ∧ n ≤ c2 ∧ (c2 : Int) ≤ 9223372036854775807) := Lib.hid ⟨hl2, hn2, hle2, hcap2⟩
      have hcs := cloneStr_any (c := cB) (HS.out.below HB2.out).rd HS.out.nil (by have := HS.out.fit; omega)
      have HCS := Lib.hid hcs
      clear hl2 hn2 hle2 hcap2 hb2 hcs
      go_wp2_with fail
      refine HCS.out.mono ?_
      rintro e w3 ⟨⟨A3, n3, c3, rfl, hs3, hn3, hle3, hcap3⟩, hb3⟩
      have hB3 := HB2.out.trans (hb3.mono HB2.out.size)
      have hr : RfIs (Tg w3) w3 ⟨2, nm, A2, n, c2, A3, n3, c3, 0⟩ ⟨2, nm, ls, ar, 0⟩ := ⟨rfl, rfl, rfl, HL2.out.1.dt (Dt.below hb3), HL2.out.2.1, HL2.out.2.2.1, HL2.out.2.2.2, hs3, hn3, hle3, hcap3, by rw [hs3.len, ← HS.out.rd.len]; exact HS.out.fit⟩
      have hok : okFr ⟨2, nm, ls, ar, 0⟩ := ⟨(okLs_ok HOK.out).2, (okLs_ok HOK.out).1, Nat.zero_le _, .inr (.inl rfl)⟩
      have hpu := push_any (H.out.below hB3) hr hok
      have HPU := Lib.hid hpu
      have HB3 := Lib.hid hB3
      clear hs3 hn3 hle3 hcap3 hb3 hB3 hr hok hpu
      go_wp2_with fail
      refine HPU.out.mono ?_
      rintro e w4 ⟨rfl, hst⟩
      have HST := Lib.hid hst
      clear hst
      go_wp2_with fail
      go_ret
      rw [HP.out]
      exact DoP.from ⟨rfl, HST.out⟩ HB3.out
set_option maxHeartbeats 1000000 in
theorem wait_any {sb g c : Nat} {F : List Fr} {rs : List RF} {w : World} (h : CK sb g c F rs w) {A : Option Addr} {n cA : Nat} {ls : List Ln} (hl : LsIn w A n cA ls) :
    Calls Tryd.prog 19 #[BP sb, .slice A n cA] w (DoP sb g (waitS F ls) w) := by
  have HM := Lib.hid (made_any h)
  have hV := validLs_any hl
  have hP : waitS F ls = if okLs ls then pushS F ⟨3, ⟨#[]⟩, ls, [], 0⟩ else (1, F) := rfl
  have H := Lib.hid h
  have HL := Lib.hid hl
  cases hv : okLs ls with
  | false =>
    rw [hv] at hV hP
    rw [if_neg (by decide)] at hP
    have HV := Lib.hid hV
    have HP := Lib.hid hP
    clear h hV hP hl hv
    go_enter Tryd.func19, Tryd.ntmps19
    go_wp2_with fail
    refine HM.out.mono ?_
    rintro e w1 ⟨rfl, rfl⟩
    go_wp2_with fail
    refine HV.out.mono ?_
    rintro e w1 ⟨rfl, hb⟩
    have HB := Lib.hid hb
    clear hb
    go_wp2_with fail
    go_ret
    rw [HP.out]
    exact DoP.arg H.out 1 HB.out
  | true =>
    rw [hv] at hV hP
    rw [if_pos rfl] at hP
    have HV := Lib.hid hV
    have HP := Lib.hid hP
    have HOK := Lib.hid hv
    clear h hV hP hl hv
    go_enter Tryd.func19, Tryd.ntmps19
    go_wp2_with fail
    refine HM.out.mono ?_
    rintro e w1 ⟨rfl, rfl⟩
    go_wp2_with fail
    refine HV.out.mono ?_
    rintro e w1 ⟨rfl, hb⟩
    have HB := Lib.hid hb
    have hc := copies_any (HL.out.below hb) HOK.out
    have HC := Lib.hid hc
    clear hb hc
    go_wp2_with fail
    refine HC.out.mono ?_
    rintro e w3 ⟨⟨A2, c2, rfl, hl2, hn2, hle2, hcap2⟩, hb2⟩
    have hB3 := HB.out.trans (hb2.mono HB.out.size)
    have hr : RfIs (Tg w3) w3 ⟨3, ⟨#[]⟩, A2, n, c2, none, 0, 0, 0⟩ ⟨3, ⟨#[]⟩, ls, [], 0⟩ := ⟨rfl, rfl, rfl, hl2, hn2, hle2, hcap2, strs_none _, fun _ => rfl, Nat.le_refl _, show ((0 : Nat) : Int) ≤ 9223372036854775807 by decide, show 0 * 16 ≤ 140737488351232 by decide⟩
    have hok : okFr ⟨3, ⟨#[]⟩, ls, [], 0⟩ := ⟨(okLs_ok HOK.out).2, (okLs_ok HOK.out).1, Nat.zero_le _, .inr (.inr rfl)⟩
    have hpu := push_any (H.out.below hB3) hr hok
    have HPU := Lib.hid hpu
    have HB3 := Lib.hid hB3
    clear hl2 hn2 hle2 hcap2 hb2 hB3 hr hok hpu
    go_wp2_with fail
    refine HPU.out.mono ?_
    rintro e w4 ⟨rfl, hst⟩
    have HST := Lib.hid hst
    clear hst
    go_wp2_with fail
    go_ret
    rw [HP.out]
    exact DoP.from ⟨rfl, HST.out⟩ HB3.out
end Go.Proofs.YtfobbcddedcepaaDoor
