/- What the stack tells: Line, Name, Args, Depth. -/
import Derived.Test.YtfobbcddedcepaaDoorBB
namespace Go.Proofs.YtfobbcddedcepaaDoor
open Go.RowKit
set_option maxRecDepth 100000
set_option linter.unusedSimpArgs false
set_option linter.unusedVariables false
abbrev Fr0 : Fr := ⟨0, ⟨#[]⟩, [], [], 0⟩
def gotF (F : List Fr) (k : Nat) : Fr := if k = 0 then Fr0 else (F[k - 1]?).getD Fr0
theorem rf_none {P : TypeId → Nat → Prop} (w : World) : RfIs P w RF0 Fr0 := ⟨rfl, rfl, rfl, lns_none w, fun _ => rfl, Nat.le_refl _, by decide, strs_none w, fun _ => rfl, Nat.le_refl _, by decide, by decide⟩
theorem CK.gotA {sb g c : Nat} {F : List Fr} {rs : List RF} {w : World} (h : CK sb g c F rs w) (k : Nat) (hl : k ≤ F.length) : RfIs (Tg w) w (gotR rs k) (gotF F k) := by
  by_cases hk : k = 0
  · subst hk; exact rf_none w
  · obtain ⟨f, hf, _, hri⟩ := h.got k (by omega) hl
    have e : gotF F k = f := by unfold gotF; rw [if_neg hk, hf]; rfl
    rw [e]; exact hri
def lineS (F : List Fr) : Nat := (gotF F (topS isFile F)).tk
def nameS (F : List Fr) : ByteArray := (gotF F (topS hasName F)).nm
def argsS (F : List Fr) : List ByteArray := (gotF F (topS isMacro F)).ar
abbrev FrO (r : RF) : Obj := .cells #[.int .i64 r.kd, .string r.nm, .slice r.lo r.ln r.lc, .slice r.ao r.an r.ac, .int .i64 r.tk] 64 (0, 0)
theorem depth_any {sb g c : Nat} {F : List Fr} {rs : List RF} {w : World} (h : CK sb g c F rs w) : Calls Tryd.prog 13 #[BP sb] w fun e w' => e = .returned (.int .i64 F.length) ∧ w = w' := by
  have HM := Lib.hid (made_any h)
  have hc := h.c0.1
  clear h
  go_enter Tryd.func13, Tryd.ntmps13
  go_wp2_with fail
  refine HM.out.mono ?_
  rintro e w1 ⟨rfl, rfl⟩
  go_wp2_with fail
  go_ret
  exact ⟨rfl, rfl⟩
set_option maxHeartbeats 1000000 in
theorem line_any {sb g c : Nat} {F : List Fr} {rs : List RF} {w : World} (h : CK sb g c F rs w) : Calls Tryd.prog 38 #[BP sb] w fun e w' => e = .returned (.int .i64 (lineS F : Nat)) ∧ Below w.heap.size w w' := by
  have ht := top_isFile h
  unfold TopP at ht
  rw [h.top q_file] at ht
  have hg := (h.gotA _ (topS_le isFile F)).tk
  have HP := Lib.hid (show lineS F = (gotR rs (topS isFile F)).tk by unfold lineS; rw [hg])
  clear hg
  generalize gotR rs (topS isFile F) = r at *
  generalize topS isFile F = k at *
  have HT := Lib.hid ht
  clear ht h
  go_enter Tryd.func38, Tryd.ntmps38
  go_wp2_with fail
  refine HT.out.mono ?_
  rintro e w1 ⟨rfl, hb1⟩
  have HB := Lib.hid (hb1.alloc hb1.size (.cells #[.int .i64 r.kd, .string r.nm, .slice r.lo r.ln r.lc, .slice r.ao r.an r.ac, .int .i64 r.tk] 64))
  clear hb1
  go_wp2_with fail
  go_ret
  rw [HP.out]
  exact ⟨rfl, HB.out⟩
set_option maxHeartbeats 1000000 in
theorem name_any {sb g c : Nat} {F : List Fr} {rs : List RF} {w : World} (h : CK sb g c F rs w) : Calls Tryd.prog 36 #[BP sb] w fun e w' => e = .returned (.string (nameS F)) ∧ Below w.heap.size w w' := by
  have ht := top_hasName h
  unfold TopP at ht
  rw [h.top q_name] at ht
  have hg := (h.gotA _ (topS_le hasName F)).nm
  have HP := Lib.hid (show nameS F = (gotR rs (topS hasName F)).nm by unfold nameS; rw [hg])
  clear hg
  generalize gotR rs (topS hasName F) = r at *
  generalize topS hasName F = k at *
  have HT := Lib.hid ht
  clear ht h
  go_enter Tryd.func36, Tryd.ntmps36
  go_wp2_with fail
  refine HT.out.mono ?_
  rintro e w1 ⟨rfl, hb1⟩
  have HB := Lib.hid (hb1.alloc hb1.size (.cells #[.int .i64 r.kd, .string r.nm, .slice r.lo r.ln r.lc, .slice r.ao r.an r.ac, .int .i64 r.tk] 64))
  clear hb1
  go_wp2_with fail
  go_ret
  rw [HP.out]
  exact ⟨rfl, HB.out⟩
/-- Texts that are told. -/
structure StrP (xs : List ByteArray) (w : World) (e : Ending) (w' : World) : Prop where
  ex : ∃ A n c, e = .returned (.slice A n c) ∧ StrsAt (Tg w') w' A n xs ∧ (A = none → n = 0) ∧ n ≤ c ∧ (c : Int) ≤ 9223372036854775807
  below : Below w.heap.size w w'
theorem str_one (xs : List ByteArray) : ∀ u ∈ strCs xs, u.oneCell' = true := by
  intro u hu
  obtain ⟨x, _, rfl⟩ := List.mem_map.1 hu
  rfl
theorem cloneStr_any {P : TypeId → Nat → Prop} {w : World} {A : Option Addr} {n c : Nat} {xs : List ByteArray} (h : StrsAt P w A n xs) (hA : A = none → n = 0) (hn : n * 16 ≤ 140737488355328) : Calls Tryd.prog 53 #[.slice A n c] w (StrP xs w) := by
  refine (cloneS_any (c := c) h.rd (str_one xs) hA hn).mono ?_
  rintro e w' ⟨A', c', rfl, ho, hb⟩
  obtain ⟨o, cap, hv, h1, h2⟩ := row_shape ho
  injection hv with e1 e2 e3
  subst e3
  exact ⟨⟨A', n, c', rfl, ⟨ReadsP.of_own ho (fun g cs hg _ => ⟨cs, _, hg⟩), h.len⟩, own_none ho, h1, h2⟩, hb⟩
set_option maxHeartbeats 1000000 in
theorem args_any {sb g c : Nat} {F : List Fr} {rs : List RF} {w : World} (h : CK sb g c F rs w) : Calls Tryd.prog 34 #[BP sb] w (StrP (argsS F) w) := by
  have ht := top_isMacro h
  unfold TopP at ht
  rw [h.top q_macro] at ht
  have hg := h.gotA _ (topS_le isMacro F)
  have HP := Lib.hid (show argsS F = (gotF F (topS isMacro F)).ar from rfl)
  generalize gotF F (topS isMacro F) = f at *
  generalize gotR rs (topS isMacro F) = r at *
  generalize topS isMacro F = k at *
  have HT := Lib.hid ht
  have HG := Lib.hid hg
  clear ht h hg
  go_enter Tryd.func34, Tryd.ntmps34
  go_wp2_with fail
  refine HT.out.mono ?_
  rintro e w1 ⟨rfl, hb1⟩
  have hb2 := hb1.alloc hb1.size (.cells #[.int .i64 r.kd, .string r.nm, .slice r.lo r.ln r.lc, .slice r.ao r.an r.ac, .int .i64 r.tk] 64)
  have hcl := cloneStr_any (c := r.ac) (HG.out.dt (Dt.below hb2)).ar HG.out.anil (by have := HG.out.afit; omega)
  have HCL := Lib.hid hcl
  have HB2 := Lib.hid hb2
  clear hb1 hb2 hcl
  go_wp2_with fail
  refine HCL.out.mono ?_
  rintro e w3 ⟨⟨A, n, c', rfl, hs, h1, h2, h3⟩, hb3⟩
  have HS := Lib.hid (show StrP f.ar w (.returned (.slice A n c')) w3 from ⟨⟨A, n, c', rfl, hs, h1, h2, h3⟩, HB2.out.trans (hb3.mono HB2.out.size)⟩)
  clear hs h1 h2 h3 hb3
  go_wp2_with fail
  go_ret
  rw [HP.out]
  exact HS.out
end Go.Proofs.YtfobbcddedcepaaDoor
