/- Shift. -/
import Derived.Test.YtfobbcddedcepaaDoorBE
import Derived.Deep.RegionHeld3
namespace Go.Proofs.YtfobbcddedcepaaDoor
open Go.RowKit
set_option maxRecDepth 100000
set_option linter.unusedSimpArgs false
set_option linter.unusedVariables false
theorem StrsAt.drop {P : TypeId → Nat → Prop} {w : World} {A : Option Addr} {n : Nat} {xs : List ByteArray} (h : StrsAt P w A n xs) (k : Nat) (hk : k ≤ n) : StrsAt P w (A.map fun a => a.add k) (n - k) (xs.drop k) := by
  refine ⟨⟨?_, fun hn => ?_⟩, by rw [List.length_drop, h.len]⟩
  · have := h.rd.1
    unfold strCs at this ⊢
    rw [List.length_map] at this ⊢
    rw [List.length_drop]; omega
  · obtain ⟨b, off, e, hp, hc⟩ := h.rd.2 (by omega)
    refine ⟨b, off + k, by rw [e]; exact congrArg some (cell_add b off k), hp, fun j u hu => ?_⟩
    have hu2 : (strCs xs)[k + j]? = some u := by
      unfold strCs at hu ⊢
      rw [List.map_drop, List.getElem?_drop] at hu
      exact hu
    have := hc _ _ hu2
    rwa [← Nat.add_assoc] at this
theorem StrsAt.empty {P : TypeId → Nat → Prop} {w : World} {A A' : Option Addr} {n : Nat} {xs : List ByteArray} (h : StrsAt P w A n xs) : StrsAt P w A' (n - n) (xs.drop n) := by
  have e : xs.drop n = [] := List.drop_eq_nil_of_le (by rw [h.len]; exact Nat.le_refl _)
  rw [e, Nat.sub_self]
  exact ⟨⟨rfl, fun h => absurd h (Nat.lt_irrefl 0)⟩, rfl⟩
def shiftS (F : List Fr) (n : Int) : Int × List Fr :=
  if n < 0 ∨ 100 < n then (1, F) else
    match topS isMacro F with
    | 0 => (8, F)
    | k + 1 => (0, F.set k { gotF F (k + 1) with ar := (gotF F (k + 1)).ar.drop n.toNat })
theorem shift_out {sb g c : Nat} {F : List Fr} {rs : List RF} {w : World} (h : CK sb g c F rs w) (n : Int) (hn : n < 0 ∨ 100 < n) : Calls Tryd.prog 23 #[BP sb, .int .i64 n] w (DoP sb g (shiftS F n) w) := by
  have HM := Lib.hid (made_any h)
  have HP := Lib.hid (show shiftS F n = (1, F) by unfold shiftS; rw [if_pos hn])
  have H := Lib.hid h
  clear h
  by_cases h1 : n < 0
  · clear hn
    have d1 : decide (n < 0) = true := decide_eq_true h1
    go_enter Tryd.func23, Tryd.ntmps23
    go_wp2_with fail
    refine HM.out.mono ?_
    rintro e w1 ⟨rfl, rfl⟩
    go_wp2_with fail
    go_ret
    rw [HP.out]
    exact DoP.arg H.out 1 (Below.refl _ _)
  · have h2 : 100 < n := by omega
    have d1 : decide (n < 0) = false := decide_eq_false h1
    have d2 : decide (100 < n) = true := decide_eq_true h2
    clear hn
    go_enter Tryd.func23, Tryd.ntmps23
    go_wp2_with fail
    refine HM.out.mono ?_
    rintro e w1 ⟨rfl, rfl⟩
    go_wp2_with fail
    go_ret
    rw [HP.out]
    exact DoP.arg H.out 1 (Below.refl _ _)
set_option maxHeartbeats 1000000 in
theorem shift_none {sb g c : Nat} {F : List Fr} {rs : List RF} {w : World} (h : CK sb g c F rs w) (n : Int) (h1 : 0 ≤ n) (h2 : n ≤ 100) (hk : topS isMacro F = 0) : Calls Tryd.prog 23 #[BP sb, .int .i64 n] w (DoP sb g (shiftS F n) w) := by
  have HM := Lib.hid (made_any h)
  have HP := Lib.hid (show shiftS F n = (8, F) by unfold shiftS; rw [if_neg (by omega), hk])
  have ht := top_isMacro h
  unfold TopP at ht
  rw [h.top q_macro, hk] at ht
  rw [show ((0 : Nat) : Int) - 1 = -1 by rfl] at ht
  generalize gotR rs 0 = r at ht
  have HT := Lib.hid ht
  have H := Lib.hid h
  have d1 : decide (n < 0) = false := decide_eq_false (by omega)
  have d2 : decide (100 < n) = false := decide_eq_false (by omega)
  have d3 : decide ((-1 : Int) < 0) = true := by decide
  clear h ht hk
  go_enter Tryd.func23, Tryd.ntmps23
  go_wp2_with fail
  refine HM.out.mono ?_
  rintro e w1 ⟨rfl, rfl⟩
  go_wp2_with fail
  refine HT.out.mono ?_
  rintro e w1 ⟨rfl, hb1⟩
  have HB := Lib.hid (hb1.alloc hb1.size (.cells #[.int .i64 r.kd, .string r.nm, .slice r.lo r.ln r.lc, .slice r.ao r.an r.ac, .int .i64 r.tk] 64))
  clear hb1
  go_wp2_with fail
  go_ret
  rw [HP.out]
  exact DoP.arg H.out 8 HB.out
/-- Behind the store of the arguments. -/
theorem CK.shiftF {sb g c k : Nat} {F : List Fr} {rs : List RF} {w w' : World} {r : RF} {ao' : Option Addr} {m : Nat} (h : CK sb g c F rs w) (hr : rs[k]? = some r) (hri : RfIs (Tg w) w r (gotF F (k + 1))) (hk : k < F.length) (he : w' = w.setCell ⟨g, k * 5 + 3, none⟩ (.slice ao' (r.an - m) (r.ac - m))) (hm : m ≤ r.an) (hs : StrsAt (Tg w) w ao' (r.an - m) ((gotF F (k + 1)).ar.drop m)) (hnil : ao' = none → r.an - m = 0) :
    CK sb g c (F.set k { gotF F (k + 1) with ar := (gotF F (k + 1)).ar.drop m }) (rs.set k { r with ao := ao', an := r.an - m, ac := r.ac - m }) w' ∧ Kept (fun b => b = sb ∨ b = g) w w' := by
  have hf : F[k]? = some (gotF F (k + 1)) := by
    unfold gotF; rw [if_neg (by omega), Nat.add_sub_cancel, List.getElem?_eq_getElem hk]; rfl
  have hok := h.ok _ (List.mem_of_getElem? hf)
  have hac := hri.acap
  have hale := hri.ale
  have hfit := hri.afit
  refine h.setF (k := 3) (r := r) (f := gotF F (k + 1)) (u := .slice ao' (r.an - m) (r.ac - m)) hr hf (by omega) rfl he ⟨hri.kd, hri.nm, hri.tk, hri.ls, hri.lnil, hri.lle, hri.lcap, hs, hnil, ?_, ?_, ?_⟩ ⟨hok.ls, hok.len, hok.tk, hok.kd⟩ (fun hi => by have e := h.inv k (gotF F (k + 1)) hi hf; exact e)
  · show r.an - m ≤ r.ac - m; omega
  · show ((r.ac - m : Nat) : Int) ≤ 9223372036854775807; omega
  · show (r.an - m) * 16 ≤ 140737488351232; omega
set_option maxHeartbeats 1000000 in
theorem shift_some {sb g c : Nat} {F : List Fr} {rs : List RF} {w : World} (h : CK sb g c F rs w) (n : Int) (h1 : 0 ≤ n) (h2 : n ≤ 100) (k : Nat) (hk : topS isMacro F = k + 1) : Calls Tryd.prog 23 #[BP sb, .int .i64 n] w (DoP sb g (shiftS F n) w) := by
  have HM := Lib.hid (made_any h)
  have HP := Lib.hid (show shiftS F n = (0, F.set k { gotF F (k + 1) with ar := (gotF F (k + 1)).ar.drop n.toNat }) by unfold shiftS; rw [if_neg (by omega), hk])
  have ht := top_isMacro h
  unfold TopP at ht
  rw [h.top q_macro, hk] at ht
  have hkl : k < F.length := by have := topS_le isMacro F; omega
  rw [show ((k + 1 : Nat) : Int) - 1 = (k : Int) by omega] at ht
  have hri := h.gotA (k + 1) (by omega)
  obtain ⟨_, _, hrs, _⟩ := h.got (k + 1) (by omega) (by omega)
  rw [Nat.add_sub_cancel] at hrs
  generalize gotR rs (k + 1) = r at *
  obtain ⟨m, hm⟩ : ∃ m, m = min n.toNat r.an := ⟨_, rfl⟩
  have hmin : min n (r.an : Int) = (m : Int) := by omega
  have hma : m ≤ r.an := by omega
  have hmc : m ≤ r.ac := by have := hri.ale; omega
  have hi1 : (0 : Int) ≤ (m : Int) := by omega
  have hi2 : (m : Int) ≤ (r.an : Int) := by omega
  have hi3 : (m : Int) ≤ (r.ac : Int) := by omega
  have hi4 : (r.an : Int) ≤ (r.ac : Int) := by have := hri.ale; omega
  have hcap := hri.acap
  have HDR := Lib.hid (show (gotF F (k + 1)).ar.drop n.toNat = (gotF F (k + 1)).ar.drop m by
    have hl := hri.ar.len
    by_cases e : n.toNat ≤ r.an
    · rw [hm, Nat.min_eq_left e]
    · rw [List.drop_eq_nil_of_le (by omega), List.drop_eq_nil_of_le (by omega)])
  have HT := Lib.hid ht
  have H := Lib.hid h
  have HRI := Lib.hid hri
  have HRS := Lib.hid hrs
  have d1 : decide (n < 0) = false := decide_eq_false (by omega)
  have d2 : decide (100 < n) = false := decide_eq_false (by omega)
  have d3 : decide ((k : Int) < 0) = false := by simp
  have hj0 : (0 : Int) ≤ (k : Int) := by omega
  have hj1 : (k : Int) < (F.length : Int) := by omega
  clear h ht hk hm hri hrs
  go_enter Tryd.func23, Tryd.ntmps23
  go_wp2_with fail
  refine HM.out.mono ?_
  rintro e w1 ⟨rfl, rfl⟩
  go_wp2_with fail
  refine HT.out.mono ?_
  rintro e w1 ⟨rfl, hb1⟩
  have hb2 := hb1.alloc hb1.size (.cells #[.int .i64 r.kd, .string r.nm, .slice r.lo r.ln r.lc, .slice r.ao r.an r.ac, .int .i64 r.tk] 64)
  have hck := H.out.below hb2
  have hri2 := HRI.out.dt (Dt.below hb2)
  have HB := Lib.hid hb2
  have c0 := hck.c0.1
  obtain ⟨⟨b0, b1, b2, b3, b4⟩, fz3, fz4⟩ := hck.fc k r HRS.out
  have hy := fresh_fr (heap_alloc_new w1 (.cells #[.int .i64 r.kd, .string r.nm, .slice r.lo r.ln r.lc, .slice r.ao r.an r.ac, .int .i64 r.tk] 64))
  obtain ⟨⟨y0, y1, y2, y3, y4⟩, _⟩ := hy
  have HCK := Lib.hid hck
  have HRI2 := Lib.hid hri2
  have hlt := H.out.lt
  have hz1 := hb1.size
  have hne1 : sb ≠ g := H.out.ne
  have hne2 : w1.heap.size ≠ g := by omega
  clear hb1 hb2 hck hri2 hlt hz1
  go_wp2_with fail
  go_region_held3 (fun w' => w'.cell? ⟨sb, 0, none⟩ = some (.slice (some ⟨g, 0, none⟩) F.length c) ∧ w'.cell? ⟨w1.heap.size, 3, none⟩ = some (.slice r.ao r.an r.ac)) (first | exact ⟨c0, y3⟩ | exact ⟨(set_far hne1).trans c0, (set_far hne2).trans y3⟩ | go_keep) (fail)
  all_goals
    obtain ⟨ao', hao⟩ : ∃ ao', ao' = (if r.ac = m then r.ao else r.ao.map fun x => x.add m) := ⟨_, rfl⟩
    rw [← hao]
    have hsh := HCK.out.shiftF (ao' := ao') (m := m) HRS.out HRI2.out hkl rfl hma (by
      have hs := HRI2.out.ar
      rw [hao]
      split
      · rename_i e
        have hal := HRI2.out.ale
        have e2 : r.an = m := by omega
        rw [← e2]; exact hs.empty
      · exact hs.drop m hma) (by
      have hn := HRI2.out.anil
      rw [hao]
      split
      · intro e; have := hn e; omega
      · intro e
        have := hn (by cases ho : r.ao with | none => rfl | some a => rw [ho] at e; cases e)
        omega)
    have HSH := Lib.hid hsh
    clear hao hsh
    go_wp2_with fail
    go_ret
    rw [HP.out, HDR.out]
    exact ⟨rfl, g, ⟨c, _, (Eqw.drew _).ck HSH.out.1⟩, ((Kept.of HB.out).trans HSH.out.2).drew, .inl rfl⟩
theorem shift_any {sb g c : Nat} {F : List Fr} {rs : List RF} {w : World} (h : CK sb g c F rs w) (n : Int) : Calls Tryd.prog 23 #[BP sb, .int .i64 n] w (DoP sb g (shiftS F n) w) := by
  by_cases ho : n < 0 ∨ 100 < n
  · exact shift_out h n ho
  · cases hk : topS isMacro F with
    | zero => exact shift_none h n (by omega) (by omega) hk
    | succ k => exact shift_some h n (by omega) (by omega) k hk
end Go.Proofs.YtfobbcddedcepaaDoor
