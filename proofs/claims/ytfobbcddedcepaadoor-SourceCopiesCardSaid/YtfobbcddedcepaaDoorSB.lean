/- The fixed example: the walk. -/
import Derived.Test.YtfobbcddedcepaaDoorSA
namespace Go.Proofs.YtfobbcddedcepaaDoor
open Go.RowKit
set_option maxRecDepth 100000
set_option linter.unusedSimpArgs false
set_option linter.unusedVariables false
/-- A stack of the call's own. -/
def At (B : Nat) (w : World) (sb : Nat) (F : List Fr) (W : World) : Prop := ∃ g, (B ≤ g ∧ B ≤ w.heap.size) ∧ CS sb g F W ∧ Below B w W
theorem At.below {B : Nat} {w W W' : World} {sb : Nat} {F : List Fr} (h : At B w sb F W) (hb : Below W.heap.size W W') : At B w sb F W' := by
  obtain ⟨g, hg, ⟨c, rs, hc⟩, hk⟩ := h
  exact ⟨g, hg, ⟨c, rs, hc.below hb⟩, hk.trans (hb.mono (Nat.le_trans hg.2 hk.size))⟩
theorem At.step {B : Nat} {w W W' : World} {sb g : Nat} {F' : List Fr} (hsb : B ≤ sb) (hg : B ≤ g ∧ B ≤ w.heap.size) (hk : Below B w W) (hst : ∃ g', CS sb g' F' W' ∧ Dl sb g g' W W') : At B w sb F' W' := by
  obtain ⟨g', hc, hkp, he⟩ := hst
  have hz := hk.size
  refine ⟨g', ⟨by rcases he with e | e <;> omega, hg.2⟩, hc, hk.trans (hkp.to (by omega) (fun k hk => by rcases hk with e | e <;> omega))⟩
abbrev LnBx (r : RL) : Obj := .cells #[.string r.tx, .bool r.md, .int .i64 r.up, .int .i64 r.dn, .slice r.bo r.bn r.bc] 31
theorem ls_one (w : World) (s : ByteArray) : LsIn (w.alloc (.cells #[.string s, .bool false, .int .i64 0, .int .i64 0, .slice none 0 0] 31)) (some ⟨w.heap.size, 0, none⟩) 1 1 [lnT s] := by
  refine ⟨⟨⟨[⟨s, false, 0, 0, none, 0, 0⟩], ⟨rfl, fun _ => ⟨w.heap.size, 0, rfl, by show _ < _; simp, fun j u hu => ?_⟩⟩, rfl, fun i a b ha hb => ?_⟩, rfl⟩, (fun h => by cases h), Nat.le_refl _, by decide⟩
  · have h := heap_alloc_new w (.cells #[.string s, .bool false, .int .i64 0, .int .i64 0, .slice none 0 0] 31)
    simp only [World.cell?, h, Nat.zero_add]
    have : (#[.string s, .bool false, .int .i64 0, .int .i64 0, .slice none 0 0] : Array Value).toList[j]? = some u := hu
    rwa [Array.getElem?_toList] at this
  · cases i with
    | zero =>
      simp only [List.getElem?_cons_zero, Option.some.injEq] at ha hb
      subst ha hb
      exact ⟨rfl, rfl, rfl, rfl, fun _ => rfl, Nat.le_refl _, show ((0 : Nat) : Int) ≤ 9223372036854775807 by decide, bxs_none _⟩
    | succ i => simp at ha
theorem ss_none (w : World) : SsIn w none 0 0 [] := ⟨strs_none w, fun _ => rfl, Nat.le_refl _, by decide, by decide⟩
/-- The steps of the example, each in its words. -/
theorem step_next {B : Nat} {w W : World} {sb : Nat} {F : List Fr} (hsb : B ≤ sb) (h : At B w sb F W) : Calls Tryd.prog 17 #[BP sb] W fun e W' => ∃ r, e = .returned (.tuple #[lvA r, .int .i64 (nextS F).1.2]) ∧ RlIs (Tg W') W' r (nextS F).1.1 ∧ At B w sb (nextS F).2 W' ∧ Dt W W' := by
  obtain ⟨g, hg, ⟨c, rs, hc⟩, hk⟩ := h
  refine (next_call hc).mono ?_
  rintro e W' ⟨⟨r, he, hr⟩, hst⟩
  exact ⟨r, he, hr, At.step hsb hg hk hst, by obtain ⟨g', _, hd⟩ := hst; exact Dt.st hc hd.kept⟩
theorem step_file {B : Nat} {w W : World} {sb : Nat} {F : List Fr} (hsb : B ≤ sb) (h : At B w sb F W) (nm s : ByteArray) (hs : s.size ≤ 1000000) : Calls Tryd.prog 16 #[BP sb, .string nm, .string s] W fun e W' => e = .returned (.int .i64 (fileS F nm s).1) ∧ At B w sb (fileS F nm s).2 W' ∧ Dt W W' := by
  obtain ⟨g, hg, ⟨c, rs, hc⟩, hk⟩ := h
  exact (file_call hc nm s hs).mono fun e W' ⟨he, hst⟩ => ⟨he, At.step hsb hg hk hst, by obtain ⟨g', _, hd⟩ := hst; exact Dt.st hc hd.kept⟩
theorem step_macro {B : Nat} {w W : World} {sb : Nat} {F : List Fr} (hsb : B ≤ sb) (h : At B w sb F W) (nm : ByteArray) {A : Option Addr} {n cA : Nat} {ls : List Ln} (hl : LsIn W A n cA ls) {A' : Option Addr} {m cB : Nat} {ar : List ByteArray} (hs : SsIn W A' m cB ar) : Calls Tryd.prog 18 #[BP sb, .string nm, .slice A n cA, .slice A' m cB] W fun e W' => e = .returned (.int .i64 (macS F nm ls ar).1) ∧ At B w sb (macS F nm ls ar).2 W' ∧ Dt W W' := by
  obtain ⟨g, hg, ⟨c, rs, hc⟩, hk⟩ := h
  exact (macro_any hc nm hl hs).mono fun e W' ⟨he, hst⟩ => ⟨he, At.step hsb hg hk hst, by obtain ⟨g', _, hd⟩ := hst; exact Dt.st hc hd.kept⟩
theorem step_wait {B : Nat} {w W : World} {sb : Nat} {F : List Fr} (hsb : B ≤ sb) (h : At B w sb F W) {A : Option Addr} {n cA : Nat} {ls : List Ln} (hl : LsIn W A n cA ls) : Calls Tryd.prog 19 #[BP sb, .slice A n cA] W fun e W' => e = .returned (.int .i64 (waitS F ls).1) ∧ At B w sb (waitS F ls).2 W' ∧ Dt W W' := by
  obtain ⟨g, hg, ⟨c, rs, hc⟩, hk⟩ := h
  exact (wait_any hc hl).mono fun e W' ⟨he, hst⟩ => ⟨he, At.step hsb hg hk hst, by obtain ⟨g', _, hd⟩ := hst; exact Dt.st hc hd.kept⟩
theorem step_new {w : World} : Calls Tryd.prog 7 #[] w fun e W' => e = .returned (BP (w.heap.size + 1)) ∧ At w.heap.size w (w.heap.size + 1) [] W' :=
  (new_any w).mono fun e W' ⟨he, hc, hb⟩ => ⟨he, w.heap.size, ⟨Nat.le_refl _, Nat.le_refl _⟩, hc, hb⟩
theorem At.lt {B : Nat} {w W : World} {sb : Nat} {F : List Fr} (h : At B w sb F W) : B ≤ W.heap.size := by
  obtain ⟨g, hg, _, hk⟩ := h
  exact Nat.le_trans hg.2 hk.size
theorem At.to {B : Nat} {w W : World} {sb : Nat} {F : List Fr} (h : At B w sb F W) : Below B w W := by
  obtain ⟨g, _, _, hk⟩ := h
  exact hk
theorem Dt.ln {w w' : World} {b : Nat} {cs : Array Value} (k : Dt w w') (h : w.heap[b]? = some (.cells cs 31 (0, 0))) : w'.heap[b]? = some (.cells cs 31 (0, 0)) := (k _ b (by simp) ⟨_, _, h⟩).trans h
set_option maxHeartbeats 1000000 in
theorem sane_any (w : World) : Calls Tryd.prog 6 #[] w fun e w' => e = .returned (.bool true) ∧ Below w.heap.size w w' := by
  have hsb : w.heap.size ≤ w.heap.size + 1 := Nat.le_succ _
  have HSB := Lib.hid hsb
  clear hsb
  go_enter Tryd.func6, Tryd.ntmps6
  go_wp2_with fail
  refine step_new.mono ?_
  rintro e w1 ⟨rfl, h1⟩
  have hf := step_file HSB.out h1 ⟨#[102]⟩ ⟨#[97, 10, 98, 10]⟩ (by decide)
  rw [sane_1] at hf
  have HF := Lib.hid hf
  clear hf h1
  go_wp2_with fail
  refine HF.out.mono ?_
  rintro e w2 ⟨rfl, h2, _⟩
  have hn := step_next HSB.out h2
  rw [sane_2] at hn
  have HN := Lib.hid hn
  clear hn h2
  go_wp2_with fail
  refine HN.out.mono ?_
  rintro e w3 ⟨⟨tx, md, up, dn, bo, bn, bc⟩, rfl, hr, h3, _⟩
  obtain rfl : tx = ⟨#[97]⟩ := hr.tx
  have hb3 := (Below.refl w3.heap.size w3).alloc (Nat.le_refl _) (.cells #[.string ⟨#[97]⟩, .bool md, .int .i64 up, .int .i64 dn, .slice bo bn bc] 31)
  have hx3 := heap_alloc_new w3 (.cells #[.string ⟨#[97]⟩, .bool md, .int .i64 up, .int .i64 dn, .slice bo bn bc] 31)
  have h3' := h3.below hb3
  have hl := ls_one (w3.alloc (.cells #[.string ⟨#[97]⟩, .bool md, .int .i64 up, .int .i64 dn, .slice bo bn bc] 31)) ⟨#[99]⟩
  have hb4 := (Below.refl (w3.alloc (.cells #[.string ⟨#[97]⟩, .bool md, .int .i64 up, .int .i64 dn, .slice bo bn bc] 31)).heap.size (w3.alloc (.cells #[.string ⟨#[97]⟩, .bool md, .int .i64 up, .int .i64 dn, .slice bo bn bc] 31))).alloc (Nat.le_refl _) (.cells #[.string ⟨#[99]⟩, .bool false, .int .i64 0, .int .i64 0, .slice none 0 0] 31)
  have hm := step_macro HSB.out (h3'.below hb4) ⟨#[109]⟩ hl (ss_none _)
  rw [sane_3] at hm
  rw [show (w3.alloc (.cells #[.string ⟨#[97]⟩, .bool md, .int .i64 up, .int .i64 dn, .slice bo bn bc] 31)).heap.size = w3.heap.size + 1 by simp] at hm
  have HX4 := Lib.hid ((hb4.block w3.heap.size (by simp)).trans hx3)
  have HM := Lib.hid hm
  clear hr h3 hb3 hx3 h3' hl hb4 hm
  go_wp2_with fail
  refine HM.out.mono ?_
  rintro e w5 ⟨rfl, h5, hd5⟩
  have HX5 := Lib.hid (hd5.ln HX4.out)
  have hn := step_next HSB.out h5
  rw [sane_4] at hn
  have HN5 := Lib.hid hn
  clear hn h5 hd5
  go_wp2_with fail
  refine HN5.out.mono ?_
  rintro e w6 ⟨⟨tx6, md6, up6, dn6, bo6, bn6, bc6⟩, rfl, hr, h6, hd6⟩
  obtain rfl : tx6 = ⟨#[99]⟩ := hr.tx
  have hb6 := (Below.refl w6.heap.size w6).alloc (Nat.le_refl _) (.cells #[.string ⟨#[99]⟩, .bool md6, .int .i64 up6, .int .i64 dn6, .slice bo6 bn6 bc6] 31)
  have hn := step_next HSB.out (h6.below hb6)
  rw [sane_5] at hn
  have HX6 := Lib.hid ((hb6.block _ (lt_of_block (hd6.ln HX5.out))).trans (hd6.ln HX5.out))
  have HY6 := Lib.hid (heap_alloc_new w6 (.cells #[.string ⟨#[99]⟩, .bool md6, .int .i64 up6, .int .i64 dn6, .slice bo6 bn6 bc6] 31))
  have HN6 := Lib.hid hn
  clear hr h6 hd6 hb6 hn
  go_wp2_with fail
  refine HN6.out.mono ?_
  rintro e w7 ⟨⟨tx7, md7, up7, dn7, bo7, bn7, bc7⟩, rfl, hr, h7, hd7⟩
  obtain rfl : tx7 = ⟨#[98]⟩ := hr.tx
  have hb7 := (Below.refl w7.heap.size w7).alloc (Nat.le_refl _) (.cells #[.string ⟨#[98]⟩, .bool md7, .int .i64 up7, .int .i64 dn7, .slice bo7 bn7 bc7] 31)
  have a1 := (hb7.block _ (lt_of_block (hd7.ln HX6.out))).trans (hd7.ln HX6.out)
  have a2 := (hb7.block _ (lt_of_block (hd7.ln HY6.out))).trans (hd7.ln HY6.out)
  have a3 := heap_alloc_new w7 (.cells #[.string ⟨#[98]⟩, .bool md7, .int .i64 up7, .int .i64 dn7, .slice bo7 bn7 bc7] 31)
  obtain ⟨⟨x0, _⟩, _⟩ := fresh_ln a1
  obtain ⟨⟨y0, _⟩, _⟩ := fresh_ln a2
  obtain ⟨⟨z0, _⟩, _⟩ := fresh_ln a3
  have HB7 := Lib.hid (h7.below hb7).to
  clear hr h7 hd7 hb7 a1 a2 a3
  go_wp2_with fail
  go_ret
  exact ⟨rfl, HB7.out⟩
end Go.Proofs.YtfobbcddedcepaaDoor
