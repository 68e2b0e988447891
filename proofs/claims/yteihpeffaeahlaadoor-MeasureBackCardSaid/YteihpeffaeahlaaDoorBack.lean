/- MeasureBack: for every input the law returns true and leaves its arguments as they were. Conditions: those of the card (the table of operators is laid by its initialiser). -/
import Derived.Test.YteihpeffaeahlaaDoorCards
import Derived.Test.YteihpeffaeahlaaDoorTie
import Derived.Test.YteihpeffaeahlaaDoorRow
import Derived.Test.YteihpeffaeahlaaDoorLawBack
import Derived.Lay
import Derived.LaidSub
namespace Go.Proofs.YteihpeffaeahlaaDoor.MeasureBack
open Go.ChangeShapes Go.WideShapes Go.ChangeAt Go.RowKit
set_option maxRecDepth 100000

theorem one_op : (Rows.measureBackRow.laid.filter fun x => x.1 == "frisket/measure.operators") = [("frisket/measure.operators", .agg (tbl.map fun z => .lit (.string z)))] := by kernel_rfl
theorem one_pow : (Rows.measureBackRow.laid.filter fun x => x.1 == "internal/strconv.uint64pow10") = [("internal/strconv.uint64pow10", Lib.tabData .u64 Lib.pow10Tab)] := by kernel_rfl
theorem tab_of_six {W : World} (h : laidMetH Tryd.prog Rows.measureBackRow.laid W) : Tab W := by
  have h1 := h.filter fun x => x.1 == "frisket/measure.operators"
  rw [one_op] at h1
  exact tab_of_laid h1
theorem p10_of_six {W : World} (h : laidMetH Tryd.prog Rows.measureBackRow.laid W) : P10 W := by
  have h1 := h.filter fun x => x.1 == "internal/strconv.uint64pow10"
  rw [one_pow] at h1
  exact Lib.tabIs_of_head (t := 107) (e := 101) gP10 (by kernel_rfl) Tryd.underlying107 Tryd.underlying101 (by kernel_rfl) (by kernel_rfl) h1

theorem contract (H : Type) (enc : TypeId × Value → H) (W : World) (base : Nat) (args : Array Value) (ds gs : List (DataW H)) (before : List MemPlace)
    (hval : ∀ (j : Nat) t v, Tryd.f6.params[j]? = some t → args[j]? = some v → Value.okWide Tryd.prog W .any base t v)
    (hW : DataW.Whole enc Tryd.prog Tryd.f6.params.toList Rows.measureBackSpec.vars false W args.toList ds gs before) (hL : laidMetH Tryd.prog Rows.measureBackRow.laid W) :
    Calls Tryd.prog 6 args W fun e W' => ∃ v, e = .returned v ∧ Rows.measureBackSpec.post enc Tryd.prog Tryd.f6 false true false false W args v W' := by
  have hW' := hW
  obtain ⟨p, q, hA0, hV, rfl, hfz, hnd⟩ := hW
  have hA : DataW.TrodAll enc Tryd.prog W 0 (fun _ => true) true Tryd.f6.params.toList args.toList ds p := hA0
  rw [Tryd.params6] at hA hval
  obtain ⟨v0, vs0, d0, ds0, p0, q0, hargs, rfl, rfl, h0, r0⟩ := trodAll_cons hA
  obtain ⟨v1, vs1, d1, ds1, p1, q1, hargs1, rfl, rfl, h1, r1⟩ := trodAll_cons r0
  obtain ⟨rfl, rfl, rfl⟩ := trodAll_nil r1
  obtain rfl : args = #[v0, v1] := by cases args; simp_all
  obtain ⟨rfl, rfl⟩ := trodVars_none hV
  obtain ⟨n, rfl, _, _, _⟩ := open_int Tryd.underlying3 (hval 0 3 v0 rfl rfl) h0
  obtain ⟨xs, rfl, hlen, _⟩ := open_int_struct Tryd.underlying23 (by kernel_rfl) (by kernel_rfl) (by
    intro j f hj
    have hjl := (Array.getElem?_eq_some_iff.1 hj).1
    have hj5 : j = 0 ∨ j = 1 ∨ j = 2 := by
      have : j < 3 := hjl
      omega
    rcases hj5 with rfl | rfl | rfl <;> (cases hj; exact Tryd.underlying3)) (hval 1 23 v1 rfl rfl) h1
  have hlen3 : xs.length = 3 := hlen
  have hT : Tab W := tab_of_six hL
  have hP : P10 W := p10_of_six hL
  match xs, hlen3 with
  | [A, B, C], _ =>
    refine (law_back n A B C W hT hP).mono fun e W' ⟨he, hb⟩ => ?_
    subst he
    exact ⟨_, rfl, law_post laidOut (by kernel_rfl) rfl hW' hb (by kernel_rfl) (by kernel_rfl) Tryd.underlying4 rfl rfl rfl⟩

/-- A world for the witness: each listed variable holds what its initialiser lays. -/
noncomputable abbrev laidWorld (os : Os) : World := World.laidAll Tryd.prog os Rows.measureBackRow.laid
abbrev args0 : Array Value := #[.int .i64 0, .agg #[.int .i64 0, .int .i64 0, .int .i64 0]]
theorem laid_met (os : Os) : laidMet Tryd.prog Rows.measureBackRow.laid ((laidWorld os).forCall (fun _ _ => 0) ⟨#[], args0, []⟩).memory :=
  laidMet_laidAll _ (by kernel_rfl) (by kernel_rfl)
theorem reads (os : Os) {H : Type} (enc : TypeId × Value → H) : ∃ places, DataW.whole enc Tryd.prog ((laidWorld os).forCall (fun _ _ => 0) ⟨#[], args0, []⟩).memory Tryd.f6.params.toList Rows.measureBackSpec.vars false args0.toList 8 = some ([.lit (.int .i64 0), .agg [.lit (.int .i64 0), .lit (.int .i64 0), .lit (.int .i64 0)]], [], places) :=
  ⟨[], by kernel_rfl⟩
theorem lifted (os : Os) (started : os.Started) (H : Type) (enc : TypeId × Value → H) (F : Stop.Interp) :
    ReturnsInHanded {} Tryd.checked os 6 .any ((OpenSpec.ofChange Rows.measureBackSpec).preRow enc Tryd.prog Tryd.f6 Rows.measureBackRow.domain false Rows.measureBackRow.laid) (((OpenSpec.ofChange Rows.measureBackSpec).at F).post enc Tryd.prog Tryd.f6 false true false false) := by
  obtain ⟨places, hx⟩ := reads os enc
  refine returnsInHanded_of_row (C := Tryd.checked) (s := OpenSpec.ofChange Rows.measureBackSpec) own started (by kernel_rfl) Tryd.func6
    (witness_row_at (enc := enc) (C := Tryd.checked) false (laidWorld os) args0 (World.laidAll_os _ _ _) (by kernel_rfl) (by kernel_rfl) (by kernel_rfl)
      (OpenSpec.preRow_of_cond 8 hx (by kernel_rfl) (fun k hk => by cases hk) (by kernel_rfl) (laid_met os))) ?_
  intro W base args ds gs before hval hW _ _ _ hL _ _
  exact contract H enc W base args ds gs before hval hW hL
theorem said : Rows.MeasureBackSaid :=
  OpenClaim.holds_of_cond 6 Tryd.f6 rfl rfl rfl rfl rfl rfl rfl ⟨rfl, rfl, rfl, rfl, rfl⟩ rfl rfl rfl rfl rfl (by kernel_rfl) Tryd.func6 (by kernel_rfl)
    (of_decide_eq_true (by kernel_rfl)) (by unfold Func.isWrapper; first | (rw [if_pos (by decide +kernel)]; kernel_rfl) | (rw [if_neg (by decide +kernel)]; exact ⟨rfl, rfl⟩))
    (fun os started H enc _ F => by rw [OpenClaim.pre_eq_preRow]; exact lifted os started H enc F)
/-- No parameter wants a stand-in; the program's own looks are off: what the card asks. -/
theorem plain (f : FuncId) (fn : Func) (hf : Tryd.pinned.checked.prog.funcNamed "frisket/frisketlaw01.MeasureBack" = some f) (hfn : Tryd.pinned.checked.prog.funcs[f]? = some fn) :
    true = Tryd.pinned.checked.prog.looks [] ∧ ∀ (j : Nat) t, fn.params[j]? = some t → Tryd.pinned.checked.prog.wantsStandIn t = false := by
  obtain rfl : f = 6 := Option.some.inj ((show Tryd.prog.funcNamed "frisket/frisketlaw01.MeasureBack" = some 6 by kernel_rfl).symm.trans hf) |>.symm
  obtain rfl : fn = Tryd.f6 := (Option.some.inj (Tryd.func6.symm.trans hfn)).symm
  refine ⟨by kernel_rfl, fun j t ht => ?_⟩
  rw [Tryd.params6] at ht
  have ht' : t = 3 ∨ t = 23 := by simpa [or_assoc] using Array.mem_of_getElem? ht
  rcases ht' with rfl | rfl
  · exact (show Tryd.prog.wantsStandIn 3 = false by kernel_rfl)
  · exact (show Tryd.prog.wantsStandIn 23 = false by kernel_rfl)
theorem card : Rows.MeasureBackCardSaid :=
  Claim7.holds_tied_plain_at .later [] _ _ _ _ said (fun _ h => by cases h) (by kernel_rfl) (fun _ h => by cases h) measureBack_row_tie rfl ⟨rfl, rfl⟩ (by kernel_rfl) rfl plain (by kernel_rfl)
end Go.Proofs.YteihpeffaeahlaaDoor.MeasureBack
