/- Contracts: what is thrown is caught at the edge. -/
import Derived.Test.YteihpeffaeahlaaDoorWA
import Derived.Recover
import Derived.Laws.Pointers
namespace Go.Proofs.YteihpeffaeahlaaDoor
open Go.RowKit
set_option maxRecDepth 100000
theorem assert_yes (x : Int) (w : World) : (Instr.typeAssert (.iface 31 (.int .i64 x)) 20 31 true).run Tryd.prog w = .ok (.tuple #[.int .i64 x, .bool true]) w := by kernel_rfl
theorem assert_no (w : World) : (Instr.typeAssert .nilIface 20 31 true).run Tryd.prog w = .ok (.tuple #[.int .i64 0, .bool false]) w := by kernel_rfl
theorem catch_thrown (p : Addr) (x y : Int) (older : List PanicEntry) (w : World) (hc : w.cell? p = some (.int .i64 y)) (hz : w.frozen? p = false) :
    CallsD Tryd.prog 50 #[.pointer (some p)] (.panicking ({ v := .iface 31 (.int .i64 x), recovered := false } :: older)) w fun e u' w' =>
      e = .returned (.tuple #[]) ∧ u' = .panicking ({ v := .iface 31 (.int .i64 x), recovered := true } :: older) ∧ w' = w.setCell p (.int .i64 x) := by
  refine callsD_of_wpS Tryd.func50 rfl fun c₀ cs hu => ?_
  apply wpS_seq
  apply wpS_region
  simp [wpOpsS, go_sem, recoverD, hu, Tryd.ntmps50, Exit.thenS, assert_yes]
  apply wpS_seq
  apply wpS_region
  simp [wpOpsS, go_sem, Exit.thenS]
  refine wpS_cond (t := true) (by simp [Act.eval, Array.replicate]) ?_
  simp only [if_true]
  apply wpS_region
  simp [wpOpsS, go_sem, hc, hz, bodyPostS, results, Tryd.results50]
theorem catch_idle (p : Addr) (w : World) :
    CallsD Tryd.prog 50 #[.pointer (some p)] .returning w fun e u' w' => e = .returned (.tuple #[]) ∧ u' = .returning ∧ w' = w := by
  refine callsD_of_wpS Tryd.func50 rfl fun c₀ cs hu => ?_
  apply wpS_seq
  apply wpS_region
  simp [wpOpsS, go_sem, recoverD, hu, Tryd.ntmps50, Exit.thenS, assert_no]
  apply wpS_seq
  apply wpS_region
  simp [wpOpsS, go_sem, Exit.thenS]
  refine wpS_cond (t := false) (by simp [Act.eval, Array.replicate]) ?_
  simp only [Bool.false_eq_true, if_false]
  refine wpS_of_wp (wp_skip ?_)
  cases c₀
  simp_all [bodyPostS, results, Tryd.results50]
/-- How a reading ends: V says what may come out (the number, the error, how far the form reaches). -/
def ReadP (b : Nat) (r : RS) (w : World) (V : Int → Int → Nat → Prop) (e : Ending) (w' : World) : Prop :=
  Own b w w' ∧ ∃ n x q d wh, V n x wh ∧ Has 64 b r q d wh w' ∧ ((x = 0 ∧ e = .returned (.int .i64 n)) ∨ (n = 0 ∧ e = thrown x))
/-- How caught ends. -/
def CauP (b : Nat) (r : RS) (w : World) (V : Int → Int → Nat → Prop) (e : Ending) (w' : World) : Prop :=
  Own b w w' ∧ ∃ n x q d wh, V n x wh ∧ Has 64 b r q d wh w' ∧ e = .returned (.tuple #[.int .i64 n, .int .i64 x])
section
variable {b : Nat} {r : RS} {p dp wh : Nat} {w : World}
theorem caught_any (G : Nat) (V : Int → Int → Nat → Prop) (hG : ∀ w1, Has 64 b r p dp wh w1 → Tab w1 → Calls Tryd.prog G #[RP b] w1 (ReadP b r w1 V)) (hE : ∀ w, (callFunc G #[RP b]).run Tryd.prog w = .ok (.enter G #[RP b]) w) (h : Has 64 b r p dp wh w) (hT : Tab w) :
    Calls Tryd.prog 35 #[.func (.func G) #[RP b] #[]] w (CauP b r w V) := by
  have hmf : ∀ (fn : Fn) (first cap : Array Value) (w : World), (Instr.makeFunc fn first cap).run Tryd.prog w = .ok (.func fn first cap) w := fun _ _ _ _ => rfl
  have hb := h.lt
  have hb0 := hT.has h
  have H1 := Lib.hid (h.alloc (.cells #[.int .i64 0] 31))
  have o1 : Own b w (w.alloc (.cells #[.int .i64 0] 31)) := (Own.refl _ _).alloc _
  have O1 := Lib.hid o1
  have T1 := Lib.hid (hT.own o1 hb0)
  have HG := Lib.hid hG
  clear h hT hG o1
  go_enter_defers Tryd.func35, Tryd.ntmps35
  go_wp2_with fail
  refine (HG.out _ H1.out T1.out).mono ?_
  rintro e w2 ⟨o2, n, x, q, d, wh2, hV, h2, he⟩
  have hc : w2.cell? ⟨w.heap.size, 0, none⟩ = some (.int .i64 0) := by
    rw [o2.cell (by simp) (by simp; omega)]; simp [World.cell?_alloc_new]
  have hz : w2.frozen? ⟨w.heap.size, 0, none⟩ = false := by
    rw [o2.frozen (by simp) (by simp; omega)]; simp [go_sem]
  have hlt : w.heap.size < w2.heap.size := by have := o2.size; simp at this; omega
  have H2 := Lib.hid h2
  have O2 := Lib.hid (O1.out.trans o2)
  have HV := Lib.hid hV
  clear h2 o2 hV
  have hst : ∀ v : Value, Own b w (w2.setCell ⟨w.heap.size, 0, none⟩ v) := fun v =>
    ⟨O2.out.os, O2.out.tape, O2.out.output, by simp [World.setCell]; exact O2.out.size, fun k hk hkb => by
      rw [Below.heap_setCell _ _ _ _ (by simp; omega)]; exact O2.out.block k hk hkb⟩
  have hhs : ∀ v : Value, Has 64 b r q d wh2 (w2.setCell ⟨w.heap.size, 0, none⟩ v) := fun v => by
    show (w2.setCell _ _).heap[b]? = _
    rw [Below.heap_setCell _ _ _ _ (by simp; omega)]; exact H2.out
  have HST := Lib.hid hst
  have HHS := Lib.hid hhs
  clear hst hhs
  rcases he with ⟨rfl, rfl⟩ | ⟨rfl, rfl⟩
  · go_wp2_with fail
    have hlt2 : (w2.setCell ⟨w.heap.size, 0, none⟩ (.int .i64 0)).cell? ⟨w.heap.size, 0, none⟩ = some (.int .i64 0) := World.cell?_setCell_same _ _ _ hc
    refine leaves_cons (f := 50) (args := #[.pointer (some ⟨w.heap.size, 0, none⟩)]) (by simp) (by simp [go_sem]) ?_
    refine (catch_idle _ _).mono ?_
    rintro e u' w'' ⟨rfl, rfl, rfl⟩
    refine ⟨.tuple #[.int .i64 n, .int .i64 0], ?_, HST.out _, n, 0, q, d, wh2, HV.out, HHS.out _, rfl⟩
    simp [results, Tryd.results35, go_sem, hlt2]
  · have hlt2 : (w2.setCell ⟨w.heap.size, 0, none⟩ (.int .i64 x)).cell? ⟨w.heap.size, 0, none⟩ = some (.int .i64 x) := World.cell?_setCell_same _ _ _ hc
    refine leaves_cons (f := 50) (args := #[.pointer (some ⟨w.heap.size, 0, none⟩)]) (by simp) (by simp [go_sem]) ?_
    refine (catch_thrown _ x 0 [] _ hc hz).mono ?_
    rintro e u' w'' ⟨rfl, rfl, rfl⟩
    refine ⟨.tuple #[.int .i64 0, .int .i64 x], ?_, HST.out _, 0, x, q, d, wh2, HV.out, HHS.out _, rfl⟩
    simp [results, Tryd.results35, go_sem, hlt2]
end
end Go.Proofs.YteihpeffaeahlaaDoor
