/- Expand. -/
import Derived.Test.YtoggjiblhcbmjaaDoorWC
import Derived.Recover
import Derived.Laws.Pointers
import Derived.Laws.EntriesVeiled
namespace Go.Proofs.YtoggjiblhcbmjaaDoor
open Go.RowKit Go.Shelf
set_option maxRecDepth 100000
theorem eq_nil2 (w : World) : (Sem.run Tryd.prog (binOp BinOp.eql 54 Value.nilFunc Value.nilFunc) w) = .ok (.bool true) w := by kernel_rfl
theorem eq_func (fn : Fn) (f c : Array Value) (w : World) : (Sem.run Tryd.prog (binOp BinOp.eql 54 (.func fn f c) Value.nilFunc) w) = .ok (.bool false) w := by kernel_rfl
theorem eq_iface (w : World) : (Sem.run Tryd.prog (binOp BinOp.eql 20 Value.nilIface Value.nilIface) w) = .ok (.bool true) w := by kernel_rfl
theorem expand_nil (s : ByteArray) (cp : Bool) (w : World) : Calls Tryd.prog 14 #[.string s, .bool cp, .nilFunc] w fun e w' => e = .returned (.tuple #[.string ⟨#[]⟩, .int .i64 1]) ∧ Below w.heap.size w w' := by
  have HB := Lib.hid (bel0 w (.cells #[.int .i64 1] 31))
  have hq := eq_nil2
  go_enter_defers Tryd.func14, Tryd.ntmps14
  go_wp2_with fail
  refine ⟨.tuple #[.string ⟨#[]⟩, .int .i64 1], ?_, rfl, HB.out⟩
  have hc : (w.alloc (.cells #[.int .i64 1] 31)).cell? ⟨w.heap.size, 0, none⟩ = some (.int .i64 1) := by have h := heap_alloc_new w (.cells #[.int .i64 1] 31); simp only [World.cell?, h]; rfl
  simp [results, Tryd.results14, go_sem, hc]
theorem catch_idle (p : Addr) (w : World) : CallsD Tryd.prog 30 #[.pointer (some p)] .returning w fun e u' w' => e = .returned (.tuple #[]) ∧ u' = .returning ∧ w' = w := by
  refine callsD_of_wpS Tryd.func30 rfl fun c₀ cs hu => ?_
  apply wpS_seq
  apply wpS_region
  simp [wpOpsS, go_sem, recoverD, hu, Tryd.ntmps30, Exit.thenS]
  refine wpS_of_wp ?_
  rw [show (#[Value.pointer (some p)] ++ (Array.replicate 5 undef).setIfInBounds 0 Value.nilIface) = #[.pointer (some p), .nilIface, undef, undef, undef, undef] from rfl]
  have hq := eq_iface
  go_wp2_with fail
  cases c₀
  simp_all [bodyPostS, results, Tryd.results30]
theorem expand_bad (s : ByteArray) (cp : Bool) (fn : Fn) (f c : Array Value) (hk : okS s.data.toList = false) (w : World) : Calls Tryd.prog 14 #[.string s, .bool cp, .func fn f c] w fun e w' => e = .returned (.tuple #[.string ⟨#[]⟩, .int .i64 1]) ∧ Below w.heap.size w w' := by
  have HB := Lib.hid (bel0 w (.cells #[.int .i64 1] 31))
  have hq := eq_func fn f c
  have HV := Lib.hid (fun W => valid_any s W)
  rw [hk] at HV
  clear hk
  go_enter_defers Tryd.func14, Tryd.ntmps14
  go_wp2_with fail
  refine (HV.out _).mono ?_
  rintro e w1 ⟨rfl, rfl⟩
  go_wp2_with fail
  refine ⟨.tuple #[.string ⟨#[]⟩, .int .i64 1], ?_, rfl, HB.out⟩
  have hc : (w.alloc (.cells #[.int .i64 1] 31)).cell? ⟨w.heap.size, 0, none⟩ = some (.int .i64 1) := by have h := heap_alloc_new w (.cells #[.int .i64 1] 31); simp only [World.cell?, h]; rfl
  simp [results, Tryd.results14, go_sem, hc]
/-- The world in which a text is expanded. -/
def exW (w : World) (cp : Bool) (lk : Value) : World := (w.alloc (.cells #[.int .i64 0] 31)).alloc (.cells #[.bool cp, lk, .int .i64 0] 58)
theorem exW_bel (w : World) (cp : Bool) (lk : Value) : Below w.heap.size w (exW w cp lk) :=
  (bel0 w _).trans ((bel0 (w.alloc _) _).mono (by rw [siz0]; omega))
theorem exW_err (w : World) (cp : Bool) (lk : Value) : (exW w cp lk).heap[w.heap.size]? = some (.cells #[.int .i64 0] 31 (0, 0)) :=
  ((bel0 (w.alloc _) _).block _ (by rw [siz0]; omega)).trans (heap_alloc_new w _)
theorem exW_xp (w : World) (cp : Bool) (lk : Value) (B : Nat) (hB : B ≤ w.heap.size) : Xp cp lk B (w.heap.size + 1) 0 (exW w cp lk) := by
  refine ⟨by omega, ?_⟩
  have := heap_alloc_new (w.alloc (.cells #[.int .i64 0] 31)) (.cells #[.bool cp, lk, .int .i64 0] 58)
  rw [siz0] at this
  exact this
set_option maxHeartbeats 1000000 in
theorem expand_ok (s : List UInt8) (cp : Bool) (A : List UInt8) (fn : Fn) (f : Array Value) (B : Nat) (St : Nat → World → Prop) (w : World) (E : Env cp A (w.heap.size + 1) B St) (hB : B ≤ w.heap.size) (hk : okS s = true) (hl : s.length ≤ 1000) (hs : St 0 (exW w cp (.func fn f #[]))) :
    Calls Tryd.prog 14 #[.string (bs s), .bool cp, .func fn f #[]] w fun e w' => e = .returned (.tuple #[.string (bs (exF cp A s).1), .int .i64 0]) ∧ St (exF cp A s).2 w' ∧ Fr B w w' := by
  have hq := eq_func fn f #[]
  have HV := Lib.hid (fun W => valid_any (bs s) W)
  rw [bs_list, hk] at HV
  have HT := Lib.hid (text_any E s.length s 0 (exW w cp (.func fn f #[])) rfl hs (by omega))
  unfold TxP at HT
  rw [Nat.zero_add] at HT
  have HBL := Lib.hid (exW_bel w cp (.func fn f #[]))
  have HER := Lib.hid (exW_err w cp (.func fn f #[]))
  have hsz : (exW w cp (.func fn f #[])).heap.size = w.heap.size + 2 := by unfold exW; rw [siz0, siz0]
  have HSZ := Lib.hid hsz
  have HB := Lib.hid hB
  have hmf : ∀ (fn : Fn) (first cap : Array Value) (w : World), (Instr.makeFunc fn first cap).run Tryd.prog w = .ok (.func fn first cap) w := fun _ _ _ _ => rfl
  obtain ⟨o, ho⟩ : ∃ o, o = (exF cp A s).1 := ⟨_, rfl⟩
  obtain ⟨q, hqq⟩ : ∃ q, q = (exF cp A s).2 := ⟨_, rfl⟩
  rw [← ho, ← hqq] at HT ⊢
  clear hk hl hs hsz hB ho hqq
  go_enter_defers Tryd.func14, Tryd.ntmps14
  go_wp2_with fail
  refine (HV.out _).mono ?_
  rintro e w1 ⟨rfl, rfl⟩
  go_wp2_with fail
  refine HT.out.mono ?_
  rintro e w2 ⟨rfl, hst, hfr⟩
  have he2 : w2.heap[w.heap.size]? = some (.cells #[.int .i64 0] 31 (0, 0)) := hfr.hard _ _ HER.out (not_soft (by decide) (by decide) (by decide))
  have HE2 := Lib.hid he2
  have hc : w2.cell? ⟨w.heap.size, 0, none⟩ = some (.int .i64 0) := by simp [World.cell?, he2]
  have hf : w2.frozen? ⟨w.heap.size, 0, none⟩ = false := by simp [World.frozen?, he2]
  have HST := Lib.hid hst
  have HFR := Lib.hid hfr
  clear hst hfr he2
  go_wp2_with fail
  have hc3 : (w2.setCell ⟨w.heap.size, 0, none⟩ (.int .i64 0)).cell? ⟨w.heap.size, 0, none⟩ = some (.int .i64 0) := World.cell?_setCell_same _ _ _ hc
  refine leaves_cons (f := 30) (args := #[.pointer (some ⟨w.heap.size, 0, none⟩)]) (by simp) (by simp [go_sem]) ?_
  refine (catch_idle _ _).mono ?_
  rintro e u' w'' ⟨rfl, rfl, rfl⟩
  refine ⟨.tuple #[.string (bs o), .int .i64 0], ?_, rfl, ?_, ?_⟩
  · simp [results, Tryd.results14, go_sem, hc3]
  · refine E.keep HST.out ?_
    intro k ob hk hso
    rw [Below.heap_setCell _ _ _ _ ?_]
    · exact hk
    · intro e
      have : k = w.heap.size := by first | exact e | exact e.symm
      subst this
      rw [HE2.out] at hk
      cases hk
      exact not_soft (by decide) (by decide) (by decide) hso
  · have h1 : Fr B w w2 := ((Fr.of HBL.out HB.out)).trans HFR.out
    refine h1.low ?_ HB.out
    exact ((Below.refl w.heap.size w2)).setCell (p := ⟨w.heap.size, 0, none⟩) (Nat.le_refl _) _
theorem fr_below {w w' : World} (h : Fr w.heap.size w w') : Below w.heap.size w w' := h.bel
theorem sane_text : exF false [51] [97, 92, 110, 120, 98] = ([97, 51, 98], 1) := by decide +kernel
theorem sane_any (w : World) : Calls Tryd.prog 6 #[] w fun e w' => e = .returned (.bool true) ∧ Below w.heap.size w w' := by
  have HE := Lib.hid (expand_ok [97, 92, 110, 120, 98] false [51] (.func 16) #[] w.heap.size (StF false w.heap.size (w.heap.size + 1)) w (env_F _ _ _) (Nat.le_refl _) (by decide +kernel) (by decide) (exW_xp w _ _ _ (Nat.le_refl _)))
  rw [sane_text] at HE
  rw [show bs [97, 92, 110, 120, 98] = ⟨#[97, 92, 110, 120, 98]⟩ from rfl, show bs ([97, 51, 98], 1).1 = ⟨#[97, 51, 98]⟩ from rfl] at HE
  go_enter Tryd.func6, Tryd.ntmps6
  go_wp2_with fail
  refine HE.out.mono ?_
  rintro e w2 ⟨rfl, _, hb⟩
  have HB := Lib.hid (fr_below hb)
  clear hb
  go_wp2_with fail
  go_ret
  exact ⟨rfl, HB.out⟩
end Go.Proofs.YtoggjiblhcbmjaaDoor
