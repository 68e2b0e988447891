/- What is wanted of a frame; going over the frames. -/
import Derived.RangeFuncNested
import Derived.RangeFuncBound
import Derived.RangeFuncCalls
import Derived.RangeFuncLeaves
import Derived.Shelf.Abstract
import Derived.Shelf.RegionOpen
import Derived.OwnWalkIn
import Derived.TacticsInMore
import Derived.LoopNIn
import Derived.LoopIn
import Derived.Test.YtfobbcddedcepaaDoorB0
namespace Go.Proofs.YtfobbcddedcepaaDoor
open Go.RowKit Go.Shelf
set_option maxRecDepth 100000
set_option linter.unusedSimpArgs false
set_option linter.unusedVariables false
attribute [local go_sem] Oper.semAt_some
/-- A frame as it lies there. -/
def qFile (r : RF) : Bool := r.kd == 1
def qMacro (r : RF) : Bool := r.kd == 2
def qName (r : RF) : Bool := qFile r || qMacro r
def qMore (r : RF) : Bool := decide (r.tk < r.ln)
def qStays (r : RF) : Bool := r.kd != 3 || qMore r
def Wants (f : FuncId) (q : RF → Bool) : Prop := ∀ (r : RF) (w : World), Calls Tryd.prog f #[rfA r] w fun e w' => e = .returned (.bool (q r)) ∧ Below w.heap.size w w'
theorem ret_bool {a b : Bool} (h : a = b) : Ending.returned (.bool a) = .returned (.bool b) := by rw [h]
theorem fresh_fr {b : Nat} {c0 c1 c2 c3 c4 : Value} {w : World} (h : w.heap[b]? = some (.cells #[c0, c1, c2, c3, c4] 64 (0, 0))) : (w.cell? ⟨b, 0, none⟩ = some c0 ∧ w.cell? ⟨b, 1, none⟩ = some c1 ∧ w.cell? ⟨b, 2, none⟩ = some c2 ∧ w.cell? ⟨b, 3, none⟩ = some c3 ∧ w.cell? ⟨b, 4, none⟩ = some c4) ∧ (w.frozen? ⟨b, 0, none⟩ = false ∧ w.frozen? ⟨b, 1, none⟩ = false ∧ w.frozen? ⟨b, 2, none⟩ = false ∧ w.frozen? ⟨b, 3, none⟩ = false ∧ w.frozen? ⟨b, 4, none⟩ = false) := by
  simp [World.cell?, World.frozen?, h]
theorem isFile_w : Wants 56 qFile := by
  intro r w
  have HB := Lib.hid ((Below.refl w.heap.size w).alloc (Nat.le_refl _) (.cells #[.int .i64 r.kd, .string r.nm, .slice r.lo r.ln r.lc, .slice r.ao r.an r.ac, .int .i64 r.tk] 64))
  go_enter Tryd.func56, Tryd.ntmps56
  go_wp2_with fail
  go_ret
  exact ⟨rfl, HB.out⟩
theorem isMacro_w : Wants 54 qMacro := by
  intro r w
  have HB := Lib.hid ((Below.refl w.heap.size w).alloc (Nat.le_refl _) (.cells #[.int .i64 r.kd, .string r.nm, .slice r.lo r.ln r.lc, .slice r.ao r.an r.ac, .int .i64 r.tk] 64))
  go_enter Tryd.func54, Tryd.ntmps54
  go_wp2_with fail
  go_ret
  exact ⟨rfl, HB.out⟩
theorem hasMore_w : Wants 47 qMore := by
  intro r w
  have HB := Lib.hid ((Below.refl w.heap.size w).alloc (Nat.le_refl _) (.cells #[.int .i64 r.kd, .string r.nm, .slice r.lo r.ln r.lc, .slice r.ao r.an r.ac, .int .i64 r.tk] 64))
  go_enter Tryd.func47, Tryd.ntmps47
  go_wp2_with fail
  go_ret
  exact ⟨ret_bool (by unfold qMore; simp), HB.out⟩
theorem hasName_w : Wants 65 qName := by
  intro r w
  have HB := Lib.hid ((Below.refl w.heap.size w).alloc (Nat.le_refl _) (.cells #[.int .i64 r.kd, .string r.nm, .slice r.lo r.ln r.lc, .slice r.ao r.an r.ac, .int .i64 r.tk] 64))
  have h1 := fun W => isFile_w r W
  have h2 := fun W => isMacro_w r W
  unfold rfA at h1 h2
  have H1 := Lib.hid h1
  have H2 := Lib.hid h2
  have HE := Lib.hid (show qName r = (qFile r || qMacro r) from rfl)
  generalize qFile r = a at *
  generalize qMacro r = b at *
  have hall := fresh_fr (heap_alloc_new w (.cells #[.int .i64 r.kd, .string r.nm, .slice r.lo r.ln r.lc, .slice r.ao r.an r.ac, .int .i64 r.tk] 64))
  obtain ⟨⟨c0, c1, c2, c3, c4⟩, _⟩ := hall
  clear h1 h2
  go_enter Tryd.func65, Tryd.ntmps65
  go_wp2_with fail
  refine (H1.out _).mono ?_
  rintro e w1 ⟨rfl, hb1⟩
  have HB1 := Lib.hid (HB.out.trans (hb1.mono (by simp)))
  have e1 : ∀ o v, (w.alloc (.cells #[.int .i64 r.kd, .string r.nm, .slice r.lo r.ln r.lc, .slice r.ao r.an r.ac, .int .i64 r.tk] 64)).cell? ⟨w.heap.size, o, none⟩ = some v → w1.cell? ⟨w.heap.size, o, none⟩ = some v := fun o v h => (hb1.cell (p := ⟨w.heap.size, o, none⟩) (by simp)).trans h
  have d0 := e1 _ _ c0
  have d1 := e1 _ _ c1
  have d2 := e1 _ _ c2
  have d3 := e1 _ _ c3
  have d4 := e1 _ _ c4
  clear hb1 e1
  cases a with
  | true =>
    go_wp2_with fail
    go_ret
    exact ⟨ret_bool (by rw [HE.out]; rfl), HB1.out⟩
  | false =>
    go_wp2_with fail
    refine (H2.out _).mono ?_
    rintro e w2 ⟨rfl, hb2⟩
    have HB2 := Lib.hid (HB1.out.trans (hb2.mono (by have := HB1.out.size; omega)))
    clear hb2
    go_wp2_with fail
    go_ret
    exact ⟨ret_bool (by rw [HE.out]; rfl), HB2.out⟩
theorem stays_w : Wants 68 qStays := by
  intro r w
  have HB := Lib.hid ((Below.refl w.heap.size w).alloc (Nat.le_refl _) (.cells #[.int .i64 r.kd, .string r.nm, .slice r.lo r.ln r.lc, .slice r.ao r.an r.ac, .int .i64 r.tk] 64))
  have h2 := fun W => hasMore_w r W
  unfold rfA at h2
  have H2 := Lib.hid h2
  have HE := Lib.hid (show qStays r = (r.kd != 3 || qMore r) from rfl)
  generalize qMore r = b at *
  have hall := fresh_fr (heap_alloc_new w (.cells #[.int .i64 r.kd, .string r.nm, .slice r.lo r.ln r.lc, .slice r.ao r.an r.ac, .int .i64 r.tk] 64))
  obtain ⟨⟨c0, c1, c2, c3, c4⟩, _⟩ := hall
  clear h2
  cases hk : (r.kd != 3) with
  | true =>
    have HX := Lib.hid hk
    go_enter Tryd.func68, Tryd.ntmps68
    go_wp2_with fail
    go_ret
    exact ⟨ret_bool (by rw [HE.out, HX.out]; rfl), HB.out⟩
  | false =>
    have HX := Lib.hid hk
    go_enter Tryd.func68, Tryd.ntmps68
    go_wp2_with fail
    refine (H2.out _).mono ?_
    rintro e w2 ⟨rfl, hb2⟩
    have HB2 := Lib.hid (HB.out.trans (hb2.mono (by simp)))
    clear hb2
    go_wp2_with fail
    go_ret
    exact ⟨ret_bool (by rw [HE.out, HX.out]; rfl), HB2.out⟩
/-- The frames from the topmost of n down, with their places. -/
def down (rs : List RF) : Nat → List (Nat × RF)
  | 0 => []
  | k + 1 => match rs[k]? with
    | some r => (k, r) :: down rs k
    | none => down rs k
theorem down_succ (rs : List RF) (k : Nat) (r : RF) (h : rs[k]? = some r) : down rs (k + 1) = (k, r) :: down rs k := by
  conv => lhs; unfold down
  rw [h]
theorem down_len (rs : List RF) : ∀ k, k ≤ rs.length → (down rs k).length = k
  | 0, _ => rfl
  | k + 1, h => by
    rw [down_succ rs k _ (List.getElem?_eq_getElem (show k < rs.length by omega)), List.length_cons, down_len rs k (by omega)]
def encF (x : Nat × RF) : Array Value := #[.int .i64 x.1, rfA x.2]
set_option maxHeartbeats 1000000 in
theorem iter_any (n : Nat) (hn : 1 ≤ n) (l Bn n₀ sb g c : Nat) (F : List Fr) (rs : List RF) (J Jx : List (Nat × RF) → World → Prop)
    (hY : ∀ pre x W, J pre W → pre.length < rs.length → YieldAt Fence.wide (n - 1) Tryd.prog l (encF x) W fun e W' =>
      (e = .returned (.bool true) ∧ J (pre ++ [x]) W' ∧ Below n₀ W W') ∨ (e = .returned (.bool false) ∧ Jx (pre ++ [x]) W'))
    (W : World) (hBn : W.cell? ⟨Bn, 0, none⟩ = some (BP sb)) (hBl : Bn < n₀) (hK : CK sb g c F rs W) (hl : sb < n₀ ∧ g < n₀) (h0 : J [] W) :
    CallsIn Fence.wide n Tryd.prog 77 #[.func (.yield l) #[] #[], .pointer (some ⟨Bn, 0, none⟩)] W fun e W' => (∃ v, e = .returned v) ∧
      ((∃ ys, ys = down rs rs.length ∧ J ys W') ∨ (∃ pre, pre <+: down rs rs.length ∧ Jx pre W')) := by
  refine callsIn_of_wp Tryd.func77 rfl trivial ?_ rfl
  simp only [Tryd.ntmps77, List.size_toArray, List.length_cons, List.length_nil, Nat.reduceAdd, Nat.reduceSub, Array.replicate_succ, Array.replicate_zero, List.push_toArray, List.append_toArray, List.nil_append, List.cons_append]
  have hc := hK.c0.1
  have HM := Lib.hid (made_any hK)
  have HL := Lib.hid hK.rl
  have hlen := hK.len
  gi_wp2_with ((refine ⟨trivial, ?_⟩; gi_at_call 41; refine (callsIn_wide.2 HM.out).mono ?_; rintro e w1 ⟨rfl, rfl⟩))
  gi_loopw [3] (fun p wr => ∃ (k : Nat) (pre : List (Nat × RF)), p = .int .i64 ((k : Int) - 1) ∧ k ≤ F.length ∧ down rs rs.length = pre ++ down rs k ∧ Below n₀ W wr ∧ J pre wr)
    (fun p _ => (intOf p + 1).toNat)
  case atStart =>
    exact ⟨F.length, [], rfl, Nat.le_refl _, by rw [HL.out]; rfl, Below.refl _ _, h0⟩
  case round =>
    obtain ⟨k, pre, rfl, hk, hx, hb, hJ⟩ := hrel
    cases k with
    | zero =>
      have d0 : decide ((0 : Int) ≤ ((0 : Nat) : Int) - 1) = false := by decide
      gi_wp2
      go_end0
      exact ⟨⟨_, rfl⟩, .inl ⟨pre, by rw [hx]; simp [down], hJ⟩⟩
    | succ k =>
      have hrk : rs[k]? = some (rs[k]'(by rw [HL.out]; omega)) := List.getElem?_eq_getElem (by rw [HL.out]; omega)
      obtain ⟨r, hr⟩ : ∃ r, r = rs[k]'(by rw [HL.out]; omega) := ⟨_, rfl⟩
      rw [← hr] at hrk
      have hd := down_succ rs k r hrk
      have hle : pre.length < rs.length := by
        have h1 := congrArg List.length hx
        rw [down_len rs _ (Nat.le_refl _), List.length_append, down_len rs _ (by rw [HL.out]; exact hk)] at h1
        omega
      obtain ⟨fn, tmps, assign, body, hy, hR⟩ := hY pre (k, r) wr hJ hle
      unfold encF rfA at hy
      dsimp only at hy
      obtain ⟨⟨a0, a1, a2, a3, a4⟩, _⟩ := hK.fc k r hrk
      have ec : ∀ b o v, b < n₀ → W.cell? ⟨b, o, none⟩ = some v → wr.cell? ⟨b, o, none⟩ = some v := fun b o v hlt h => (hb.cell (p := ⟨b, o, none⟩) hlt).trans h
      have c0 := ec _ _ _ hBl hBn
      have c1 := ec _ _ _ hl.1 hc
      have b0 := ec _ _ _ hl.2 a0
      have b1 := ec _ _ _ hl.2 a1
      have b2 := ec _ _ _ hl.2 a2
      have b3 := ec _ _ _ hl.2 a3
      have b4 := ec _ _ _ hl.2 a4
      have HD : Hid (down rs rs.length = pre ++ (k, r) :: down rs k) := Lib.hid (by rw [hx, hd])
      have hk1 : ((k + 1 : Nat) : Int) - 1 = (k : Int) := by omega
      have hkl : k < F.length := by omega
      have HB := Lib.hid hb
      rw [hk1]
      clear hx hd hle ec a0 a1 a2 a3 a4 hr hrk hb hk hk1
      gi_wp2
      refine hR.mono ?_
      rintro e W3 (⟨rfl, hJ3, hk3⟩ | ⟨rfl, hJx3⟩)
      · have HB3 := Lib.hid (HB.out.trans hk3)
        clear hk3
        gi_wp2
        go_roundw
        case rel => exact ⟨k, pre ++ [(k, r)], rfl, by omega, by rw [HD.out]; simp, HB3.out, hJ3⟩
        case measure => simp [intOf]
      · gi_wp2
        refine bodyPost_ret (results_none rfl _ _ _) rfl ?_
        exact ⟨⟨_, rfl⟩, .inr ⟨pre ++ [(k, r)], ⟨down rs k, by rw [HD.out]; simp⟩, hJx3⟩⟩
theorem iter_stops (n : Nat) (hn : 1 ≤ n) (Bn sb g c : Nat) (F : List Fr) (rs : List RF) (n₀ : Nat) (w : World) (hBn : w.cell? ⟨Bn, 0, none⟩ = some (BP sb)) (hBl : Bn < n₀) (hK : CK sb g c F rs w) (hl : sb < n₀ ∧ g < n₀) (hn₀ : n₀ ≤ w.heap.size) :
    SeqStopsK Fence.wide n Tryd.prog 77 #[.pointer (some ⟨Bn, 0, none⟩)] encF (Below n₀) (fun ys => ys = down rs rs.length) (fun pre => pre <+: down rs rs.length) rs.length w := fun l J Jx W hW _ _ hY h0 =>
  iter_any n hn l Bn n₀ sb g c F rs J Jx hY W ((hW.cell (p := ⟨Bn, 0, none⟩) (Nat.lt_of_lt_of_le hBl hn₀)).trans hBn) hBl (hK.below hW) hl h0
theorem fromTop_any (n : Nat) (p : Value) (w : World) (hp : ∃ a, p = .pointer a) :
    CallsIn Fence.wide n Tryd.prog 69 #[p] w fun e w' => e = .returned (.func (.func 77) #[] #[.pointer (some ⟨w.heap.size, 0, none⟩)]) ∧ w' = w.alloc (.cells #[p] 25) := by
  obtain ⟨a, rfl⟩ := hp
  refine callsIn_of_wp Tryd.func69 rfl trivial ?_ rfl
  simp only [Tryd.ntmps69, List.size_toArray, List.length_cons, List.length_nil, Nat.reduceAdd, Nat.reduceSub, Array.replicate_succ, Array.replicate_zero, List.push_toArray, List.append_toArray, List.nil_append, List.cons_append]
  gi_wp2
  go_ret
  exact ⟨rfl, rfl⟩
end Go.Proofs.YtfobbcddedcepaaDoor
