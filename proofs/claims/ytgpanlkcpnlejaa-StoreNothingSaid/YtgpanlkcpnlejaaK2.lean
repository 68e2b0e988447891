/- Bytes in a row; what a call leaves; names. -/
import Derived.Test.YtgpanlkcpnlejaaProg
import Derived.Test.YtgpanlkcpnlejaaK1
import Derived.WalkKit
import Derived.WalkLawsBesides
import Derived.WalkSpells
import Derived.IntWalk
import Derived.Deep.LoopGhost
import Derived.Laws.IdiomStrings
import Derived.Laws.Rows
import Derived.Laws.AppendOwn
import Derived.Lib.Hide
import Derived.Lib.ConvBytes
import Derived.LoopTactic
import Derived.Deep.QuietTactic
import Derived.BigQuiet
import Derived.StillTailTactics
import Derived.Deep.RegionWith
import Derived.Deep.DeepCutAuto
import Derived.Outline
namespace Go.Proofs.Ytgpanlkcpnlejaa
open Go.RowKit Go.Maps
set_option maxRecDepth 100000
theorem byte_at (s : ByteArray) (k : Nat) (h : k < s.size) : s.data.toList[k]? = some s[k] := by
  rw [List.getElem?_eq_getElem (by simpa using h)]; rfl
/-- A row of bytes in a block of the call's own. -/
def RowB (b : Nat) (l : List UInt8) (w : World) : Prop := ∃ C n, w.heap[b]? = some (.cells C 5 (n, n + 1)) ∧ l.length ≤ n ∧ ∀ j (h : j < l.length), C[j]? = some (.int .u8 (l[j].toNat : Int))
theorem RowB.lt {b : Nat} {l : List UInt8} {w : World} (h : RowB b l w) : b < w.heap.size := by
  obtain ⟨C, n, hb, _⟩ := h
  exact (Array.getElem?_eq_some_iff.1 hb).1
theorem RowB.cell {b : Nat} {l : List UInt8} {w : World} (h : RowB b l w) (j : Nat) (hj : j < l.length) : w.cell? ⟨b, j, none⟩ = some (.int .u8 (l[j].toNat : Int)) := by
  obtain ⟨C, n, hb, _, hc⟩ := h
  simp [World.cell?, hb, hc j hj]
theorem RowB.fz {b : Nat} {l : List UInt8} {w : World} (h : RowB b l w) (j : Nat) (hj : j < l.length) : w.frozen? ⟨b, j, none⟩ = false := by
  obtain ⟨C, n, hb, hn, hc⟩ := h
  simp [World.frozen?, hb]; omega
theorem RowB.set {b : Nat} {l : List UInt8} {w : World} (h : RowB b l w) (j : Nat) (hj : j < l.length) (c : UInt8) (x : Int) (hx : x = c.toNat) : RowB b (l.set j c) (w.setCell ⟨b, j, none⟩ (.int .u8 x)) := by
  obtain ⟨C, n, hb, hn, hc⟩ := h
  subst hx
  refine ⟨C.setIfInBounds j (.int .u8 (c.toNat : Int)), n, ?_, by simpa using hn, ?_⟩
  · simp [World.setCell, Array.getElem?_modify, hb]
  · intro i hi
    have hi' : i < l.length := by simpa using hi
    rw [Array.getElem?_setIfInBounds]
    by_cases e : j = i
    · subst e
      have hjc : j < C.size := (Array.getElem?_eq_some_iff.1 (hc j hj)).1
      simp [hjc]
    · simp [e, hc i hi']
theorem RowB.below {b B : Nat} {l : List UInt8} {w w' : World} (h : RowB b l w) (k : Below B w w') (hb : b < B) : RowB b l w' := by
  obtain ⟨C, n, h1, h2⟩ := h
  exact ⟨C, n, (k.block b hb).trans h1, h2⟩
theorem bytes_conv (s : ByteArray) (W : World) : ∃ cap W1, (convert 9 56 (.string s)).run Try.prog W = .ok (.slice (some ⟨W.heap.size, 0, none⟩) s.size cap) W1 ∧ RowB W.heap.size s.data.toList W1 ∧ Below W.heap.size W W1 ∧ W1.heap.size = W.heap.size + 1 := by
  refine ⟨_, _, Lib.run_convert_string_bytes W 9 56 5 s Try.underlying9 Try.underlying56 Try.underlying5, ?_, ?_, Lib.bytesWorld_size W 5 s⟩
  · refine ⟨_, _, Lib.bytesWorld_at_new W 5 s, ?_, ?_⟩
    · rw [show s.data.toList.length = s.data.size by simp]; simp [Lib.bytesCells]
    · intro j hj
      have hj' : j < s.data.size := by simpa using hj
      have hj2 : j < (s.data.map fun b => Value.int .u8 (b.toNat : Int)).size := by simpa using hj'
      unfold Lib.bytesCells
      rw [Array.getElem?_append_left hj2]
      simp only [Array.getElem?_map, Array.getElem?_eq_getElem hj', Option.map_some, Array.getElem_toList]
  · exact ⟨rfl, by simp [Lib.bytesWorld, World.freeze, World.alloc, World.drew, -World.alloc_eq, -World.drew_eq], by simp [Lib.bytesWorld, World.freeze, World.alloc, World.drew, -World.alloc_eq, -World.drew_eq], by rw [Lib.bytesWorld_size]; omega, fun k hk => Lib.bytesWorld_at_old W 5 s k hk⟩
/-- Of the blocks that were there, those of S alone may have turned. -/
structure Kept (S : Nat → Prop) (w w' : World) : Prop where
  os : w'.os = w.os
  tape : w'.tape = w.tape
  output : w'.output = w.output
  size : w.heap.size ≤ w'.heap.size
  block : ∀ k, k < w.heap.size → ¬ S k → w'.heap[k]? = w.heap[k]?
theorem Kept.refl (S : Nat → Prop) (w : World) : Kept S w w := ⟨rfl, rfl, rfl, Nat.le_refl _, fun _ _ _ => rfl⟩
theorem Kept.trans {S : Nat → Prop} {u v w : World} (h : Kept S u v) (k : Kept S v w) : Kept S u w :=
  ⟨k.os.trans h.os, k.tape.trans h.tape, k.output.trans h.output, Nat.le_trans h.size k.size, fun i hi hs => (k.block i (Nat.lt_of_lt_of_le hi h.size) hs).trans (h.block i hi hs)⟩
theorem Kept.of {S : Nat → Prop} {w w' : World} (h : Below w.heap.size w w') : Kept S w w' := ⟨h.os, h.tape, h.output, h.size, fun k hk _ => h.block k hk⟩
theorem Kept.to {S : Nat → Prop} {w w' : World} {B : Nat} (h : Kept S w w') (hB : B ≤ w.heap.size) (hS : ∀ k, S k → B ≤ k) : Below B w w' :=
  ⟨h.os, h.tape, h.output, h.size, fun k hk => h.block k (by omega) (fun hs => by have := hS k hs; omega)⟩
theorem Kept.mono {S T : Nat → Prop} {w w' : World} (h : Kept S w w') (hT : ∀ k, S k → T k) : Kept T w w' := ⟨h.os, h.tape, h.output, h.size, fun k hk hs => h.block k hk fun c => hs (hT k c)⟩
theorem Kept.grown {b : Nat} {w w' : World} (h : w.grownBy w' (some b)) : Kept (· = b) w w' :=
  ⟨h.os, h.tape, h.output, h.size, fun k hk hs => h.block k hk (by simpa using hs)⟩
theorem Kept.below {S : Nat → Prop} {u w w' : World} (h : Kept S u w) (k : Below w.heap.size w w') : Kept S u w' := h.trans (.of k)
/- Names. -/
def VnR (s : ByteArray) (w : World) (b k : Nat) (i v : Value) (wr : World) : Prop :=
  ∃ j, k + j = s.size ∧ i = .int .i64 j ∧ (s.data.toList.take j).all okB = true ∧ RowB b s.data.toList wr ∧ Below w.heap.size w wr
theorem okNm_eq (s : ByteArray) : okNm s.data.toList = (decide (1 ≤ s.size) && decide (s.size ≤ 20) && s.data.toList.all okB) := by
  unfold okNm; rw [show s.data.toList.length = s.size by simp]
set_option maxHeartbeats 1000000 in
theorem validName_any (s : ByteArray) (w : World) : Calls Try.prog 38 #[.string s] w fun e w' => e = .returned (.bool (okNm s.data.toList)) ∧ Below w.heap.size w w' := by
  have HE := Lib.hid (okNm_eq s)
  by_cases h1 : s.size < 1
  · have d1 : decide ((s.size : Int) < 1) = true := decide_eq_true (by omega)
    have HX := Lib.hid (show (decide (1 ≤ s.size) && decide (s.size ≤ 20) && s.data.toList.all okB) = false by rw [decide_eq_false (by omega)]; rfl)
    clear h1
    go_enter Try.func38, Try.ntmps38
    go_wp2_with fail
    go_ret
    rw [HE.out, HX.out]
    exact ⟨rfl, Below.refl _ _⟩
  have d1 : decide ((s.size : Int) < 1) = false := decide_eq_false (by omega)
  by_cases h2 : 20 < s.size
  · have d2 : decide ((20 : Int) < (s.size : Int)) = true := decide_eq_true (by omega)
    have HX := Lib.hid (show (decide (1 ≤ s.size) && decide (s.size ≤ 20) && s.data.toList.all okB) = false by rw [decide_eq_false (show ¬ s.size ≤ 20 by omega)]; simp)
    clear h1 h2
    go_enter Try.func38, Try.ntmps38
    go_wp2_with fail
    go_ret
    rw [HE.out, HX.out]
    exact ⟨rfl, Below.refl _ _⟩
  have d2 : decide ((20 : Int) < (s.size : Int)) = false := decide_eq_false (by omega)
  obtain ⟨cap, W1, hconv, hrow, hb1, hz1⟩ := bytes_conv s w
  have hsl : s.data.toList.length = s.size := by simp
  have hs20 : s.size ≤ 20 := by omega
  have HX := Lib.hid (show (decide (1 ≤ s.size) && decide (s.size ≤ 20) && s.data.toList.all okB) = s.data.toList.all okB by rw [decide_eq_true (show 1 ≤ s.size by omega), decide_eq_true hs20]; simp)
  have HST : Hid (VnR s w w.heap.size s.size (.int .i64 0) (.int .u8 0) W1) := Lib.hid ⟨0, rfl, rfl, rfl, hrow, hb1⟩
  have HSL := Lib.hid hsl
  clear hrow hb1 hz1 hsl h1 h2
  go_enter Try.func38, Try.ntmps38
  go_wp2_with fail
  go_loopg [16, 4] s.size (fun k i v wr => VnR s w w.heap.size k i v wr)
  case atStart => exact HST.out
  case round =>
    obtain ⟨j, hk, rfl, ha, hrow, hb⟩ := hrel
    have HK := Lib.hid hk
    have HA := Lib.hid ha
    have HROW := Lib.hid hrow
    have HB := Lib.hid hb
    by_cases hj : j < s.size
    · have dj : decide (j < s.size) = true := decide_eq_true hj
      have hjl : j < s.data.toList.length := by rw [HSL.out]; exact hj
      have hc := hrow.cell j hjl
      have HT := Lib.hid (show (s.data.toList.take (j + 1)).all okB = okB s.data.toList[j] by
        rw [List.take_succ_eq_append_getElem hjl, List.all_append, ha]; simp)
      have HALL : Hid (okB s.data.toList[j] = false → s.data.toList.all okB = false) := Lib.hid fun hd => by
        cases hq : s.data.toList.all okB with
        | false => rfl
        | true =>
          have := List.all_eq_true.1 hq _ (List.getElem_mem hjl)
          rw [hd] at this; cases this
      obtain ⟨c, hcc⟩ : ∃ c, c = s.data.toList[j] := ⟨_, rfl⟩
      rw [← hcc] at hc HT HALL
      clear hk ha hb hrow hconv hcc
      by_cases c1 : c.toNat < 33
      · have e1 : decide ((c.toNat : Int) < 33) = true := decide_eq_true (by omega)
        have HQ := Lib.hid (HALL.out (by unfold okB; rw [decide_eq_false (by omega)]; rfl))
        clear c1
        go_wp2_with fail
        go_ret
        rw [HE.out, HX.out, HQ.out]
        exact ⟨rfl, HB.out⟩
      have e1 : decide ((c.toNat : Int) < 33) = false := decide_eq_false (by omega)
      by_cases c2 : 126 < c.toNat
      · have e2 : decide ((126 : Int) < (c.toNat : Int)) = true := decide_eq_true (by omega)
        have HQ := Lib.hid (HALL.out (by unfold okB; rw [decide_eq_false (show ¬ c.toNat ≤ 126 by omega)]; simp))
        clear c1 c2
        go_wp2_with fail
        go_ret
        rw [HE.out, HX.out, HQ.out]
        exact ⟨rfl, HB.out⟩
      have e2 : decide ((126 : Int) < (c.toNat : Int)) = false := decide_eq_false (by omega)
      by_cases c3 : c = 93
      · have e3 : ((c.toNat : Int) == 93) = true := by rw [c3]; rfl
        have HQ := Lib.hid (HALL.out (by unfold okB; rw [c3]; rfl))
        clear c1 c2 c3
        go_wp2_with fail
        go_ret
        rw [HE.out, HX.out, HQ.out]
        exact ⟨rfl, HB.out⟩
      have e3 : ((c.toNat : Int) == 93) = false := by
        rw [beq_eq_false_iff_ne]; intro h; exact c3 (UInt8.toNat_inj.1 (by show c.toNat = 93; omega))
      have HQ : Hid (okB c = true) := Lib.hid (by
        unfold okB
        rw [decide_eq_true (by omega), decide_eq_true (by omega), show (c == 93) = false by simpa using c3]; rfl)
      clear c1 c2 c3
      go_wp2_with fail
      go_roundg (gk - 1)
      case measure => have := HK.out; omega
      case rel =>
        have := HK.out
        exact ⟨j + 1, by omega, by go_num, by rw [HT.out]; exact HQ.out, HROW.out, HB.out⟩
    · have dj : decide (j < s.size) = false := decide_eq_false hj
      have HQ := Lib.hid (show s.data.toList.all okB = true by rw [← List.take_of_length_le (l := s.data.toList) (i := j) (by rw [HSL.out]; omega)]; exact ha)
      clear hk ha hb hrow hconv
      go_wp2_with fail
      go_ret
      rw [HE.out, HX.out, HQ.out]
      exact ⟨rfl, HB.out⟩
end Go.Proofs.Ytgpanlkcpnlejaa
