/- The code's book in memory; names; a new book; a register that is looked up. -/
import Derived.Test.YtedbdpklliaoaaaGreatDoorBk
import Derived.Test.YtedbdpklliaoaaaGreatDoorV1
import Derived.Test.YtedbdpklliaoaaaGreatDoorSane
namespace Go.Proofs.YtedbdpklliaoaaaGreatDoor
open Go.RowKit Go.Shelf Go.Maps
set_option maxRecDepth 100000
/-- Of the blocks that were there, those of S alone may have turned. -/
structure Kept (S : Nat → Prop) (w w' : World) : Prop where
  os : w'.os = w.os
  tape : w'.tape = w.tape
  output : w'.output = w.output
  size : w.heap.size ≤ w'.heap.size
  block : ∀ k, k < w.heap.size → ¬ S k → w'.heap[k]? = w.heap[k]?
theorem Kept.refl (S : Nat → Prop) (w : World) : Kept S w w := ⟨rfl, rfl, rfl, Nat.le_refl _, fun _ _ _ => rfl⟩
theorem Kept.trans {S : Nat → Prop} {u v w : World} (h : Kept S u v) (k : Kept S v w) : Kept S u w :=
  ⟨k.os.trans h.os, k.tape.trans h.tape, k.output.trans h.output, Nat.le_trans h.size k.size, fun i hi hs => (k.block i (Nat.lt_of_lt_of_le hi h.size) hs).trans (h.block i hi hs)⟩
theorem Kept.of {S : Nat → Prop} {w w' : World} (h : Below w.heap.size w w') : Kept S w w' := ⟨h.os, h.tape, h.output, h.size, fun k hk _ => h.block k hk⟩
theorem Kept.to {S : Nat → Prop} {w w' : World} {B : Nat} (h : Kept S w w') (hB : B ≤ w.heap.size) (hS : ∀ k, S k → B ≤ k) : Below B w w' :=
  ⟨h.os, h.tape, h.output, h.size, fun k hk => h.block k (by omega) (fun hs => by have := hS k hs; omega)⟩
theorem Kept.mono {S T : Nat → Prop} {w w' : World} (h : Kept S w w') (hT : ∀ k, S k → T k) : Kept T w w' := ⟨h.os, h.tape, h.output, h.size, fun k hk hs => h.block k hk fun c => hs (hT k c)⟩
theorem Kept.grown {b : Nat} {w w' : World} (h : w.grownBy w' (some b)) : Kept (· = b) w w' :=
  ⟨h.os, h.tape, h.output, h.size, fun k hk hs => h.block k hk (by simpa using hs)⟩
theorem Kept.below {S : Nat → Prop} {u w w' : World} (h : Kept S u w) (k : Below w.heap.size w w') : Kept S u w' := h.trans (.of k)
theorem TB.kept {S : Nat → Prop} {w w' : World} (h : TB w) {B : Nat} (k : Below B w w') (hB : 0 < B) (hB2 : 5 < B) : TB w' := by
  obtain ⟨t, fr, hh⟩ := h.num
  refine ⟨⟨t, fr, (k.block _ hB).trans hh⟩, ?_⟩
  have h2 := h.p10
  unfold Lib.TabIs World.var? at h2 ⊢
  rw [gP10] at h2 ⊢
  simp only [Option.bind_some] at h2 ⊢
  rw [k.block _ hB2]; exact h2
/-- The code's book. -/
structure BK (bb mb : Nat) (L : List Reg) (w : World) : Prop where
  cell : w.heap[bb]? = some (.cells #[.map (some mb)] 56 (0, 0))
  ne : bb ≠ mb
  asc : Asc L
  map : ∃ D : DataW Unit, w.ownsMap Tryz.prog 9 regElem mb L.length D ∧ MapIs D L
  ok : ∀ r ∈ L, regOk r
  len : L.length ≤ 500
theorem BK.lt {bb mb : Nat} {L : List Reg} {w : World} (h : BK bb mb L w) : bb < w.heap.size ∧ mb < w.heap.size := by
  obtain ⟨D, h1, _⟩ := h.map
  exact ⟨(Array.getElem?_eq_some_iff.1 h.cell).1, h1.lt⟩
theorem BK.c0 {bb mb : Nat} {L : List Reg} {w : World} (h : BK bb mb L w) : w.cell? ⟨bb, 0, none⟩ = some (.map (some mb)) := by simp [World.cell?, h.cell]
theorem ownsMap_move {b n : Nat} {D : DataW Unit} {w w' : World} (h : w.ownsMap Tryz.prog 9 regElem b n D) (k : w'.heap[b]? = w.heap[b]?) : w'.ownsMap Tryz.prog 9 regElem b n D := by
  obtain ⟨es, c, h1, h2⟩ := h
  exact ⟨es, c, k.trans h1, h2⟩
theorem BK.move {bb mb : Nat} {L : List Reg} {w w' : World} (h : BK bb mb L w) (h1 : w'.heap[bb]? = w.heap[bb]?) (h2 : w'.heap[mb]? = w.heap[mb]?) : BK bb mb L w' := by
  obtain ⟨D, h3, h4⟩ := h.map
  exact ⟨h1.trans h.cell, h.ne, h.asc, ⟨D, ownsMap_move h3 h2, h4⟩, h.ok, h.len⟩
theorem BK.kept {bb mb : Nat} {L : List Reg} {S : Nat → Prop} {w w' : World} (h : BK bb mb L w) (k : Kept S w w') (h1 : ¬ S bb) (h2 : ¬ S mb) : BK bb mb L w' :=
  h.move (k.block _ h.lt.1 h1) (k.block _ h.lt.2 h2)
theorem BK.below {bb mb : Nat} {L : List Reg} {w w' : World} (h : BK bb mb L w) (k : Below w.heap.size w w') : BK bb mb L w' :=
  h.move (k.block _ h.lt.1) (k.block _ h.lt.2)
theorem law : Keyed Tryz.prog 9 := string_keyed Tryz.underlying9
theorem zeroReg (w : World) : (zeroValue 60).run Tryz.prog w = .ok (.agg #[.int .i64 0, .int .i64 0, .string ⟨#[]⟩]) w := by kernel_rfl
theorem info_tight {b n : Nat} {D : DataW Unit} {w : World} (h : w.ownsMap Tryz.prog 9 regElem b n D) : w.ownsMap Tryz.prog 9 regElem b (Maps.size D) D := by
  obtain ⟨es, c, h1, h2, h3, rfl⟩ := h
  refine ⟨es, c, h1, h2, ?_, rfl⟩
  simp [Maps.size, length_sorted]
/- Names. -/
def VnR (s : ByteArray) (w : World) (b k : Nat) (i v : Value) (wr : World) : Prop :=
  ∃ j, k + j = s.size ∧ i = .int .i64 j ∧ (s.data.toList.take j).all okB = true ∧ RowB b s.data.toList wr ∧ Below w.heap.size w wr
theorem okNm_eq (s : ByteArray) : okNm s.data.toList = (decide (1 ≤ s.size) && decide (s.size ≤ 20) && s.data.toList.all okB) := by
  unfold okNm; rw [show s.data.toList.length = s.size by simp]
set_option maxHeartbeats 1000000 in
theorem validName_any (s : ByteArray) (w : World) : Calls Tryz.prog 44 #[.string s] w fun e w' => e = .returned (.bool (okNm s.data.toList)) ∧ Below w.heap.size w w' := by
  have HE := Lib.hid (okNm_eq s)
  by_cases h1 : s.size < 1
  · have d1 : decide ((s.size : Int) < 1) = true := decide_eq_true (by omega)
    have HX := Lib.hid (show (decide (1 ≤ s.size) && decide (s.size ≤ 20) && s.data.toList.all okB) = false by rw [decide_eq_false (by omega)]; rfl)
    clear h1
    go_enter Tryz.func44, Tryz.ntmps44
    go_wp2_with fail
    go_ret
    rw [HE.out, HX.out]
    exact ⟨rfl, Below.refl _ _⟩
  have d1 : decide ((s.size : Int) < 1) = false := decide_eq_false (by omega)
  by_cases h2 : 20 < s.size
  · have d2 : decide ((20 : Int) < (s.size : Int)) = true := decide_eq_true (by omega)
    have HX := Lib.hid (show (decide (1 ≤ s.size) && decide (s.size ≤ 20) && s.data.toList.all okB) = false by rw [decide_eq_false (show ¬ s.size ≤ 20 by omega)]; simp)
    clear h1 h2
    go_enter Tryz.func44, Tryz.ntmps44
    go_wp2_with fail
    go_ret
    rw [HE.out, HX.out]
    exact ⟨rfl, Below.refl _ _⟩
  have d2 : decide ((20 : Int) < (s.size : Int)) = false := decide_eq_false (by omega)
  obtain ⟨cap, W1, hconv, hrow, hb1, hz1⟩ := bytes_conv s w
  have hsl : s.data.toList.length = s.size := by simp
  have hs20 : s.size ≤ 20 := by omega
  have HX := Lib.hid (show (decide (1 ≤ s.size) && decide (s.size ≤ 20) && s.data.toList.all okB) = s.data.toList.all okB by rw [decide_eq_true (show 1 ≤ s.size by omega), decide_eq_true hs20]; simp)
  have HST : Hid (VnR s w w.heap.size s.size (.int .i64 0) (.int .u8 0) W1) := Lib.hid ⟨0, rfl, rfl, rfl, hrow, hb1⟩
  have HSL := Lib.hid hsl
  clear hrow hb1 hz1 hsl h1 h2
  go_enter Tryz.func44, Tryz.ntmps44
  go_wp2_with fail
  go_loopg [16, 4] s.size (fun k i v wr => VnR s w w.heap.size k i v wr)
  case atStart => exact HST.out
  case round =>
    obtain ⟨j, hk, rfl, ha, hrow, hb⟩ := hrel
    have HK := Lib.hid hk
    have HA := Lib.hid ha
    have HROW := Lib.hid hrow
    have HB := Lib.hid hb
    by_cases hj : j < s.size
    · have dj : decide (j < s.size) = true := decide_eq_true hj
      have hjl : j < s.data.toList.length := by rw [HSL.out]; exact hj
      have hc := hrow.cell j hjl
      have HT := Lib.hid (show (s.data.toList.take (j + 1)).all okB = okB s.data.toList[j] by
        rw [List.take_succ_eq_append_getElem hjl, List.all_append, ha]; simp)
      have HALL : Hid (okB s.data.toList[j] = false → s.data.toList.all okB = false) := Lib.hid fun hd => by
        cases hq : s.data.toList.all okB with
        | false => rfl
        | true =>
          have := List.all_eq_true.1 hq _ (List.getElem_mem hjl)
          rw [hd] at this; cases this
      obtain ⟨c, hcc⟩ : ∃ c, c = s.data.toList[j] := ⟨_, rfl⟩
      rw [← hcc] at hc HT HALL
      clear hk ha hb hrow hconv hcc
      by_cases c1 : c.toNat < 33
      · have e1 : decide ((c.toNat : Int) < 33) = true := decide_eq_true (by omega)
        have HQ := Lib.hid (HALL.out (by unfold okB; rw [decide_eq_false (by omega)]; rfl))
        clear c1
        go_wp2_with fail
        go_ret
        rw [HE.out, HX.out, HQ.out]
        exact ⟨rfl, HB.out⟩
      have e1 : decide ((c.toNat : Int) < 33) = false := decide_eq_false (by omega)
      by_cases c2 : 126 < c.toNat
      · have e2 : decide ((126 : Int) < (c.toNat : Int)) = true := decide_eq_true (by omega)
        have HQ := Lib.hid (HALL.out (by unfold okB; rw [decide_eq_false (show ¬ c.toNat ≤ 126 by omega)]; simp))
        clear c1 c2
        go_wp2_with fail
        go_ret
        rw [HE.out, HX.out, HQ.out]
        exact ⟨rfl, HB.out⟩
      have e2 : decide ((126 : Int) < (c.toNat : Int)) = false := decide_eq_false (by omega)
      by_cases c3 : c = 93
      · have e3 : ((c.toNat : Int) == 93) = true := by rw [c3]; rfl
        have HQ := Lib.hid (HALL.out (by unfold okB; rw [c3]; rfl))
        clear c1 c2 c3
        go_wp2_with fail
        go_ret
        rw [HE.out, HX.out, HQ.out]
        exact ⟨rfl, HB.out⟩
      have e3 : ((c.toNat : Int) == 93) = false := by
        rw [beq_eq_false_iff_ne]; intro h; exact c3 (UInt8.toNat_inj.1 (by show c.toNat = 93; omega))
      have HQ : Hid (okB c = true) := Lib.hid (by
        unfold okB
        rw [decide_eq_true (by omega), decide_eq_true (by omega), show (c == 93) = false by simpa using c3]; rfl)
      clear c1 c2 c3
      go_wp2_with fail
      go_roundg (gk - 1)
      case measure => have := HK.out; omega
      case rel =>
        have := HK.out
        exact ⟨j + 1, by omega, by go_num, by rw [HT.out]; exact HQ.out, HROW.out, HB.out⟩
    · have dj : decide (j < s.size) = false := decide_eq_false hj
      have HQ := Lib.hid (show s.data.toList.all okB = true by rw [← List.take_of_length_le (l := s.data.toList) (i := j) (by rw [HSL.out]; omega)]; exact ha)
      clear hk ha hb hrow hconv
      go_wp2_with fail
      go_ret
      rw [HE.out, HX.out, HQ.out]
      exact ⟨rfl, HB.out⟩
def InR (s : ByteArray) (w : World) (k : Nat) (i : Value) (wr : World) : Prop :=
  ∃ j, k + j = s.size ∧ i = .int .i64 j ∧ (s.data.toList.take j).all okB = true ∧ w = wr
set_option maxHeartbeats 1000000 in
theorem rIsName_any (s : ByteArray) (w : World) : Calls Tryz.prog 48 #[.string s] w fun e w' => e = .returned (.bool (okNm s.data.toList)) ∧ w = w' := by
  have HE := Lib.hid (okNm_eq s)
  by_cases h1 : s.size < 1
  · have d1 : decide ((s.size : Int) < 1) = true := decide_eq_true (by omega)
    have HX := Lib.hid (show (decide (1 ≤ s.size) && decide (s.size ≤ 20) && s.data.toList.all okB) = false by rw [decide_eq_false (by omega)]; rfl)
    clear h1
    go_enter Tryz.func48, Tryz.ntmps48
    go_wp2_with fail
    go_ret
    rw [HE.out, HX.out]
    exact ⟨rfl, rfl⟩
  have d1 : decide ((s.size : Int) < 1) = false := decide_eq_false (by omega)
  by_cases h2 : 20 < s.size
  · have d2 : decide ((20 : Int) < (s.size : Int)) = true := decide_eq_true (by omega)
    have HX := Lib.hid (show (decide (1 ≤ s.size) && decide (s.size ≤ 20) && s.data.toList.all okB) = false by rw [decide_eq_false (show ¬ s.size ≤ 20 by omega)]; simp)
    clear h1 h2
    go_enter Tryz.func48, Tryz.ntmps48
    go_wp2_with fail
    go_ret
    rw [HE.out, HX.out]
    exact ⟨rfl, rfl⟩
  have d2 : decide ((20 : Int) < (s.size : Int)) = false := decide_eq_false (by omega)
  have hsl : s.data.toList.length = s.size := by simp
  have hs20 : s.size ≤ 20 := by omega
  have HX := Lib.hid (show (decide (1 ≤ s.size) && decide (s.size ≤ 20) && s.data.toList.all okB) = s.data.toList.all okB by rw [decide_eq_true (show 1 ≤ s.size by omega), decide_eq_true hs20]; simp)
  have HST : Hid (InR s w s.size (.int .i64 0) w) := Lib.hid ⟨0, rfl, rfl, rfl, rfl⟩
  have HSL := Lib.hid hsl
  clear hsl h1 h2
  go_enter Tryz.func48, Tryz.ntmps48
  go_wp2_with fail
  go_loopg [3] s.size (fun k i wr => InR s w k i wr)
  case atStart => exact HST.out
  case round =>
    obtain ⟨j, hk, rfl, ha, rfl⟩ := hrel
    have HK := Lib.hid hk
    have HA := Lib.hid ha
    by_cases hj : j < s.size
    · have dj : decide (j < s.size) = true := decide_eq_true hj
      have hjl : j < s.data.toList.length := by rw [HSL.out]; exact hj
      have hc := byte_at s j hj
      have HT := Lib.hid (show (s.data.toList.take (j + 1)).all okB = okB s[j] by
        rw [List.take_succ_eq_append_getElem hjl, List.all_append, ha]; simp; rfl)
      have HALL : Hid (okB s[j] = false → s.data.toList.all okB = false) := Lib.hid fun hd => by
        cases hq : s.data.toList.all okB with
        | false => rfl
        | true =>
          have := List.all_eq_true.1 hq _ (List.mem_of_getElem? hc)
          rw [hd] at this; cases this
      clear hk ha hc
      by_cases c1 : (s[j]).toNat < 33
      · have e1 : decide (((s[j]).toNat : Int) < 33) = true := decide_eq_true (by omega)
        have HQ := Lib.hid (HALL.out (by unfold okB; rw [decide_eq_false (by omega)]; rfl))
        clear c1
        go_wp2_with fail
        go_ret
        rw [HE.out, HX.out, HQ.out]
        exact ⟨rfl, rfl⟩
      have e1 : decide (((s[j]).toNat : Int) < 33) = false := decide_eq_false (by omega)
      by_cases c2 : 126 < (s[j]).toNat
      · have e2 : decide ((126 : Int) < ((s[j]).toNat : Int)) = true := decide_eq_true (by omega)
        have HQ := Lib.hid (HALL.out (by unfold okB; rw [decide_eq_false (show ¬ (s[j]).toNat ≤ 126 by omega)]; simp))
        clear c1 c2
        go_wp2_with fail
        go_ret
        rw [HE.out, HX.out, HQ.out]
        exact ⟨rfl, rfl⟩
      have e2 : decide ((126 : Int) < ((s[j]).toNat : Int)) = false := decide_eq_false (by omega)
      by_cases c3 : s[j] = 93
      · have e3 : (((s[j]).toNat : Int) == 93) = true := by rw [c3]; rfl
        have HQ := Lib.hid (HALL.out (by unfold okB; rw [c3]; rfl))
        clear c1 c2 c3
        go_wp2_with fail
        go_ret
        rw [HE.out, HX.out, HQ.out]
        exact ⟨rfl, rfl⟩
      have e3 : (((s[j]).toNat : Int) == 93) = false := by
        rw [beq_eq_false_iff_ne]; intro h; exact c3 (UInt8.toNat_inj.1 (by show (s[j]).toNat = 93; omega))
      have HQ : Hid (okB s[j] = true) := Lib.hid (by
        unfold okB
        rw [decide_eq_true (by omega), decide_eq_true (by omega), show (s[j] == 93) = false by simpa using c3]; rfl)
      clear c1 c2 c3
      go_wp2_with fail
      go_roundg (gk - 1)
      case measure => have := HK.out; omega
      case rel =>
        have := HK.out
        exact ⟨j + 1, by omega, by go_num, by rw [HT.out]; exact HQ.out, rfl⟩
    · have dj : decide (j < s.size) = false := decide_eq_false hj
      have HQ := Lib.hid (show s.data.toList.all okB = true by rw [← List.take_of_length_le (l := s.data.toList) (i := j) (by rw [HSL.out]; omega)]; exact ha)
      clear hk ha
      go_wp2_with fail
      go_ret
      rw [HE.out, HX.out, HQ.out]
      exact ⟨rfl, rfl⟩
/- A new book. -/
theorem new_any (w : World) : Calls Tryz.prog 8 #[] w fun e w' => e = .returned (.pointer (some ⟨w.heap.size + 1, 0, none⟩)) ∧ BK (w.heap.size + 1) w.heap.size [] w' ∧ Below w.heap.size w w' := by
  have hmm := @run_makeMap Tryz.prog
  go_enter Tryz.func8, Tryz.ntmps8
  go_wp2_with fail
  go_ret
  refine ⟨rfl, ⟨?_, by omega, List.Pairwise.nil, ⟨.map [], ?_, MapIs.empty⟩, (fun r hr => by cases hr), by simp⟩, ((Below.refl _ _).alloc (Nat.le_refl _) _).alloc (by simp) _⟩
  · have := heap_alloc_new (w.alloc (.map #[] 0)) (.cells #[.map (some w.heap.size)] 56)
    simpa using this
  · exact (World.ownsMap_made w Tryz.prog 9 regElem).alloc _
end Go.Proofs.YtedbdpklliaoaaaGreatDoor
