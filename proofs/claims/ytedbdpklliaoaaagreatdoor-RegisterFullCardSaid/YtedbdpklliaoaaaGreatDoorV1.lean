/- Contracts of the specification: formats; bytes in a row of their own; great letters. -/
import Derived.Test.YtedbdpklliaoaaaGreatDoorW4
import Derived.Lib.ConvBytes
namespace Go.Proofs.YtedbdpklliaoaaaGreatDoor
open Go.RowKit Go.Shelf
set_option maxRecDepth 100000
theorem byte_at (s : ByteArray) (k : Nat) (h : k < s.size) : s.data.toList[k]? = some s[k] := by
  rw [List.getElem?_eq_getElem (by simpa using h)]; rfl
/-- A row of bytes in a block of the call's own. -/
def RowB (b : Nat) (l : List UInt8) (w : World) : Prop := ∃ C n, w.heap[b]? = some (.cells C 5 (n, n + 1)) ∧ l.length ≤ n ∧ ∀ j (h : j < l.length), C[j]? = some (.int .u8 (l[j].toNat : Int))
theorem RowB.lt {b : Nat} {l : List UInt8} {w : World} (h : RowB b l w) : b < w.heap.size := by
  obtain ⟨C, n, hb, _⟩ := h
  exact (Array.getElem?_eq_some_iff.1 hb).1
theorem RowB.cell {b : Nat} {l : List UInt8} {w : World} (h : RowB b l w) (j : Nat) (hj : j < l.length) : w.cell? ⟨b, j, none⟩ = some (.int .u8 (l[j].toNat : Int)) := by
  obtain ⟨C, n, hb, _, hc⟩ := h
  simp [World.cell?, hb, hc j hj]
theorem RowB.fz {b : Nat} {l : List UInt8} {w : World} (h : RowB b l w) (j : Nat) (hj : j < l.length) : w.frozen? ⟨b, j, none⟩ = false := by
  obtain ⟨C, n, hb, hn, hc⟩ := h
  simp [World.frozen?, hb]; omega
theorem RowB.set {b : Nat} {l : List UInt8} {w : World} (h : RowB b l w) (j : Nat) (hj : j < l.length) (c : UInt8) (x : Int) (hx : x = c.toNat) : RowB b (l.set j c) (w.setCell ⟨b, j, none⟩ (.int .u8 x)) := by
  obtain ⟨C, n, hb, hn, hc⟩ := h
  subst hx
  refine ⟨C.setIfInBounds j (.int .u8 (c.toNat : Int)), n, ?_, by simpa using hn, ?_⟩
  · simp [World.setCell, Array.getElem?_modify, hb]
  · intro i hi
    have hi' : i < l.length := by simpa using hi
    rw [Array.getElem?_setIfInBounds]
    by_cases e : j = i
    · subst e
      have hjc : j < C.size := (Array.getElem?_eq_some_iff.1 (hc j hj)).1
      simp [hjc]
    · simp [e, hc i hi']
theorem RowB.below {b B : Nat} {l : List UInt8} {w w' : World} (h : RowB b l w) (k : Below B w w') (hb : b < B) : RowB b l w' := by
  obtain ⟨C, n, h1, h2⟩ := h
  exact ⟨C, n, (k.block b hb).trans h1, h2⟩
theorem bytes_conv (s : ByteArray) (W : World) : ∃ cap W1, (convert 9 84 (.string s)).run Tryz.prog W = .ok (.slice (some ⟨W.heap.size, 0, none⟩) s.size cap) W1 ∧ RowB W.heap.size s.data.toList W1 ∧ Below W.heap.size W W1 ∧ W1.heap.size = W.heap.size + 1 := by
  refine ⟨_, _, Lib.run_convert_string_bytes W 9 84 5 s Tryz.underlying9 Tryz.underlying84 Tryz.underlying5, ?_, ?_, Lib.bytesWorld_size W 5 s⟩
  · refine ⟨_, _, Lib.bytesWorld_at_new W 5 s, ?_, ?_⟩
    · rw [show s.data.toList.length = s.data.size by simp]; simp [Lib.bytesCells]
    · intro j hj
      have hj' : j < s.data.size := by simpa using hj
      have hj2 : j < (s.data.map fun b => Value.int .u8 (b.toNat : Int)).size := by simpa using hj'
      unfold Lib.bytesCells
      rw [Array.getElem?_append_left hj2]
      simp only [Array.getElem?_map, Array.getElem?_eq_getElem hj', Option.map_some, Array.getElem_toList]
  · exact ⟨rfl, by simp [Lib.bytesWorld, World.freeze, World.alloc, World.drew, -World.alloc_eq, -World.drew_eq], by simp [Lib.bytesWorld, World.freeze, World.alloc, World.drew, -World.alloc_eq, -World.drew_eq], by rw [Lib.bytesWorld_size]; omega, fun k hk => Lib.bytesWorld_at_old W 5 s k hk⟩
theorem conv_back (w : World) (b n cap : Nat) (l : List UInt8) (hl : l.length = n) (h : RowB b l w) : (convert 84 9 (.slice (some ⟨b, 0, none⟩) n cap)).run Tryz.prog w = .ok (.string ⟨l.toArray⟩) w := by
  subst hl
  refine run_convert_bytes_back (P := Tryz.prog) w 84 9 5 ⟨b, 0, none⟩ cap l Tryz.underlying84 Tryz.underlying5 Tryz.underlying9 ?_
  intro j hj
  have := h.cell j hj
  by_cases e : j = 0
  · subst e; simpa [Addr.add] using this
  · simpa [Addr.add, e] using this
/-- The first k bytes mapped. -/
def mapK (f : UInt8 → UInt8) (k : Nat) (l : List UInt8) : List UInt8 := (l.take k).map f ++ l.drop k
theorem mapK_zero (f : UInt8 → UInt8) (l : List UInt8) : mapK f 0 l = l := rfl
theorem mapK_all (f : UInt8 → UInt8) (l : List UInt8) (k : Nat) (h : l.length ≤ k) : mapK f k l = l.map f := by
  unfold mapK; rw [List.take_of_length_le h, List.drop_eq_nil_of_le h, List.append_nil]
theorem mapK_len (f : UInt8 → UInt8) (k : Nat) (l : List UInt8) : (mapK f k l).length = l.length := by
  unfold mapK; simp; omega
theorem mapK_at (f : UInt8 → UInt8) (k : Nat) (l : List UInt8) (h : k < l.length) : (mapK f k l)[k]'(by rw [mapK_len]; exact h) = l[k] := by
  have e : (mapK f k l)[k]? = some l[k] := by
    unfold mapK
    rw [List.getElem?_append_right (by simp; omega)]
    simp; rw [show k - min k l.length = 0 by omega]; simp
  have := List.getElem?_eq_getElem (show k < (mapK f k l).length by rw [mapK_len]; exact h)
  rw [this] at e; exact Option.some.inj e
theorem mapK_succ (f : UInt8 → UInt8) (k : Nat) (l : List UInt8) (h : k < l.length) : mapK f (k + 1) l = (mapK f k l).set k (f l[k]) := by
  unfold mapK
  rw [List.take_succ_eq_append_getElem h, List.map_append, List.set_append_right _ _ (by simp; omega)]
  simp only [List.length_map, List.length_take, List.map_cons, List.map_nil]
  rw [show k - min k l.length = 0 by omega, List.drop_eq_getElem_cons h, List.set_cons_zero, List.append_assoc]; rfl
theorem mapK_same (f : UInt8 → UInt8) (k : Nat) (l : List UInt8) (h : k < l.length) (hf : f l[k] = l[k]) : mapK f (k + 1) l = mapK f k l := by
  unfold mapK
  rw [List.take_succ_eq_append_getElem h, List.map_append, List.map_cons, List.map_nil, hf, List.append_assoc, List.drop_eq_getElem_cons h]; rfl
def GrR (s : ByteArray) (w : World) (k : Nat) (i : Value) (wr : World) : Prop :=
  ∃ j, k + j = s.size ∧ i = .int .i64 j ∧ RowB w.heap.size (mapK upB j s.data.toList) wr ∧ Below w.heap.size w wr
set_option maxHeartbeats 1000000 in
theorem great_any (s : ByteArray) (hs : s.size ≤ 9223372036854775807) (w : World) : Calls Tryz.prog 91 #[.string s] w fun e w' => e = .returned (.string ⟨(s.data.toList.map upB).toArray⟩) ∧ Below w.heap.size w w' := by
  obtain ⟨cap, W1, hconv, hrow, hb1, hz1⟩ := bytes_conv s w
  have hsl : s.data.toList.length = s.size := by simp
  have HST : Hid (GrR s w s.size (.int .i64 0) W1) := Lib.hid ⟨0, rfl, rfl, by rw [mapK_zero]; exact hrow, hb1⟩
  have HSL := Lib.hid hsl
  have HS := Lib.hid hs
  clear hrow hb1 hz1 hsl hs
  go_enter Tryz.func91, Tryz.ntmps91
  go_wp2_with fail
  go_loopg [4] s.size (fun k i wr => GrR s w k i wr)
  case atStart => exact HST.out
  case round =>
    obtain ⟨j, hk, rfl, hrow, hb⟩ := hrel
    have HK := Lib.hid hk
    have HB := Lib.hid hb
    have HROW := Lib.hid hrow
    by_cases hj : j < s.size
    · have dj : decide (j < s.size) = true := decide_eq_true hj
      have hjl : j < s.data.toList.length := by rw [HSL.out]; exact hj
      have hjm : j < (mapK upB j s.data.toList).length := by rw [mapK_len]; exact hjl
      have hc := hrow.cell j hjm
      have hf := hrow.fz j hjm
      rw [mapK_at _ _ _ hjl] at hc
      have hs9 := HS.out
      have HSUC := Lib.hid (mapK_succ upB j s.data.toList hjl)
      have HSAM := Lib.hid (mapK_same upB j s.data.toList hjl)
      have HJM := Lib.hid hjm
      obtain ⟨c, hcc⟩ : ∃ c, c = s.data.toList[j] := ⟨_, rfl⟩
      rw [← hcc] at hc HSUC HSAM
      clear hcc hk hb hrow hconv hjm hjl
      by_cases h1 : 97 ≤ c.toNat
      · have d1 : decide ((97 : Int) ≤ (c.toNat : Int)) = true := decide_eq_true (by omega)
        by_cases h2 : c.toNat ≤ 122
        · have d2 : decide ((c.toNat : Int) ≤ 122) = true := decide_eq_true (by omega)
          have HX : Hid ((c.toNat : Int) - 32 = ((upB c).toNat : Int)) := Lib.hid (by
            unfold upB; rw [if_pos ⟨h1, h2⟩, UInt8.toNat_sub_of_le _ _ (by rw [UInt8.le_iff_toNat_le]; simp; omega)]; simp; omega)
          go_wp2_with fail
          go_roundg (gk - 1)
          case measure => have := HK.out; omega
          case rel =>
            have := HK.out
            refine ⟨j + 1, by omega, by go_num, ?_, HB.out.setCell (by simp) _⟩
            rw [HSUC.out]
            exact HROW.out.set j HJM.out _ _ HX.out
        · have d2 : decide ((c.toNat : Int) ≤ 122) = false := decide_eq_false (by omega)
          have HX := Lib.hid (HSAM.out (by unfold upB; rw [if_neg (by omega)]))
          clear h1 h2
          go_wp2_with fail
          go_roundg (gk - 1)
          case measure => have := HK.out; omega
          case rel =>
            have := HK.out
            refine ⟨j + 1, by omega, by go_num, ?_, HB.out⟩
            rw [HX.out]
            exact HROW.out
      · have d1 : decide ((97 : Int) ≤ (c.toNat : Int)) = false := decide_eq_false (by omega)
        have HX := Lib.hid (HSAM.out (by unfold upB; rw [if_neg (by omega)]))
        clear h1
        go_wp2_with fail
        go_roundg (gk - 1)
        case measure => have := HK.out; omega
        case rel =>
          have := HK.out
          refine ⟨j + 1, by omega, by go_num, ?_, HB.out⟩
          rw [HX.out]
          exact HROW.out
    · have dj : decide (j < s.size) = false := decide_eq_false hj
      have hjs : j = s.size := by have := HK.out; omega
      have hfin : mapK upB j s.data.toList = s.data.toList.map upB := mapK_all _ _ _ (by rw [HSL.out]; omega)
      have hback := conv_back wr w.heap.size s.size cap (s.data.toList.map upB) (by rw [List.length_map, HSL.out]) (by rw [← hfin]; exact hrow)
      clear hk hb hrow hconv hfin hjs
      go_wp2_with fail
      go_ret
      exact ⟨rfl, HB.out⟩
end Go.Proofs.YtedbdpklliaoaaaGreatDoor
