/- Contracts of the specification: formats, roman numbers, Write. -/
import Derived.Test.YtedbdpklliaoaaaGreatDoorV1
import Derived.Test.YtedbdpklliaoaaaGreatDoorW5
namespace Go.Proofs.YtedbdpklliaoaaaGreatDoor
open Go.RowKit Go.Shelf
set_option maxRecDepth 100000
theorem all_take (p : UInt8 → Bool) (l : List UInt8) (k : Nat) (h : l.length ≤ k) : (l.take k).all p = l.all p := by rw [List.take_of_length_le h]
def IfR (s : ByteArray) (w : World) (k : Nat) (i : Value) (wr : World) : Prop :=
  ∃ j, k + j = s.size ∧ i = .int .i64 j ∧ (s.data.toList.take j).all isDg = true ∧ w = wr
theorem rIsForm_w (s : ByteArray) (w : World) (h : okW s.data.toList = true) : Calls Tryz.prog 52 #[.string s] w fun e w' => e = .returned (.bool true) ∧ w = w' := by
  have hc := okW_cases s h
  clear h
  rcases hc with rfl | rfl | rfl | rfl
  all_goals
    go_enter Tryz.func52, Tryz.ntmps52
    go_wp2_with fail
    go_ret
    exact ⟨rfl, rfl⟩
set_option maxHeartbeats 1000000 in
theorem rIsForm_d (s : ByteArray) (w : World) (h : okW s.data.toList = false) (hs : s.size ≤ 9223372036854775807) : Calls Tryz.prog 52 #[.string s] w fun e w' => e = .returned (.bool (isForm s.data.toList)) ∧ w = w' := by
  obtain ⟨h1, h2, h3, h4⟩ := okW_not s h
  have hsl : s.data.toList.length = s.size := by simp
  have HE := Lib.hid (show isForm s.data.toList = (decide (1 ≤ s.size) && decide (s.size ≤ 9) && s.data.toList.all isDg) by rw [isForm_eq, h, Bool.false_or, hsl])
  have HSL := Lib.hid hsl
  have HS := Lib.hid hs
  have HST : Hid (IfR s w s.size (.int .i64 0) w) := Lib.hid ⟨0, rfl, rfl, rfl, rfl⟩
  clear h hsl hs
  go_enter Tryz.func52, Tryz.ntmps52
  go_wp2_with fail
  go_loopg [3] s.size (fun k i wr => IfR s w k i wr)
  case atStart => exact HST.out
  case round =>
    obtain ⟨j, hk, rfl, ha, rfl⟩ := hrel
    have HK := Lib.hid hk
    have HA := Lib.hid ha
    clear hk ha
    have hs9 := HS.out
    by_cases hj : j < s.size
    · have dj : decide (j < s.size) = true := decide_eq_true hj
      have hb := byte_at s j hj
      have HT := Lib.hid (show (s.data.toList.take (j + 1)).all isDg = isDg s[j] by
        rw [List.take_succ_eq_append_getElem (by rw [HSL.out]; exact hj), List.all_append, HA.out]; simp; rfl)
      have HALL : Hid (isDg s[j] = false → s.data.toList.all isDg = false) := Lib.hid fun hd => by
        cases hq : s.data.toList.all isDg with
        | false => rfl
        | true =>
          have := List.all_eq_true.1 hq s[j] (List.mem_of_getElem? hb)
          rw [hd] at this; cases this
      clear hb
      by_cases c1 : 48 ≤ (s[j]).toNat
      · have d1 : decide (((s[j]).toNat : Int) < 48) = false := decide_eq_false (by omega)
        by_cases c2 : (s[j]).toNat ≤ 57
        · have d2 : decide ((57 : Int) < ((s[j]).toNat : Int)) = false := decide_eq_false (by omega)
          have HD : Hid (isDg s[j] = true) := Lib.hid (by unfold isDg; exact decide_eq_true ⟨c1, c2⟩)
          clear c1 c2
          go_wp2_with fail
          go_roundg (gk - 1)
          case measure => have := HK.out; omega
          case rel =>
            have := HK.out
            exact ⟨j + 1, by omega, by go_num, by rw [HT.out]; exact HD.out, rfl⟩
        · have d2 : decide ((57 : Int) < ((s[j]).toNat : Int)) = true := decide_eq_true (by omega)
          have HD := Lib.hid (HALL.out (by unfold isDg; exact decide_eq_false (by omega)))
          clear c1 c2
          go_wp2_with fail
          go_ret
          rw [HE.out, HD.out, Bool.and_false]
          exact ⟨rfl, rfl⟩
      · have d1 : decide (((s[j]).toNat : Int) < 48) = true := decide_eq_true (by omega)
        have HD := Lib.hid (HALL.out (by unfold isDg; exact decide_eq_false (by omega)))
        clear c1
        go_wp2_with fail
        go_ret
        rw [HE.out, HD.out, Bool.and_false]
        exact ⟨rfl, rfl⟩
    · have dj : decide (j < s.size) = false := decide_eq_false hj
      have HALL := Lib.hid (show s.data.toList.all isDg = true by rw [← all_take isDg _ j (by rw [HSL.out]; omega)]; exact HA.out)
      by_cases c1 : 1 ≤ s.size
      · by_cases c2 : s.size ≤ 9
        · have d1 : decide ((1 : Int) ≤ (s.size : Int)) = true := decide_eq_true (by omega)
          have d2 : decide ((s.size : Int) ≤ 9) = true := decide_eq_true (by omega)
          have HX := Lib.hid (show (decide (1 ≤ s.size) && decide (s.size ≤ 9) && true) = true by rw [decide_eq_true c1, decide_eq_true c2]; rfl)
          clear c1 c2
          go_wp2_with fail
          go_ret
          rw [HE.out, HALL.out, HX.out]
          exact ⟨rfl, rfl⟩
        · have d1 : decide ((1 : Int) ≤ (s.size : Int)) = true := decide_eq_true (by omega)
          have d2 : decide ((s.size : Int) ≤ 9) = false := decide_eq_false (by omega)
          have HX := Lib.hid (show (decide (1 ≤ s.size) && decide (s.size ≤ 9) && true) = false by rw [decide_eq_false c2]; simp)
          clear c1 c2
          go_wp2_with fail
          go_ret
          rw [HE.out, HALL.out, HX.out]
          exact ⟨rfl, rfl⟩
      · have d1 : decide ((1 : Int) ≤ (s.size : Int)) = false := decide_eq_false (by omega)
        have HX := Lib.hid (show (decide (1 ≤ s.size) && decide (s.size ≤ 9) && true) = false by rw [decide_eq_false c1]; rfl)
        clear c1
        go_wp2_with fail
        go_ret
        rw [HE.out, HALL.out, HX.out]
        exact ⟨rfl, rfl⟩
theorem rIsForm_any (s : ByteArray) (w : World) (hs : s.size ≤ 9223372036854775807) : Calls Tryz.prog 52 #[.string s] w fun e w' => e = .returned (.bool (isForm s.data.toList)) ∧ w = w' := by
  cases h : okW s.data.toList with
  | true =>
    rw [show isForm s.data.toList = true by rw [isForm_eq, h]; rfl]
    exact rIsForm_w s w h
  | false => exact rIsForm_d s w h hs
/- The specification's roman numbers. -/
def valA : Array Value := (nums.map fun x => Value.int .i64 x.1).toArray
def txtA : Array Value := (nums.map fun x => Value.string ⟨x.2.toArray⟩).toArray
/-- The world in which both rows are made. -/
def RrW (w : World) : World := (w.alloc (.cells valA 3)).alloc (.cells txtA 9)
def RrO (N : Nat) (w : World) (k : Nat) (n s i : Value) (wr : World) : Prop :=
  ∃ (j m : Nat) (l : List UInt8), k + j = 13 ∧ m ≤ N ∧ n = .int .i64 m ∧ s = .string ⟨l.toArray⟩ ∧ i = .int .i64 j ∧ rom N = l ++ greedy (nums.drop j) m ∧ RrW w = wr
def RrI (N : Nat) (w : World) (j : Nat) (k : Nat) (n s : Value) (wr : World) : Prop :=
  ∃ (m : Nat) (l : List UInt8), k = m ∧ m ≤ N ∧ n = .int .i64 m ∧ s = .string ⟨l.toArray⟩ ∧ rom N = l ++ greedy (nums.drop j) m ∧ RrW w = wr
theorem val_at (k : Nat) (h : k < 13) : valA[k]? = some (.int .i64 (nv k)) := by
  rcases num_cases k h with rfl | rfl | rfl | rfl | rfl | rfl | rfl | rfl | rfl | rfl | rfl | rfl | rfl <;> rfl
theorem txt_at (k : Nat) (h : k < 13) : txtA[k]? = some (.string ⟨(nt k).toArray⟩) := by
  rcases num_cases k h with rfl | rfl | rfl | rfl | rfl | rfl | rfl | rfl | rfl | rfl | rfl | rfl | rfl <;> rfl
theorem RrW_c0 (w : World) (k : Nat) (h : k < 13) : (RrW w).cell? ⟨w.heap.size, k, none⟩ = some (.int .i64 (nv k)) := by
  have e : (RrW w).heap[w.heap.size]? = some (.cells valA 3 (0, 0)) := by
    unfold RrW; rw [Below.heap_alloc _ _ _ (by simp)]; exact heap_alloc_new _ _
  simp [World.cell?, e, val_at k h]
theorem RrW_c1 (w : World) (k : Nat) (h : k < 13) : (RrW w).cell? ⟨w.heap.size + 1, k, none⟩ = some (.string ⟨(nt k).toArray⟩) := by
  have e : (RrW w).heap[w.heap.size + 1]? = some (.cells txtA 9 (0, 0)) := by
    unfold RrW
    have := heap_alloc_new (w.alloc (.cells valA 3)) (.cells txtA 9)
    simpa using this
  simp [World.cell?, e, txt_at k h]
theorem RrW_below (w : World) : Below w.heap.size w (RrW w) := ((Below.refl _ _).alloc (Nat.le_refl _) _).alloc (by simp) _
set_option maxHeartbeats 1000000 in
theorem rroman_any (N : Nat) (h2 : N ≤ 39999) (w : World) : Calls Tryz.prog 89 #[.int .i64 N] w fun e w' => e = .returned (.string ⟨(rom N).toArray⟩) ∧ Below w.heap.size w w' := by
  have HL := Lib.hid (rom_len N h2)
  have HST : Hid (RrO N w 13 (.int .i64 N) (.string ⟨#[]⟩) (.int .i64 0) (RrW w)) := Lib.hid ⟨0, N, [], rfl, Nat.le_refl _, rfl, rfl, rfl, rfl, rfl⟩
  have HB := Lib.hid (RrW_below w)
  go_enter Tryz.func89, Tryz.ntmps89
  go_wp2_with fail
  go_loopg [0, 5, 6] 13 (fun k n s i wr => RrO N w k n s i wr)
  case atStart => exact HST.out
  case round =>
    obtain ⟨j, m, l, hk, hm, rfl, rfl, rfl, hr, rfl⟩ := hrel
    have HK := Lib.hid hk
    have HR := Lib.hid hr
    clear hk hr
    by_cases hj : j < 13
    · have hji : decide ((j : Int) < 13) = true := decide_eq_true (by omega)
      obtain ⟨hdr, hv0, hv1, htl, htp⟩ := num_drop j hj
      have HD := Lib.hid hdr
      have hc0 := RrW_c0 w j hj
      have hc1 := RrW_c1 w j hj
      have hsl : (⟨(nt j).toArray⟩ : ByteArray).size ≤ 2 := by show (nt j).toArray.size ≤ 2; rw [List.size_toArray]; exact htl
      obtain ⟨tb, htb⟩ : ∃ tb : ByteArray, tb = ⟨(nt j).toArray⟩ := ⟨_, rfl⟩
      rw [← htb] at hc1 hsl
      have HTB := Lib.hid htb
      clear hdr htl htp htb
      obtain ⟨g1, rfl⟩ : ∃ g1, g1 = gk := ⟨_, rfl⟩
      go_wp2_with fail
      go_loopg [0, 5] m (fun k n s wr => RrI N w j k n s wr)
      case atStart => exact ⟨m, l, rfl, hm, rfl, rfl, HR.out, rfl⟩
      case round =>
        obtain ⟨m', l', rfl, hm', rfl, rfl, hr', rfl⟩ := hrel
        have HR' := Lib.hid hr'
        have hll : l'.length ≤ 51 := by have h1 := HL.out; rw [hr'] at h1; simp at h1; omega
        clear hr'
        by_cases hge : nv j ≤ gk
        · have dge : decide (nv j ≤ gk) = true := decide_eq_true hge
          have dge' : decide ((nv j : Int) ≤ (gk : Int)) = true := decide_eq_true (by omega)
          go_wp2_with fail
          go_roundg (gk - nv j)
          case measure => omega
          case rel =>
            refine ⟨gk - nv j, l' ++ nt j, rfl, by omega, by rw [Int.ofNat_sub hge], ?_, ?_, rfl⟩
            · rw [← bytes_app, ← HTB.out]
            · rw [HR'.out, HD.out, greedy_step _ _ _ _ hv0 hge, List.append_assoc]
        · have dge : decide (nv j ≤ gk) = false := decide_eq_false hge
          have dge' : decide ((nv j : Int) ≤ (gk : Int)) = false := decide_eq_false (by omega)
          go_wp2_with fail
          go_roundg (g1 - 1)
          case measure => have := HK.out; omega
          case rel =>
            have hk := HK.out
            refine ⟨j + 1, gk, l', by omega, by omega, rfl, rfl, by go_num, ?_, rfl⟩
            rw [HR'.out, HD.out, greedy_end _ _ _ _ (by omega)]
    · have hji : decide ((j : Int) < 13) = false := decide_eq_false (by omega)
      have hj13 : j = 13 := by have := HK.out; omega
      have HE := Lib.hid (show rom N = l by rw [HR.out, hj13]; simp [nums, greedy])
      clear hj13
      go_wp2_with fail
      go_ret
      rw [HE.out]
      exact ⟨rfl, HB.out⟩
end Go.Proofs.YtedbdpklliaoaaaGreatDoor
