/- Contract of the specification: reading roman numbers. -/
import Derived.Test.YtgfjgcebgfaciaaDoorV3
import Derived.Test.YtgfjgcebgfaciaaDoorRom
import Derived.Deep.RegionWith
namespace Go.Proofs.YtgfjgcebgfaciaaDoor
open Go.RowKit Go.Shelf
set_option maxRecDepth 100000
def digS (c : UInt8) : Nat := if c = 105 then 1 else if c = 118 then 5 else if c = 120 then 10 else if c = 108 then 50 else if c = 99 then 100 else if c = 100 then 500 else if c = 109 then 1000 else 0
def dB (k : Nat) : UInt8 := [105, 118, 120, 108, 99, 100, 109].getD k 0
def vB (k : Nat) : Nat := [1, 5, 10, 50, 100, 500, 1000].getD k 0
theorem seven (k : Nat) (h : k < 7) : k = 0 ∨ k = 1 ∨ k = 2 ∨ k = 3 ∨ k = 4 ∨ k = 5 ∨ k = 6 := by omega
theorem digS_at (k : Nat) (h : k < 7) : digS (dB k) = vB k := by
  rcases seven k h with rfl | rfl | rfl | rfl | rfl | rfl | rfl <;> decide
theorem digS_none (c : UInt8) (h : ∀ k, k < 7 → dB k ≠ c) : digS c = 0 := by
  have h0 : (105 : UInt8) ≠ c := h 0 (by omega); have h1 : (118 : UInt8) ≠ c := h 1 (by omega); have h2 : (120 : UInt8) ≠ c := h 2 (by omega); have h3 : (108 : UInt8) ≠ c := h 3 (by omega); have h4 : (99 : UInt8) ≠ c := h 4 (by omega); have h5 : (100 : UInt8) ≠ c := h 5 (by omega); have h6 : (109 : UInt8) ≠ c := h 6 (by omega)
  unfold digS
  rw [if_neg (Ne.symm h0), if_neg (Ne.symm h1), if_neg (Ne.symm h2), if_neg (Ne.symm h3), if_neg (Ne.symm h4), if_neg (Ne.symm h5), if_neg (Ne.symm h6)]
theorem digS_le (c : UInt8) : digS c ≤ 1000 := by unfold digS; (repeat' split) <;> omega
/-- What the digits come to. -/
def rs : List UInt8 → Int
  | [] => 0
  | [c] => digS c
  | c :: d :: t => (if digS c < digS d then -(digS c : Int) else digS c) + rs (d :: t)
theorem rs_m (l : List UInt8) : rs (109 :: l) = 1000 + rs l := by
  cases l with
  | nil => rfl
  | cons d t =>
    have := digS_le d
    rw [rs, if_neg (by show ¬ 1000 < digS d; omega)]; rfl
theorem rs_rept (k : Nat) (l : List UInt8) : rs (rept [109] k ++ l) = 1000 * k + rs l := by
  induction k with
  | zero => simp [rept]
  | succ k ih =>
    have e : rept [109] (k + 1) ++ l = 109 :: (rept [109] k ++ l) := rfl
    rw [e, rs_m, ih]; omega
theorem rs_romL : ∀ n : Nat, n < 1000 → rs (romL n) = n ∧ (romL n).all (fun c => decide (digS c ≠ 0)) = true := by
  have h : (List.range 1000).all (fun n => rs (romL n) == n && (romL n).all (fun c => decide (digS c ≠ 0))) = true := by decide +kernel
  intro n hn
  have := List.all_eq_true.1 h n (by simpa using hn)
  rw [Bool.and_eq_true, beq_iff_eq] at this
  exact this
theorem rs_rom (n : Nat) : rs (rom n) = n := by
  rw [rom_eq, rs_rept, (rs_romL _ (by omega)).1]; omega
theorem rom_dig (n : Nat) : ∀ c ∈ rom n, digS c ≠ 0 := by
  rw [rom_eq]
  intro c hc
  rcases List.mem_append.1 hc with hc | hc
  · rw [rept_range _ c hc]; decide
  · have := List.all_eq_true.1 (rs_romL (n % 1000) (by omega)).2 c hc
    simpa using this
/-- What the specification's text does, in plain words, is what is asked. -/
theorem romanS_ref (l : List UInt8) :
    (l = [] → romanS l = (0, 4)) ∧ (l ≠ l.map loB → l ≠ (l.map loB).map upB → romanS l = (0, 4)) ∧ ((∃ c ∈ l.map loB, digS c = 0) → romanS l = (0, 4)) ∧
    (rs (l.map loB) < 1 ∨ 39999 < rs (l.map loB) ∨ rom (rs (l.map loB)).toNat ≠ l.map loB → romanS l = (0, 4)) ∧
    ((l = l.map loB ∨ l = (l.map loB).map upB) → 1 ≤ rs (l.map loB) → rs (l.map loB) ≤ 39999 → rom (rs (l.map loB)).toNat = l.map loB → romanS l = (rs (l.map loB), 0)) := by
  refine ⟨fun h => romanS_not _ fun n h1 h2 h3 => ?_, fun ha hb => romanS_not _ fun n h1 h2 h3 => ?_, fun ⟨c, hc, h0⟩ => romanS_not _ fun n h1 h2 h3 => ?_, fun h => romanS_not _ fun n h1 h2 h3 => ?_, fun h h1 h2 h3 => ?_⟩
  · have hr := rom_ne n (by omega)
    rcases h3 with h3 | h3
    · exact hr (h3.symm.trans h)
    · have := h3.symm.trans h; simp at this; exact hr this
  · have hl := low_of _ n h3
    rw [hl] at ha hb
    rcases h3 with h3 | h3
    · exact ha h3
    · exact hb h3
  · rw [low_of _ n h3] at hc
    exact rom_dig n c hc h0
  · rw [low_of _ n h3, rs_rom] at h
    rcases h with h | h | h
    · omega
    · omega
    · exact h (by simp)
  · obtain ⟨n, hn⟩ : ∃ n : Nat, rs (l.map loB) = n := ⟨(rs (l.map loB)).toNat, by omega⟩
    rw [hn] at h1 h2 h3 ⊢
    simp only [Int.toNat_natCast] at h3
    rw [← h3] at h
    exact romanS_of l n (by omega) (by omega) h
/- digit -/
def dgW (w : World) : World := w.alloc (.cells #[.int .i64 1, .int .i64 5, .int .i64 10, .int .i64 50, .int .i64 100, .int .i64 500, .int .i64 1000] 3)
theorem dgW_c (w : World) (k : Nat) (h : k < 7) : (dgW w).cell? ⟨w.heap.size, k, none⟩ = some (.int .i64 (vB k)) := by
  have e : (dgW w).heap[w.heap.size]? = some (.cells #[.int .i64 1, .int .i64 5, .int .i64 10, .int .i64 50, .int .i64 100, .int .i64 500, .int .i64 1000] 3 (0, 0)) := heap_alloc_new _ _
  rcases seven k h with rfl | rfl | rfl | rfl | rfl | rfl | rfl <;> simp [World.cell?, e, vB]
def DgR (c : UInt8) (w : World) (k : Nat) (i : Value) (wr : World) : Prop :=
  ∃ j : Nat, k + j = 7 ∧ i = .int .i64 j ∧ (∀ x, x < j → dB x ≠ c) ∧ dgW w = wr
def dStr : ByteArray := ⟨#[105, 118, 120, 108, 99, 100, 109]⟩
theorem dStr_at (k : Nat) (h : k < dStr.size) : (dStr[k]).toNat = (dB k).toNat := by
  have h7 : k < 7 := h
  rcases seven k h7 with rfl | rfl | rfl | rfl | rfl | rfl | rfl <;> rfl
theorem rdigit_any (c : UInt8) (w : World) : Calls Tryd.prog 22 #[.int .u8 c.toNat] w fun e w' => e = .returned (.int .i64 (digS c)) ∧ Below w.heap.size w w' := by
  have HB := Lib.hid (show Below w.heap.size w (dgW w) from (Below.refl _ _).alloc (Nat.le_refl _) _)
  have HST : Hid (DgR c w 7 (.int .i64 0) (dgW w)) := Lib.hid ⟨0, rfl, rfl, fun x hx => absurd hx (by omega), rfl⟩
  go_enter Tryd.func22, Tryd.ntmps22
  go_wp2_with fail
  go_loopg [5] 7 (fun k i wr => DgR c w k i wr)
  case atStart => exact HST.out
  case round =>
    obtain ⟨j, hk, rfl, hx, rfl⟩ := hrel
    have HK := Lib.hid hk
    have HX := Lib.hid hx
    clear hk hx
    by_cases hj : j < 7
    · have hji : decide ((j : Int) < 7) = true := decide_eq_true (by omega)
      have hb : (({ data := #[105, 118, 120, 108, 99, 100, 109] } : ByteArray)[j]'hj).toNat = (dB j).toNat := dStr_at j hj
      have hc := dgW_c w j hj
      by_cases he : dB j = c
      · have HE := Lib.hid (show digS c = vB j by rw [← he, digS_at j hj])
        have ht : (((dB j).toNat : Int) == (c.toNat : Int)) = true := by rw [he]; simp
        clear he
        go_wp2_with fail
        go_ret
        rw [HE.out]
        exact ⟨rfl, HB.out⟩
      · have ht : (((dB j).toNat : Int) == (c.toNat : Int)) = false := by
          rw [beq_eq_false_iff_ne]; intro h; exact he (UInt8.toNat_inj.1 (by omega))
        have HE := Lib.hid he
        clear he
        go_wp2_with fail
        go_roundg (gk - 1)
        case measure => have := HK.out; omega
        case rel =>
          have := HK.out
          refine ⟨j + 1, by omega, by go_num, fun x hx => ?_, rfl⟩
          by_cases e : x = j
          · rw [e]; exact HE.out
          · exact HX.out x (by omega)
    · have hji : decide ((j : Int) < 7) = false := decide_eq_false (by omega)
      have HE := Lib.hid (digS_none c fun k hk => HX.out k (by omega))
      go_wp2_with fail
      go_ret
      rw [HE.out]
      exact ⟨rfl, HB.out⟩
end Go.Proofs.YtgfjgcebgfaciaaDoor
