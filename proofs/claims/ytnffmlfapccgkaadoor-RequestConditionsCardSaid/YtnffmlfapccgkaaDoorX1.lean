/- What lines are made of. -/
import Derived.Test.YtnffmlfapccgkaaDoorV5
namespace Go.Proofs.YtnffmlfapccgkaaDoor
open Go.RowKit Go.Shelf
set_option maxRecDepth 100000
set_option linter.unusedSimpArgs false
set_option linter.unusedVariables false
/-- The pieces. -/
def pcs : List (List UInt8) := [[32], [9], [97], [98, 99], [34], [34, 34], [92], [92, 32], [92, 34], [46], [39], [33], [111], [101], [100], [114], [39, 97, 39, 98, 39], [124, 120, 124, 120, 124], [49], [43], [92, 123], [92, 125], [120, 32, 121], [123], [125]]
def pc (n : Nat) : List UInt8 := pcs.getD (n % 25) []
def bitS : List Nat → List UInt8
  | [] => []
  | n :: t => pc n ++ bitS t
theorem pc_len (n : Nat) : (pc n).length ≤ 5 := by
  unfold pc
  have h : ∀ m, m < 25 → (pcs.getD m []).length ≤ 5 := by decide +kernel
  exact h _ (Nat.mod_lt _ (by decide))
theorem bitS_len : ∀ l : List Nat, (bitS l).length ≤ 5 * l.length
  | [] => Nat.le_refl _
  | n :: t => by
    have := bitS_len t
    have := pc_len n
    rw [bitS, List.length_append, List.length_cons]; omega
/-- A slice of bytes that reads so. -/
def BytsAt (W : World) (A : Option Addr) (n : Nat) (xs : List Nat) : Prop := n = xs.length ∧ (0 < n → ∃ b off, A = some ⟨b, off, none⟩ ∧ b < W.heap.size ∧ ∀ (j : Nat) x, xs[j]? = some x → W.cell? ⟨b, off + j, none⟩ = some (.int .u8 (x : Int)))
theorem BytsAt.below {W W' : World} {A : Option Addr} {n : Nat} {xs : List Nat} (h : BytsAt W A n xs) (k : Below W.heap.size W W') : BytsAt W' A n xs := by
  refine ⟨h.1, fun hn => ?_⟩
  obtain ⟨b, off, hA, hb, hc⟩ := h.2 hn
  exact ⟨b, off, hA, Nat.lt_of_lt_of_le hb k.size, fun j x hx => (k.cell (p := ⟨b, off + j, none⟩) hb).trans (hc j x hx)⟩
/-- The row of pieces, as it lies. -/
abbrev pcC : Array Value := #[.string ⟨#[32]⟩, .string ⟨#[9]⟩, .string ⟨#[97]⟩, .string ⟨#[98, 99]⟩, .string ⟨#[34]⟩, .string ⟨#[34, 34]⟩, .string ⟨#[92]⟩, .string ⟨#[92, 32]⟩, .string ⟨#[92, 34]⟩, .string ⟨#[46]⟩, .string ⟨#[39]⟩, .string ⟨#[33]⟩, .string ⟨#[111]⟩, .string ⟨#[101]⟩, .string ⟨#[100]⟩, .string ⟨#[114]⟩, .string ⟨#[39, 97, 39, 98, 39]⟩, .string ⟨#[124, 120, 124, 120, 124]⟩, .string ⟨#[49]⟩, .string ⟨#[43]⟩, .string ⟨#[92, 123]⟩, .string ⟨#[92, 125]⟩, .string ⟨#[120, 32, 121]⟩, .string ⟨#[123]⟩, .string ⟨#[125]⟩]
theorem pcC_eq : pcC = (pcs.map fun l => Value.string (bs l)).toArray := rfl
theorem pc_cell (w : World) (m : Nat) (hm : m < 25) : (w.alloc (.cells #[.string ⟨#[32]⟩, .string ⟨#[9]⟩, .string ⟨#[97]⟩, .string ⟨#[98, 99]⟩, .string ⟨#[34]⟩, .string ⟨#[34, 34]⟩, .string ⟨#[92]⟩, .string ⟨#[92, 32]⟩, .string ⟨#[92, 34]⟩, .string ⟨#[46]⟩, .string ⟨#[39]⟩, .string ⟨#[33]⟩, .string ⟨#[111]⟩, .string ⟨#[101]⟩, .string ⟨#[100]⟩, .string ⟨#[114]⟩, .string ⟨#[39, 97, 39, 98, 39]⟩, .string ⟨#[124, 120, 124, 120, 124]⟩, .string ⟨#[49]⟩, .string ⟨#[43]⟩, .string ⟨#[92, 123]⟩, .string ⟨#[92, 125]⟩, .string ⟨#[120, 32, 121]⟩, .string ⟨#[123]⟩, .string ⟨#[125]⟩] 9)).cell? ⟨w.heap.size, m, none⟩ = some (.string (bs (pcs.getD m []))) := by
  have h := heap_alloc_new w (.cells pcC 9)
  have hl : pcs.length = 25 := rfl
  show (w.alloc (.cells pcC 9)).cell? ⟨w.heap.size, m, none⟩ = _
  simp only [World.cell?, h]
  show pcC[m]? = _
  rw [pcC_eq, List.getElem?_toArray, List.getElem?_map, List.getElem?_eq_getElem (by omega), List.getD_eq_getElem?_getD, List.getElem?_eq_getElem (by omega)]
  rfl
def BtR (xs : List Nat) (w : World) (k : Nat) (s i : Value) (wr : World) : Prop :=
  ∃ j : Nat, k + j = xs.length ∧ i = .int .i64 (j : Int) ∧ s = .string (bs (bitS (xs.take j))) ∧ Below w.heap.size w wr
theorem bitS_snoc (xs : List Nat) (j x : Nat) (h : xs[j]? = some x) : bitS (xs.take (j + 1)) = bitS (xs.take j) ++ pc x := by
  have hb : ∀ (a b : List Nat), bitS (a ++ b) = bitS a ++ bitS b := by
    intro a b
    induction a with
    | nil => rfl
    | cons n t ih => rw [List.cons_append, bitS, bitS, ih, List.append_assoc]
  obtain ⟨h1, h2⟩ := List.getElem?_eq_some_iff.1 h
  rw [List.take_succ_eq_append_getElem h1, hb, h2]
  simp [bitS]
set_option maxHeartbeats 4000000 in
theorem bits_any (A : Option Addr) (n c : Nat) (xs : List Nat) (w : World) (hA : BytsAt w A n xs) (hx : ∀ x ∈ xs, x < 256) (hn : xs.length ≤ 100) : Calls Tryd.prog 15 #[.slice A n c] w fun e w' => e = .returned (.string (bs (bitS xs))) ∧ Below w.heap.size w w' := by
  have hlen := hA.1
  have HA := Lib.hid hA
  have HX := Lib.hid hx
  subst hlen
  clear hA hx
  go_enter Tryd.func15, Tryd.ntmps15
  go_wp2_with fail
  go_loopg [3, 4] xs.length (fun k s i wr => BtR xs w k s i wr)
  case atStart => exact ⟨0, rfl, rfl, rfl, Below.refl _ _⟩
  case round =>
    obtain ⟨j, hk, rfl, rfl, hb⟩ := hrel
    have HK := Lib.hid hk
    have HB := Lib.hid hb
    have hsz := hb.size
    clear hk hb
    by_cases hlt : j < xs.length
    · have d1 : decide (j < xs.length) = true := decide_eq_true hlt
      obtain ⟨x, hxj⟩ := some_of xs j hlt
      obtain ⟨b, off, hAe, hbl, hcell⟩ := (HA.out.below HB.out).2 (by omega)
      subst hAe
      have hc := hcell j x hxj
      have hx256 := HX.out x (List.mem_of_getElem? hxj)
      have HS := Lib.hid (bitS_snoc xs j x hxj)
      obtain ⟨m, hm⟩ : ∃ m, m = x % 25 := ⟨_, rfl⟩
      have hm25 : m < 25 := by omega
      have hmi : (x : Int) % 25 = (m : Int) := by omega
      have hpc := pc_cell wr m hm25
      have HBL := Lib.hid (bel0 wr (.cells #[.string ⟨#[32]⟩, .string ⟨#[9]⟩, .string ⟨#[97]⟩, .string ⟨#[98, 99]⟩, .string ⟨#[34]⟩, .string ⟨#[34, 34]⟩, .string ⟨#[92]⟩, .string ⟨#[92, 32]⟩, .string ⟨#[92, 34]⟩, .string ⟨#[46]⟩, .string ⟨#[39]⟩, .string ⟨#[33]⟩, .string ⟨#[111]⟩, .string ⟨#[101]⟩, .string ⟨#[100]⟩, .string ⟨#[114]⟩, .string ⟨#[39, 97, 39, 98, 39]⟩, .string ⟨#[124, 120, 124, 120, 124]⟩, .string ⟨#[49]⟩, .string ⟨#[43]⟩, .string ⟨#[92, 123]⟩, .string ⟨#[92, 125]⟩, .string ⟨#[120, 32, 121]⟩, .string ⟨#[123]⟩, .string ⟨#[125]⟩] 9))
      have hc2 : (wr.alloc (.cells #[.string ⟨#[32]⟩, .string ⟨#[9]⟩, .string ⟨#[97]⟩, .string ⟨#[98, 99]⟩, .string ⟨#[34]⟩, .string ⟨#[34, 34]⟩, .string ⟨#[92]⟩, .string ⟨#[92, 32]⟩, .string ⟨#[92, 34]⟩, .string ⟨#[46]⟩, .string ⟨#[39]⟩, .string ⟨#[33]⟩, .string ⟨#[111]⟩, .string ⟨#[101]⟩, .string ⟨#[100]⟩, .string ⟨#[114]⟩, .string ⟨#[39, 97, 39, 98, 39]⟩, .string ⟨#[124, 120, 124, 120, 124]⟩, .string ⟨#[49]⟩, .string ⟨#[43]⟩, .string ⟨#[92, 123]⟩, .string ⟨#[92, 125]⟩, .string ⟨#[120, 32, 121]⟩, .string ⟨#[123]⟩, .string ⟨#[125]⟩] 9)).cell? ⟨b, off + j, none⟩ = some (.int .u8 (x : Int)) := (HBL.out.cell (p := ⟨b, off + j, none⟩) hbl).trans hc
      have HPC := Lib.hid (show pc x = pcs.getD m [] by unfold pc; rw [hm])
      have hl1 := bitS_len (xs.take j)
      rw [List.length_take] at hl1
      have hl2 := pc_len x
      rw [HPC.out] at hl2
      obtain ⟨P, hP⟩ : ∃ P, P = pcs.getD m [] := ⟨_, rfl⟩
      rw [← hP] at hpc HPC hl2
      obtain ⟨B, hB⟩ : ∃ B, B = bitS (xs.take j) := ⟨_, rfl⟩
      rw [← hB] at HS hl1 ⊢
      have HCAT := Lib.hid (show bs B ++ bs P = bs (B ++ P) from bs_app B P)
      have hss : (bs B).size + (bs P).size ≤ 1000000 := by rw [bs_size, bs_size]; omega
      have hxl : (25 : Int) ≠ 0 := by decide
      clear hxj hcell hbl hm hP hB
      go_wp2_with fail
      rw [HCAT.out]
      go_roundg (gk - 1)
      case measure => have := HK.out; omega
      case rel => exact ⟨j + 1, by have := HK.out; omega, by go_num, by rw [HS.out, HPC.out], HB.out.trans (HBL.out.mono hsz)⟩
    · have d1 : decide (j < xs.length) = false := decide_eq_false hlt
      have HF := Lib.hid (show xs.take j = xs from List.take_of_length_le (by omega))
      rw [HF.out]
      go_wp2_with fail
      go_ret
      exact ⟨rfl, HB.out⟩
theorem splits_lit (l : List UInt8) (a b : UInt8) (hl : l.length ≤ 100000) : ∀ W, Calls Tryd.prog 11 #[.string (bs l), .int .u8 (a.toNat : Int), .int .u8 (b.toNat : Int)] W fun e w' => e = .returned (.bool true) ∧ Below W.heap.size W w' := fun W => splits_any l a b hl W
set_option maxHeartbeats 4000000 in
theorem law_words (A : Option Addr) (n c : Nat) (xs : List Nat) (w : World) (hA : BytsAt w A n xs) (hx : ∀ x ∈ xs, x < 256) (hnc : n ≤ c) (hc9 : (c : Int) ≤ 9223372036854775807) : Calls Tryd.prog 4 #[.slice A n c] w fun e w' => e = .returned (.bool true) ∧ Below w.heap.size w w' := by
  have HS := Lib.hid (fun W => sane_any W)
  have hlen := hA.1
  by_cases hbig : 60 < n
  · have d1 : decide ((60 : Int) < (n : Int)) = true := decide_eq_true (by omega)
    clear hbig hA hlen
    go_enter Tryd.func4, Tryd.ntmps4
    go_wp2_with fail
    refine (HS.out _).mono ?_
    rintro e w1 ⟨rfl, hb⟩
    have HB := Lib.hid hb
    clear hb
    go_wp2_with fail
    go_ret
    exact ⟨rfl, HB.out⟩
  · have d1 : decide ((60 : Int) < (n : Int)) = false := decide_eq_false (by omega)
    have HBT := Lib.hid (bits_any A n c xs w hA hx (by omega))
    have hbl := bitS_len xs
    obtain ⟨l, hl⟩ : ∃ l, l = bitS xs := ⟨_, rfl⟩
    rw [← hl] at HBT hbl
    have hl9 : l.length ≤ 90000 := by omega
    have HW := Lib.hid (fun W => words_any l (by omega) W)
    have HV := Lib.hid (fun W => rwords_any l (by omega) W)
    have HSUM := Lib.hid (wds_sum l)
    obtain ⟨ws, hws⟩ : ∃ ws, ws = wds l := ⟨_, rfl⟩
    unfold WsP at HW HV
    rw [← hws] at HW HV HSUM
    have hn9 : (ws.length : Int) ≤ 9223372036854775807 := by have := HSUM.out; omega
    have H1 := Lib.hid (splits_lit (46 :: l) 46 39 (by simp; omega))
    have H2 := Lib.hid (splits_lit (39 :: l) 46 39 (by simp; omega))
    have H3 := Lib.hid (splits_lit l 33 124 (by omega))
    have C1 := Lib.hid (show (⟨#[46]⟩ : ByteArray) ++ bs l = bs (46 :: l) by apply ByteArray.ext; rw [ByteArray.data_append]; simp [bs])
    have C2 := Lib.hid (show (⟨#[39]⟩ : ByteArray) ++ bs l = bs (39 :: l) by apply ByteArray.ext; rw [ByteArray.data_append]; simp [bs])
    have hs1 : (⟨#[46]⟩ : ByteArray).size + (bs l).size ≤ 1000000 := by rw [bs_size]; show 1 + _ ≤ _; omega
    have hs2 : (⟨#[39]⟩ : ByteArray).size + (bs l).size ≤ 1000000 := by rw [bs_size]; show 1 + _ ≤ _; omega
    clear hbig hA hlen hl hbl hws hl9
    go_enter Tryd.func4, Tryd.ntmps4
    go_wp2_with fail
    refine HBT.out.mono ?_
    rintro e w2 ⟨rfl, hb2⟩
    have HB2 := Lib.hid hb2
    clear hb2
    go_wp2_with fail
    refine (HW.out _).mono ?_
    rintro e w3 ⟨A3, c3, rfl, hs3, _, _, hb3, _⟩
    have HB3 := Lib.hid (HB2.out.trans (hb3.mono HB2.out.size))
    have HS3 := Lib.hid hs3
    clear hs3 hb3
    go_wp2_with fail
    refine (HV.out _).mono ?_
    rintro e w4 ⟨A4, c4, rfl, hs4, _, _, hb4, _⟩
    have HB4 := Lib.hid (HB3.out.trans (hb4.mono HB3.out.size))
    have HL := Lib.hid (list_same A3 A4 ws.length c3 c4 ws _ (HS3.out.below hb4) hs4 hn9)
    clear hs4 hb4
    go_wp2_with fail
    refine HL.out.mono ?_
    rintro e w5 ⟨rfl, hb5⟩
    have HB5 := Lib.hid (HB4.out.trans (hb5.mono HB4.out.size))
    clear hb5
    go_wp2_with fail
    rw [C1.out]
    refine (H1.out _).mono ?_
    rintro e w6 ⟨rfl, hb6⟩
    have HB6 := Lib.hid (HB5.out.trans (hb6.mono HB5.out.size))
    clear hb6
    go_wp2_with fail
    rw [C2.out]
    refine (H2.out _).mono ?_
    rintro e w7 ⟨rfl, hb7⟩
    have HB7 := Lib.hid (HB6.out.trans (hb7.mono HB6.out.size))
    clear hb7
    go_wp2_with fail
    refine (H3.out _).mono ?_
    rintro e w8 ⟨rfl, hb8⟩
    have HB8 := Lib.hid (HB7.out.trans (hb8.mono HB7.out.size))
    clear hb8
    go_wp2_with fail
    refine (HS.out _).mono ?_
    rintro e w9 ⟨rfl, hb9⟩
    have HB9 := Lib.hid (HB8.out.trans (hb9.mono HB8.out.size))
    clear hb9
    go_wp2_with fail
    go_ret
    exact ⟨rfl, HB9.out⟩
end Go.Proofs.YtnffmlfapccgkaaDoor
