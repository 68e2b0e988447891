/- The law MeasureBits: its bits. -/
import Derived.Test.YteihpeffaeahlaaDoorRD
import Derived.Test.YteihpeffaeahlaaDoorLawSums
namespace Go.Proofs.YteihpeffaeahlaaDoor
open Go.RowKit
set_option maxRecDepth 100000
def bitsL : List (List UInt8) := [[49], [48], [49, 50], [49, 46, 53], [46, 50, 53], [49, 48, 48, 48, 48, 48, 48, 48, 48, 48], [57, 57, 57, 57, 57, 57, 57, 57, 57], [51, 46, 48, 48, 48, 48, 48, 48, 48, 48, 49], [105], [112], [80], [117], [99], [109], [110], [118], [43], [45], [42], [47], [37], [60], [62], [61], [61, 61], [60, 61], [62, 61], [38], [58], [40], [41], [33], [124], [32], [46], [120], [50], [55]]
abbrev bitsA : Array Value := #[.string ⟨#[49]⟩, .string ⟨#[48]⟩, .string ⟨#[49, 50]⟩, .string ⟨#[49, 46, 53]⟩, .string ⟨#[46, 50, 53]⟩, .string ⟨#[49, 48, 48, 48, 48, 48, 48, 48, 48, 48]⟩, .string ⟨#[57, 57, 57, 57, 57, 57, 57, 57, 57]⟩, .string ⟨#[51, 46, 48, 48, 48, 48, 48, 48, 48, 48, 49]⟩, .string ⟨#[105]⟩, .string ⟨#[112]⟩, .string ⟨#[80]⟩, .string ⟨#[117]⟩, .string ⟨#[99]⟩, .string ⟨#[109]⟩, .string ⟨#[110]⟩, .string ⟨#[118]⟩, .string ⟨#[43]⟩, .string ⟨#[45]⟩, .string ⟨#[42]⟩, .string ⟨#[47]⟩, .string ⟨#[37]⟩, .string ⟨#[60]⟩, .string ⟨#[62]⟩, .string ⟨#[61]⟩, .string ⟨#[61, 61]⟩, .string ⟨#[60, 61]⟩, .string ⟨#[62, 61]⟩, .string ⟨#[38]⟩, .string ⟨#[58]⟩, .string ⟨#[40]⟩, .string ⟨#[41]⟩, .string ⟨#[33]⟩, .string ⟨#[124]⟩, .string ⟨#[32]⟩, .string ⟨#[46]⟩, .string ⟨#[120]⟩, .string ⟨#[50]⟩, .string ⟨#[55]⟩]
theorem bit_at (a : Nat) (h : a < 38) : bitsA[a]? = some (.string ⟨(bitsL.getD a []).toArray⟩) := by
  have e : bitsA = (bitsL.map fun l => Value.string ⟨l.toArray⟩).toArray := rfl
  have hl : a < bitsL.length := h
  rw [e, List.getElem?_toArray, List.getElem?_map, List.getD, List.getElem?_eq_getElem hl]
  rfl
theorem bit_len (a : Nat) (h : a < 38) : (bitsL.getD a []).length ≤ 11 := by
  have hl : a < bitsL.length := h
  have hall : ∀ l ∈ bitsL, l.length ≤ 11 := by decide
  rw [List.getD, List.getElem?_eq_getElem hl]
  exact hall _ (List.getElem_mem hl)
theorem bits_any (w : World) : Calls Tryd.prog 11 #[] w fun e w' => e = .returned (.slice (some ⟨w.heap.size, 0, none⟩) 38 38) ∧ ∃ T, w' = w.alloc (.cells bitsA T) := by
  go_enter Tryd.func11, Tryd.ntmps11
  go_wp2_with fail
  go_ret
  exact ⟨rfl, _, rfl⟩
/-- At the head of the law's loop. -/
def BiI (N : Nat) (w1 : World) (n : Nat) (s i : Value) (wr : World) : Prop :=
  ∃ (k : Nat) (sb : ByteArray), s = .string sb ∧ i = .int .i64 (k : Nat) ∧ n = 60 - k ∧ k ≤ 60 ∧ k ≤ N ∧ sb.size ≤ 11 * k ∧ w1 = wr
set_option maxHeartbeats 2000000 in
theorem law_bits (a : Option Addr) (cap : Nat) (zs : List Int) (sz vs hr n : Int) (w : World) (hT : Tab w) (hI : IntsIn a zs w) :
    Calls Tryd.prog 4 #[.slice a zs.length cap, CX sz vs hr, .int .i64 n] w fun e w' => e = .returned (.bool true) ∧ Below w.heap.size w w' := by
  obtain ⟨s0, hs0, hS0⟩ := umod sz 1001 (by omega) (by omega)
  obtain ⟨s1, hs1, hS1⟩ := umod vs 1001 (by omega) (by omega)
  obtain ⟨s2, hs2, hS2⟩ := umod hr 100001 (by omega) (by omega)
  obtain ⟨s3, hs3, hS3⟩ := umod n 8 (by omega) (by omega)
  have HS0 := Lib.hid hS0
  have HS1 := Lib.hid hS1
  have HS2 := Lib.hid hS2
  have HS3 := Lib.hid hS3
  have HS4 := Lib.hid (And.intro hs0 (And.intro hs1 (And.intro hs2 hs3)))
  have HT := Lib.hid hT
  have HI := Lib.hid hI
  clear hT hI hS0 hS1 hS2 hS3 hs0 hs1 hs2 hs3
  obtain ⟨N, hN⟩ : ∃ N, N = zs.length := ⟨_, rfl⟩
  rw [← hN]
  have HN := Lib.hid hN
  clear hN
  go_enter Tryd.func4, Tryd.ntmps4
  go_wp2_with fail
  refine (bits_any _).mono ?_
  rintro e w1 ⟨rfl, T, hw1⟩
  have hb1 : Below w.heap.size w w1 := by rw [hw1]; exact ((Below.refl w.heap.size w).alloc (Nat.le_refl _) _).alloc (by simp) _
  have hsz : w1.heap.size = w.heap.size + 2 := by rw [hw1]; simp
  have hbits : ∀ a, a < 38 → w1.cell? ⟨w.heap.size + 1, a, none⟩ = some (.string ⟨(bitsL.getD a []).toArray⟩) := by
    intro a ha
    rw [← bit_at a ha]
    have e : w1.heap[w.heap.size + 1]? = some (.cells bitsA T) := by
      rw [hw1]
      have := heap_alloc_new (w.alloc (.cells #[.int .i64 sz, .int .i64 vs, .int .i64 hr] 23)) (.cells bitsA T)
      simpa using this
    simp only [World.cell?, e]
    rfl
  have hcx : Cxb 23 w.heap.size sz vs hr w1 := by
    rw [hw1]
    exact (Cxb.new (o := 23) w).below ((Below.refl _ _).alloc (Nat.le_refl _) _)
  have B1 := Lib.hid hb1
  have HBI := Lib.hid hbits
  have HCX := Lib.hid hcx
  have HSZ := Lib.hid hsz
  clear hw1 hb1 hbits hcx hsz
  go_wp2_with fail
  go_loopg [8, 9] 60 (fun n s i wr => BiI N w1 n s i wr)
  case atStart => exact ⟨0, ByteArray.empty, rfl, rfl, rfl, by omega, Nat.zero_le _, by decide, rfl⟩
  case round =>
    obtain ⟨k, sb, rfl, rfl, hn, hk60, hkN, hsz, rfl⟩ := hrel
    have HNN := Lib.hid hn
    clear hn
    by_cases hlt : k < N
    · by_cases hlt2 : k < 60
      · have t1 : decide (k < N) = true := decide_eq_true hlt
        have t2 : decide ((k : Int) < 60) = true := decide_eq_true (by omega)
        obtain ⟨b, off, rfl, hc⟩ := HI.out (by have := HN.out; omega)
        have hci := hc k (by have := HN.out; omega)
        have hbl := lt_of_cell hci
        obtain ⟨z, hz⟩ : ∃ z, z = zs.getD k 0 := ⟨_, rfl⟩
        rw [← hz] at hci
        have hcell : w1.cell? ⟨b, off + k, none⟩ = some (.int .i64 z) := (B1.out.cell (p := ⟨b, off + k, none⟩) hbl).trans hci
        obtain ⟨q, hq, hQ⟩ := umod z 38 (by omega) (by omega)
        have hbit := HBI.out q (by omega)
        have hbl2 := bit_len q (by omega)
        obtain ⟨bt, hbt⟩ : ∃ bt, bt = bitsL.getD q [] := ⟨_, rfl⟩
        rw [← hbt] at hbit hbl2
        obtain ⟨tb, htb⟩ : ∃ tb : ByteArray, tb = ⟨bt.toArray⟩ := ⟨_, rfl⟩
        rw [← htb] at hbit
        have htz : tb.size ≤ 11 := by rw [htb]; exact hbl2
        clear hc hci hbl hz hbl2 hbt htb
        go_wp2_with fail
        go_roundg (60 - (k + 1))
        case measure => have := HNN.out; omega
        case rel => exact ⟨k + 1, sb ++ tb, rfl, by go_num, rfl, by omega, by omega, by rw [ByteArray.size_append]; omega, rfl⟩
      · have t1 : decide (k < N) = true := decide_eq_true hlt
        have t2 : decide ((k : Int) < 60) = false := decide_eq_false (by omega)
        clear hlt hlt2
        have T1 := Lib.hid (HT.out.below B1.out HT.out.pos)
        have l0 := HCX.out.c0
        have l1 := HCX.out.c1
        have l2 := HCX.out.c2
        have hs0 := HS4.out.1
        have hs1 := HS4.out.2.1
        have hs2 := HS4.out.2.2.1
        have hs3 := HS4.out.2.2.2
        have e0 := HS0.out
        have e1 := HS1.out
        have e2 := HS2.out
        have e3 := HS3.out
        have hsb : sb.size ≤ 9223372036854775800 := by omega
        have HSB := Lib.hid hsb
        clear hsb hsz hk60 hkN
        go_wp2_with fail
        refine (reads_any sb s0 s1 s2 ((s3 : Int) - 8) HSB.out w1 T1.out).mono ?_
        rintro e w2 ⟨rfl, hb2⟩
        have B2 := Lib.hid (B1.out.trans (hb2.mono B1.out.size))
        have T2 := Lib.hid (HT.out.below B2.out HT.out.pos)
        clear hb2 l0 l1 l2 e0 e1 e2 e3
        go_wp2_with fail
        refine (sane_any _ T2.out).mono ?_
        rintro e w3 ⟨rfl, hb3⟩
        have B3 := Lib.hid (B2.out.trans (hb3.mono B2.out.size))
        clear hb3
        go_wp2_with fail
        go_ret
        exact ⟨rfl, B3.out⟩
    · have t1 : decide (k < N) = false := decide_eq_false hlt
      clear hlt
      have T1 := Lib.hid (HT.out.below B1.out HT.out.pos)
      have l0 := HCX.out.c0
      have l1 := HCX.out.c1
      have l2 := HCX.out.c2
      have hs0 := HS4.out.1
      have hs1 := HS4.out.2.1
      have hs2 := HS4.out.2.2.1
      have hs3 := HS4.out.2.2.2
      have e0 := HS0.out
      have e1 := HS1.out
      have e2 := HS2.out
      have e3 := HS3.out
      have hsb : sb.size ≤ 9223372036854775800 := by omega
      have HSB := Lib.hid hsb
      clear hsb hsz hk60 hkN
      go_wp2_with fail
      refine (reads_any sb s0 s1 s2 ((s3 : Int) - 8) HSB.out w1 T1.out).mono ?_
      rintro e w2 ⟨rfl, hb2⟩
      have B2 := Lib.hid (B1.out.trans (hb2.mono B1.out.size))
      have T2 := Lib.hid (HT.out.below B2.out HT.out.pos)
      clear hb2 l0 l1 l2 e0 e1 e2 e3
      go_wp2_with fail
      refine (sane_any _ T2.out).mono ?_
      rintro e w3 ⟨rfl, hb3⟩
      have B3 := Lib.hid (B2.out.trans (hb3.mono B2.out.size))
      clear hb3
      go_wp2_with fail
      go_ret
      exact ⟨rfl, B3.out⟩
end Go.Proofs.YteihpeffaeahlaaDoor
