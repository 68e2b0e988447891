/- Contracts: the code's reading of roman numbers. -/
import Derived.Test.YtgfjgcebgfaciaaDoorW5
import Derived.Test.YtgfjgcebgfaciaaDoorRom
namespace Go.Proofs.YtgfjgcebgfaciaaDoor
open Go.RowKit Go.Shelf
set_option maxRecDepth 100000
theorem prefix_call (s p : ByteArray) (w : World) : Calls Tryd.prog 29 #[.string s, .string p] w fun e w' => e = .returned (.bool (p.data.toList.isPrefixOf s.data.toList)) ∧ w = w' :=
  (Tryd.strings_HasPrefix s p w).mono fun _ _ h => ⟨h.1, h.2.symm⟩
theorem ext_drop (s : ByteArray) (a : Nat) : (s.extract a s.size).data.toList = s.data.toList.drop a := by
  rw [Lib.extract_data, List.take_of_length_le (by rw [List.length_drop]; simp)]
/-- At the head of the outer loop. -/
def RvO (l : List UInt8) (w : World) (k : Nat) (s n i : Value) (wr : World) : Prop :=
  ∃ (j m : Nat) (t : ByteArray), k + j = 13 ∧ s = .string t ∧ n = .int .i64 m ∧ i = .int .i64 j ∧ rv nums l = m + rv (nums.drop j) t.data.toList ∧ t.size ≤ l.length ∧ Below w.heap.size w wr
/-- At the head of the inner loop. -/
def RvI (l : List UInt8) (w : World) (j c : Nat) (k : Nat) (s n : Value) (wr : World) : Prop :=
  ∃ (m : Nat) (t : ByteArray), k = t.size ∧ s = .string t ∧ n = .int .i64 m ∧ rv nums l = m + rv (nums.drop j) t.data.toList ∧ t.size ≤ l.length ∧ Below w.heap.size w wr ∧ wr.heap[c]? = some (.cells #[.int .i64 (nv j), .string ⟨(nt j).toArray⟩] 44 (0, 0))
set_option maxHeartbeats 1000000 in
theorem romanValue_any (s : ByteArray) (hs : s.size ≤ 1000000000) (w : World) (hT : TB w) : Calls Tryd.prog 20 #[.string s] w fun e w' => e = .returned (.int .i64 (rv nums s.data.toList)) ∧ Below w.heap.size w w' := by
  have hpos := hT.pos
  obtain ⟨t0, fr0, hnum⟩ := hT.num
  have hix := num_ix
  have HNUM := Lib.hid hnum
  have hsl : s.data.toList.length = s.size := by simp
  obtain ⟨l, hl⟩ : ∃ l, l = s.data.toList := ⟨_, rfl⟩
  have HBD := Lib.hid (rv_bd 0 l)
  have hll : l.length = s.size := by rw [hl]; exact hsl
  have HST : Hid (RvO l w 13 (.string s) (.int .i64 0) (.int .i64 0) w) := Lib.hid ⟨0, 0, s, rfl, rfl, rfl, rfl, by rw [hl]; simp, by omega, Below.refl _ _⟩
  have hl9 : l.length ≤ 1000000000 := by omega
  rw [← hl]
  clear hT hnum hl hll hsl
  go_enter Tryd.func20, Tryd.ntmps20
  go_wp2_with (refine wpList_load_row rfl 45 _ rfl 0 rfl t0 numA fr0 _ HNUM.out Tryd.underlying45 rfl (by kernel_rfl) ?_)
  go_loopg [0, 3, 7] 13 (fun k s n i wr => RvO l w k s n i wr)
  case atStart => exact HST.out
  case round =>
    obtain ⟨j, m, t, hk, rfl, rfl, rfl, hr, ht, hb⟩ := hrel
    have HK := Lib.hid hk
    have HR := Lib.hid hr
    have HB := Lib.hid hb
    have hsz := hb.size
    clear hk hr hb
    by_cases hj : j < 13
    · have hji : decide ((j : Int) < 13) = true := decide_eq_true (by omega)
      obtain ⟨hdr, hv0, hv1, htl, htp⟩ := num_drop j hj
      have HD := Lib.hid hdr
      have hsl : (nt j).toArray.size ≤ 2 := by rw [List.size_toArray]; exact htl
      clear hdr htl
      obtain ⟨wo, rfl⟩ : ∃ wo : World, wo = wr := ⟨_, rfl⟩
      obtain ⟨g1, rfl⟩ : ∃ g1, g1 = gk := ⟨_, rfl⟩
      have HC0 := Lib.hid (show (wo.alloc (.cells #[.int .i64 (nv j), .string ⟨(nt j).toArray⟩] 44)).heap[wo.heap.size]? = some (.cells #[.int .i64 (nv j), .string ⟨(nt j).toArray⟩] 44 (0, 0)) from heap_alloc_new _ _)
      go_wp2_with fail
      go_loopg [0, 3] t.size (fun k s n wr => RvI l w j wo.heap.size k s n wr)
      case atStart => exact ⟨m, t, rfl, rfl, rfl, HR.out, ht, HB.out.alloc (by omega) _, HC0.out⟩
      case round =>
        obtain ⟨m', t', hk', rfl, rfl, hr', ht', hb', hcell⟩ := hrel
        have HR' := Lib.hid hr'
        have HB' := Lib.hid hb'
        have HCELL := Lib.hid hcell
        have hce0 : wr.cell? ⟨wo.heap.size, 0, none⟩ = some (.int .i64 (nv j)) := by simp [World.cell?, hcell]
        have hce1 : wr.cell? ⟨wo.heap.size, 1, none⟩ = some (.string ⟨(nt j).toArray⟩) := by simp [World.cell?, hcell]
        have hbd : m' ≤ 1000000000000 := by
          have h1 := HBD.out
          rw [List.drop_zero, hr'] at h1
          omega
        have htn : (⟨(nt j).toArray⟩ : ByteArray).size = (nt j).length := by show (nt j).toArray.size = _; simp
        have HTN := Lib.hid htn
        have HKK := Lib.hid hk'
        clear hr' hb' hcell htn hk'
        cases hp : (nt j).isPrefixOf t'.data.toList with
        | true =>
          have HP := Lib.hid hp
          have hpl : (nt j).toArray.size ≤ t'.size := by rw [List.size_toArray]; have := pre_len _ _ hp; rwa [show t'.data.toList.length = t'.size by simp] at this
          clear hp
          go_wp2_with fail
          refine (prefix_call _ _ _).mono ?_
          rw [show (⟨(nt j).toArray⟩ : ByteArray).data.toList = nt j from rfl, HP.out]
          rintro e w2 ⟨rfl, rfl⟩
          go_wp2_with fail
          go_roundg (t'.size - (nt j).length)
          case measure => have h1 := HKK.out; have h2 := HTN.out; rw [List.size_toArray] at hpl; omega
          case rel =>
            rw [List.size_toArray] at hpl
            refine ⟨m' + nv j, t'.extract (nt j).length t'.size, by rw [ByteArray.size_extract]; omega, rfl, by go_num, ?_, by rw [ByteArray.size_extract]; omega, HB'.out, HCELL.out⟩
            rw [HR'.out, HD.out, rv_step _ _ _ _ (by rw [← HD.out]; exact nums_ne' j) HP.out, ext_drop]; omega
        | false =>
          have HP := Lib.hid hp
          clear hp
          go_wp2_with fail
          refine (prefix_call _ _ _).mono ?_
          rw [show (⟨(nt j).toArray⟩ : ByteArray).data.toList = nt j from rfl, HP.out]
          rintro e w2 ⟨rfl, rfl⟩
          go_wp2_with fail
          go_roundg (g1 - 1)
          case measure => have := HK.out; omega
          case rel =>
            have hk := HK.out
            refine ⟨j + 1, m', t', by omega, rfl, rfl, by go_num, ?_, ht', HB'.out⟩
            rw [HR'.out, HD.out, rv_end _ _ _ _ (nums_ne' (j + 1)) HP.out]
    · have hji : decide ((j : Int) < 13) = false := decide_eq_false (by omega)
      have hj13 : j = 13 := by have := HK.out; omega
      have HE := Lib.hid (show rv nums l = m by rw [HR.out, hj13]; simp [nums, rv, rvF])
      clear hj13
      go_wp2_with fail
      go_ret
      rw [HE.out]
      exact ⟨rfl, HB.out⟩
/- Roman. -/
/-- What strings.ToLower does with a text, as far as it matters. -/
def LowOk (s : ByteArray) (L : List UInt8) : Prop := L.length ≤ 1000000000 ∧ ((∀ c ∈ s.data.toList, c.toNat < 128) → L = s.data.toList.map loB)
def LowCall (s : ByteArray) (w : World) : Prop := Calls Tryd.prog 21 #[.string s] w fun e w' => ∃ L, e = .returned (.string ⟨L.toArray⟩) ∧ LowOk s L ∧ Below w.heap.size w w'
theorem rom_ascii (n : Nat) (l : List UInt8) (h : l = rom n ∨ l = (rom n).map upB) : ∀ c ∈ l, c.toNat < 128 := by
  rcases h with rfl | rfl
  · intro c hc; have := rom_range n c hc; omega
  · intro c hc
    obtain ⟨d, hd, rfl⟩ := List.mem_map.1 hc
    have h := rom_range n d hd
    unfold upB; rw [if_pos h]
    rw [UInt8.toNat_sub_of_le _ _ (by rw [UInt8.le_iff_toNat_le]; simp; omega)]; simp; omega
/-- What the code does, in plain words, is what is asked. -/
theorem romanS_code (s : ByteArray) (L : List UInt8) (hL : LowOk s L) :
    (rv nums L < 1 ∨ 39999 < rv nums L → romanS s.data.toList = (0, 4)) ∧
    (1 ≤ rv nums L → rv nums L ≤ 39999 → ¬ (s.data.toList = rom (rv nums L) ∨ s.data.toList = (rom (rv nums L)).map upB) → romanS s.data.toList = (0, 4)) ∧
    (1 ≤ rv nums L → rv nums L ≤ 39999 → (s.data.toList = rom (rv nums L) ∨ s.data.toList = (rom (rv nums L)).map upB) → romanS s.data.toList = ((rv nums L : Int), 0)) := by
  have key : ∀ n, (s.data.toList = rom n ∨ s.data.toList = (rom n).map upB) → rv nums L = n := by
    intro n h
    rw [hL.2 (rom_ascii n _ h), low_of _ n h, rv_rom]
  refine ⟨fun h => romanS_not _ fun n h1 h2 h3 => ?_, fun h1 h2 h => romanS_not _ fun n _ _ h3 => ?_, fun h1 h2 h => romanS_of _ _ h1 h2 h⟩
  · have := key n h3; omega
  · have := key n h3; rw [this] at h; exact h h3
theorem text_i (N : Nat) (h1 : 1 ≤ N) (h2 : N ≤ 39999) (w : World) (hT : TB w) : Calls Tryd.prog 13 #[.int .i64 N, .string ⟨#[105]⟩] w fun e w' => e = .returned (.string ⟨(rom N).toArray⟩) ∧ Below w.heap.size w w' := by
  have := text_nn N (by omega) ⟨#[105]⟩ (by decide) w hT
  rwa [show txtN N (⟨#[105]⟩ : ByteArray).data.toList = rom N by
    show (if N = 0 ∨ 39999 < N then dec N else rom N) = _
    rw [if_neg (by omega)]] at this
theorem text_I (N : Nat) (h1 : 1 ≤ N) (h2 : N ≤ 39999) (w : World) (hT : TB w) : Calls Tryd.prog 13 #[.int .i64 N, .string ⟨#[73]⟩] w fun e w' => e = .returned (.string ⟨((rom N).map upB).toArray⟩) ∧ Below w.heap.size w w' := by
  have := text_nn N (by omega) ⟨#[73]⟩ (by decide) w hT
  rwa [show txtN N (⟨#[73]⟩ : ByteArray).data.toList = (rom N).map upB by
    show (if N = 0 ∨ 39999 < N then dec N else (rom N).map upB) = _
    rw [if_neg (by omega)]] at this
theorem roman_read (s : ByteArray) (w : World) (hT : TB w) (hC : LowCall s w) : Calls Tryd.prog 9 #[.string s] w fun e w' => e = .returned (.tuple #[.int .i64 (romanS s.data.toList).1, .int .i64 (romanS s.data.toList).2]) ∧ Below w.heap.size w w' := by
  have HT := Lib.hid hT
  have HC : Hid (LowCall s w) := Lib.hid hC
  clear hT hC
  go_enter Tryd.func9, Tryd.ntmps9
  go_wp2_with fail
  refine HC.out.mono ?_
  rintro e w1 ⟨L, rfl, hlow, hb⟩
  have HCODE := Lib.hid (romanS_code s L hlow)
  have T1 := Lib.hid (HT.out.below hb (Nat.le_refl _))
  have HB := Lib.hid hb
  have hLs : (⟨L.toArray⟩ : ByteArray).size ≤ 1000000000 := by show L.toArray.size ≤ _; rw [List.size_toArray]; exact hlow.1
  have HR := Lib.hid (romanValue_any ⟨L.toArray⟩ hLs w1 T1.out)
  rw [show (⟨L.toArray⟩ : ByteArray).data.toList = L from rfl] at HR
  obtain ⟨n, hn⟩ : ∃ n, n = rv nums L := ⟨_, rfl⟩
  rw [← hn] at HR HCODE
  clear hb hlow hLs hn
  go_wp2_with fail
  refine HR.out.mono ?_
  rintro e w2 ⟨rfl, hb⟩
  have T2 := Lib.hid (T1.out.below hb (Nat.le_refl _))
  have HB2 := Lib.hid (HB.out.trans (hb.mono HB.out.size))
  clear hb
  by_cases h1 : n < 1
  · have d1 : decide ((n : Int) < 1) = true := decide_eq_true (by omega)
    have HX := Lib.hid (HCODE.out.1 (.inl h1))
    clear h1
    go_wp2_with fail
    go_ret2
    rw [HX.out]
    exact ⟨rfl, HB2.out⟩
  have d1 : decide ((n : Int) < 1) = false := decide_eq_false (by omega)
  by_cases h2 : 39999 < n
  · have d2 : decide ((39999 : Int) < (n : Int)) = true := decide_eq_true (by omega)
    have HX := Lib.hid (HCODE.out.1 (.inr h2))
    clear h1 h2
    go_wp2_with fail
    go_ret2
    rw [HX.out]
    exact ⟨rfl, HB2.out⟩
  have d2 : decide ((39999 : Int) < (n : Int)) = false := decide_eq_false (by omega)
  have HI := Lib.hid (fun W h => text_i n (by omega) (by omega) W h)
  have HII := Lib.hid (fun W h => text_I n (by omega) (by omega) W h)
  have HX2 := Lib.hid (HCODE.out.2.1 (by omega) (by omega))
  have HX3 := Lib.hid (HCODE.out.2.2 (by omega) (by omega))
  obtain ⟨a, ha⟩ : ∃ a : ByteArray, a = ⟨(rom n).toArray⟩ := ⟨_, rfl⟩
  obtain ⟨b, hb⟩ : ∃ b : ByteArray, b = ⟨((rom n).map upB).toArray⟩ := ⟨_, rfl⟩
  have had : a.toList = rom n := by rw [Lib.toList_data, ha]
  have hbd : b.toList = (rom n).map upB := by rw [Lib.toList_data, hb]
  have hsd : s.toList = s.data.toList := Lib.toList_data s
  rw [← ha] at HI
  rw [← hb] at HII
  have HAD := Lib.hid had
  have HBD := Lib.hid hbd
  have HSD := Lib.hid hsd
  clear h1 h2 ha hb had hbd hsd HCODE
  go_wp2_with fail
  refine (HI.out _ T2.out).mono ?_
  rintro e w3 ⟨rfl, hb⟩
  have T3 := Lib.hid (T2.out.below hb (Nat.le_refl _))
  have HB3 := Lib.hid (HB2.out.trans (hb.mono HB2.out.size))
  clear hb
  cases hea : (s.toList == a.toList) with
  | true =>
    have HE := Lib.hid (HX3.out (.inl (by rw [← HSD.out, ← HAD.out]; simpa using hea)))
    go_wp2_with fail
    go_ret2
    rw [HE.out]
    exact ⟨rfl, HB3.out⟩
  | false =>
    go_wp2_with fail
    refine (HII.out _ T3.out).mono ?_
    rintro e w4 ⟨rfl, hb⟩
    have HB4 := Lib.hid (HB3.out.trans (hb.mono HB3.out.size))
    clear hb
    cases heb : (s.toList == b.toList) with
    | true =>
      have HE := Lib.hid (HX3.out (.inr (by rw [← HSD.out, ← HBD.out]; simpa using heb)))
      go_wp2_with fail
      go_ret2
      rw [HE.out]
      exact ⟨rfl, HB4.out⟩
    | false =>
      have HE := Lib.hid (HX2.out (by
        rw [← HSD.out, ← HBD.out, ← HAD.out]
        rintro (h | h)
        · rw [h] at hea; simp at hea
        · rw [h] at heb; simp at heb))
      go_wp2_with fail
      go_ret2
      rw [HE.out]
      exact ⟨rfl, HB4.out⟩
end Go.Proofs.YtgfjgcebgfaciaaDoor
