/- The law MeasureSums: its walk. -/
import Derived.Test.YteihpeffaeahlaaDoorMS
import Derived.Test.YteihpeffaeahlaaDoorLawLeft
namespace Go.Proofs.YteihpeffaeahlaaDoor
open Go.RowKit
set_option maxRecDepth 100000
theorem prefix_chain (sb tb : ByteArray) (xs : List (Bool × Nat)) (hx : ∀ x ∈ xs, x.2 < 1000000) (hl : xs.length ≤ 100) (h : sb.data.toList = 48 :: tl xs) (ht : tb.data.toList = 48 :: (tl xs ++ [32, 109, 111, 114, 101])) :
    prefixS tb 117 0 0 0 = (sm 0 xs, (sb.size : Int), 0) := by
  have hs : sb.size = (tl xs).length + 1 := by rw [Lib.size_eq, h]; rfl
  have e1 : (⟨tb, 117, 0, 0, 0, true⟩ : RS) = uF (48 :: (tl xs ++ [32, 109, 111, 114, 101])) := by unfold uF; rw [← ht]
  have e2 : (⟨tb.extract 0 ((tl xs).length + 1), 117, 0, 0, 0, false⟩ : RS) = uR (48 :: tl xs) := by
    unfold uR
    congr 1
    apply ByteArray.ext
    apply Array.ext'
    rw [ByteArray.data_extract, Array.toList_extract, ht]
    simp
  unfold prefixS
  rw [if_pos (by decide), e1, fo_chain xs hx]
  simp only
  rw [e2, ev_chain xs hx hl, if_pos rfl, hs]
/-- Prefix of a text in units. -/
theorem prefix_u (s : ByteArray) (a b c : Int) (h : prefixS s 117 0 0 0 = (a, b, c)) (hL : s.size ≤ 9223372036854775806) (w : World) (hT : Tab w) :
    Calls Tryd.prog 20 #[.string s, .int .u8 117, CX 0 0 0] w fun e w' => e = .returned (.tuple #[.int .i64 a, .int .i64 b, .int .i64 c]) ∧ Below w.heap.size w w' := by
  have := prefix_any (w := w) s 117 0 0 0 hL hT
  rw [h] at this
  exact this
theorem lt_of_cell {w : World} {b o : Nat} {v : Value} (h : w.cell? ⟨b, o, none⟩ = some v) : b < w.heap.size := by
  by_cases hb : b < w.heap.size
  · exact hb
  · have : w.heap[b]? = none := Array.getElem?_eq_none (by omega)
    simp [World.cell?, this] at h
/-- Numbers in memory, where there are any. -/
def IntsIn (a : Option Addr) (zs : List Int) (w : World) : Prop := 0 < zs.length → ∃ b off, a = some ⟨b, off, none⟩ ∧ ∀ j, j < zs.length → w.cell? ⟨b, off + j, none⟩ = some (.int .i64 (zs.getD j 0))
/-- At the head of the law's loop. -/
def SuI (N : Nat) (w : World) (n : Nat) (s want i : Value) (wr : World) : Prop :=
  ∃ (xs : List (Bool × Nat)) (sb : ByteArray), s = .string sb ∧ sb.data.toList = 48 :: tl xs ∧ want = .int .i64 (sm 0 xs) ∧ i = .int .i64 (xs.length : Nat) ∧ n = N - xs.length ∧ xs.length ≤ N ∧
    (∀ x ∈ xs, x.2 < 1000000) ∧ sb.size ≤ 1 + 8 * xs.length ∧ -1000000 * (xs.length : Int) ≤ sm 0 xs ∧ sm 0 xs ≤ 1000000 * (xs.length : Int) ∧ Below w.heap.size w wr
set_option maxHeartbeats 2000000 in
theorem law_sums (a : Option Addr) (cap : Nat) (zs : List Int) (w : World) (hT : Tab w) (hI : IntsIn a zs w) :
    Calls Tryd.prog 7 #[.slice a zs.length cap] w fun e w' => e = .returned (.bool true) ∧ Below w.heap.size w w' := by
  have HT := Lib.hid hT
  have HI := Lib.hid hI
  clear hT hI
  obtain ⟨N, hN⟩ : ∃ N, N = zs.length := ⟨_, rfl⟩
  rw [← hN]
  have HN := Lib.hid hN
  clear hN
  by_cases h100 : 100 < N
  · have t1 : decide ((100 : Int) < (N : Int)) = true := decide_eq_true (by omega)
    clear h100
    go_enter Tryd.func7, Tryd.ntmps7
    go_wp2_with fail
    refine (sane_any _ HT.out).mono ?_
    rintro e w' ⟨rfl, hb⟩
    have HB := Lib.hid hb
    clear hb
    go_wp2_with fail
    go_ret
    exact ⟨rfl, HB.out⟩
  · have t1 : decide ((100 : Int) < (N : Int)) = false := decide_eq_false (by omega)
    have hN100 : N ≤ 100 := by omega
    clear h100
    go_enter Tryd.func7, Tryd.ntmps7
    go_wp2_with fail
    clear t1
    go_loopg [3, 4, 5] N (fun n s v i wr => SuI N w n s v i wr)
    case atStart => exact ⟨[], ⟨#[48]⟩, rfl, rfl, rfl, rfl, rfl, Nat.zero_le _, (fun x hx => by cases hx), by decide, by simp [sm], by simp [sm], Below.refl _ _⟩
    case round =>
      obtain ⟨xs, sb, rfl, hsb, rfl, rfl, hn, hxN, hx, hsz, hv1, hv2, hB⟩ := hrel
      have HSB := Lib.hid hsb
      have HX := Lib.hid hx
      have HB := Lib.hid hB
      have HNN := Lib.hid hn
      obtain ⟨v, hv⟩ : ∃ v, v = sm 0 xs := ⟨_, rfl⟩
      rw [← hv] at hv1 hv2
      rw [← hv]
      have HV := Lib.hid hv
      obtain ⟨i, hi⟩ : ∃ i, i = xs.length := ⟨_, rfl⟩
      rw [← hi] at hxN hsz hv1 hv2
      rw [← hi]
      have HII := Lib.hid hi
      clear hsb hx hB hv hi hn
      by_cases hlt : i < N
      · have t1 : decide (i < N) = true := decide_eq_true hlt
        obtain ⟨b, off, rfl, hc⟩ := HI.out (by have := HN.out; omega)
        have hci := hc i (by have := HN.out; omega)
        have hbl := lt_of_cell hci
        obtain ⟨z, hz⟩ : ∃ z, z = zs.getD i 0 := ⟨_, rfl⟩
        rw [← hz] at hci
        have hcell : wr.cell? ⟨b, off + i, none⟩ = some (.int .i64 z) := (HB.out.cell (p := ⟨b, off + i, none⟩) hbl).trans hci
        obtain ⟨k, hk, hK⟩ := umod z 1000000 (by omega) (by omega)
        have hkn : k < 1000000 := by omega
        have lk := dec_len 6 k (by omega) (by omega)
        clear hc hci hbl hz
        rcases Bool.eq_false_or_eq_true (z.tmod 2 == 0) with hp | hp
        case inl =>
          go_wp2_with fail
          refine (digits_str k (by omega) _).mono ?_
          rintro e w1 ⟨rfl, hb1⟩
          have B1 := Lib.hid (HB.out.trans (hb1.mono HB.out.size))
          clear hb1
          go_wp2_with fail
          go_roundg (N - (i + 1))
          case measure => have := HNN.out; have := HII.out; omega
          case rel =>
            have hkk : st (sm 0 xs) (true, k) = v + k := by rw [← HV.out]; rfl
            refine ⟨xs ++ [(true, k)], sb ++ ⟨#[43]⟩ ++ ⟨(dec k).toArray⟩, rfl, ?_, ?_, ?_, ?_, ?_, ?_, ?_, ?_, ?_, B1.out⟩
            · rw [tl_snoc]; simp [HSB.out]
            · rw [sm_snoc, hkk]
            · simp [HII.out]
            · have := HII.out; simp; omega
            · have := HII.out; simp; omega
            · intro x hx2
              rcases List.mem_append.1 hx2 with h | h
              · exact HX.out x h
              · obtain rfl : x = (true, k) := by simpa using h
                exact hkn
            · have := HII.out
              have e1 : (sb ++ (⟨#[43]⟩ : ByteArray) ++ (⟨(dec k).toArray⟩ : ByteArray)).size = sb.size + 1 + (dec k).length := by simp [ByteArray.size_append]; rfl
              rw [e1]; simp; omega
            · rw [sm_snoc, hkk]; have := HII.out; simp; omega
            · rw [sm_snoc, hkk]; have := HII.out; simp; omega
        case inr =>
          go_wp2_with fail
          refine (digits_str k (by omega) _).mono ?_
          rintro e w1 ⟨rfl, hb1⟩
          have B1 := Lib.hid (HB.out.trans (hb1.mono HB.out.size))
          clear hb1
          go_wp2_with fail
          go_roundg (N - (i + 1))
          case measure => have := HNN.out; have := HII.out; omega
          case rel =>
            have hkk : st (sm 0 xs) (false, k) = v - k := by rw [← HV.out]; rfl
            refine ⟨xs ++ [(false, k)], sb ++ ⟨#[45]⟩ ++ ⟨(dec k).toArray⟩, rfl, ?_, ?_, ?_, ?_, ?_, ?_, ?_, ?_, ?_, B1.out⟩
            · rw [tl_snoc]; simp [HSB.out]
            · rw [sm_snoc, hkk]
            · simp [HII.out]
            · have := HII.out; simp; omega
            · have := HII.out; simp; omega
            · intro x hx2
              rcases List.mem_append.1 hx2 with h | h
              · exact HX.out x h
              · obtain rfl : x = (false, k) := by simpa using h
                exact hkn
            · have := HII.out
              have e1 : (sb ++ (⟨#[45]⟩ : ByteArray) ++ (⟨(dec k).toArray⟩ : ByteArray)).size = sb.size + 1 + (dec k).length := by simp [ByteArray.size_append]; rfl
              rw [e1]; simp; omega
            · rw [sm_snoc, hkk]; have := HII.out; simp; omega
            · rw [sm_snoc, hkk]; have := HII.out; simp; omega
      · have t1 : decide (i < N) = false := decide_eq_false hlt
        have hs : sb.size ≤ 1000 := by omega
        have T1 := Lib.hid (HT.out.below HB.out HT.out.pos)
        obtain ⟨tb, hte⟩ : ∃ tb, tb = sb ++ (⟨#[32, 109, 111, 114, 101]⟩ : ByteArray) := ⟨_, rfl⟩
        have htb : tb.data.toList = 48 :: (tl xs ++ [32, 109, 111, 114, 101]) := by rw [hte]; simp [HSB.out]
        have hpc := prefix_chain sb tb xs HX.out (by have := HII.out; omega) HSB.out htb
        have htz : tb.size ≤ 9223372036854775806 := by rw [hte, ByteArray.size_append, show (⟨#[32, 109, 111, 114, 101]⟩ : ByteArray).size = 5 from rfl]; omega
        have HTE := Lib.hid hte
        have hev := ev_chain xs HX.out (by have := HII.out; omega)
        rw [← HV.out] at hpc hev
        have HPC := Lib.hid hpc
        have HEV := Lib.hid hev
        have HTZ := Lib.hid htz
        clear hlt htb hpc hev htz hte
        go_wp2_with fail
        refine (eval_u sb _ HSB.out (by rw [← HSB.out, ← Lib.size_eq]; omega) _ T1.out).mono ?_
        rw [HEV.out]
        rintro e w1 ⟨rfl, hb1⟩
        have B1 := Lib.hid (HB.out.trans (hb1.mono HB.out.size))
        have T2 := Lib.hid (HT.out.below B1.out HT.out.pos)
        clear hb1
        go_wp2_with fail
        rw [← HTE.out]
        refine (prefix_u tb v sb.size 0 HPC.out HTZ.out w1 T2.out).mono ?_
        rintro e w2 ⟨rfl, hb2⟩
        have B2 := Lib.hid (B1.out.trans (hb2.mono B1.out.size))
        have T3 := Lib.hid (HT.out.below B2.out HT.out.pos)
        clear hb2
        go_wp2_with fail
        refine (sane_any _ T3.out).mono ?_
        rintro e w3 ⟨rfl, hb3⟩
        have B3 := Lib.hid (B2.out.trans (hb3.mono B2.out.size))
        clear hb3
        go_wp2_with fail
        go_ret
        exact ⟨rfl, B3.out⟩
end Go.Proofs.YteihpeffaeahlaaDoor
