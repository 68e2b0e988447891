/- Lines, as the statements have them; Protect. -/
import Derived.Test.YtoggjiblhcbmjaaDoorWD
import Derived.Test.YtoggjiblhcbmjaaDoorM2
namespace Go.Proofs.YtoggjiblhcbmjaaDoor
open Go.RowKit Go.Shelf
set_option maxRecDepth 100000
/-- A line, as the statements have it. -/
def lnS (l : List UInt8) : Bool := l.all (fun c => !(c == 10)) && decide (l.length ≤ 2000)
def IlR (l : List UInt8) (k : Nat) (i : Value) : Prop := ∃ j : Nat, j ≤ l.length ∧ k + j = l.length ∧ i = .int .i64 (j : Int) ∧ (l.take j).all (fun c => !(c == 10)) = true
theorem isLine_any (s : ByteArray) (hs : s.size ≤ maxLen) (w : World) : Calls Tryd.prog 12 #[.string s] w fun e w' => e = .returned (.bool (lnS s.data.toList)) ∧ w = w' := by
  have hlen : s.data.toList.length = s.size := (sz_of s _ rfl).symm
  unfold maxLen at hs
  obtain ⟨l, hl⟩ : ∃ l, l = s.data.toList := ⟨_, rfl⟩
  rw [← hl] at hlen ⊢
  have HL := Lib.hid hl
  have HLEN := Lib.hid hlen
  clear hl hlen
  obtain ⟨R, hR⟩ : ∃ R, R = lnS l := ⟨_, rfl⟩
  rw [← hR]
  have HR := Lib.hid hR
  clear hR
  go_enter Tryd.func12, Tryd.ntmps12
  go_wp2_with fail
  go_loopg [3] l.length (fun k i wr => IlR l k i ∧ wr = w)
  case atStart => exact ⟨⟨0, Nat.zero_le _, rfl, rfl, rfl⟩, rfl⟩
  case round =>
    obtain ⟨⟨j, hj, hk, rfl, ha⟩, hw⟩ := hrel
    subst hw
    have HK := Lib.hid hk
    have HA := Lib.hid ha
    have HJ := Lib.hid hj
    have hjs : j ≤ s.size := by have := HLEN.out; omega
    clear hk ha hj
    by_cases hlt : j < s.size
    · have hjl : j < l.length := by have := HLEN.out; omega
      have HT := Lib.hid (show (l.take (j + 1)).all (fun c => !(c == 10)) = !(l[j] == 10) by rw [List.take_succ_eq_append_getElem hjl, List.all_append, HA.out]; simp)
      have HG := Lib.hid (show s[j] = l[j] from at_of s l HL.out.symm j hlt hjl)
      have d1 : decide (j < s.size) = true := decide_eq_true hlt
      by_cases h10 : l[j] = 10
      · have t1 : ((s[j].toNat : Int) == 10) = true := by rw [HG.out, h10]; rfl
        have HF := Lib.hid (show R = false by
          rw [HR.out]
          unfold lnS
          have : l.all (fun c => !(c == 10)) = false := by
            cases hq : l.all (fun c => !(c == 10)) with
            | false => rfl
            | true =>
              have := List.all_eq_true.1 hq _ (List.getElem_mem hjl)
              rw [h10] at this; cases this
          rw [this]; rfl)
        clear h10
        go_wp2_with fail
        go_ret
        rw [HF.out]
        exact ⟨rfl, rfl⟩
      · have t1 : ((s[j].toNat : Int) == 10) = false := by rw [HG.out]; exact nb _ 10 h10
        have HN := Lib.hid (show (l[j] == 10) = false by simpa using h10)
        clear h10
        go_wp2_with fail
        go_roundg (gk - 1)
        case measure => have := HK.out; omega
        case rel => exact ⟨⟨j + 1, by omega, by have := HK.out; omega, by go_num, by rw [HT.out, HN.out]; rfl⟩, rfl⟩
    · have hje : j = l.length := by have := HLEN.out; have := HJ.out; omega
      have d1 : decide (j < s.size) = false := decide_eq_false hlt
      have HF := Lib.hid (show R = decide ((s.size : Int) ≤ 2000) by
        have ha := HA.out
        rw [hje, List.take_length] at ha
        rw [HR.out]
        unfold lnS
        rw [ha, HLEN.out, Bool.true_and]
        simp only [decide_eq_decide]
        omega)
      clear hje
      go_wp2_with fail
      go_ret
      rw [HF.out]
      exact ⟨rfl, rfl⟩
/-- The two ways of saying that a text is a line. -/
theorem okS_ln (l : List UInt8) (h : lnS l = true) : okS l = true := by
  unfold lnS at h
  simp only [Bool.and_eq_true, decide_eq_true_eq] at h
  unfold okS
  rw [decide_eq_true h.2]
  cases hq : decide (0 ≤ Lib.indexByte l 10) with
  | false => rfl
  | true =>
    have h1 := of_decide_eq_true hq
    obtain ⟨k, hk⟩ : ∃ k : Nat, Lib.indexByte l 10 = k := ⟨(Lib.indexByte l 10).toNat, by omega⟩
    have h2 := (Lib.indexByte_some hk).1
    have h3 := List.all_eq_true.1 h.1 10 (List.mem_of_getElem? h2)
    cases h3
/-- The cell of the library's variable: some number. -/
def MaxI (w : World) : Prop := ∃ m, w.cell? ⟨0, 0, none⟩ = some (.int .i64 m)
theorem MaxI.below {B : Nat} {w w' : World} (h : MaxI w) (k : Below B w w') (hB : w.heap.size ≤ B) : MaxI w' := by
  obtain ⟨m, hm⟩ := h
  have hlt := World.block_lt_of_cell? w _ hm
  exact ⟨m, (k.cell (p := ⟨0, 0, none⟩) (Nat.lt_of_lt_of_le hlt hB)).trans hm⟩
theorem protect_ok (l : List UInt8) (hk : okS l = true) (hl : (dbl l).length ≤ 2000) (w : World) (hM : MaxI w) : Calls Tryd.prog 13 #[.string (bs l)] w fun e w' => e = .returned (.tuple #[.string (bs (dbl l)), .int .i64 0]) ∧ Below w.heap.size w w' := by
  have HV := Lib.hid (fun W => valid_any (bs l) W)
  rw [bs_list, hk] at HV
  have HC := Lib.hid (fun W => Tryd.strings_Count_one (bs l) 92 W)
  rw [bs_list] at HC
  obtain ⟨m, hm⟩ := hM
  have hlen := dbl_len l
  have HR := Lib.hid (Tryd.strings_ReplaceAll (bs l) ⟨#[92]⟩ ⟨#[92, 92]⟩ m w (by rw [bs_size]; omega) hm (by decide) (by
    show _ + Lib.count (bs l).data.toList [92] * 2 ≤ _
    rw [bs_list, Lib.count_one, bs_size]; omega))
  rw [show (⟨#[92]⟩ : ByteArray).data.toList = [92] from rfl, show (⟨#[92, 92]⟩ : ByteArray).data.toList = [92, 92] from rfl, bs_list, replaceAll_dbl] at HR
  rw [show (⟨(dbl l).toArray⟩ : ByteArray) = bs (dbl l) from rfl] at HR
  have hz : (bs l).size + Lib.countByte l 92 ≤ 2000 := by rw [bs_size]; unfold Lib.countByte; omega
  obtain ⟨c, hc⟩ : ∃ c, c = Lib.countByte l 92 := ⟨_, rfl⟩
  rw [← hc] at HC hz
  have d1 : decide ((2000 : Int) < ((bs l).size : Int) + (c : Int)) = false := decide_eq_false (by omega)
  clear hk hl hm hlen hc
  go_enter Tryd.func13, Tryd.ntmps13
  go_wp2_with fail
  refine (HV.out _).mono ?_
  rintro e w1 ⟨rfl, rfl⟩
  go_wp2_with fail
  refine (HC.out _).mono ?_
  rintro e w1 ⟨rfl, rfl⟩
  go_wp2_with fail
  refine HR.out.mono ?_
  rintro e w1 ⟨rfl, hb⟩
  have HB := Lib.hid hb
  clear hb
  go_wp2_with fail
  go_ret2
  exact ⟨rfl, HB.out⟩
end Go.Proofs.YtoggjiblhcbmjaaDoor
