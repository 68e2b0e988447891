/- Lines that are ones. -/
import Derived.Test.YtfobbcddedcepaaDoorA4L
namespace Go.Proofs.YtfobbcddedcepaaDoor
open Go.RowKit
set_option maxRecDepth 100000
set_option linter.unusedSimpArgs false
set_option linter.unusedVariables false
def okH (n : Int) : Bool := decide (-1000000 ≤ n) && decide (n ≤ 1000000)
theorem validHeight_any (n : Int) (w : World) : Calls Tryd.prog 82 #[.int .i64 n] w fun e w' => e = .returned (.bool (okH n)) ∧ w = w' := by
  by_cases h1 : -1000000 ≤ n
  · have d1 : decide (-1000000 ≤ n) = true := decide_eq_true h1
    have HX := Lib.hid (show okH n = decide (n ≤ 1000000) by unfold okH; rw [d1]; rfl)
    clear h1
    go_enter Tryd.func82, Tryd.ntmps82
    go_wp2_with fail
    go_ret
    rw [HX.out]
    exact ⟨rfl, rfl⟩
  · have d1 : decide (-1000000 ≤ n) = false := decide_eq_false h1
    have HX := Lib.hid (show okH n = false by unfold okH; rw [d1]; rfl)
    clear h1
    go_enter Tryd.func82, Tryd.ntmps82
    go_wp2_with fail
    go_ret
    rw [HX.out]
    exact ⟨rfl, rfl⟩
def okRL (tx : ByteArray) (md : Bool) (up dn : Int) (bn : Nat) : Bool :=
  if md then tx.data.toList.isEmpty && okH up && okH dn && decide (bn ≤ 2000) else okTx tx.data.toList && (up == 0) && (dn == 0) && (bn == 0)
set_option maxHeartbeats 1000000 in
theorem validLine_made (tx : ByteArray) (up dn : Int) (bo : Option Addr) (bn bc : Nat) (w : World) : Calls Tryd.prog 76 #[.agg #[.string tx, .bool true, .int .i64 up, .int .i64 dn, .slice bo bn bc]] w fun e w' => e = .returned (.bool (okRL tx true up dn bn)) ∧ Below w.heap.size w w' := by
  have H1 := Lib.hid (fun W => validHeight_any up W)
  have H2 := Lib.hid (fun W => validHeight_any dn W)
  have HE := Lib.hid (show okRL tx true up dn bn = (tx.data.toList.isEmpty && okH up && okH dn && decide (bn ≤ 2000)) from rfl)
  have HB := Lib.hid ((Below.refl w.heap.size w).alloc (Nat.le_refl _) (.cells #[.string tx, .bool true, .int .i64 up, .int .i64 dn, .slice bo bn bc] 31))
  generalize okH up = u at *
  generalize okH dn = d at *
  go_enter Tryd.func76, Tryd.ntmps76
  go_wp2_with fail
  · have ht : tx.toList = [] := by assumption
    have HT := Lib.hid (show tx.data.toList.isEmpty = true by rw [← Lib.toList_data, ht]; rfl)
    refine (H1.out _).mono ?_
    rintro e w1 ⟨rfl, rfl⟩
    cases u with
    | false =>
      go_wp2_with fail
      go_ret
      rw [HE.out, HT.out]
      exact ⟨rfl, HB.out⟩
    | true =>
      go_wp2_with fail
      refine (H2.out _).mono ?_
      rintro e w1 ⟨rfl, rfl⟩
      cases d with
      | false =>
        go_wp2_with fail
        go_ret
        rw [HE.out, HT.out]
        exact ⟨rfl, HB.out⟩
      | true =>
        have HD := Lib.hid (show decide ((bn : Int) ≤ 2000) = decide (bn ≤ 2000) by rw [decide_eq_decide]; omega)
        go_wp2_with fail
        go_ret
        rw [HE.out, HT.out]
        exact ⟨by simp [HD.out], HB.out⟩
  · have ht : ¬ tx.toList = [] := by assumption
    have HT := Lib.hid (show tx.data.toList.isEmpty = false by rw [← Lib.toList_data]; cases h : tx.toList with | nil => exact absurd h ht | cons a b => rfl)
    go_ret
    rw [HE.out, HT.out]
    exact ⟨rfl, HB.out⟩
set_option maxHeartbeats 1000000 in
theorem validLine_text (tx : ByteArray) (up dn : Int) (bo : Option Addr) (bn bc : Nat) (w : World) : Calls Tryd.prog 76 #[.agg #[.string tx, .bool false, .int .i64 up, .int .i64 dn, .slice bo bn bc]] w fun e w' => e = .returned (.bool (okRL tx false up dn bn)) ∧ Below w.heap.size w w' := by
  have H1 := Lib.hid (fun W => validText_any tx W)
  have HE := Lib.hid (show okRL tx false up dn bn = (okTx tx.data.toList && (up == 0) && (dn == 0) && (bn == 0)) from rfl)
  have HB := Lib.hid ((Below.refl w.heap.size w).alloc (Nat.le_refl _) (.cells #[.string tx, .bool false, .int .i64 up, .int .i64 dn, .slice bo bn bc] 31))
  generalize okTx tx.data.toList = u at *
  go_enter Tryd.func76, Tryd.ntmps76
  go_wp2_with fail
  refine (H1.out _).mono ?_
  rintro e w1 ⟨rfl, rfl⟩
  cases u with
  | false =>
    go_wp2_with fail
    go_ret
    rw [HE.out]
    exact ⟨rfl, HB.out⟩
  | true =>
    by_cases h1 : up = 0
    · subst h1
      by_cases h2 : dn = 0
      · subst h2
        have HD := Lib.hid (show ((bn : Int) == 0) = (bn == 0) by cases bn <;> rfl)
        go_wp2_with fail
        go_ret
        rw [HE.out]
        exact ⟨by simp [HD.out], HB.out⟩
      · have d2 : (dn == 0) = false := by simpa using h2
        have HX := Lib.hid d2
        clear h2
        go_wp2_with fail
        go_ret
        rw [HE.out, HX.out]
        exact ⟨by simp, HB.out⟩
    · have d1 : (up == 0) = false := by simpa using h1
      have HX := Lib.hid d1
      clear h1
      go_wp2_with fail
      go_ret
      rw [HE.out, HX.out]
      exact ⟨by simp, HB.out⟩
theorem validLine_any (tx : ByteArray) (md : Bool) (up dn : Int) (bo : Option Addr) (bn bc : Nat) (w : World) : Calls Tryd.prog 76 #[.agg #[.string tx, .bool md, .int .i64 up, .int .i64 dn, .slice bo bn bc]] w fun e w' => e = .returned (.bool (okRL tx md up dn bn)) ∧ Below w.heap.size w w' := by
  cases md with
  | true => exact validLine_made tx up dn bo bn bc w
  | false => exact validLine_text tx up dn bo bn bc w
/-- A line that is one. -/
def okLn (l : Ln) : Bool := okRL l.tx l.md l.up l.dn l.bx.length
def VlR (ls : List Ln) (w : World) (n k : Nat) (i : Value) (wr : World) : Prop := ∃ j : Nat, k + j = n ∧ i = .int .i64 j ∧ (ls.take j).all okLn = true ∧ Below w.heap.size w wr
/-- The cells of a line that is read. -/
theorem reads_ln {P : Nat → Prop} {w : World} {A : Option Addr} {n : Nat} {rs : List RL} (h : ReadsP P w 5 A n (rs.flatMap rlCs)) (j : Nat) (r : RL) (hr : rs[j]? = some r) :
    ∃ b off, A = some ⟨b, off, none⟩ ∧ P b ∧ w.cell? ⟨b, off + j * 5, none⟩ = some (.string r.tx) ∧ w.cell? ⟨b, off + j * 5 + 1, none⟩ = some (.bool r.md) ∧ w.cell? ⟨b, off + j * 5 + 2, none⟩ = some (.int .i64 r.up) ∧ w.cell? ⟨b, off + j * 5 + 3, none⟩ = some (.int .i64 r.dn) ∧ w.cell? ⟨b, off + j * 5 + 4, none⟩ = some (.slice r.bo r.bn r.bc) := by
  have hjl : j < rs.length := (List.getElem?_eq_some_iff.1 hr).1
  have h1 := h.1
  rw [fm_len rl_len] at h1
  obtain ⟨b, off, hA, hp, hc⟩ := h.2 (by omega)
  have key := fun k (hk : k < 5) => fm_at rl_len rs j k r hr hk
  refine ⟨b, off, hA, hp, hc _ _ (key 0 (by omega)), ?_, ?_, ?_, ?_⟩
  · have := hc _ _ (key 1 (by omega)); rwa [← Nat.add_assoc] at this
  · have := hc _ _ (key 2 (by omega)); rwa [← Nat.add_assoc] at this
  · have := hc _ _ (key 3 (by omega)); rwa [← Nat.add_assoc] at this
  · have := hc _ _ (key 4 (by omega)); rwa [← Nat.add_assoc] at this
theorem all_take_not {α : Type} (p : α → Bool) (l : List α) (j : Nat) (x : α) (h : l[j]? = some x) (hx : p x = false) : l.all p = false := by
  cases e : l.all p with
  | false => rfl
  | true =>
    have := List.all_eq_true.1 e x (List.mem_of_getElem? h)
    rw [hx] at this; cases this
theorem all_take_succ {α : Type} (p : α → Bool) (l : List α) (j : Nat) (x : α) (h : l[j]? = some x) (hx : p x = true) (ht : (l.take j).all p = true) : (l.take (j + 1)).all p = true := by
  have hj := (List.getElem?_eq_some_iff.1 h).1
  have e := (List.getElem?_eq_some_iff.1 h).2
  rw [List.take_succ_eq_append_getElem hj, List.all_append, ht, e]
  simp [hx]
set_option maxHeartbeats 2000000 in
theorem validLines_any {P : TypeId → Nat → Prop} {w : World} {A : Option Addr} {n c : Nat} {ls : List Ln} (h : LnsAt P w A n ls) (hP : ∀ e b, P e b → b < w.heap.size) (hn : (n : Int) ≤ 9223372036854775807) :
    Calls Tryd.prog 67 #[.slice A n c] w fun e w' => e = .returned (.bool (ls.all okLn)) ∧ Below w.heap.size w w' := by
  obtain ⟨⟨rs, hr, ha⟩, hlen⟩ := h
  have HR := Lib.hid hr
  have HA : Hid (All2 (RlIs P w) rs ls) := Lib.hid ha
  have HLEN := Lib.hid hlen
  have HP := Lib.hid hP
  have HST : Hid (VlR ls w n n (.int .i64 0) w) := Lib.hid ⟨0, rfl, rfl, rfl, Below.refl _ _⟩
  have HRL := Lib.hid (show rs.length = n by rw [ha.1, hlen])
  clear hr ha hlen hP
  go_enter Tryd.func67, Tryd.ntmps67
  go_wp2_with fail
  go_loopg [7] n (fun k i wr => VlR ls w n k i wr)
  case atStart => exact HST.out
  case round =>
    obtain ⟨j, hk, rfl, hall, hb⟩ := hrel
    have HK := Lib.hid hk
    have HB := Lib.hid hb
    by_cases hj : j < n
    · have dj : decide (j < n) = true := decide_eq_true hj
      have hrj : rs[j]? = some (rs[j]'(by have := HRL.out; omega)) := List.getElem?_eq_getElem (by have := HRL.out; omega)
      obtain ⟨r, hre⟩ : ∃ r, r = rs[j]'(by have := HRL.out; omega) := ⟨_, rfl⟩
      rw [← hre] at hrj
      have hlj : ls[j]? = some (ls[j]'(by have := HLEN.out; omega)) := List.getElem?_eq_getElem (by have := HLEN.out; omega)
      obtain ⟨l, hle⟩ : ∃ l, l = ls[j]'(by have := HLEN.out; omega) := ⟨_, rfl⟩
      rw [← hle] at hlj
      have hri := HA.out.2 j r l hrj hlj
      obtain ⟨b, off, rfl, hp, c0, c1, c2, c3, c4⟩ := reads_ln HR.out j r hrj
      have hbl := HP.out _ b hp
      have e := fun o => hb.cell (p := ⟨b, o, none⟩) hbl
      rw [← e] at c0 c1 c2 c3 c4
      have HOK := Lib.hid (show okLn l = okRL r.tx r.md r.up r.dn r.bn by unfold okLn; rw [← hri.tx, ← hri.md, ← hri.up, ← hri.dn, ← hri.bx.len])
      have HLJ := Lib.hid hlj
      have HAL := Lib.hid hall
      have HJ := Lib.hid hj
      obtain ⟨tx, md, up, dn, bo, bn, bc⟩ := r
      simp only at c0 c1 c2 c3 c4 HOK
      have HV := Lib.hid (fun W => validLine_any tx md up dn bo bn bc W)
      generalize okRL tx md up dn bn = t at HV HOK
      clear hk hj hb hrj hre hlj hle hri hp hbl e hall
      go_wp2_with fail
      refine (HV.out _).mono ?_
      rintro e w2 ⟨rfl, hb2⟩
      have HB2 := Lib.hid ((HB.out.alloc HB.out.size (.cells #[.string tx, .bool md, .int .i64 up, .int .i64 dn, .slice bo bn bc] 31)).trans (hb2.mono (by have := HB.out.size; simp; omega)))
      clear hb2
      cases t with
      | false =>
        go_wp2_with fail
        go_ret
        rw [all_take_not okLn ls j l HLJ.out HOK.out]
        exact ⟨rfl, HB2.out⟩
      | true =>
        go_wp2_with fail
        go_roundg (gk - 1)
        case measure => have := HK.out; have := HJ.out; omega
        case rel =>
          have := HK.out
          have := HJ.out
          exact ⟨j + 1, by omega, by go_num, all_take_succ okLn ls j l HLJ.out HOK.out HAL.out, HB2.out⟩
    · have dj : decide (j < n) = false := decide_eq_false hj
      have HQ := Lib.hid (show ls.all okLn = true by rw [← List.take_of_length_le (l := ls) (i := j) (by have := HLEN.out; omega)]; exact hall)
      clear hk hj hb hall
      go_wp2_with fail
      go_ret
      rw [HQ.out]
      exact ⟨rfl, HB.out⟩
end Go.Proofs.YtfobbcddedcepaaDoor
