/- The document's lines that are ones. -/
import Derived.Test.YtfobbcddedcepaaDoorA6
namespace Go.Proofs.YtfobbcddedcepaaDoor
open Go.RowKit
set_option maxRecDepth 100000
set_option linter.unusedSimpArgs false
set_option linter.unusedVariables false
theorem ib_any : ∀ (l : List UInt8) (c : UInt8), decide (0 ≤ Lib.indexByte l c) = l.any (· == c)
  | [], c => rfl
  | b :: l, c => by
    have ih := ib_any l c
    have hg := Lib.indexByte_ge l c
    have e0 : Lib.indexByte (b :: l) c = if (b == c) = true then 0 else if (Lib.indexByte l c == -1) = true then -1 else Lib.indexByte l c + 1 := by rw [Lib.indexByte]
    rw [List.any_cons, ← ih, e0]
    cases h : (b == c) with
    | true => rfl
    | false =>
      rw [Bool.false_or, if_neg (by decide)]
      by_cases e : Lib.indexByte l c = -1
      · rw [if_pos (by simp [e]), e]
      · rw [if_neg (by simpa using e), decide_eq_decide]; omega
def ItR (s : ByteArray) (w : World) (k : Nat) (i : Value) (wr : World) : Prop :=
  ∃ j, k + j = s.size ∧ i = .int .i64 j ∧ (s.data.toList.take j).any (· == 10) = false ∧ w = wr
set_option maxHeartbeats 1000000 in
theorem rIsText_any (s : ByteArray) (hs9 : s.size ≤ 9223372036854775807) (w : World) : Calls Tryd.prog 80 #[.string s] w fun e w' => e = .returned (.bool (okTx s.data.toList)) ∧ w = w' := by
  have HE := Lib.hid (show okTx s.data.toList = (decide (s.size ≤ 2000) && !(s.data.toList.any (· == 10))) by unfold okTx; rw [ib_any, show s.data.toList.length = s.size by simp])
  have HST : Hid (ItR s w s.size (.int .i64 0) w) := Lib.hid ⟨0, rfl, rfl, rfl, rfl⟩
  have HSL := Lib.hid (show s.data.toList.length = s.size by simp)
  have hmax : s.size ≤ maxLen := by unfold maxLen; omega
  have HS9 := Lib.hid hs9
  go_enter Tryd.func80, Tryd.ntmps80
  go_wp2_with fail
  go_loopg [3] s.size (fun k i wr => ItR s w k i wr)
  case atStart => exact HST.out
  case round =>
    obtain ⟨j, hk, rfl, ha, rfl⟩ := hrel
    have HK := Lib.hid hk
    by_cases hj : j < s.size
    · have dj : decide (j < s.size) = true := decide_eq_true hj
      have hjl : j < s.data.toList.length := by rw [HSL.out]; exact hj
      have hc := byte_at s j hj
      have HT := Lib.hid (show (s.data.toList.take (j + 1)).any (· == 10) = (s[j] == 10) by
        rw [List.take_succ_eq_append_getElem hjl, List.any_append, ha]; simp; rfl)
      clear hk ha
      by_cases c3 : s[j] = 10
      · have e3 : (((s[j]).toNat : Int) == 10) = true := by rw [c3]; rfl
        have HQ := Lib.hid (show s.data.toList.any (· == 10) = true from List.any_eq_true.2 ⟨s[j], List.mem_of_getElem? hc, by rw [c3]; rfl⟩)
        clear c3 hc
        go_wp2_with fail
        go_ret
        rw [HE.out, HQ.out]
        exact ⟨by simp, rfl⟩
      · have e3 : (((s[j]).toNat : Int) == 10) = false := by
          rw [beq_eq_false_iff_ne]; intro h; exact c3 (UInt8.toNat_inj.1 (by show (s[j]).toNat = 10; omega))
        have HQ := Lib.hid (show (s[j] == 10) = false by simpa using c3)
        clear c3 hc
        go_wp2_with fail
        go_roundg (gk - 1)
        case measure => have := HK.out; omega
        case rel => have := HK.out; exact ⟨j + 1, by omega, by go_num, by rw [HT.out]; exact HQ.out, rfl⟩
    · have dj : decide (j < s.size) = false := decide_eq_false hj
      have HQ := Lib.hid (show s.data.toList.any (· == 10) = false by rw [← List.take_of_length_le (l := s.data.toList) (i := j) (by rw [HSL.out]; omega)]; exact ha)
      have HZ := Lib.hid (show decide ((s.size : Int) ≤ 2000) = decide (s.size ≤ 2000) by rw [decide_eq_decide]; omega)
      clear hk ha hj
      go_wp2_with fail
      go_ret
      rw [HE.out, HQ.out]
      exact ⟨by simp [HZ.out], rfl⟩
theorem i64_of_wf {x : Int} (h : (Lit.int .i64 x).wf = true) : I64 x := by
  simp only [Lit.wf, IntKind.min, IntKind.max, IntKind.signed, IntKind.bits, Bool.and_eq_true, decide_eq_true_eq, if_true] at h
  unfold I64; omega
/- The law StoreParts. -/
set_option maxHeartbeats 1000000 in
theorem rIsLine_text (tx : ByteArray) (htz : tx.size ≤ 9223372036854775807) (up dn : Int) (bo : Option Addr) (bn bc : Nat) (w : World) : Calls Tryd.prog 74 #[.agg #[.string tx, .bool false, .int .i64 up, .int .i64 dn, .slice bo bn bc]] w fun e w' => e = .returned (.bool (okRL tx false up dn bn)) ∧ Below w.heap.size w w' := by
  have H1 := Lib.hid (fun W => rIsText_any tx htz W)
  have HE := Lib.hid (show okRL tx false up dn bn = (okTx tx.data.toList && (up == 0) && (dn == 0) && (bn == 0)) from rfl)
  have HB := Lib.hid ((Below.refl w.heap.size w).alloc (Nat.le_refl _) (.cells #[.string tx, .bool false, .int .i64 up, .int .i64 dn, .slice bo bn bc] 31))
  generalize okTx tx.data.toList = u at *
  clear htz
  go_enter Tryd.func74, Tryd.ntmps74
  go_wp2_with fail
  refine (H1.out _).mono ?_
  rintro e w1 ⟨rfl, rfl⟩
  cases u with
  | false =>
    go_wp2_with fail
    go_ret
    rw [HE.out]
    exact ⟨rfl, HB.out⟩
  | true =>
    by_cases h1 : up = 0
    · subst h1
      by_cases h2 : dn = 0
      · subst h2
        have HD := Lib.hid (show ((bn : Int) == 0) = (bn == 0) by cases bn <;> rfl)
        go_wp2_with fail
        go_ret
        rw [HE.out]
        exact ⟨by simp [HD.out], HB.out⟩
      · have d2 : (dn == 0) = false := by simpa using h2
        have HX := Lib.hid d2
        clear h2
        go_wp2_with fail
        go_ret
        rw [HE.out, HX.out]
        exact ⟨by simp, HB.out⟩
    · have d1 : (up == 0) = false := by simpa using h1
      have HX := Lib.hid d1
      clear h1
      go_wp2_with fail
      go_ret
      rw [HE.out, HX.out]
      exact ⟨by simp, HB.out⟩
set_option maxHeartbeats 4000000 in
theorem rIsLine_made (tx : ByteArray) (up dn : Int) (bo : Option Addr) (bn bc : Nat) (w : World) : Calls Tryd.prog 74 #[.agg #[.string tx, .bool true, .int .i64 up, .int .i64 dn, .slice bo bn bc]] w fun e w' => e = .returned (.bool (okRL tx true up dn bn)) ∧ Below w.heap.size w w' := by
  have HE := Lib.hid (show okRL tx true up dn bn = (tx.data.toList.isEmpty && (decide (-1000000 ≤ up) && decide (up ≤ 1000000)) && (decide (-1000000 ≤ dn) && decide (dn ≤ 1000000)) && decide (bn ≤ 2000)) from rfl)
  have HB := Lib.hid ((Below.refl w.heap.size w).alloc (Nat.le_refl _) (.cells #[.string tx, .bool true, .int .i64 up, .int .i64 dn, .slice bo bn bc] 31))
  have HD := Lib.hid (show decide ((bn : Int) ≤ 2000) = decide (bn ≤ 2000) by rw [decide_eq_decide]; omega)
  go_enter Tryd.func74, Tryd.ntmps74
  go_wp2_with fail
  all_goals
    go_ret
    refine ⟨?_, HB.out⟩
    rw [HE.out]
    first
      | (have ht : tx.toList = [] := by assumption
         have hi : tx.data.toList.isEmpty = true := by rw [← Lib.toList_data, ht]; rfl
         rw [hi]
         simp [*, HD.out]
         try omega)
      | (have ht : ¬ tx.toList = [] := by assumption
         have hi : tx.data.toList.isEmpty = false := by rw [← Lib.toList_data]; cases h : tx.toList with | nil => exact absurd h ht | cons a b => rfl
         rw [hi]; rfl)
theorem rIsLine_any (tx : ByteArray) (htz : tx.size ≤ 9223372036854775807) (md : Bool) (up dn : Int) (bo : Option Addr) (bn bc : Nat) (w : World) : Calls Tryd.prog 74 #[.agg #[.string tx, .bool md, .int .i64 up, .int .i64 dn, .slice bo bn bc]] w fun e w' => e = .returned (.bool (okRL tx md up dn bn)) ∧ Below w.heap.size w w' := by
  cases md with
  | true => exact rIsLine_made tx up dn bo bn bc w
  | false => exact rIsLine_text tx htz up dn bo bn bc w
set_option maxHeartbeats 2000000 in
theorem rAreLines_any {P : TypeId → Nat → Prop} {w : World} {A : Option Addr} {n c : Nat} {ls : List Ln} (h : LnsAt P w A n ls) (hP : ∀ e b, P e b → b < w.heap.size) (hn : (n : Int) ≤ 9223372036854775807) (htx : ∀ l ∈ ls, l.tx.size ≤ 9223372036854775807) :
    Calls Tryd.prog 60 #[.slice A n c] w fun e w' => e = .returned (.bool (ls.all okLn)) ∧ Below w.heap.size w w' := by
  obtain ⟨⟨rs, hr, ha⟩, hlen⟩ := h
  have HR := Lib.hid hr
  have HA : Hid (All2 (RlIs P w) rs ls) := Lib.hid ha
  have HLEN := Lib.hid hlen
  have HP := Lib.hid hP
  have HTX := Lib.hid htx
  have HST : Hid (VlR ls w n n (.int .i64 0) w) := Lib.hid ⟨0, rfl, rfl, rfl, Below.refl _ _⟩
  have HRL := Lib.hid (show rs.length = n by rw [ha.1, hlen])
  clear hr ha hlen hP htx
  go_enter Tryd.func60, Tryd.ntmps60
  go_wp2_with fail
  go_loopg [3] n (fun k i wr => VlR ls w n k i wr)
  case atStart => exact HST.out
  case round =>
    obtain ⟨j, hk, rfl, hall, hb⟩ := hrel
    have HK := Lib.hid hk
    have HB := Lib.hid hb
    by_cases hj : j < n
    · have dj : decide (j < n) = true := decide_eq_true hj
      have hrj : rs[j]? = some (rs[j]'(by have := HRL.out; omega)) := List.getElem?_eq_getElem (by have := HRL.out; omega)
      obtain ⟨r, hre⟩ : ∃ r, r = rs[j]'(by have := HRL.out; omega) := ⟨_, rfl⟩
      rw [← hre] at hrj
      have hlj : ls[j]? = some (ls[j]'(by have := HLEN.out; omega)) := List.getElem?_eq_getElem (by have := HLEN.out; omega)
      obtain ⟨l, hle⟩ : ∃ l, l = ls[j]'(by have := HLEN.out; omega) := ⟨_, rfl⟩
      rw [← hle] at hlj
      have hri := HA.out.2 j r l hrj hlj
      obtain ⟨b, off, rfl, hp, c0, c1, c2, c3, c4⟩ := reads_ln HR.out j r hrj
      have hbl := HP.out _ b hp
      have e := fun o => hb.cell (p := ⟨b, o, none⟩) hbl
      rw [← e] at c0 c1 c2 c3 c4
      have HOK := Lib.hid (show okLn l = okRL r.tx r.md r.up r.dn r.bn by unfold okLn; rw [← hri.tx, ← hri.md, ← hri.up, ← hri.dn, ← hri.bx.len])
      have hsz := HTX.out l (List.mem_of_getElem? hlj)
      rw [← hri.tx] at hsz
      have HLJ := Lib.hid hlj
      have HAL := Lib.hid hall
      have HJ := Lib.hid hj
      obtain ⟨tx, md, up, dn, bo, bn, bc⟩ := r
      simp only at c0 c1 c2 c3 c4 HOK hsz
      have HV := Lib.hid (fun W => rIsLine_any tx hsz md up dn bo bn bc W)
      generalize okRL tx md up dn bn = t at HV HOK
      clear hk hj hb hrj hre hlj hle hri hp hbl e hall hsz
      go_wp2_with fail
      refine (HV.out _).mono ?_
      rintro e w2 ⟨rfl, hb2⟩
      have HB2 := Lib.hid (HB.out.trans (hb2.mono HB.out.size))
      clear hb2
      cases t with
      | false =>
        go_wp2_with fail
        go_ret
        rw [all_take_not okLn ls j l HLJ.out HOK.out]
        exact ⟨rfl, HB2.out⟩
      | true =>
        go_wp2_with fail
        go_roundg (gk - 1)
        case measure => have := HK.out; have := HJ.out; omega
        case rel =>
          have := HK.out
          have := HJ.out
          exact ⟨j + 1, by omega, by first | go_num | (congr 1; rw [IntWalk.wrap64_in _ (by omega)]; omega), all_take_succ okLn ls j l HLJ.out HOK.out HAL.out, HB2.out⟩
    · have dj : decide (j < n) = false := decide_eq_false hj
      have HQ := Lib.hid (show ls.all okLn = true by rw [← List.take_of_length_le (l := ls) (i := j) (by have := HLEN.out; omega)]; exact hall)
      clear hk hj hb hall
      go_wp2_with fail
      go_ret
      rw [HQ.out]
      exact ⟨rfl, HB.out⟩
end Go.Proofs.YtfobbcddedcepaaDoor
