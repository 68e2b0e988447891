/- Contracts: the calls of package measure, three. -/
import Derived.Test.YteihpeffaeahlaaDoorWE
namespace Go.Proofs.YteihpeffaeahlaaDoor
open Go.RowKit
set_option maxRecDepth 100000
theorem evR_ok9 (r : RS) (hf : r.fm = false) : ok9 (evR r).1 := by
  unfold evR
  split
  · show ok9 0; decide
  · rename_i v z e
    split
    · show ok9 0; decide
    · exact ex_ok9 hf (.inl (by omega)) e
def chgV (old y : Int) : Int × Int := if ok9 (old + y) then (old + y, 0) else (0, 5)
/-- Change. -/
def changeS (old : Int) (s : ByteArray) (k : UInt8) (sz vs hr : Int) : Int × Int :=
  if ok9 old ∧ validP k sz vs hr then
    if s.data.toList[0]? = some 43 ∨ s.data.toList[0]? = some 45 then
      if (evR ⟨s.extract 1 s.size, k, sz, vs, hr, false⟩).2 = 0 then
        chgV old (if s.data.toList[0]? = some 45 then -(evR ⟨s.extract 1 s.size, k, sz, vs, hr, false⟩).1 else (evR ⟨s.extract 1 s.size, k, sz, vs, hr, false⟩).1)
      else (0, (evR ⟨s.extract 1 s.size, k, sz, vs, hr, false⟩).2)
    else evR ⟨s, k, sz, vs, hr, false⟩
  else (0, 1)
theorem valid_yes {k : UInt8} {sz vs hr : Int} (h : validP k sz vs hr) (w : World) : Calls Tryd.prog 32 #[.int .u8 k.toNat, CX sz vs hr] w fun e w' => e = .returned (.bool true) ∧ w' = (w.alloc (CXo sz vs hr)).alloc (CXo sz vs hr) := valid_any k sz vs hr true (by simp [h]) w
theorem valid_no {k : UInt8} {sz vs hr : Int} (h : ¬ validP k sz vs hr) (w : World) : Calls Tryd.prog 32 #[.int .u8 k.toNat, CX sz vs hr] w fun e w' => e = .returned (.bool false) ∧ w' = (w.alloc (CXo sz vs hr)).alloc (CXo sz vs hr) := valid_any k sz vs hr false (by simp [h]) w
section
variable {w : World}
theorem change_old (old : Int) (s : ByteArray) (k : UInt8) (sz vs hr : Int) (ho : ¬ ok9 old) :
    Calls Tryd.prog 25 #[.int .i64 old, .string s, .int .u8 k.toNat, CX sz vs hr] w fun e w' => e = .returned (.tuple #[.int .i64 0, .int .i64 1]) ∧ Below w.heap.size w w' := by
  have HO := Lib.hid (decide_eq_false ho)
  clear ho
  go_enter Tryd.func25, Tryd.ntmps25
  go_wp2_with (first | (go_at_call 42; refine (inRange_any _ _).mono ?_; rintro e w' ⟨rfl, rfl⟩; rw [HO.out]))
  go_ret2
  exact ⟨rfl, (Below.refl _ _).alloc (Nat.le_refl _) _⟩
theorem change_invalid (old : Int) (s : ByteArray) (k : UInt8) (sz vs hr : Int) (ho : ok9 old) (hv : ¬ validP k sz vs hr) :
    Calls Tryd.prog 25 #[.int .i64 old, .string s, .int .u8 k.toNat, CX sz vs hr] w fun e w' => e = .returned (.tuple #[.int .i64 0, .int .i64 1]) ∧ Below w.heap.size w w' := by
  have HV := Lib.hid hv
  have HO := Lib.hid (decide_eq_true ho)
  clear ho hv
  go_enter Tryd.func25, Tryd.ntmps25
  go_wp2_with (first | (go_at_call 42; refine (inRange_any _ _).mono ?_; rintro e w' ⟨rfl, rfl⟩; rw [HO.out]) | (go_at_call 32; refine (valid_no HV.out _).mono ?_; rintro e w' ⟨rfl, rfl⟩))
  go_ret2
  exact ⟨rfl, (((Below.refl _ _).alloc (Nat.le_refl _) _).alloc (by simp) _).alloc (by simp; omega) _⟩
/-- A text that begins with neither sign. -/
theorem change_plain (old : Int) (s : ByteArray) (k : UInt8) (sz vs hr : Int) (ho : ok9 old) (hv : validP k sz vs hr) (hs : s.size ≤ 9223372036854775806) (hT : Tab w)
    (h0 : ¬ (s.data.toList[0]? = some 43 ∨ s.data.toList[0]? = some 45)) :
    Calls Tryd.prog 25 #[.int .i64 old, .string s, .int .u8 k.toNat, CX sz vs hr] w fun e w' => e = .returned (.tuple #[.int .i64 (evR ⟨s, k, sz, vs, hr, false⟩).1, .int .i64 (evR ⟨s, k, sz, vs, hr, false⟩).2]) ∧ Below w.heap.size w w' := by
  have HV := Lib.hid hv
  have HO := Lib.hid (decide_eq_true ho)
  have hb : Below w.heap.size w (((w.alloc (CXo sz vs hr)).alloc (CXo sz vs hr)).alloc (CXo sz vs hr)) := (((Below.refl _ _).alloc (Nat.le_refl _) _).alloc (by simp) _).alloc (by simp; omega) _
  have hcall := eval_valid (w := ((w.alloc (CXo sz vs hr)).alloc (CXo sz vs hr)).alloc (CXo sz vs hr)) s k sz vs hr hv hs (hT.below hb hT.pos)
  have HC := Lib.hid hcall
  have HB := Lib.hid hb
  clear ho hv hT hcall hb
  by_cases hz : 0 < s.size
  · rw [byte_at _ _ hz] at h0
    have h1 : s[0] ≠ 43 := fun e => h0 (.inl (by rw [e]))
    have h2 : s[0] ≠ 45 := fun e => h0 (.inr (by rw [e]))
    have e1 : ((s[0].toNat : Int) != 43) = true := by have t1 : ((s[0].toNat : Int) == 43) = false := ne_b h1; rw [bne, t1]; rfl
    have e2 : ((s[0].toNat : Int) != 45) = true := by have t1 : ((s[0].toNat : Int) == 45) = false := ne_b h2; rw [bne, t1]; rfl
    have e0 : s.toList.isEmpty = false := by
      rw [Lib.toList_data]; cases h : s.data.toList with
      | nil => rw [Lib.size_eq, h] at hz; simp at hz
      | cons a l => rfl
    clear h0 h1 h2
    go_enter Tryd.func25, Tryd.ntmps25
    go_wp2_with (first | (go_at_call 42; refine (inRange_any _ _).mono ?_; rintro e w' ⟨rfl, rfl⟩; rw [HO.out]) | (go_at_call 32; refine (valid_yes HV.out _).mono ?_; rintro e w' ⟨rfl, rfl⟩))
    refine HC.out.mono ?_
    rintro e w' ⟨rfl, hb⟩
    have HB2 := Lib.hid hb
    clear hb
    go_wp2_with fail
    go_ret2
    exact ⟨rfl, HB.out.trans (HB2.out.mono (by simp; omega))⟩
  · have e0 : s.toList.isEmpty = true := by
      rw [Lib.toList_data]; cases h : s.data.toList with
      | nil => rfl
      | cons a l => rw [Lib.size_eq, h] at hz; simp at hz
    clear h0 hz
    go_enter Tryd.func25, Tryd.ntmps25
    go_wp2_with (first | (go_at_call 42; refine (inRange_any _ _).mono ?_; rintro e w' ⟨rfl, rfl⟩; rw [HO.out]) | (go_at_call 32; refine (valid_yes HV.out _).mono ?_; rintro e w' ⟨rfl, rfl⟩))
    refine HC.out.mono ?_
    rintro e w' ⟨rfl, hb⟩
    have HB2 := Lib.hid hb
    clear hb
    go_wp2_with fail
    go_ret2
    exact ⟨rfl, HB.out.trans (HB2.out.mono (by simp; omega))⟩
/-- What change comes to behind the sign. -/
def chgR (old : Int) (neg : Bool) (y : Int × Int) : Int × Int := if y.2 = 0 then chgV old (if neg then -y.1 else y.1) else (0, y.2)
theorem change_sign (old : Int) (s : ByteArray) (k : UInt8) (sz vs hr : Int) (ho : ok9 old) (hv : validP k sz vs hr) (hs : s.size ≤ 9223372036854775806) (hT : Tab w) (neg : Bool)
    (h0 : s.data.toList[0]? = some (if neg then 45 else 43)) :
    Calls Tryd.prog 25 #[.int .i64 old, .string s, .int .u8 k.toNat, CX sz vs hr] w fun e w' => e = .returned (.tuple #[.int .i64 (chgR old neg (evR ⟨s.extract 1 s.size, k, sz, vs, hr, false⟩)).1, .int .i64 (chgR old neg (evR ⟨s.extract 1 s.size, k, sz, vs, hr, false⟩)).2]) ∧ Below w.heap.size w w' := by
  have HV := Lib.hid hv
  have HO := Lib.hid (decide_eq_true ho)
  have ho' : -1000000000 ≤ old ∧ old ≤ 1000000000 := ho
  obtain ⟨w3, hw3⟩ : ∃ w3, w3 = ((w.alloc (CXo sz vs hr)).alloc (CXo sz vs hr)).alloc (CXo sz vs hr) := ⟨_, rfl⟩
  have hb : Below w.heap.size w w3 := by rw [hw3]; exact (((Below.refl _ _).alloc (Nat.le_refl _) _).alloc (by simp) _).alloc (by simp; omega) _
  have hsz : w.heap.size < w3.heap.size := by rw [hw3]; simp; omega
  have x0 : w3.cell? ⟨w.heap.size, 0, none⟩ = some (.int .i64 sz) := by rw [hw3]; simp [go_sem]
  have x1 : w3.cell? ⟨w.heap.size, 1, none⟩ = some (.int .i64 vs) := by rw [hw3]; simp [go_sem]
  have x2 : w3.cell? ⟨w.heap.size, 2, none⟩ = some (.int .i64 hr) := by rw [hw3]; simp [go_sem]
  have hT3 := hT.below hb hT.pos
  have hz : 0 < s.size := by rw [Lib.size_eq]; exact (List.getElem?_eq_some_iff.1 h0).1
  have hx1 : (s.extract 1 s.size).size ≤ 9223372036854775806 := by rw [ByteArray.size_extract]; omega
  have hev := evR_ok9 ⟨s.extract 1 s.size, k, sz, vs, hr, false⟩ rfl
  have hcall := fun (W : World) (hW : Tab W) => eval_valid (w := W) (s.extract 1 s.size) k sz vs hr hv hx1 hW
  generalize evR ⟨s.extract 1 s.size, k, sz, vs, hr, false⟩ = y at hcall hev ⊢
  obtain ⟨ny, ey⟩ := y
  simp only at hcall hev
  have hev' : -1000000000 ≤ ny ∧ ny ≤ 1000000000 := hev
  have HC := Lib.hid hcall
  have HB := Lib.hid hb
  have HT3 := Lib.hid hT3
  have HW := Lib.hid hw3
  have hs1 : (1 : Int) ≤ (s.size : Int) := by omega
  rw [byte_at _ _ hz] at h0
  have hc0 := Option.some.inj h0
  have e0 : s.toList.isEmpty = false := by
    rw [Lib.toList_data]; cases h : s.data.toList with
    | nil => rw [Lib.size_eq, h] at hz; simp at hz
    | cons a l => rfl
  clear ho hv hT hcall hb hT3 hw3 hx1 hev h0
  cases neg with
  | true =>
    have t1 : ((s[0].toNat : Int) == 43) = false := by rw [hc0]; rfl
    have t2 : ((s[0].toNat : Int) == 45) = true := by rw [hc0]; rfl
    have e1 : ((s[0].toNat : Int) != 43) = true := by rw [bne, t1]; rfl
    have e2 : ((s[0].toNat : Int) != 45) = false := by rw [bne, t2]; rfl
    clear hc0
    by_cases hey : ey = 0
    · subst hey
      have e : chgR old true (ny, 0) = chgV old (-ny) := by simp [chgR]
      have HE := Lib.hid e
      clear e
      by_cases hok : ok9 (old + -ny)
      · have HOK := Lib.hid (decide_eq_true hok)
        have HOQ := Lib.hid hok
        clear hok
        go_enter Tryd.func25, Tryd.ntmps25
        go_wp2_with (first | (go_at_call 42; refine (inRange_any _ _).mono ?_; rintro e w' ⟨rfl, rfl⟩; rw [HO.out]) | (go_at_call 32; refine (valid_yes HV.out _).mono ?_; rintro e w' ⟨rfl, rfl⟩))
        rw [← HW.out]
        go_region_held3 (fun w' => w'.cell? ⟨w.heap.size, 0, none⟩ = some (.int .i64 sz) ∧ w'.cell? ⟨w.heap.size, 1, none⟩ = some (.int .i64 vs) ∧ w'.cell? ⟨w.heap.size, 2, none⟩ = some (.int .i64 hr)) (go_keep) (first | (go_at_call 18; refine (HC.out _ (by exact HT3.out)).mono ?_; rintro e w' ⟨rfl, hb⟩; have k0 := (bcell hb).1 w.heap.size 0 (by exact hsz); have k1 := (bcell hb).1 w.heap.size 1 (by exact hsz); have k2 := (bcell hb).1 w.heap.size 2 (by exact hsz); have HBB := Lib.hid hb; clear hb))
        go_wp2_with (go_at_call 42; refine (inRange_any _ _).mono ?_; rintro e w' ⟨rfl, rfl⟩; rw [HOK.out])
        go_ret2
        rw [HE.out, chgV, if_pos HOQ.out]
        exact ⟨rfl, (below_drewN HB.out _).trans (HBB.out.mono (by show _ ≤ w3.heap.size; omega))⟩
      · have HOK := Lib.hid (decide_eq_false hok)
        have HOQ := Lib.hid hok
        clear hok
        go_enter Tryd.func25, Tryd.ntmps25
        go_wp2_with (first | (go_at_call 42; refine (inRange_any _ _).mono ?_; rintro e w' ⟨rfl, rfl⟩; rw [HO.out]) | (go_at_call 32; refine (valid_yes HV.out _).mono ?_; rintro e w' ⟨rfl, rfl⟩))
        rw [← HW.out]
        go_region_held3 (fun w' => w'.cell? ⟨w.heap.size, 0, none⟩ = some (.int .i64 sz) ∧ w'.cell? ⟨w.heap.size, 1, none⟩ = some (.int .i64 vs) ∧ w'.cell? ⟨w.heap.size, 2, none⟩ = some (.int .i64 hr)) (go_keep) (first | (go_at_call 18; refine (HC.out _ (by exact HT3.out)).mono ?_; rintro e w' ⟨rfl, hb⟩; have k0 := (bcell hb).1 w.heap.size 0 (by exact hsz); have k1 := (bcell hb).1 w.heap.size 1 (by exact hsz); have k2 := (bcell hb).1 w.heap.size 2 (by exact hsz); have HBB := Lib.hid hb; clear hb))
        go_wp2_with (go_at_call 42; refine (inRange_any _ _).mono ?_; rintro e w' ⟨rfl, rfl⟩; rw [HOK.out])
        go_ret2
        rw [HE.out, chgV, if_neg HOQ.out]
        exact ⟨rfl, (below_drewN HB.out _).trans (HBB.out.mono (by show _ ≤ w3.heap.size; omega))⟩
    · have e : chgR old true (ny, ey) = (0, ey) := by unfold chgR; rw [if_neg hey]
      have HE := Lib.hid e
      have hey' : (ey != 0) = true := by simpa using hey
      clear e
      go_enter Tryd.func25, Tryd.ntmps25
      go_wp2_with (first | (go_at_call 42; refine (inRange_any _ _).mono ?_; rintro e w' ⟨rfl, rfl⟩; rw [HO.out]) | (go_at_call 32; refine (valid_yes HV.out _).mono ?_; rintro e w' ⟨rfl, rfl⟩))
      rw [← HW.out]
      go_region_held3 (fun w' => w'.cell? ⟨w.heap.size, 0, none⟩ = some (.int .i64 sz) ∧ w'.cell? ⟨w.heap.size, 1, none⟩ = some (.int .i64 vs) ∧ w'.cell? ⟨w.heap.size, 2, none⟩ = some (.int .i64 hr)) (go_keep) (first | (go_at_call 18; refine (HC.out _ (by exact HT3.out)).mono ?_; rintro e w' ⟨rfl, hb⟩; have k0 := (bcell hb).1 w.heap.size 0 (by exact hsz); have k1 := (bcell hb).1 w.heap.size 1 (by exact hsz); have k2 := (bcell hb).1 w.heap.size 2 (by exact hsz); have HBB := Lib.hid hb; clear hb))
      go_wp2_with fail
      go_ret2
      rw [HE.out]
      exact ⟨rfl, (below_drewN HB.out _).trans (HBB.out.mono (by show _ ≤ w3.heap.size; omega))⟩
  | false =>
    have t1 : ((s[0].toNat : Int) == 43) = true := by rw [hc0]; rfl
    have t2 : ((s[0].toNat : Int) == 45) = false := by rw [hc0]; rfl
    have e1 : ((s[0].toNat : Int) != 43) = false := by rw [bne, t1]; rfl
    have e2 : ((s[0].toNat : Int) != 45) = true := by rw [bne, t2]; rfl
    clear hc0
    by_cases hey : ey = 0
    · subst hey
      have e : chgR old false (ny, 0) = chgV old ny := by simp [chgR]
      have HE := Lib.hid e
      clear e
      by_cases hok : ok9 (old + ny)
      · have HOK := Lib.hid (decide_eq_true hok)
        have HOQ := Lib.hid hok
        clear hok
        go_enter Tryd.func25, Tryd.ntmps25
        go_wp2_with (first | (go_at_call 42; refine (inRange_any _ _).mono ?_; rintro e w' ⟨rfl, rfl⟩; rw [HO.out]) | (go_at_call 32; refine (valid_yes HV.out _).mono ?_; rintro e w' ⟨rfl, rfl⟩))
        rw [← HW.out]
        go_region_held3 (fun w' => w'.cell? ⟨w.heap.size, 0, none⟩ = some (.int .i64 sz) ∧ w'.cell? ⟨w.heap.size, 1, none⟩ = some (.int .i64 vs) ∧ w'.cell? ⟨w.heap.size, 2, none⟩ = some (.int .i64 hr)) (go_keep) (first | (go_at_call 18; refine (HC.out _ (by exact HT3.out)).mono ?_; rintro e w' ⟨rfl, hb⟩; have k0 := (bcell hb).1 w.heap.size 0 (by exact hsz); have k1 := (bcell hb).1 w.heap.size 1 (by exact hsz); have k2 := (bcell hb).1 w.heap.size 2 (by exact hsz); have HBB := Lib.hid hb; clear hb))
        go_wp2_with (go_at_call 42; refine (inRange_any _ _).mono ?_; rintro e w' ⟨rfl, rfl⟩; rw [HOK.out])
        go_ret2
        rw [HE.out, chgV, if_pos HOQ.out]
        exact ⟨rfl, (below_drewN HB.out _).trans (HBB.out.mono (by show _ ≤ w3.heap.size; omega))⟩
      · have HOK := Lib.hid (decide_eq_false hok)
        have HOQ := Lib.hid hok
        clear hok
        go_enter Tryd.func25, Tryd.ntmps25
        go_wp2_with (first | (go_at_call 42; refine (inRange_any _ _).mono ?_; rintro e w' ⟨rfl, rfl⟩; rw [HO.out]) | (go_at_call 32; refine (valid_yes HV.out _).mono ?_; rintro e w' ⟨rfl, rfl⟩))
        rw [← HW.out]
        go_region_held3 (fun w' => w'.cell? ⟨w.heap.size, 0, none⟩ = some (.int .i64 sz) ∧ w'.cell? ⟨w.heap.size, 1, none⟩ = some (.int .i64 vs) ∧ w'.cell? ⟨w.heap.size, 2, none⟩ = some (.int .i64 hr)) (go_keep) (first | (go_at_call 18; refine (HC.out _ (by exact HT3.out)).mono ?_; rintro e w' ⟨rfl, hb⟩; have k0 := (bcell hb).1 w.heap.size 0 (by exact hsz); have k1 := (bcell hb).1 w.heap.size 1 (by exact hsz); have k2 := (bcell hb).1 w.heap.size 2 (by exact hsz); have HBB := Lib.hid hb; clear hb))
        go_wp2_with (go_at_call 42; refine (inRange_any _ _).mono ?_; rintro e w' ⟨rfl, rfl⟩; rw [HOK.out])
        go_ret2
        rw [HE.out, chgV, if_neg HOQ.out]
        exact ⟨rfl, (below_drewN HB.out _).trans (HBB.out.mono (by show _ ≤ w3.heap.size; omega))⟩
    · have e : chgR old false (ny, ey) = (0, ey) := by unfold chgR; rw [if_neg hey]
      have HE := Lib.hid e
      have hey' : (ey != 0) = true := by simpa using hey
      clear e
      go_enter Tryd.func25, Tryd.ntmps25
      go_wp2_with (first | (go_at_call 42; refine (inRange_any _ _).mono ?_; rintro e w' ⟨rfl, rfl⟩; rw [HO.out]) | (go_at_call 32; refine (valid_yes HV.out _).mono ?_; rintro e w' ⟨rfl, rfl⟩))
      rw [← HW.out]
      go_region_held3 (fun w' => w'.cell? ⟨w.heap.size, 0, none⟩ = some (.int .i64 sz) ∧ w'.cell? ⟨w.heap.size, 1, none⟩ = some (.int .i64 vs) ∧ w'.cell? ⟨w.heap.size, 2, none⟩ = some (.int .i64 hr)) (go_keep) (first | (go_at_call 18; refine (HC.out _ (by exact HT3.out)).mono ?_; rintro e w' ⟨rfl, hb⟩; have k0 := (bcell hb).1 w.heap.size 0 (by exact hsz); have k1 := (bcell hb).1 w.heap.size 1 (by exact hsz); have k2 := (bcell hb).1 w.heap.size 2 (by exact hsz); have HBB := Lib.hid hb; clear hb))
      go_wp2_with fail
      go_ret2
      rw [HE.out]
      exact ⟨rfl, (below_drewN HB.out _).trans (HBB.out.mono (by show _ ≤ w3.heap.size; omega))⟩
theorem change_any (old : Int) (s : ByteArray) (k : UInt8) (sz vs hr : Int) (hs : s.size ≤ 9223372036854775806) (hT : Tab w) :
    Calls Tryd.prog 25 #[.int .i64 old, .string s, .int .u8 k.toNat, CX sz vs hr] w fun e w' => e = .returned (.tuple #[.int .i64 (changeS old s k sz vs hr).1, .int .i64 (changeS old s k sz vs hr).2]) ∧ Below w.heap.size w w' := by
  unfold changeS
  by_cases ho : ok9 old
  · by_cases hv : validP k sz vs hr
    · rw [if_pos ⟨ho, hv⟩]
      by_cases h1 : s.data.toList[0]? = some 43
      · rw [if_pos (.inl h1)]
        have := change_sign old s k sz vs hr ho hv hs hT false h1
        unfold chgR at this
        rw [if_neg (show ¬ s.data.toList[0]? = some 45 by rw [h1]; decide)]
        exact this
      · by_cases h2 : s.data.toList[0]? = some 45
        · rw [if_pos (.inr h2)]
          have := change_sign old s k sz vs hr ho hv hs hT true h2
          unfold chgR at this
          rw [if_pos h2]
          exact this
        · rw [if_neg (by rintro (h | h); exact h1 h; exact h2 h)]
          exact change_plain old s k sz vs hr ho hv hs hT (by rintro (h | h); exact h1 h; exact h2 h)
    · rw [if_neg (fun h => hv h.2)]; exact change_invalid old s k sz vs hr ho hv
  · rw [if_neg (fun h => ho h.1)]; exact change_old old s k sz vs hr ho
theorem prefix_any (s : ByteArray) (k : UInt8) (sz vs hr : Int) (hs : s.size ≤ 9223372036854775806) (hT : Tab w) :
    Calls Tryd.prog 20 #[.string s, .int .u8 k.toNat, CX sz vs hr] w fun e w' => e = .returned (.tuple #[.int .i64 (prefixS s k sz vs hr).1, .int .i64 (prefixS s k sz vs hr).2.1, .int .i64 (prefixS s k sz vs hr).2.2]) ∧ Below w.heap.size w w' := by
  by_cases hv : validP k sz vs hr
  · exact prefix_valid s k sz vs hr hv hs hT
  · unfold prefixS; rw [if_neg hv]; exact prefix_invalid s k sz vs hr hv
/-- Unit. -/
def unitS (k : UInt8) (sz vs hr : Int) : Int × Int := if validP k sz vs hr then ((unitK k sz vs).getD 0, 0) else (0, 1)
theorem unit_call (k : UInt8) (sz vs hr : Int) :
    Calls Tryd.prog 15 #[.int .u8 k.toNat, CX sz vs hr] w fun e w' => e = .returned (.tuple #[.int .i64 (unitS k sz vs hr).1, .int .i64 (unitS k sz vs hr).2]) ∧ Below w.heap.size w w' := by
  by_cases hv : validP k sz vs hr
  · obtain ⟨u, hu⟩ := Option.isSome_iff_exists.1 hv.1
    have e : unitS k sz vs hr = (u, 0) := by unfold unitS; rw [if_pos hv, hu]; rfl
    rw [e]
    have HV := Lib.hid hv
    have HU := Lib.hid hu
    clear hv hu e
    go_enter Tryd.func15, Tryd.ntmps15
    go_wp2_with (first | (go_at_call 32; refine (valid_yes HV.out _).mono ?_; rintro e w' ⟨rfl, rfl⟩) | (go_at_call 28; refine (unitOf_some k sz vs hr u HU.out HV.out.2.1 _).mono ?_; rintro e w' ⟨rfl, rfl⟩))
    go_ret2
    exact ⟨rfl, ((((Below.refl _ _).alloc (Nat.le_refl _) _).alloc (by simp) _).alloc (by simp; omega) _).alloc (by simp; omega) _⟩
  · have e : unitS k sz vs hr = (0, 1) := by unfold unitS; rw [if_neg hv]
    rw [e]
    have HV := Lib.hid hv
    clear hv e
    go_enter Tryd.func15, Tryd.ntmps15
    go_wp2_with (first | (go_at_call 32; refine (valid_no HV.out _).mono ?_; rintro e w' ⟨rfl, rfl⟩))
    go_ret2
    exact ⟨rfl, (((Below.refl _ _).alloc (Nat.le_refl _) _).alloc (by simp) _).alloc (by simp; omega) _⟩
end
end Go.Proofs.YteihpeffaeahlaaDoor
