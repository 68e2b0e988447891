/- ExpandBack: the law's walk. -/
import Derived.Test.YtoggjiblhcbmjaaDoorWE
namespace Go.Proofs.YtoggjiblhcbmjaaDoor
open Go.RowKit Go.Shelf
set_option maxRecDepth 100000
/-- Protected so many times. -/
def dN : Nat → List UInt8 → List UInt8
  | 0, l => l
  | k + 1, l => dbl (dN k l)
theorem dbl_two (l : List UInt8) : (dbl l).length ≤ 2 * l.length := by
  have := dbl_len l
  have := List.count_le_length (a := (92 : UInt8)) (l := l)
  omega
theorem dbl_ln (l : List UInt8) (h : l.all (fun c => !(c == 10)) = true) : (dbl l).all (fun c => !(c == 10)) = true := by
  induction l with
  | nil => rfl
  | cons c t ih =>
    simp only [List.all_cons, Bool.and_eq_true] at h
    rw [dbl]
    split
    · simp only [List.all_cons, Bool.and_eq_true]; exact ⟨by decide, by decide, ih h.2⟩
    · simp only [List.all_cons, Bool.and_eq_true]; exact ⟨h.1, ih h.2⟩
theorem dN_ln (k : Nat) (l : List UInt8) (h : l.all (fun c => !(c == 10)) = true) : (dN k l).all (fun c => !(c == 10)) = true := by
  induction k with
  | zero => exact h
  | succ k ih => exact dbl_ln _ ih
theorem dN_ok (l : List UInt8) (h : lnS l = true) (hl : l.length ≤ 120) (k : Nat) (hk : k ≤ 3) : okS (dN k l) = true ∧ (dN k l).length ≤ 960 := by
  unfold lnS at h
  simp only [Bool.and_eq_true, decide_eq_true_eq] at h
  have h0 : (dN 0 l).length ≤ 120 := hl
  have h1 : (dN 1 l).length ≤ 240 := by have := dbl_two (dN 0 l); show (dbl (dN 0 l)).length ≤ _; omega
  have h2 : (dN 2 l).length ≤ 480 := by have := dbl_two (dN 1 l); show (dbl (dN 1 l)).length ≤ _; omega
  have h3 : (dN 3 l).length ≤ 960 := by have := dbl_two (dN 2 l); show (dbl (dN 2 l)).length ≤ _; omega
  have hlen : (dN k l).length ≤ 960 := by
    match k, hk with
    | 0, _ => omega
    | 1, _ => omega
    | 2, _ => omega
    | 3, _ => exact h3
  refine ⟨okS_ln _ ?_, hlen⟩
  unfold lnS
  rw [dN_ln k l h.1, decide_eq_true (by omega)]
  rfl
def LbA (l : List UInt8) (n : Nat) (w : World) (k : Nat) (x i : Value) (wr : World) : Prop := ∃ j : Nat, k + j = n ∧ i = .int .i64 (j : Int) ∧ x = .string (bs (dN j l)) ∧ Below w.heap.size w wr
def LbB (l : List UInt8) (n : Nat) (w : World) (tb k : Nat) (x i : Value) (wr : World) : Prop := ∃ j : Nat, k + j = n ∧ i = .int .i64 (j : Int) ∧ x = .string (bs (dN k l)) ∧ Below w.heap.size w wr ∧ Tl w.heap.size tb 0 wr
set_option maxHeartbeats 4000000 in
theorem law_back (s : ByteArray) (t : Nat) (ht : t < 256) (hs : s.size ≤ maxLen) (w : World) (hM : MaxI w) : Calls Tryd.prog 5 #[.string s, .int .u8 (t : Int)] w fun e w' => e = .returned (.bool true) ∧ Below w.heap.size w w' := by
  have HS := Lib.hid (fun W => sane_any W)
  have HI := Lib.hid (fun W => isLine_any s hs W)
  have hlen : s.data.toList.length = s.size := (sz_of s _ rfl).symm
  have hmf : ∀ (fn : Fn) (first cap : Array Value) (w : World), (Instr.makeFunc fn first cap).run Tryd.prog w = .ok (.func fn first cap) w := fun _ _ _ _ => rfl
  unfold maxLen at hs
  by_cases hb : s.size ≤ 120
  case neg =>
    have d1 : decide ((120 : Int) < (s.size : Int)) = true := decide_eq_true (by omega)
    clear hlen hb
    go_enter Tryd.func5, Tryd.ntmps5
    go_wp2_with fail
    refine (HS.out _).mono ?_
    rintro e w1 ⟨rfl, hb⟩
    have HB := Lib.hid hb
    clear hb
    go_wp2_with fail
    go_ret
    exact ⟨rfl, HB.out⟩
  have d1 : decide ((120 : Int) < (s.size : Int)) = false := decide_eq_false (by omega)
  cases hln : lnS s.data.toList with
  | false =>
    rw [hln] at HI
    clear hlen hln
    go_enter Tryd.func5, Tryd.ntmps5
    go_wp2_with fail
    refine (HI.out _).mono ?_
    rintro e w1 ⟨rfl, rfl⟩
    go_wp2_with fail
    refine (HS.out _).mono ?_
    rintro e w1 ⟨rfl, hb⟩
    have HB := Lib.hid hb
    clear hb
    go_wp2_with fail
    go_ret
    exact ⟨rfl, HB.out⟩
  | true =>
    rw [hln] at HI
    have HDN := Lib.hid (dN_ok s.data.toList hln (by omega))
    have HM := Lib.hid hM
    clear hln hlen hM
    go_enter Tryd.func5, Tryd.ntmps5
    go_wp2_with fail
    refine (HI.out _).mono ?_
    rintro e w1 ⟨rfl, rfl⟩
    go_wp2_with fail
    obtain ⟨n, hn⟩ : ∃ n, n = t % 4 := ⟨_, rfl⟩
    rw [show ((t : Int) % 4) = (n : Int) by omega]
    have hn3 : n ≤ 3 := by omega
    clear hn
    go_loopg [6, 7] n (fun k x i wr => LbA s.data.toList n w k x i wr)
    case atStart => exact ⟨0, rfl, rfl, by show _ = Value.string (bs s.data.toList); rw [bs_self], Below.refl _ _⟩
    case round =>
      obtain ⟨j, hk, rfl, rfl, hb⟩ := hrel
      have HK := Lib.hid hk
      have HB := Lib.hid hb
      clear hk hb
      by_cases hj : j < n
      · have dj : decide (j < n) = true := decide_eq_true hj
        obtain ⟨o1, l1⟩ := HDN.out j (by omega)
        obtain ⟨o2, l2⟩ := HDN.out (j + 1) (by omega)
        have HP := Lib.hid (protect_ok (dN j s.data.toList) o1 (by show (dN (j + 1) _).length ≤ _; omega) wr (HM.out.below HB.out (Nat.le_refl _)))
        rw [show dbl (dN j s.data.toList) = dN (j + 1) s.data.toList from rfl] at HP
        clear o1 l1 o2 l2
        go_wp2_with fail
        refine HP.out.mono ?_
        rintro e w2 ⟨rfl, hb⟩
        have HB2 := Lib.hid (HB.out.trans (hb.mono HB.out.size))
        clear hb
        go_wp2_with fail
        go_roundg (gk - 1)
        case measure => have := HK.out; omega
        case rel => exact ⟨j + 1, by have := HK.out; omega, by go_num, rfl, HB2.out⟩
      · have dj : decide (j < n) = false := decide_eq_false hj
        have hjn : j = n := by have := HK.out; omega
        have hk0 : gk = 0 := by have := HK.out; omega
        clear HK
        subst hjn
        obtain ⟨wo, rfl⟩ : ∃ wo : World, wo = wr := ⟨_, rfl⟩
        have HBO := Lib.hid (HB.out.trans ((bel0 wo (.cells #[.slice none 0 0, .slice none 0 0] 39)).mono HB.out.size))
        have hwo := HB.out.size
        have HTO : Hid (Tl w.heap.size wo.heap.size 0 (wo.alloc (.cells #[.slice none 0 0, .slice none 0 0] 39))) := Lib.hid ⟨hwo, _, _, heap_alloc_new wo _, World.ownsRow_nil _ _ _ _⟩
        go_wp2_with fail
        go_loopg [6, 11] j (fun k x i wr => LbB s.data.toList j w wo.heap.size k x i wr)
        case atStart => exact ⟨0, rfl, rfl, rfl, HBO.out, HTO.out⟩
        case round =>
          obtain ⟨q, hk, rfl, rfl, hb, htl⟩ := hrel
          have HK := Lib.hid hk
          have HB1 := Lib.hid hb
          have HT1 := Lib.hid htl
          clear hk hb htl
          by_cases hq : q < j
          · have dq : decide (q < j) = true := decide_eq_true hq
            obtain ⟨g, hg⟩ : ∃ g, gk = g + 1 := ⟨gk - 1, by have := HK.out; omega⟩
            subst hg
            obtain ⟨o1, l1⟩ := HDN.out (g + 1) (by have := HK.out; omega)
            have hsz := HB1.out.size
            have HE := Lib.hid (expand_ok (dN (g + 1) s.data.toList) true [] (.func 15) #[.pointer (some ⟨wo.heap.size, 0, none⟩)] w.heap.size (StT true w.heap.size (wr.heap.size + 1) wo.heap.size 0) wr (env_T _ _ _ _ _) hsz o1 (by omega)
              ⟨exW_xp wr _ _ _ hsz, HT1.out.sk (Sk.of (exW_bel wr _ _)), by omega, by omega⟩)
            rw [show dN (g + 1) s.data.toList = dbl (dN g s.data.toList) from rfl, copy_back [] (by decide) _ (dN g s.data.toList) rfl] at HE
            rw [show dN (g + 1) s.data.toList = dbl (dN g s.data.toList) from rfl]
            clear o1 l1
            go_wp2_with fail
            refine HE.out.mono ?_
            rintro e w2 ⟨rfl, hst, hfr⟩
            have HB2 := Lib.hid (HB1.out.trans hfr.bel)
            have HT2 := Lib.hid hst.2.1
            clear hst hfr
            go_wp2_with fail
            go_roundg g
            case measure => omega
            case rel => exact ⟨q + 1, by have := HK.out; omega, by go_num, rfl, HB2.out, HT2.out⟩
          · have dq : decide (q < j) = false := decide_eq_false hq
            have hg0 : gk = 0 := by have := HK.out; omega
            subst hg0
            obtain ⟨_, v, xs, hv, how⟩ := HT1.out
            obtain ⟨q1, cap, rfl, _, _⟩ := row_shape how
            have c0 : wr.cell? ⟨wo.heap.size, 0, none⟩ = some (.slice q1 0 cap) := by simp [World.cell?, hv]
            have HX := Lib.hid (show bs (dN 0 s.data.toList) = s from bs_self s)
            clear hv how
            rw [HX.out]
            go_wp2_with fail
            refine (HS.out _).mono ?_
            rintro e w4 ⟨rfl, hb⟩
            have HB4 := Lib.hid (HB1.out.trans (hb.mono HB1.out.size))
            clear hb
            go_wp2_with fail
            go_ret
            exact ⟨rfl, HB4.out⟩
end Go.Proofs.YtoggjiblhcbmjaaDoor
