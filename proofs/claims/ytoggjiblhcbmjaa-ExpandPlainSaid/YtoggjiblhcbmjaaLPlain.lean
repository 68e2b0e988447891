/- ExpandPlain: what a plain text comes to, and the law's walk. -/
import Derived.Test.YtoggjiblhcbmjaaWD
namespace Go.Proofs.Ytoggjiblhcbmjaa
open Go.RowKit Go.Shelf
set_option maxRecDepth 100000
/-- A plain text is left as it is, and nothing is asked. -/
theorem plain_keeps (N : Nat) : ∀ l : List UInt8, l.length = N → plS l = true → exF false [] l = (l, 0) := by
  induction N using Nat.strongRecOn with
  | _ N ih =>
    intro l hl hp
    by_cases he : l = []
    · subst he; rfl
    have ok := cutS_ok l he
    have hn1 := ok.n1
    have hnl := ok.nl
    have ht := cutS_tx l
    rw [plS_step l he] at hp
    have st := exF_step false [] (by decide) l he
    cases hs : staysS (cutS l).1 with
    | false => rw [hs] at hp; simp at hp
    | true =>
      rw [hs, if_pos rfl] at hp
      have hr := ih (l.drop (cutS l).2).length (by rw [List.length_drop]; omega) _ rfl hp
      unfold staysS namS at hs
      simp only [Bool.and_eq_true, Bool.not_eq_true', Bool.or_eq_false_iff, beq_eq_false_iff_ne] at hs
      obtain ⟨⟨⟨⟨h1, h2⟩, h3⟩, h4⟩, h5⟩ := hs
      rw [st.ono h5 h1 h2 h3 h4 (fun h => by cases h), hr, ht]
      simp
/-- A text that is not plain asks, or is shortened. -/
theorem odd_turns (N : Nat) : ∀ l : List UInt8, l.length = N → plS l = false → 0 < (exF false [] l).2 ∨ (exF false [] l).1.length < l.length := by
  induction N using Nat.strongRecOn with
  | _ N ih =>
    intro l hl hp
    by_cases he : l = []
    · subst he; cases hp
    have ok := cutS_ok l he
    have hn1 := ok.n1
    have hnl := ok.nl
    have ht := cutS_tx l
    rw [plS_step l he] at hp
    have st := exF_step false [] (by decide) l he
    have hpos : 0 < l.length := by omega
    by_cases k1 : (cutS l).1.kd = 34
    · right; rw [st.onq k1]; simpa using hpos
    by_cases k2 : (cutS l).1.kd = 110
    · left; rw [st.onn k2]; simp
    by_cases k3 : (cutS l).1.kd = 42 ∨ (cutS l).1.kd = 36
    · left; rw [st.ons k3]; simp
    by_cases k4 : (cutS l).1.kd = 119
    · left; rw [st.onw k4 rfl]; simp only; omega
    have hs : staysS (cutS l).1 = true := by
      unfold staysS namS
      simp only [Bool.and_eq_true, Bool.not_eq_true', Bool.or_eq_false_iff, beq_eq_false_iff_ne]
      exact ⟨⟨⟨⟨k2, fun e => k3 (.inl e)⟩, fun e => k3 (.inr e)⟩, k4⟩, k1⟩
    rw [hs, if_pos rfl] at hp
    have hr := ih (l.drop (cutS l).2).length (by rw [List.length_drop]; omega) _ rfl hp
    rw [st.ono k1 k2 (fun e => k3 (.inl e)) (fun e => k3 (.inr e)) k4 (fun h => by cases h), ht]
    rcases hr with hr | hr
    · exact .inl hr
    · right
      rw [List.length_drop] at hr
      simp only [List.length_append, List.length_take]
      omega
/-- A line, as the statements have it. -/
def lnS (l : List UInt8) : Bool := l.all (fun c => !(c == 10)) && decide (l.length ≤ 2000)
def IlR (l : List UInt8) (k : Nat) (i : Value) : Prop := ∃ j : Nat, j ≤ l.length ∧ k + j = l.length ∧ i = .int .i64 (j : Int) ∧ (l.take j).all (fun c => !(c == 10)) = true
theorem isLine_any (s : ByteArray) (hs : s.size ≤ maxLen) (w : World) : Calls Try.prog 11 #[.string s] w fun e w' => e = .returned (.bool (lnS s.data.toList)) ∧ w = w' := by
  have hlen : s.data.toList.length = s.size := (sz_of s _ rfl).symm
  unfold maxLen at hs
  obtain ⟨l, hl⟩ : ∃ l, l = s.data.toList := ⟨_, rfl⟩
  rw [← hl] at hlen ⊢
  have HL := Lib.hid hl
  have HLEN := Lib.hid hlen
  clear hl hlen
  obtain ⟨R, hR⟩ : ∃ R, R = lnS l := ⟨_, rfl⟩
  rw [← hR]
  have HR := Lib.hid hR
  clear hR
  go_enter Try.func11, Try.ntmps11
  go_wp2_with fail
  go_loopg [3] l.length (fun k i wr => IlR l k i ∧ wr = w)
  case atStart => exact ⟨⟨0, Nat.zero_le _, rfl, rfl, rfl⟩, rfl⟩
  case round =>
    obtain ⟨⟨j, hj, hk, rfl, ha⟩, hw⟩ := hrel
    subst hw
    have HK := Lib.hid hk
    have HA := Lib.hid ha
    have HJ := Lib.hid hj
    have hjs : j ≤ s.size := by have := HLEN.out; omega
    clear hk ha hj
    by_cases hlt : j < s.size
    · have hjl : j < l.length := by have := HLEN.out; omega
      have HT := Lib.hid (show (l.take (j + 1)).all (fun c => !(c == 10)) = !(l[j] == 10) by rw [List.take_succ_eq_append_getElem hjl, List.all_append, HA.out]; simp)
      have HG := Lib.hid (show s[j] = l[j] from at_of s l HL.out.symm j hlt hjl)
      have d1 : decide (j < s.size) = true := decide_eq_true hlt
      by_cases h10 : l[j] = 10
      · have t1 : ((s[j].toNat : Int) == 10) = true := by rw [HG.out, h10]; rfl
        have HF := Lib.hid (show R = false by
          rw [HR.out]
          unfold lnS
          have : l.all (fun c => !(c == 10)) = false := by
            cases hq : l.all (fun c => !(c == 10)) with
            | false => rfl
            | true =>
              have := List.all_eq_true.1 hq _ (List.getElem_mem hjl)
              rw [h10] at this; cases this
          rw [this]; rfl)
        clear h10
        go_wp2_with fail
        go_ret
        rw [HF.out]
        exact ⟨rfl, rfl⟩
      · have t1 : ((s[j].toNat : Int) == 10) = false := by rw [HG.out]; exact nb _ 10 h10
        have HN := Lib.hid (show (l[j] == 10) = false by simpa using h10)
        clear h10
        go_wp2_with fail
        go_roundg (gk - 1)
        case measure => have := HK.out; omega
        case rel => exact ⟨⟨j + 1, by omega, by have := HK.out; omega, by go_num, by rw [HT.out, HN.out]; rfl⟩, rfl⟩
    · have hje : j = l.length := by have := HLEN.out; have := HJ.out; omega
      have d1 : decide (j < s.size) = false := decide_eq_false hlt
      have HF := Lib.hid (show R = decide ((s.size : Int) ≤ 2000) by
        have ha := HA.out
        rw [hje, List.take_length] at ha
        rw [HR.out]
        unfold lnS
        rw [ha, HLEN.out, Bool.true_and]
        simp only [decide_eq_decide]
        omega)
      clear hje
      go_wp2_with fail
      go_ret
      rw [HF.out]
      exact ⟨rfl, rfl⟩
/-- The two ways of saying that a text is a line. -/
theorem okS_ln (l : List UInt8) (h : lnS l = true) : okS l = true := by
  unfold lnS at h
  simp only [Bool.and_eq_true, decide_eq_true_eq] at h
  unfold okS
  rw [decide_eq_true h.2]
  cases hq : decide (0 ≤ Lib.indexByte l 10) with
  | false => rfl
  | true =>
    have h1 := of_decide_eq_true hq
    obtain ⟨k, hk⟩ : ∃ k : Nat, Lib.indexByte l 10 = k := ⟨(Lib.indexByte l 10).toNat, by omega⟩
    have h2 := (Lib.indexByte_some hk).1
    have h3 := List.all_eq_true.1 h.1 10 (List.mem_of_getElem? h2)
    cases h3
set_option maxHeartbeats 2000000 in
theorem law_plain (s : ByteArray) (hs : s.size ≤ maxLen) (w : World) : Calls Try.prog 5 #[.string s] w fun e w' => e = .returned (.bool true) ∧ Below w.heap.size w w' := by
  have HS := Lib.hid (fun W => sane_any W)
  have HI := Lib.hid (fun W => isLine_any s hs W)
  have HP := Lib.hid (fun W => plain_any s hs W)
  have hlen : s.data.toList.length = s.size := (sz_of s _ rfl).symm
  have hmf : ∀ (fn : Fn) (first cap : Array Value) (w : World), (Instr.makeFunc fn first cap).run Try.prog w = .ok (.func fn first cap) w := fun _ _ _ _ => rfl
  unfold maxLen at hs
  by_cases hb : s.size ≤ 1000
  case neg =>
    have d1 : decide ((1000 : Int) < (s.size : Int)) = true := decide_eq_true (by omega)
    clear hlen hb
    go_enter Try.func5, Try.ntmps5
    go_wp2_with fail
    refine (HS.out _).mono ?_
    rintro e w1 ⟨rfl, hb⟩
    have HB := Lib.hid hb
    clear hb
    go_wp2_with fail
    go_ret
    exact ⟨rfl, HB.out⟩
  have d1 : decide ((1000 : Int) < (s.size : Int)) = false := decide_eq_false (by omega)
  cases hln : lnS s.data.toList with
  | false =>
    rw [hln] at HI
    clear hlen hln
    go_enter Try.func5, Try.ntmps5
    go_wp2_with fail
    refine (HI.out _).mono ?_
    rintro e w1 ⟨rfl, rfl⟩
    go_wp2_with fail
    refine (HS.out _).mono ?_
    rintro e w1 ⟨rfl, hb⟩
    have HB := Lib.hid hb
    clear hb
    go_wp2_with fail
    go_ret
    exact ⟨rfl, HB.out⟩
  | true =>
    rw [hln] at HI
    have hok := okS_ln _ hln
    have hE : ∀ W : World, Tl w.heap.size w.heap.size 0 W → w.heap.size ≤ W.heap.size → _ := fun W ht hW =>
      expand_ok s.data.toList false [] (.func 13) #[.pointer (some ⟨w.heap.size, 0, none⟩)] w.heap.size (StT false w.heap.size (W.heap.size + 1) w.heap.size 0) W (env_T _ _ _ _ _) hW hok (by omega)
        ⟨exW_xp W _ _ _ hW, ht.sk (Sk.of (exW_bel W _ _)), by omega, by omega⟩
    have htl : Tl w.heap.size w.heap.size 0 (w.alloc (.cells #[.slice none 0 0, .slice none 0 0] 36)) := ⟨Nat.le_refl _, _, _, heap_alloc_new w _, World.ownsRow_nil _ _ _ _⟩
    have HE := Lib.hid (hE _ htl (by rw [siz0]; omega))
    rw [bs_self] at HE
    have HK := Lib.hid (plain_keeps s.data.toList.length s.data.toList rfl)
    have HO := Lib.hid (odd_turns s.data.toList.length s.data.toList rfl)
    have hle := exF_le false [] (by decide) s.data.toList
    obtain ⟨o, ho⟩ : ∃ o, o = exF false [] s.data.toList := ⟨_, rfl⟩
    rw [← ho] at HE HK HO hle
    rw [hlen] at HO hle
    clear hE htl hok hln hlen ho hb
    cases hpl : plS s.data.toList with
    | true =>
      rw [hpl] at HP
      have HK2 := Lib.hid (HK.out hpl)
      clear hpl HK HO
      go_enter Try.func5, Try.ntmps5
      go_wp2_with fail
      refine (HI.out _).mono ?_
      rintro e w1 ⟨rfl, rfl⟩
      go_wp2_with fail
      refine HE.out.mono ?_
      rintro e w2 ⟨rfl, hst, hfr⟩
      have HFR := Lib.hid ((bel0 w _).trans (hfr.bel))
      have HTL := Lib.hid hst.2.1
      clear hst hfr
      have HP2 := Lib.hid (HP.out w2)
      go_wp2_with fail
      refine HP2.out.mono ?_
      rintro e w3 ⟨rfl, hb⟩
      have HB3 := Lib.hid (HFR.out.trans (hb.mono HFR.out.size))
      have HT3 := Lib.hid (HTL.out.sk (Sk.of hb))
      clear hb
      obtain ⟨_, v, xs, hv, how⟩ := HT3.out
      obtain ⟨q1, cap, rfl, _, _⟩ := row_shape how
      have c0 : w3.cell? ⟨w.heap.size, 0, none⟩ = some (.slice q1 (0 + o.2) cap) := by simp [World.cell?, hv]
      rw [HK2.out] at c0 ⊢
      rw [bs_self]
      clear hv how
      go_wp2_with fail
      refine (HS.out _).mono ?_
      rintro e w4 ⟨rfl, hb⟩
      have HB4 := Lib.hid (HB3.out.trans (hb.mono HB3.out.size))
      clear hb
      go_wp2_with fail
      go_ret
      exact ⟨rfl, HB4.out⟩
    | false =>
      rw [hpl] at HP
      have HO2 := Lib.hid (HO.out hpl)
      have hos : (bs o.1).size ≤ s.size := by rw [bs_size]; exact hle.1
      have HSZ := Lib.hid (bs_size o.1)
      clear hpl HK HO
      go_enter Try.func5, Try.ntmps5
      go_wp2_with fail
      refine (HI.out _).mono ?_
      rintro e w1 ⟨rfl, rfl⟩
      go_wp2_with fail
      refine HE.out.mono ?_
      rintro e w2 ⟨rfl, hst, hfr⟩
      have HFR := Lib.hid ((bel0 w _).trans (hfr.bel))
      have HTL := Lib.hid hst.2.1
      clear hst hfr
      have HP2 := Lib.hid (HP.out w2)
      go_wp2_with fail
      refine HP2.out.mono ?_
      rintro e w3 ⟨rfl, hb⟩
      have HB3 := Lib.hid (HFR.out.trans (hb.mono HFR.out.size))
      have HT3 := Lib.hid (HTL.out.sk (Sk.of hb))
      clear hb
      obtain ⟨_, v, xs, hv, how⟩ := HT3.out
      obtain ⟨q1, cap, rfl, _, _⟩ := row_shape how
      rw [Nat.zero_add] at hv
      have c0 : w3.cell? ⟨w.heap.size, 0, none⟩ = some (.slice q1 o.2 cap) := by simp [World.cell?, hv]
      clear hv how
      by_cases ha : 0 < o.2
      · have d2 : decide (0 < o.2) = true := decide_eq_true ha
        clear HO2
        go_wp2_with fail
        refine (HS.out _).mono ?_
        rintro e w4 ⟨rfl, hb⟩
        have HB4 := Lib.hid (HB3.out.trans (hb.mono HB3.out.size))
        clear hb
        go_wp2_with fail
        go_ret
        exact ⟨rfl, HB4.out⟩
      · have d2 : decide (0 < o.2) = false := decide_eq_false ha
        have d3 : decide ((bs o.1).size < s.size) = true := decide_eq_true (by rw [HSZ.out]; exact HO2.out.elim (fun h => absurd h ha) id)
        clear HO2
        go_wp2_with fail
        refine (HS.out _).mono ?_
        rintro e w4 ⟨rfl, hb⟩
        have HB4 := Lib.hid (HB3.out.trans (hb.mono HB3.out.size))
        clear hb
        go_wp2_with fail
        go_ret
        exact ⟨rfl, HB4.out⟩
end Go.Proofs.Ytoggjiblhcbmjaa
