/- Lines, Text, Kind of the store; the specification's lines that are ones. -/
import Derived.Test.YtgpanlkcpnlejaaDA
namespace Go.Proofs.Ytgpanlkcpnlejaa
open Go.RowKit Go.Maps
set_option maxRecDepth 100000
/-- The lines that are told. -/
def mLines (m : Mc) : List Ln := if m.kind = 1 then [⟨m.tx, false, 0, 0, []⟩] else m.ls
theorem LnOwn.reads {w : World} {o : Option Addr} {n c : Nat} {ls : List Ln} (h : LnOwn w o n c ls) : LnsAt (Tg w) w o n ls ∧ (o = none → n = 0) := by
  obtain ⟨⟨rs, ho, ha⟩, hl⟩ := h
  exact ⟨⟨⟨rs, ReadsP.of_own ho (fun g cs hg _ => ⟨cs, _, hg⟩), ha⟩, hl⟩, own_none ho⟩
/-- What Lines leaves. -/
structure LinP (ls : List Ln) (w : World) (A : Option Addr) (n c : Nat) (w' : World) : Prop where
  at_ : LnsAt (Tg w') w' A n ls
  nil : A = none → n = 0
  le : n ≤ c
  cap : (c : Int) ≤ 9223372036854775807
  below : Below w.heap.size w w'
set_option maxHeartbeats 1000000 in
theorem linesA {T sb mb : Nat} {L : List Reg} {M : Nat → Mc} {w : World} (h : SA T sb mb L M w) (s : ByteArray) (hs : s.size ≤ maxLen) (hh : hasS L s.data.toList = true) :
    Calls Try.prog 17 #[BP sb, .string s] w fun e w' => ∃ A n c, e = .returned (.tuple #[.slice A n c, .int .i64 0]) ∧ LinP (mLines (M (getS L s.data.toList).v)) w A n c w' := by
  obtain ⟨E, h⟩ := h
  have HG := Lib.hid (get_yes h.sk s hs hh)
  have hmem := getS_mem L _ hh
  have hre := h.sk.ent _ hmem
  have hen := h.en _ hmem
  obtain ⟨r, hr⟩ : ∃ r, r = getS L s.data.toList := ⟨_, rfl⟩
  rw [← hr] at HG hre hen ⊢
  obtain ⟨en, hee⟩ : ∃ en, en = E r.v := ⟨_, rfl⟩
  rw [← hee] at hre hen
  obtain ⟨m, hm⟩ : ∃ m, m = M r.v := ⟨_, rfl⟩
  rw [← hm] at hen ⊢
  obtain ⟨kd, tx, lo, ln, lc⟩ := en
  unfold EnAt enCs at hre
  simp only at hre
  have hkd := hen.kd
  have htx := hen.tx
  have hln := hen.ln
  simp only at hkd htx hln
  rcases hen.ok with ⟨hk, hok, hls⟩ | ⟨hk, hok, hls, hall⟩
  · have hml : mLines m = [⟨m.tx, false, 0, 0, []⟩] := by unfold mLines; rw [if_pos hk]
    rw [hml, ← htx]
    rw [hk] at hkd
    subst hkd
    obtain ⟨⟨c0, c1, c2⟩, _⟩ := fresh_en hre
    clear h hs hh hr hre hen hee hm hln htx hk hok hls hml hmem
    go_enter Try.func17, Try.ntmps17
    go_wp2_with fail
    refine HG.out.mono ?_
    rintro e w1 ⟨rfl, rfl⟩
    go_wp2_with fail
    go_ret2
    refine ⟨some ⟨w.heap.size, 0, none⟩, 1, 1, rfl, ⟨⟨⟨[⟨tx, false, 0, 0, none, 0, 0⟩], ?_, ?_⟩, rfl⟩, (fun e => by cases e), Nat.le_refl _, by omega, (Below.refl _ _).alloc (Nat.le_refl _) _⟩⟩
    · refine ⟨rfl, fun _ => ⟨w.heap.size, 0, rfl, ⟨_, _, heap_alloc_new _ _⟩, fun j u hu => ?_⟩⟩
      have hh := heap_alloc_new w (.cells #[.string tx, .bool false, .int .i64 0, .int .i64 0, .slice none 0 0] 69)
      simp only [World.cell?, Nat.zero_add, Option.isSome_none, Bool.false_eq_true, if_false]
      rw [hh]
      simpa [rlCs] using hu
    · refine ⟨rfl, fun i a b ha hb => ?_⟩
      have hi : i = 0 := by
        have := (List.getElem?_eq_some_iff.1 ha).1
        simp at this; exact this
      subst hi
      simp only [List.getElem?_cons_zero, Option.some.injEq] at ha hb
      subst ha hb
      exact ⟨rfl, rfl, rfl, rfl, fun _ => rfl, Nat.le_refl _, by show ((0 : Nat) : Int) ≤ 9223372036854775807; omega, ⟨⟨[], ⟨rfl, fun h => absurd h (Nat.lt_irrefl 0)⟩, ⟨rfl, fun i a b h _ => by simp at h⟩⟩, rfl⟩⟩
  · have hml : mLines m = m.ls := by unfold mLines; rw [if_neg (by rw [hk]; decide)]
    rw [hml]
    rw [hk] at hkd
    subst hkd
    obtain ⟨⟨c0, c1, c2⟩, _⟩ := fresh_en hre
    obtain ⟨hat, hnil⟩ := hln.reads
    have hlen := hln.len
    have HC := Lib.hid (copyLines_any (c := lc) hat (fun e b hb => hb.lt) hnil (by omega) (okLn_bx hall))
    generalize m.ls = ls at HC
    have HMM := Lib.hid hlen
    clear h hs hh hr hre hen hee hm hln htx hk hok hls hml hmem hat hnil hall hlen HMM
    go_enter Try.func17, Try.ntmps17
    go_wp2_with fail
    refine HG.out.mono ?_
    rintro e w1 ⟨rfl, rfl⟩
    go_wp2_with fail
    refine HC.out.mono ?_
    rintro e w2 ⟨A', c', rs, rfl, hown, hall2, hb⟩
    obtain ⟨o, cap, hv, hc1, hc2⟩ := row_shape hown
    injection hv with hv1 hv2 hv3
    subst hv3
    clear hv1 hv2
    have HR : Hid (LinP ls w A' ln c' w2) := Lib.hid ⟨⟨⟨rs, ReadsP.of_own hown (fun g cs hg _ => ⟨cs, _, hg⟩), hall2⟩, by
      have h1 := hown.1
      rw [fm_len rl_len] at h1
      rw [← hall2.1]; omega⟩, own_none hown, hc1, hc2, hb⟩
    clear hown hall2 hb
    go_wp2_with fail
    go_ret2
    exact ⟨A', ln, c', rfl, HR.out⟩
theorem textA {T sb mb : Nat} {L : List Reg} {M : Nat → Mc} {w : World} (h : SA T sb mb L M w) (s : ByteArray) (hs : s.size ≤ maxLen) (hh : hasS L s.data.toList = true) (hk : (M (getS L s.data.toList).v).kind = 1) :
    Calls Try.prog 13 #[BP sb, .string s] w fun e w' => e = .returned (.tuple #[.string (M (getS L s.data.toList).v).tx, .int .i64 0]) ∧ w = w' := by
  obtain ⟨E, h⟩ := h
  have hen := h.en _ (getS_mem L _ hh)
  have := text_yes h.sk s hs hh (by rw [hen.kd]; exact hk)
  rw [hen.tx] at this
  exact this
theorem kindA {T sb mb : Nat} {L : List Reg} {M : Nat → Mc} {w : World} (h : SA T sb mb L M w) (s : ByteArray) :
    Calls Try.prog 22 #[BP sb, .string s] w fun e w' => e = .returned (.int .i64 (if okNm s.data.toList then (mOf L M s.data.toList).kind else 0)) ∧ Below w.heap.size w w' := by
  obtain ⟨E, h⟩ := h
  have := kind_any h.sk s
  rw [(ent_of h s.data.toList).1] at this
  exact this
/- The specification's lines. -/
set_option maxHeartbeats 1000000 in
theorem rIsLine_text (tx : ByteArray) (htz : tx.size ≤ 9223372036854775807) (up dn : Int) (bo : Option Addr) (bn bc : Nat) (w : World) : Calls Try.prog 33 #[.agg #[.string tx, .bool false, .int .i64 up, .int .i64 dn, .slice bo bn bc]] w fun e w' => e = .returned (.bool (okRL tx false up dn bn)) ∧ Below w.heap.size w w' := by
  have H1 := Lib.hid (fun W => rIsText_any tx htz W)
  have HE := Lib.hid (show okRL tx false up dn bn = (okTx tx.data.toList && (up == 0) && (dn == 0) && (bn == 0)) from rfl)
  have HB := Lib.hid ((Below.refl w.heap.size w).alloc (Nat.le_refl _) (.cells #[.string tx, .bool false, .int .i64 up, .int .i64 dn, .slice bo bn bc] 69))
  generalize okTx tx.data.toList = u at *
  clear htz
  go_enter Try.func33, Try.ntmps33
  go_wp2_with fail
  refine (H1.out _).mono ?_
  rintro e w1 ⟨rfl, rfl⟩
  cases u with
  | false =>
    go_wp2_with fail
    go_ret
    rw [HE.out]
    exact ⟨rfl, HB.out⟩
  | true =>
    by_cases h1 : up = 0
    · subst h1
      by_cases h2 : dn = 0
      · subst h2
        have HD := Lib.hid (show ((bn : Int) == 0) = (bn == 0) by cases bn <;> rfl)
        go_wp2_with fail
        go_ret
        rw [HE.out]
        exact ⟨by simp [HD.out], HB.out⟩
      · have d2 : (dn == 0) = false := by simpa using h2
        have HX := Lib.hid d2
        clear h2
        go_wp2_with fail
        go_ret
        rw [HE.out, HX.out]
        exact ⟨by simp, HB.out⟩
    · have d1 : (up == 0) = false := by simpa using h1
      have HX := Lib.hid d1
      clear h1
      go_wp2_with fail
      go_ret
      rw [HE.out, HX.out]
      exact ⟨by simp, HB.out⟩
set_option maxHeartbeats 4000000 in
theorem rIsLine_made (tx : ByteArray) (up dn : Int) (bo : Option Addr) (bn bc : Nat) (w : World) : Calls Try.prog 33 #[.agg #[.string tx, .bool true, .int .i64 up, .int .i64 dn, .slice bo bn bc]] w fun e w' => e = .returned (.bool (okRL tx true up dn bn)) ∧ Below w.heap.size w w' := by
  have HE := Lib.hid (show okRL tx true up dn bn = (tx.data.toList.isEmpty && (decide (-1000000 ≤ up) && decide (up ≤ 1000000)) && (decide (-1000000 ≤ dn) && decide (dn ≤ 1000000)) && decide (bn ≤ 2000)) from rfl)
  have HB := Lib.hid ((Below.refl w.heap.size w).alloc (Nat.le_refl _) (.cells #[.string tx, .bool true, .int .i64 up, .int .i64 dn, .slice bo bn bc] 69))
  have HD := Lib.hid (show decide ((bn : Int) ≤ 2000) = decide (bn ≤ 2000) by rw [decide_eq_decide]; omega)
  go_enter Try.func33, Try.ntmps33
  go_wp2_with fail
  all_goals
    go_ret
    refine ⟨?_, HB.out⟩
    rw [HE.out]
    first
      | (have ht : tx.toList = [] := by assumption
         have hi : tx.data.toList.isEmpty = true := by rw [← Lib.toList_data, ht]; rfl
         rw [hi]
         simp [*, HD.out]
         try omega)
      | (have ht : ¬ tx.toList = [] := by assumption
         have hi : tx.data.toList.isEmpty = false := by rw [← Lib.toList_data]; cases h : tx.toList with | nil => exact absurd h ht | cons a b => rfl
         rw [hi]; rfl)
theorem rIsLine_any (tx : ByteArray) (htz : tx.size ≤ 9223372036854775807) (md : Bool) (up dn : Int) (bo : Option Addr) (bn bc : Nat) (w : World) : Calls Try.prog 33 #[.agg #[.string tx, .bool md, .int .i64 up, .int .i64 dn, .slice bo bn bc]] w fun e w' => e = .returned (.bool (okRL tx md up dn bn)) ∧ Below w.heap.size w w' := by
  cases md with
  | true => exact rIsLine_made tx up dn bo bn bc w
  | false => exact rIsLine_text tx htz up dn bo bn bc w
set_option maxHeartbeats 2000000 in
theorem rAreLines_any {P : TypeId → Nat → Prop} {w : World} {A : Option Addr} {n c : Nat} {ls : List Ln} (h : LnsAt P w A n ls) (hP : ∀ e b, P e b → b < w.heap.size) (hn : (n : Int) ≤ 9223372036854775807) (htx : ∀ l ∈ ls, l.tx.size ≤ 9223372036854775807) :
    Calls Try.prog 14 #[.slice A n c] w fun e w' => e = .returned (.bool (ls.all okLn)) ∧ Below w.heap.size w w' := by
  obtain ⟨⟨rs, hr, ha⟩, hlen⟩ := h
  have HR := Lib.hid hr
  have HA : Hid (All2 (RlIs P w) rs ls) := Lib.hid ha
  have HLEN := Lib.hid hlen
  have HP := Lib.hid hP
  have HTX := Lib.hid htx
  have HST : Hid (VlR ls w n n (.int .i64 0) w) := Lib.hid ⟨0, rfl, rfl, rfl, Below.refl _ _⟩
  have HRL := Lib.hid (show rs.length = n by rw [ha.1, hlen])
  clear hr ha hlen hP htx
  go_enter Try.func14, Try.ntmps14
  go_wp2_with fail
  go_loopg [3] n (fun k i wr => VlR ls w n k i wr)
  case atStart => exact HST.out
  case round =>
    obtain ⟨j, hk, rfl, hall, hb⟩ := hrel
    have HK := Lib.hid hk
    have HB := Lib.hid hb
    by_cases hj : j < n
    · have dj : decide (j < n) = true := decide_eq_true hj
      have hrj : rs[j]? = some (rs[j]'(by have := HRL.out; omega)) := List.getElem?_eq_getElem (by have := HRL.out; omega)
      obtain ⟨r, hre⟩ : ∃ r, r = rs[j]'(by have := HRL.out; omega) := ⟨_, rfl⟩
      rw [← hre] at hrj
      have hlj : ls[j]? = some (ls[j]'(by have := HLEN.out; omega)) := List.getElem?_eq_getElem (by have := HLEN.out; omega)
      obtain ⟨l, hle⟩ : ∃ l, l = ls[j]'(by have := HLEN.out; omega) := ⟨_, rfl⟩
      rw [← hle] at hlj
      have hri := HA.out.2 j r l hrj hlj
      obtain ⟨b, off, rfl, hp, c0, c1, c2, c3, c4⟩ := reads_ln HR.out j r hrj
      have hbl := HP.out _ b hp
      have e := fun o => hb.cell (p := ⟨b, o, none⟩) hbl
      rw [← e] at c0 c1 c2 c3 c4
      have HOK := Lib.hid (show okLn l = okRL r.tx r.md r.up r.dn r.bn by unfold okLn; rw [← hri.tx, ← hri.md, ← hri.up, ← hri.dn, ← hri.bx.len])
      have hsz := HTX.out l (List.mem_of_getElem? hlj)
      rw [← hri.tx] at hsz
      have HLJ := Lib.hid hlj
      have HAL := Lib.hid hall
      have HJ := Lib.hid hj
      obtain ⟨tx, md, up, dn, bo, bn, bc⟩ := r
      simp only at c0 c1 c2 c3 c4 HOK hsz
      have HV := Lib.hid (fun W => rIsLine_any tx hsz md up dn bo bn bc W)
      generalize okRL tx md up dn bn = t at HV HOK
      clear hk hj hb hrj hre hlj hle hri hp hbl e hall hsz
      go_wp2_with fail
      refine (HV.out _).mono ?_
      rintro e w2 ⟨rfl, hb2⟩
      have HB2 := Lib.hid (HB.out.trans (hb2.mono HB.out.size))
      clear hb2
      cases t with
      | false =>
        go_wp2_with fail
        go_ret
        rw [all_take_not okLn ls j l HLJ.out HOK.out]
        exact ⟨rfl, HB2.out⟩
      | true =>
        go_wp2_with fail
        go_roundg (gk - 1)
        case measure => have := HK.out; have := HJ.out; omega
        case rel =>
          have := HK.out
          have := HJ.out
          exact ⟨j + 1, by omega, by first | go_num | (congr 1; rw [IntWalk.wrap64_in _ (by omega)]; omega), all_take_succ okLn ls j l HLJ.out HOK.out HAL.out, HB2.out⟩
    · have dj : decide (j < n) = false := decide_eq_false hj
      have HQ := Lib.hid (show ls.all okLn = true by rw [← List.take_of_length_le (l := ls) (i := j) (by have := HLEN.out; omega)]; exact hall)
      clear hk hj hb hall
      go_wp2_with fail
      go_ret
      rw [HQ.out]
      exact ⟨rfl, HB.out⟩
end Go.Proofs.Ytgpanlkcpnlejaa
