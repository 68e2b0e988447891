/- SourceOrder: its words; the deeds that put on top. -/
import Derived.Test.YtfmlokkkhfnglaaDoorLL
import Derived.Test.YtfmlokkkhfnglaaDoorLD
import Derived.Test.YtfmlokkkhfnglaaDoorNb
namespace Go.Proofs.YtfmlokkkhfnglaaDoor
open Go.RowKit
set_option maxRecDepth 100000
set_option linter.unusedSimpArgs false
set_option linter.unusedVariables false
abbrev fo (ls : List ByteArray) (t : Nat) : Fr := ⟨1, ⟨#[102]⟩, mkL ls, [], t⟩
theorem mkL_at (ls : List ByteArray) (t : Nat) (h : t < ls.length) : (mkL ls)[t]? = some (lnT ls[t]) := by
  unfold mkL
  rw [List.getElem?_map, List.getElem?_eq_getElem h]
  rfl
theorem fo_more (ls : List ByteArray) (t : Nat) : hasMore (fo ls t) = decide (t < ls.length) := by
  unfold hasMore
  rw [mkL_len]
theorem file_first (s : ByteArray) : fileS [] ⟨#[102]⟩ s = if okF ⟨#[102]⟩ s then (0, [fo (linesS s) 0]) else (1, []) := by
  unfold fileS pushS
  rfl
theorem push_two (f0 f : Fr) (h : stays f0 = true) : pushS [f0] f = (0, [f0, f]) := by
  have ht : topS stays [f0] = 1 := topN_yes stays [f0] 0 f0 rfl h
  unfold pushS
  rw [ht]
  rfl
def deedS (k : Int) (F : List Fr) (nm tx : ByteArray) (ls : List Ln) (ss : List ByteArray) : Int × List Fr :=
  if k = 0 then fileS F nm tx else if k = 1 then macS F nm ls ss else waitS F ls
theorem deed_two (k : Int) (f0 : Fr) (h : stays f0 = true) (nm tx : ByteArray) (ls : List Ln) (ss : List ByteArray) : deedS k [f0] nm tx ls ss = (1, [f0]) ∨ ∃ f, deedS k [f0] nm tx ls ss = (0, [f0, f]) ∧ f.tk = 0 := by
  unfold deedS
  split
  · unfold fileS
    split
    · exact .inr ⟨_, push_two f0 _ h, rfl⟩
    · exact .inl rfl
  · split
    · unfold macS
      split
      · exact .inr ⟨_, push_two f0 _ h, rfl⟩
      · exact .inl rfl
    · unfold waitS
      split
      · exact .inr ⟨_, push_two f0 _ h, rfl⟩
      · exact .inl rfl
theorem next_one (ls : List ByteArray) (t : Nat) (h : t < ls.length) : nextS [fo ls t] = ((lnT ls[t], 0), [fo ls (t + 1)]) := by
  have ht : topS hasMore [fo ls t] = 1 := topN_yes hasMore [fo ls t] 0 _ rfl (by rw [fo_more]; exact decide_eq_true h)
  unfold nextS peekS
  rw [ht]
  unfold pickS nextF
  simp only [List.getElem?_cons_zero]
  rw [mkL_at ls t h]
  rfl
theorem next_end (ls : List ByteArray) (t : Nat) (h : ¬ t < ls.length) : nextS [fo ls t] = ((Ln0, 3), []) := by
  have ht : topS hasMore [fo ls t] = 0 := topN_no hasMore [fo ls t] 0 _ rfl (by rw [fo_more]; exact decide_eq_false h)
  unfold nextS peekS
  rw [ht]
  rfl
theorem next_over (f0 f : Fr) (h : f.tk < f.ls.length) : nextS [f0, f] = ((f.ls[f.tk], 0), [f0, bump f]) := by
  have ht : topS hasMore [f0, f] = 2 := topN_yes hasMore [f0, f] 1 f rfl (by unfold hasMore; exact decide_eq_true h)
  unfold nextS peekS
  rw [ht]
  unfold pickS nextF
  simp only [List.getElem?_cons_succ, List.getElem?_cons_zero]
  rw [List.getElem?_eq_getElem h]
  rfl
theorem next_under (ls : List ByteArray) (t : Nat) (f : Fr) (h : t < ls.length) (hf : ¬ f.tk < f.ls.length) : nextS [fo ls t, f] = ((lnT ls[t], 0), [fo ls (t + 1)]) := by
  have ht : topS hasMore [fo ls t, f] = 1 := by
    have h1 : topN hasMore [fo ls t, f] 2 = topN hasMore [fo ls t, f] 1 := topN_no hasMore [fo ls t, f] 1 f rfl (by unfold hasMore; exact decide_eq_false hf)
    have h2 : topN hasMore [fo ls t, f] 1 = 1 := topN_yes hasMore [fo ls t, f] 0 _ rfl (by rw [fo_more]; exact decide_eq_true h)
    exact h1.trans h2
  unfold nextS peekS
  rw [ht]
  unfold pickS nextF
  simp only [List.getElem?_cons_zero]
  rw [mkL_at ls t h]
  rfl
theorem next_one' (ls : List ByteArray) (t : Nat) (z : ByteArray) (hz : ls[t]? = some z) : nextS [fo ls t] = ((lnT z, 0), [fo ls (t + 1)]) := by
  obtain ⟨h, rfl⟩ := List.getElem?_eq_some_iff.1 hz
  exact next_one ls t h
theorem next_under' (ls : List ByteArray) (t : Nat) (f : Fr) (z : ByteArray) (hz : ls[t]? = some z) (hf : ¬ f.tk < f.ls.length) : nextS [fo ls t, f] = ((lnT z, 0), [fo ls (t + 1)]) := by
  obtain ⟨h, rfl⟩ := List.getElem?_eq_some_iff.1 hz
  exact next_under ls t f h hf
/-- A deed that puts on top. -/
theorem step_do {X : Nat} {w W : World} {sb : Nat} {F : List Fr} (hsb : X ≤ sb) (h : At X w sb F W) (k : Int) (nm tx : ByteArray) {A : Option Addr} {n c : Nat} {B : Option Addr} {m e : Nat} (a : Int) {ls : List Ln} {ss : List ByteArray} (hl : LsIn W A n c ls) (hs : SsIn W B m e ss) (htx : tx.size ≤ 1000000)
    (hk : k = 0 ∨ k = 1 ∨ k = 2) : Calls Tryd.prog 13 #[BP sb, DV k nm tx A n c B m e a] W fun e2 W' => e2 = .returned (.tuple #[LZ, .int .i64 (deedS k F nm tx ls ss).1]) ∧ At X w sb (deedS k F nm tx ls ss).2 W' ∧ Dt W W' := by
  have fin : ∀ R : Int × List Fr, ∀ e2 w', Nl (fun x w' => x = R.1 ∧ At X w sb R.2 w' ∧ Dt W w') e2 w' → e2 = .returned (.tuple #[LZ, .int .i64 R.1]) ∧ At X w sb R.2 w' ∧ Dt W w' := by
    rintro R e2 w' ⟨x, he, rfl, h1, h2⟩
    exact ⟨he, h1, h2⟩
  have key : ∀ (k : Int) (R : Int × List Fr) (e2 : Ending) (w' : World), (e2 = .returned (.int .i64 R.1) ∧ At X w sb R.2 w' ∧ Dt (dw W k nm tx A n c B m e a) w') → Nb W (fun x w' => x = R.1 ∧ At X w sb R.2 w' ∧ Dt W w') e2 w' := by
    rintro k R e2 w' ⟨he, h1, h2⟩
    obtain ⟨_, hx, hb⟩ := two_alloc W (ddA k nm tx A n c B m e a) #[.string ⟨#[]⟩, .bool false, .int .i64 0, .int .i64 0, .slice none 0 0] 38 31
    exact ⟨R.1, he, h2.ln hx, rfl, h1, (Dt.below hb).trans h2⟩
  have hb : ∀ k, Below W.heap.size W (dw W k nm tx A n c B m e a) := fun k => (two_alloc W (ddA k nm tx A n c B m e a) #[.string ⟨#[]⟩, .bool false, .int .i64 0, .int .i64 0, .slice none 0 0] 38 31).2.2
  rcases hk with rfl | rfl | rfl
  · exact (do_0 ((step_file hsb (h.below (hb 0)) nm tx htx).mono (key 0 _))).mono (fin _)
  · exact (do_1 ((step_macro hsb (h.below (hb 1)) nm (hl.below (hb 1)) (hs.below (hb 1))).mono (key 1 _))).mono (fin _)
  · exact (do_2 ((step_wait hsb (h.below (hb 2)) (hl.below (hb 2))).mono (key 2 _))).mono (fin _)
end Go.Proofs.YtfmlokkkhfnglaaDoor
/- SourceOrder: the walk. -/
namespace Go.Proofs.YtfmlokkkhfnglaaDoor
open Go.RowKit
set_option maxRecDepth 100000
set_option linter.unusedSimpArgs false
set_option linter.unusedVariables false
/-- The stack, and the lines that the document tells. -/
structure Or (w : World) (sb : Nat) (LA : Option Addr) (ls : List ByteArray) (F : List Fr) (W : World) : Prop where
  at' : At w.heap.size w sb F W
  ln : StrsAt (Tg W) W LA ls.length ls
theorem Or.step {w W W' : World} {sb : Nat} {LA : Option Addr} {ls : List ByteArray} {F F' : List Fr} (h : Or w sb LA ls F W) (ha : At w.heap.size w sb F' W') (hd : Dt W W') : Or w sb LA ls F' W' := ⟨ha, h.ln.dt hd⟩
theorem Or.below {w W W' : World} {sb : Nat} {LA : Option Addr} {ls : List ByteArray} {F : List Fr} (h : Or w sb LA ls F W) (hb : Below W.heap.size W W') : Or w sb LA ls F W' := ⟨h.at'.below hb, h.ln.dt (Dt.below hb)⟩
theorem Or.cell {w W : World} {sb : Nat} {LA : Option Addr} {ls : List ByteArray} {F : List Fr} (h : Or w sb LA ls F W) (t : Nat) (z : ByteArray) (hz : ls[t]? = some z) : ∃ b off, LA = some ⟨b, off, none⟩ ∧ W.cell? ⟨b, off + t, none⟩ = some (.string z) := by
  obtain ⟨ht, rfl⟩ := List.getElem?_eq_some_iff.1 hz
  obtain ⟨b, off, e, _, hc⟩ := h.ln.rd.2 (by omega)
  exact ⟨b, off, e, hc t _ (str_at ls t ht)⟩
theorem dep_any {w W : World} {sb : Nat} {LA : Option Addr} {ls : List ByteArray} {F : List Fr} (h : Or w sb LA ls F W) : Calls Tryd.prog 17 #[BP sb] W fun e w' => e = .returned (.int .i64 F.length) ∧ W = w' := by
  obtain ⟨g, hg, ⟨c, rs, hc⟩, hkk⟩ := h.at'
  exact depth_any hc
theorem nx_any {w W : World} {sb : Nat} {LA : Option Addr} {ls : List ByteArray} {F : List Fr} (hsb : w.heap.size ≤ sb) (h : Or w sb LA ls F W) : Calls Tryd.prog 20 #[BP sb] W fun e W' => ∃ r, e = .returned (.tuple #[lvA r, .int .i64 (nextS F).1.2]) ∧ r.tx = (nextS F).1.1.tx ∧ Or w sb LA ls (nextS F).2 W' :=
  (step_next hsb h.at').mono fun e W' ⟨r, he, hr, ha, hd⟩ => ⟨r, he, hr.tx, h.step ha hd⟩
/-- Behind deeds that were put on top and read: the file alone. -/
def OrR (w : World) (sb : Nat) (LA : Option Addr) (ls : List ByteArray) (n k : Nat) (t i : Value) (wr : World) : Prop :=
  ∃ j v : Nat, k + j = n ∧ v ≤ ls.length ∧ t = .int .i64 v ∧ i = .int .i64 j ∧ Or w sb LA ls [fo ls v] wr
/-- Within: what lies on top is read. -/
def OiR (w : World) (sb : Nat) (LA : Option Addr) (ls : List ByteArray) (v k : Nat) (t : Value) (wr : World) : Prop :=
  (∃ f : Fr, t = .int .i64 v ∧ k + f.tk = f.ls.length + 1 ∧ f.tk ≤ f.ls.length ∧ Or w sb LA ls [fo ls v, f] wr) ∨ (t = .int .i64 ((v + 1 : Nat) : Int) ∧ Or w sb LA ls [fo ls (v + 1)] wr)
def OeR (w : World) (sb : Nat) (LA : Option Addr) (ls : List ByteArray) (k : Nat) (t : Value) (wr : World) : Prop :=
  ∃ v : Nat, k + v = ls.length ∧ t = .int .i64 v ∧ Or w sb LA ls [fo ls v] wr
theorem or_cases (j n v m : Nat) : (decide (j < n) = true ∧ decide (v < m) = true) ∨ (decide (j < n) = true ∧ decide (v < m) = false) ∨ decide (j < n) = false := by
  rcases Bool.eq_false_or_eq_true (decide (j < n)) with h | h
  · rcases Bool.eq_false_or_eq_true (decide (v < m)) with h' | h'
    · exact .inl ⟨h, h'⟩
    · exact .inr (.inl ⟨h, h'⟩)
  · exact .inr (.inr h)
theorem dk_cases (k : Int) (x n : Nat) : decide (k < 0) = true ∨ (decide (k < 0) = false ∧ decide (2 < k) = true) ∨ (decide (k < 0) = false ∧ decide (2 < k) = false ∧ decide (200 < (x : Int)) = true) ∨
    (decide (k < 0) = false ∧ decide (2 < k) = false ∧ decide (200 < (x : Int)) = false ∧ decide (50 < (n : Int)) = true) ∨ (decide (k < 0) = false ∧ decide (2 < k) = false ∧ decide (200 < (x : Int)) = false ∧ decide (50 < (n : Int)) = false) := by
  by_cases h1 : k < 0
  · exact .inl (decide_eq_true h1)
  by_cases h2 : 2 < k
  · exact .inr (.inl ⟨decide_eq_false h1, decide_eq_true h2⟩)
  by_cases h3 : 200 < (x : Int)
  · exact .inr (.inr (.inl ⟨decide_eq_false h1, decide_eq_false h2, decide_eq_true h3⟩))
  by_cases h4 : 50 < (n : Int)
  · exact .inr (.inr (.inr (.inl ⟨decide_eq_false h1, decide_eq_false h2, decide_eq_false h3, decide_eq_true h4⟩)))
  · exact .inr (.inr (.inr (.inr ⟨decide_eq_false h1, decide_eq_false h2, decide_eq_false h3, decide_eq_false h4⟩)))
set_option maxHeartbeats 4000000 in
theorem law_order (s : ByteArray) {w : World} (A : Option Addr) (n c : Nat) (ds : List Dd) (hn : n = ds.length) (hn9 : (n : Int) ≤ 9223372036854775807) (hr : ReadsP (fun b => b < w.heap.size) w 6 A n (ds.flatMap ddCs)) (hd : ∀ d ∈ ds, DdOk w d) :
    Calls Tryd.prog 4 #[.string s, .slice A n c] w fun e w' => e = .returned (.bool true) ∧ Below w.heap.size w w' := by
  have HN0 := Lib.hid hn
  have HR := Lib.hid hr
  have HD := Lib.hid hd
  by_cases h3 : 3000 < s.size
  · have d3 : decide ((3000 : Int) < (s.size : Int)) = true := decide_eq_true (by omega)
    clear hn hr hd h3
    go_enter Tryd.func4, Tryd.ntmps4
    go_wp2_with fail
    refine (sane_any _).mono ?_
    rintro e w2 ⟨rfl, hb2⟩
    have HB2 := Lib.hid hb2
    clear hb2
    go_wp2_with fail
    go_ret
    exact ⟨rfl, HB2.out⟩
  have d3 : decide ((3000 : Int) < (s.size : Int)) = false := decide_eq_false (by omega)
  have HS3 := Lib.hid (show s.size ≤ 1000000 by omega)
  have HBG := Lib.hid (big_few (c := c) A n ds hn hn9 hr hd)
  clear hn hr hd h3
  go_enter Tryd.func4, Tryd.ntmps4
  go_wp2_with fail
  refine HBG.out.mono ?_
  rintro e w1 ⟨⟨t, rfl, hfew⟩, hb1⟩
  have HFEW := Lib.hid hfew
  have HB1 := Lib.hid hb1
  clear hfew hb1
  cases t with
  | true =>
    go_wp2_with fail
    refine (sane_any _).mono ?_
    rintro e w2 ⟨rfl, hb2⟩
    have HB2 := Lib.hid (HB1.out.trans (hb2.mono HB1.out.size))
    clear hb2
    go_wp2_with fail
    go_ret
    exact ⟨rfl, HB2.out⟩
  | false =>
    have hfew := HFEW.out rfl
    have HF := Lib.hid hfew.2
    have hn150 : n ≤ 150 := hfew.1
    clear hfew
    go_wp2_with fail
    refine step_new.mono ?_
    rintro e w2 ⟨rfl, h2⟩
    have H2 := Lib.hid h2
    have HSB : Hid (w1.heap.size ≤ w1.heap.size + 1) := Lib.hid (Nat.le_succ _)
    have HLN := Lib.hid (rLines_any s HS3.out w2)
    have hfi : ∀ W, At w1.heap.size w1 (w1.heap.size + 1) [] W → Calls Tryd.prog 19 #[BP (w1.heap.size + 1), .string ⟨#[102]⟩, .string s] W fun e W' => e = .returned (.int .i64 (if okF ⟨#[102]⟩ s then ((0 : Int), [fo (linesS s) 0]) else (1, [])).1) ∧ At w1.heap.size w1 (w1.heap.size + 1) (if okF ⟨#[102]⟩ s then ((0 : Int), [fo (linesS s) 0]) else (1, [])).2 W' ∧ Dt W W' := fun W hA => by
      have := step_file HSB.out hA ⟨#[102]⟩ s HS3.out
      rwa [file_first] at this
    clear h2
    generalize okF ⟨#[102]⟩ s = o at hfi
    generalize linesS s = ls at hfi HLN
    have HFI := Lib.hid hfi
    clear hfi
    go_wp2_with fail
    refine HLN.out.mono ?_
    rintro e w3 ⟨⟨LA, ln, lc, rfl, hst, hnil, hle, hcap⟩, hb3⟩
    obtain rfl : ln = ls.length := hst.len
    have hA3 := H2.out.below hb3
    have hls9 : (ls.length : Int) ≤ 9223372036854775807 := by omega
    cases o with
    | false =>
      have hf := HFI.out w3 hA3
      rw [if_neg (by decide)] at hf
      have HF3 := Lib.hid hf
      clear hf hst hA3 hb3 hnil hle hcap
      go_wp2_with fail
      refine HF3.out.mono ?_
      rintro e w4 ⟨rfl, h4, _⟩
      have H4 := Lib.hid h4
      clear h4
      go_wp2_with fail
      refine (sane_any _).mono ?_
      rintro e w9 ⟨rfl, hb9⟩
      have HB9 := Lib.hid (H4.out.to.trans (hb9.mono H4.out.lt))
      clear hb9
      go_wp2_with fail
      go_ret
      exact ⟨rfl, HB1.out.trans (HB9.out.mono HB1.out.size)⟩
    | true =>
      have hf := HFI.out w3 hA3
      rw [if_pos rfl] at hf
      have HF3 := Lib.hid hf
      have HST := Lib.hid hst
      clear hf hst hA3 hb3 hnil hle hcap
      go_wp2_with fail
      refine HF3.out.mono ?_
      rintro e w4 ⟨rfl, h4, hd4⟩
      have HO4 : Hid (Or w1 (w1.heap.size + 1) LA ls [fo ls 0] w4) := Lib.hid ⟨h4, HST.out.dt hd4⟩
      clear h4 hd4
      go_wp2_with fail
      go_loopg [8, 9] n (fun k t i wr => OrR w1 (w1.heap.size + 1) LA ls n k t i wr)
      case atStart => exact ⟨0, 0, rfl, Nat.zero_le _, rfl, rfl, HO4.out⟩
      case round =>
        obtain ⟨j, v, hk, hv, rfl, rfl, ho⟩ := hrel
        have HK := Lib.hid hk
        have HV := Lib.hid hv
        have HO := Lib.hid ho
        rcases or_cases j n v ls.length with ⟨dj, dv⟩ | ⟨dj, dv⟩ | dj
        · have hj : j < n := of_decide_eq_true dj
          have hvl : v < ls.length := of_decide_eq_true dv
          have HVL := Lib.hid hvl
          have hdj : ds[j]? = some (ds[j]'(by have := HN0.out; omega)) := List.getElem?_eq_getElem (by have := HN0.out; omega)
          obtain ⟨r, hre⟩ : ∃ r, r = ds[j]'(by have := HN0.out; omega) := ⟨_, rfl⟩
          rw [← hre] at hdj
          have hbw : Below w.heap.size w wr := HB1.out.trans (ho.at'.to.mono HB1.out.size)
          obtain ⟨b, off, rfl, hbl, c0, c1, c2, c3, c4, c5⟩ := reads_dd HR.out j r hdj
          have hok := (HD.out r (List.mem_of_getElem? hdj)).below hbw
          have ec : ∀ o x, w.cell? ⟨b, o, none⟩ = some x → wr.cell? ⟨b, o, none⟩ = some x := fun o x h => (hbw.cell (p := ⟨b, o, none⟩) hbl).trans h
          have c0 := ec _ _ c0
          have c1 := ec _ _ c1
          have c2 := ec _ _ c2
          have c3 := ec _ _ c3
          have c4 := ec _ _ c4
          have c5 := ec _ _ c5
          obtain ⟨dk, nm, tx, dA, dn, dc, dB, sn, sc, da, dls, dss⟩ := r
          simp only at c0 c1 c2 c3 c4 c5
          have HJ := Lib.hid hj
          have hj0 : (0 : Int) ≤ (j : Int) := by omega
          have hj1 : (j : Int) < (n : Int) := by omega
          have hdn : (dn : Int) ≤ 9223372036854775807 := by have := hok.fit; simp only at this; omega
          have hb5 := (Below.refl wr.heap.size wr).alloc (Nat.le_refl _) (.cells (ddA dk nm tx dA dn dc dB sn sc da) 38)
          have h5 := ho.below hb5
          have H5 := Lib.hid h5
          have HOK := Lib.hid (hok.below hb5)
          clear hk hj hvl hv ho hbl hok ec hre hdj hbw hb5 h5
          rcases dk_cases dk tx.size dn with e1 | ⟨e1, e2⟩ | ⟨e1, e2, e3⟩ | ⟨e1, e2, e3, e4⟩ | ⟨e1, e2, e3, e4⟩
          · go_wp2_with fail
            go_roundg (gk - 1)
            case measure => have := HK.out; have := HJ.out; omega
            case rel => have := HK.out; have := HJ.out; exact ⟨j + 1, v, by omega, HV.out, rfl, by first | go_num | (congr 1; rw [IntWalk.wrap64_in _ (by omega)]; omega), H5.out⟩
          · go_wp2_with fail
            go_roundg (gk - 1)
            case measure => have := HK.out; have := HJ.out; omega
            case rel => have := HK.out; have := HJ.out; exact ⟨j + 1, v, by omega, HV.out, rfl, by first | go_num | (congr 1; rw [IntWalk.wrap64_in _ (by omega)]; omega), H5.out⟩
          · go_wp2_with fail
            go_roundg (gk - 1)
            case measure => have := HK.out; have := HJ.out; omega
            case rel => have := HK.out; have := HJ.out; exact ⟨j + 1, v, by omega, HV.out, rfl, by first | go_num | (congr 1; rw [IntWalk.wrap64_in _ (by omega)]; omega), H5.out⟩
          · go_wp2_with fail
            go_roundg (gk - 1)
            case measure => have := HK.out; have := HJ.out; omega
            case rel => have := HK.out; have := HJ.out; exact ⟨j + 1, v, by omega, HV.out, rfl, by first | go_num | (congr 1; rw [IntWalk.wrap64_in _ (by omega)]; omega), H5.out⟩
          · have hk3 : dk = 0 ∨ dk = 1 ∨ dk = 2 := by
              have h1 := of_decide_eq_false e1
              have h2 := of_decide_eq_false e2
              omega
            have htx : tx.size ≤ 1000000 := by
              have h1 := of_decide_eq_false e3
              omega
            have hdo := step_do HSB.out H5.out.at' dk nm tx (n := dn) (c := dc) (m := sn) (e := sc) da HOK.out.ls HOK.out.ss htx hk3
            simp only at hdo
            rcases deed_two dk (fo ls v) rfl nm tx dls dss with hq | ⟨f, hq, hf0⟩
            · rw [hq] at hdo
              have HDO := Lib.hid hdo
              clear hdo hq hk3 htx
              go_wp2_with fail
              refine HDO.out.mono ?_
              rintro e w6 ⟨rfl, h6, hd6⟩
              have hb6 := (Below.refl w6.heap.size w6).alloc (Nat.le_refl _) (.cells #[.string ⟨#[]⟩, .bool false, .int .i64 0, .int .i64 0, .slice none 0 0] 31)
              have H6 := Lib.hid ((H5.out.step h6 hd6).below hb6)
              clear h6 hd6 hb6
              go_wp2_with fail
              go_roundg (gk - 1)
              case measure => have := HK.out; have := HJ.out; omega
              case rel => have := HK.out; have := HJ.out; exact ⟨j + 1, v, by omega, HV.out, rfl, by first | go_num | (congr 1; rw [IntWalk.wrap64_in _ (by omega)]; omega), H6.out⟩
            · rw [hq] at hdo
              have HDO := Lib.hid hdo
              have HF0 := Lib.hid hf0
              clear hdo hq hk3 htx hf0
              go_wp2_with fail
              refine HDO.out.mono ?_
              rintro e w6 ⟨rfl, h6, hd6⟩
              have hb6 := (Below.refl w6.heap.size w6).alloc (Nat.le_refl _) (.cells #[.string ⟨#[]⟩, .bool false, .int .i64 0, .int .i64 0, .slice none 0 0] 31)
              have H6 := Lib.hid ((H5.out.step h6 hd6).below hb6)
              clear h6 hd6 hb6
              go_wp2_with fail
              clear c0 c1 c2 c3 c4 c5
              go_loopg [8] (f.ls.length + 1) (fun k t wi => OiR w1 (w1.heap.size + 1) LA ls v k t wi)
              case atStart => exact .inl ⟨f, rfl, by have := HF0.out; omega, by have := HF0.out; omega, H6.out⟩
              case round =>
                rename World => wr2
                rcases hrel with ⟨f, rfl, hk2, hfl, ho2⟩ | ⟨rfl, ho2⟩
                · by_cases hm : f.tk < f.ls.length
                  · have hn := nx_any HSB.out ho2
                    rw [next_over _ f hm] at hn
                    have HN := Lib.hid hn
                    have HM := Lib.hid hm
                    have HK2 := Lib.hid hk2
                    have HFL := Lib.hid hfl
                    have hde : Calls Tryd.prog 17 #[BP (w1.heap.size + 1)] wr2 fun e w' => e = .returned (.int .i64 2) ∧ wr2 = w' := dep_any ho2
                    have HDE := Lib.hid hde
                    generalize hlx : f.ls[f.tk] = lx at hn HN
                    clear hk2 ho2 hn hm hde hlx hfl
                    go_wp2_with fail
                    refine HDE.out.mono ?_
                    rintro e w10 ⟨rfl, rfl⟩
                    go_wp2_with fail
                    refine HDE.out.mono ?_
                    rintro e w10 ⟨rfl, rfl⟩
                    go_wp2_with fail
                    refine HN.out.mono ?_
                    rintro e w11 ⟨⟨tx9, md, up, dn, bo, bn, bc⟩, rfl, hr, h11⟩
                    have hb11 := (Below.refl w11.heap.size w11).alloc (Nat.le_refl _) (.cells #[.string tx9, .bool md, .int .i64 up, .int .i64 dn, .slice bo bn bc] 31)
                    have h12 := h11.below hb11
                    have H12 := Lib.hid h12
                    have hde : Calls Tryd.prog 17 #[BP (w1.heap.size + 1)] (w11.alloc (.cells #[.string tx9, .bool md, .int .i64 up, .int .i64 dn, .slice bo bn bc] 31)) fun e w' => e = .returned (.int .i64 2) ∧ (w11.alloc (.cells #[.string tx9, .bool md, .int .i64 up, .int .i64 dn, .slice bo bn bc] 31)) = w' := dep_any h12
                    have HDE2 := Lib.hid hde
                    clear hr h11 hb11 h12 hde
                    go_wp2_with fail
                    refine HDE2.out.mono ?_
                    rintro e w12 ⟨rfl, rfl⟩
                    go_wp2_with fail
                    go_roundg (gk - 1)
                    case measure => have := HK2.out; have := HM.out; omega
                    case rel => have := HK2.out; have := HM.out; exact .inl ⟨bump f, rfl, by show gk - 1 + (f.tk + 1) = f.ls.length + 1; omega, by show f.tk + 1 ≤ f.ls.length; omega, H12.out⟩

                  · have hn := nx_any HSB.out ho2
                    obtain ⟨z, hz⟩ : ∃ z, ls[v]? = some z := ⟨_, List.getElem?_eq_getElem HVL.out⟩
                    rw [next_under' ls v f z hz hm] at hn
                    have HN := Lib.hid hn
                    have HK2 := Lib.hid hk2
                    have HFL := Lib.hid hfl
                    have hde : Calls Tryd.prog 17 #[BP (w1.heap.size + 1)] wr2 fun e w' => e = .returned (.int .i64 2) ∧ wr2 = w' := dep_any ho2
                    have HDE := Lib.hid hde
                    have HZ := Lib.hid hz
                    have hvl := HVL.out
                    have hv0 : (0 : Int) ≤ (v : Int) := by omega
                    have hv1 : (v : Int) < (ls.length : Int) := by omega
                    clear hk2 ho2 hn hm hde hfl hz
                    go_wp2_with fail
                    refine HDE.out.mono ?_
                    rintro e w10 ⟨rfl, rfl⟩
                    go_wp2_with fail
                    refine HDE.out.mono ?_
                    rintro e w10 ⟨rfl, rfl⟩
                    go_wp2_with fail
                    refine HN.out.mono ?_
                    rintro e w11 ⟨⟨tx9, md, up, dn, bo, bn, bc⟩, rfl, hr, h11⟩
                    obtain rfl : tx9 = z := hr
                    have hb11 := (Below.refl w11.heap.size w11).alloc (Nat.le_refl _) (.cells #[.string tx9, .bool md, .int .i64 up, .int .i64 dn, .slice bo bn bc] 31)
                    have hx11 := heap_alloc_new w11 (.cells #[.string tx9, .bool md, .int .i64 up, .int .i64 dn, .slice bo bn bc] 31)
                    obtain ⟨⟨x0, _⟩, _⟩ := fresh_ln hx11
                    have h12 := h11.below hb11
                    have H12 := Lib.hid h12
                    obtain ⟨b8, off8, rfl, hc8⟩ := h12.cell v tx9 HZ.out
                    have hde : Calls Tryd.prog 17 #[BP (w1.heap.size + 1)] (w11.alloc (.cells #[.string tx9, .bool md, .int .i64 up, .int .i64 dn, .slice bo bn bc] 31)) fun e w' => e = .returned (.int .i64 1) ∧ (w11.alloc (.cells #[.string tx9, .bool md, .int .i64 up, .int .i64 dn, .slice bo bn bc] 31)) = w' := dep_any h12
                    have HDE2 := Lib.hid hde
                    clear h11 hb11 hx11 h12 hde hvl
                    go_wp2_with fail
                    refine HDE2.out.mono ?_
                    rintro e w12 ⟨rfl, rfl⟩
                    go_wp2_with fail
                    go_quiet (fail)
                    go_wp2_with fail
                    go_roundg 0
                    case measure => have := HK2.out; have := HFL.out; omega
                    case rel => exact .inr ⟨by first | go_num | (congr 1; rw [IntWalk.wrap64_in _ (by omega)]; omega), H12.out.below ⟨rfl, rfl, rfl, Nat.le_refl _, fun _ _ => rfl⟩⟩

                · have hde : Calls Tryd.prog 17 #[BP (w1.heap.size + 1)] wr2 fun e w' => e = .returned (.int .i64 1) ∧ wr2 = w' := dep_any ho2
                  have HDE := Lib.hid hde
                  have HO2 := Lib.hid ho2
                  clear hde ho2
                  go_wp2_with fail
                  refine HDE.out.mono ?_
                  rintro e w10 ⟨rfl, rfl⟩
                  go_wp2_with fail
                  go_roundg (n - (j + 1))
                  case measure => have := HK.out; have := HJ.out; omega
                  case rel => have := HK.out; have := HJ.out; have := HVL.out; exact ⟨j + 1, v + 1, by omega, by omega, rfl, by first | go_num | (congr 1; rw [IntWalk.wrap64_in _ (by omega)]; omega), HO2.out⟩

        · clear hk hv ho
          go_wp2_with fail
          go_loopg [8] (ls.length - v) (fun k t wx => OeR w1 (w1.heap.size + 1) LA ls k t wx)
          case atStart => exact ⟨v, by have := HV.out; omega, rfl, HO.out⟩
          case round =>
            obtain ⟨u, hk3, rfl, ho3⟩ := hrel
            have HK3 := Lib.hid hk3
            have HO3 := Lib.hid ho3
            by_cases hu : u < ls.length
            · have du : decide (u < ls.length) = true := decide_eq_true hu
              obtain ⟨z, hz⟩ : ∃ z, ls[u]? = some z := ⟨_, List.getElem?_eq_getElem hu⟩
              have hn := nx_any HSB.out ho3
              rw [next_one' ls u z hz] at hn
              have HN := Lib.hid hn
              have HU := Lib.hid hu
              have hu0 : (0 : Int) ≤ (u : Int) := by omega
              have hu1 : (u : Int) < (ls.length : Int) := by omega
              have HZ := Lib.hid hz
              clear hk3 ho3 hn hu hz
              go_wp2_with fail
              refine HN.out.mono ?_
              rintro e w7 ⟨⟨tx, md, up, dn, bo, bn, bc⟩, rfl, hr, h7⟩
              obtain rfl : tx = z := hr
              have hb7 := (Below.refl w7.heap.size w7).alloc (Nat.le_refl _) (.cells #[.string tx, .bool md, .int .i64 up, .int .i64 dn, .slice bo bn bc] 31)
              have hx7 := heap_alloc_new w7 (.cells #[.string tx, .bool md, .int .i64 up, .int .i64 dn, .slice bo bn bc] 31)
              obtain ⟨⟨x0, _⟩, _⟩ := fresh_ln hx7
              have h8 := h7.below hb7
              have H8 := Lib.hid h8
              obtain ⟨b, off, rfl, hc8⟩ := h8.cell u tx HZ.out
              clear h7 hb7 hx7 h8
              go_wp2_with fail
              go_quiet (fail)
              go_wp2_with fail
              go_roundg (gk - 1)
              case measure => have := HK3.out; have := HU.out; omega
              case rel => have := HK3.out; have := HU.out; exact ⟨u + 1, by omega, by go_num, H8.out.below ⟨rfl, rfl, rfl, Nat.le_refl _, fun _ _ => rfl⟩⟩
            · have du : decide (u < ls.length) = false := decide_eq_false hu
              have hn := nx_any HSB.out ho3
              rw [next_end ls u hu] at hn
              have HN := Lib.hid hn
              clear hk3 ho3 hn hu
              go_wp2_with fail
              refine HN.out.mono ?_
              rintro e w7 ⟨⟨tx, md, up, dn, bo, bn, bc⟩, rfl, hr, h7⟩
              have hb7 := (Below.refl w7.heap.size w7).alloc (Nat.le_refl _) (.cells #[.string tx, .bool md, .int .i64 up, .int .i64 dn, .slice bo bn bc] 31)
              have H8 := Lib.hid (h7.below hb7)
              clear hr h7 hb7
              go_wp2_with fail
              refine (sane_any _).mono ?_
              rintro e w9 ⟨rfl, hb9⟩
              have HB9 := Lib.hid (H8.out.at'.to.trans (hb9.mono H8.out.at'.lt))
              clear hb9
              go_wp2_with fail
              go_ret
              exact ⟨rfl, HB1.out.trans (HB9.out.mono HB1.out.size)⟩
        · clear hk hv ho
          go_wp2_with fail
          go_loopg [8] (ls.length - v) (fun k t wx => OeR w1 (w1.heap.size + 1) LA ls k t wx)
          case atStart => exact ⟨v, by have := HV.out; omega, rfl, HO.out⟩
          case round =>
            obtain ⟨u, hk3, rfl, ho3⟩ := hrel
            have HK3 := Lib.hid hk3
            have HO3 := Lib.hid ho3
            by_cases hu : u < ls.length
            · have du : decide (u < ls.length) = true := decide_eq_true hu
              obtain ⟨z, hz⟩ : ∃ z, ls[u]? = some z := ⟨_, List.getElem?_eq_getElem hu⟩
              have hn := nx_any HSB.out ho3
              rw [next_one' ls u z hz] at hn
              have HN := Lib.hid hn
              have HU := Lib.hid hu
              have hu0 : (0 : Int) ≤ (u : Int) := by omega
              have hu1 : (u : Int) < (ls.length : Int) := by omega
              have HZ := Lib.hid hz
              clear hk3 ho3 hn hu hz
              go_wp2_with fail
              refine HN.out.mono ?_
              rintro e w7 ⟨⟨tx, md, up, dn, bo, bn, bc⟩, rfl, hr, h7⟩
              obtain rfl : tx = z := hr
              have hb7 := (Below.refl w7.heap.size w7).alloc (Nat.le_refl _) (.cells #[.string tx, .bool md, .int .i64 up, .int .i64 dn, .slice bo bn bc] 31)
              have hx7 := heap_alloc_new w7 (.cells #[.string tx, .bool md, .int .i64 up, .int .i64 dn, .slice bo bn bc] 31)
              obtain ⟨⟨x0, _⟩, _⟩ := fresh_ln hx7
              have h8 := h7.below hb7
              have H8 := Lib.hid h8
              obtain ⟨b, off, rfl, hc8⟩ := h8.cell u tx HZ.out
              clear h7 hb7 hx7 h8
              go_wp2_with fail
              go_quiet (fail)
              go_wp2_with fail
              go_roundg (gk - 1)
              case measure => have := HK3.out; have := HU.out; omega
              case rel => have := HK3.out; have := HU.out; exact ⟨u + 1, by omega, by go_num, H8.out.below ⟨rfl, rfl, rfl, Nat.le_refl _, fun _ _ => rfl⟩⟩
            · have du : decide (u < ls.length) = false := decide_eq_false hu
              have hn := nx_any HSB.out ho3
              rw [next_end ls u hu] at hn
              have HN := Lib.hid hn
              clear hk3 ho3 hn hu
              go_wp2_with fail
              refine HN.out.mono ?_
              rintro e w7 ⟨⟨tx, md, up, dn, bo, bn, bc⟩, rfl, hr, h7⟩
              have hb7 := (Below.refl w7.heap.size w7).alloc (Nat.le_refl _) (.cells #[.string tx, .bool md, .int .i64 up, .int .i64 dn, .slice bo bn bc] 31)
              have H8 := Lib.hid (h7.below hb7)
              clear hr h7 hb7
              go_wp2_with fail
              refine (sane_any _).mono ?_
              rintro e w9 ⟨rfl, hb9⟩
              have HB9 := Lib.hid (H8.out.at'.to.trans (hb9.mono H8.out.at'.lt))
              clear hb9
              go_wp2_with fail
              go_ret
              exact ⟨rfl, HB1.out.trans (HB9.out.mono HB1.out.size)⟩
end Go.Proofs.YtfmlokkkhfnglaaDoor
