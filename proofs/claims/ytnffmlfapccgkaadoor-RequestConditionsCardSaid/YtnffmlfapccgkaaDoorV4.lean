/- The document's Split. -/
import Derived.Test.YtnffmlfapccgkaaDoorV3
namespace Go.Proofs.YtnffmlfapccgkaaDoor
open Go.RowKit Go.Shelf
set_option maxRecDepth 100000
set_option linter.unusedSimpArgs false
set_option linter.unusedVariables false
theorem rsplit_bad (l : List UInt8) (hl : l.length ≤ 100000) (a b : UInt8) (h : csS l a b = false) (w : World) : Calls Tryd.prog 22 #[.string (bs l), .int .u8 (a.toNat : Int), .int .u8 (b.toNat : Int)] w (fun e w' => e = .returned (.tuple #[noReq, .bool false, .int .i64 1]) ∧ Below w.heap.size w w') := by
  have HV := Lib.hid (fun W => rIsLine_any (bs l) (by rw [bs_size]; unfold maxLen; omega) W)
  rw [bs_list] at HV
  have HA := Lib.hid (fun W => rIsControl_any a W)
  have HB := Lib.hid (fun W => rIsControl_any b W)
  have hne := eq_u8 a b
  have HE := Lib.hid (fresh4 w (.string ⟨#[]⟩) (.slice none 0 0) (.string ⟨#[]⟩) (.bool false) 48)
  have HBE := Lib.hid (bel0 w (.cells #[.string ⟨#[]⟩, .slice none 0 0, .string ⟨#[]⟩, .bool false] 48))
  unfold csS at h
  obtain ⟨v, hv⟩ : ∃ v, v = okTx l := ⟨_, rfl⟩
  obtain ⟨ca, hca⟩ : ∃ v, v = cc a := ⟨_, rfl⟩
  obtain ⟨cb, hcb⟩ : ∃ v, v = cc b := ⟨_, rfl⟩
  obtain ⟨ka, hka⟩ : ∃ v, v = a.toNat := ⟨_, rfl⟩
  obtain ⟨kb, hkb⟩ : ∃ v, v = b.toNat := ⟨_, rfl⟩
  obtain ⟨x, hx⟩ : ∃ x, x = (a == b) := ⟨_, rfl⟩
  rw [← hv, ← hca, ← hcb, ← hx] at h
  rw [← hv] at HV
  rw [← hca] at HA
  rw [← hcb] at HB
  rw [← hka] at HA hne ⊢
  rw [← hkb] at HB hne ⊢
  rw [← hx] at hne
  clear hv hca hcb hka hkb hx
  cases v
  · clear h
    go_enter Tryd.func22, Tryd.ntmps22
    go_wp2_with fail
    refine (HV.out _).mono ?_
    rintro e w1 ⟨rfl, hw⟩
    rw [← hw]
    clear hw
    go_wp2_with fail
    exact rreq_end (t := 6) (u := 7) (v := 8) (g := w.heap.size) rfl rfl rfl rfl rfl HE.out.1 HE.out.2.1 HE.out.2.2.1 HE.out.2.2.2 ⟨rfl, HBE.out⟩
  cases ca
  · clear h
    go_enter Tryd.func22, Tryd.ntmps22
    go_wp2_with fail
    refine (HV.out _).mono ?_
    rintro e w1 ⟨rfl, hw⟩
    rw [← hw]
    clear hw
    go_wp2_with fail
    refine (HA.out _).mono ?_
    rintro e w1 ⟨rfl, hw⟩
    rw [← hw]
    clear hw
    go_wp2_with fail
    exact rreq_end (t := 6) (u := 7) (v := 8) (g := w.heap.size) rfl rfl rfl rfl rfl HE.out.1 HE.out.2.1 HE.out.2.2.1 HE.out.2.2.2 ⟨rfl, HBE.out⟩
  cases cb
  · clear h
    go_enter Tryd.func22, Tryd.ntmps22
    go_wp2_with fail
    refine (HV.out _).mono ?_
    rintro e w1 ⟨rfl, hw⟩
    rw [← hw]
    clear hw
    go_wp2_with fail
    refine (HA.out _).mono ?_
    rintro e w1 ⟨rfl, hw⟩
    rw [← hw]
    clear hw
    go_wp2_with fail
    refine (HB.out _).mono ?_
    rintro e w1 ⟨rfl, hw⟩
    rw [← hw]
    clear hw
    go_wp2_with fail
    exact rreq_end (t := 6) (u := 7) (v := 8) (g := w.heap.size) rfl rfl rfl rfl rfl HE.out.1 HE.out.2.1 HE.out.2.2.1 HE.out.2.2.2 ⟨rfl, HBE.out⟩
  cases x
  · cases h
  · clear h
    go_enter Tryd.func22, Tryd.ntmps22
    go_wp2_with fail
    refine (HV.out _).mono ?_
    rintro e w1 ⟨rfl, hw⟩
    rw [← hw]
    clear hw
    go_wp2_with fail
    refine (HA.out _).mono ?_
    rintro e w1 ⟨rfl, hw⟩
    rw [← hw]
    clear hw
    go_wp2_with fail
    refine (HB.out _).mono ?_
    rintro e w1 ⟨rfl, hw⟩
    rw [← hw]
    clear hw
    go_wp2_with fail
    exact rreq_end (t := 6) (u := 7) (v := 8) (g := w.heap.size) rfl rfl rfl rfl rfl HE.out.1 HE.out.2.1 HE.out.2.2.1 HE.out.2.2.2 ⟨rfl, HBE.out⟩
theorem cs_parts {l : List UInt8} {a b : UInt8} (h : csS l a b = true) : okTx l = true ∧ cc a = true ∧ cc b = true ∧ (a == b) = false := by
  unfold csS at h
  simp only [Bool.and_eq_true, Bool.not_eq_true'] at h
  exact ⟨h.1.1.1, h.1.1.2, h.1.2, h.2⟩
set_option maxHeartbeats 4000000 in
theorem rsplit_no (l : List UInt8) (hl : l.length ≤ 100000) (a b : UInt8) (h : csS l a b = true) (hn : isC l a b = false) (w : World) : Calls Tryd.prog 22 #[.string (bs l), .int .u8 (a.toNat : Int), .int .u8 (b.toNat : Int)] w (fun e w' => e = .returned (.tuple #[noReq, .bool false, .int .i64 0]) ∧ Below w.heap.size w w') := by
  obtain ⟨p1, p2, p3, p4⟩ := cs_parts h
  have HV := Lib.hid (fun W => rIsLine_any (bs l) (by rw [bs_size]; unfold maxLen; omega) W)
  have HA := Lib.hid (fun W => rIsControl_any a W)
  have HB := Lib.hid (fun W => rIsControl_any b W)
  rw [bs_list, p1] at HV
  rw [p2] at HA
  rw [p3] at HB
  have hne : ((a.toNat : Int) == (b.toNat : Int)) = false := by rw [eq_u8, p4]
  have HE := Lib.hid (fresh4 w (.string ⟨#[]⟩) (.slice none 0 0) (.string ⟨#[]⟩) (.bool false) 48)
  have HBE := Lib.hid (bel0 w (.cells #[.string ⟨#[]⟩, .slice none 0 0, .string ⟨#[]⟩, .bool false] 48))
  clear h p1 p2 p3 p4
  cases l with
  | nil =>
    have hne1 : ((bs ([] : List UInt8)).toList).isEmpty = true := by rw [Lib.toList_data, bs_list]; rfl
    have hne2 : (bs ([] : List UInt8)).toList = [] := by rw [Lib.toList_data, bs_list]
    obtain ⟨S, hS⟩ : ∃ S, S = bs ([] : List UInt8) := ⟨_, rfl⟩
    rw [← hS] at hne1 hne2 HV ⊢
    clear hn hS
    go_enter Tryd.func22, Tryd.ntmps22
    go_wp2_with fail
    refine (HV.out _).mono ?_
    rintro e w1 ⟨rfl, hw⟩
    rw [← hw]
    clear hw
    go_wp2_with fail
    refine (HA.out _).mono ?_
    rintro e w1 ⟨rfl, hw⟩
    rw [← hw]
    clear hw
    go_wp2_with fail
    refine (HB.out _).mono ?_
    rintro e w1 ⟨rfl, hw⟩
    rw [← hw]
    clear hw
    go_wp2_with fail
    exact rreq_end (t := 6) (u := 7) (v := 8) (g := w.heap.size) rfl rfl rfl rfl rfl HE.out.1 HE.out.2.1 HE.out.2.2.1 HE.out.2.2.2 ⟨rfl, HBE.out⟩
  | cons c t =>
    have hn' : (c == a || c == b) = false := hn
    rw [Bool.or_eq_false_iff] at hn'
    obtain ⟨S, hS⟩ : ∃ S, S = bs (c :: t) := ⟨_, rfl⟩
    obtain ⟨h0s, hat, hne1, hne2⟩ := head_facts S c t hS
    have h1 := u8_ne hn'.1
    have h2 := u8_ne hn'.2
    rw [← hat] at h1 h2
    rw [← hS] at HV ⊢
    clear hn hn' hS hat
    go_enter Tryd.func22, Tryd.ntmps22
    go_wp2_with fail
    refine (HV.out _).mono ?_
    rintro e w1 ⟨rfl, hw⟩
    rw [← hw]
    clear hw
    go_wp2_with fail
    refine (HA.out _).mono ?_
    rintro e w1 ⟨rfl, hw⟩
    rw [← hw]
    clear hw
    go_wp2_with fail
    refine (HB.out _).mono ?_
    rintro e w1 ⟨rfl, hw⟩
    rw [← hw]
    clear hw
    go_wp2_with fail
    exact rreq_end (t := 6) (u := 7) (v := 8) (g := w.heap.size) rfl rfl rfl rfl rfl HE.out.1 HE.out.2.1 HE.out.2.2.1 HE.out.2.2.2 ⟨rfl, HBE.out⟩
theorem two_new (w : World) (C0 C1 : Obj) : ((w.alloc C0).alloc C1).heap[w.heap.size]? = some C0 ∧ ((w.alloc C0).alloc C1).heap[w.heap.size + 1]? = some C1 ∧ ((w.alloc C0).alloc C1).heap.size = w.heap.size + 2 := by
  have h1 := heap_alloc_new w C0
  have h2 := heap_alloc_new (w.alloc C0) C1
  have hz : (w.alloc C0).heap.size = w.heap.size + 1 := by simp
  rw [hz] at h2
  refine ⟨?_, h2, by simp⟩
  have := (bel0 (w.alloc C0) C1).block w.heap.size (by rw [hz]; omega)
  exact this.trans h1
theorem set_at {w : World} {g k : Nat} {cs : Array Value} {t : TypeId} {fz : Nat × Nat} (x : Value) (h : w.heap[g]? = some (.cells cs t fz)) : (w.setCell ⟨g, k, none⟩ x).heap[g]? = some (.cells (cs.setIfInBounds k x) t fz) := by
  simp [World.setCell, Array.getElem?_modify, h]
theorem set_size (w : World) (p : Addr) (x : Value) : (w.setCell p x).heap.size = w.heap.size := by simp [World.setCell]
theorem set_bel {B : Nat} {u w : World} {g k : Nat} (h : Below B u w) (hg : B ≤ g) (x : Value) : Below B u (w.setCell ⟨g, k, none⟩ x) :=
  h.trans ⟨rfl, rfl, rfl, by rw [set_size]; exact Nat.le_refl _, fun i hi => Below.heap_setCell _ _ _ _ (by first | (intro e; dsimp only at e; omega))⟩
theorem StrsAt.set {w : World} {A : Option Addr} {n : Nat} {ss : List ByteArray} {g k : Nat} (h : StrsAt w A n ss) (hA : ∀ q, A = some q → q.block ≠ g) (x : Value) : StrsAt (w.setCell ⟨g, k, none⟩ x) A n ss := by
  refine ⟨h.1, fun hn => ?_⟩
  obtain ⟨b, off, rfl, hb, hc⟩ := h.2 hn
  have hne : b ≠ g := hA _ rfl
  refine ⟨b, off, rfl, by rw [set_size]; exact hb, fun j hj => ?_⟩
  have := hc j hj
  simp only [World.cell?, Below.heap_setCell w (⟨g, k, none⟩ : Addr) x b (by first | exact hne | exact Ne.symm hne)] at this ⊢
  exact this
set_option maxHeartbeats 4000000 in
theorem rsplit_yes (c : UInt8) (t : List UInt8) (a b : UInt8) (hl : (c :: t).length ≤ 100000) (h : csS (c :: t) a b = true) (hn : isC (c :: t) a b = true) (w : World) : Calls Tryd.prog 22 #[.string (bs (c :: t)), .int .u8 (a.toNat : Int), .int .u8 (b.toNat : Int)] w (SpL (c :: t) b w) := by
  obtain ⟨p1, p2, p3, p4⟩ := cs_parts h
  have HV := Lib.hid (fun W => rIsLine_any (bs (c :: t)) (by rw [bs_size]; unfold maxLen; omega) W)
  have HA := Lib.hid (fun W => rIsControl_any a W)
  have HB := Lib.hid (fun W => rIsControl_any b W)
  rw [bs_list, p1] at HV
  rw [p2] at HA
  rw [p3] at HB
  have hne : ((a.toNat : Int) == (b.toNat : Int)) = false := by rw [eq_u8, p4]
  have hn' : (c == a || c == b) = true := hn
  obtain ⟨S, hS⟩ : ∃ S, S = bs (c :: t) := ⟨_, rfl⟩
  obtain ⟨h0s, hat, hne1, hne2⟩ := head_facts S c t hS
  have h1s : 1 ≤ S.size := h0s
  have hqb : ((S[0].toNat : Int) == (b.toNat : Int)) = (c == b) := by rw [hat]; exact eq_u8 c b
  have hcase : ((S[0].toNat : Int) != (a.toNat : Int)) = false ∨ (((S[0].toNat : Int) != (a.toNat : Int)) = true ∧ ((S[0].toNat : Int) != (b.toNat : Int)) = false) := by
    rw [hat, ne_u8, ne_u8]
    cases h1 : c == a with
    | true => left; rfl
    | false => rw [h1, Bool.false_or] at hn'; right; rw [hn']; exact ⟨rfl, rfl⟩
  obtain ⟨l, hll⟩ : ∃ l, l = c :: t := ⟨_, rfl⟩
  have hSz : S.size = l.length := by rw [hS, bs_size, hll]
  have HSK := Lib.hid (fun W => rskip_any l 1 (by rw [hll]; simp) (by rw [hll]; omega) W)
  have HWO := Lib.hid (fun (f : Nat) (hf : f ≤ l.length) W => rword_any l f hf (by rw [hll]; omega) W)
  have HSEG := Lib.hid (fun (x y : Nat) (hy : y ≤ l.length) => bs_seg l x y hy)
  have HDR := Lib.hid (fun (x : Nat) (hx : x ≤ l.length) => (show S.extract x S.size = bs (l.drop x) by rw [hS, ← hll, bs_seg l x _ (by rw [bs_size]; exact Nat.le_refl _), bs_size]; unfold seg; rw [List.take_of_length_le (Nat.le_refl _)]))
  have HL := Lib.hid (show l.length ≤ 100000 by rw [hll]; exact hl)
  have HSZ := Lib.hid hSz
  have hS9 : S.size ≤ 100000 := by rw [hSz, hll]; exact hl
  have HNR : Hid (∀ f g, l.drop f = skB (l.drop 1) → cutB (l.drop f) = (seg l f g, l.drop (g + 1)) → nmS l = seg l f g ∧ rsS l = l.drop (g + 1)) := Lib.hid fun f g h1 h2 => by unfold nmS rsS; rw [← h1, h2]; exact ⟨rfl, rfl⟩
  have HRW := Lib.hid (fun (x : List UInt8) (hx : x.length ≤ 100000) W => rwords_any x hx W)
  have HHD : Hid (((c :: t).head? == some b) = (c == b)) := Lib.hid (by simp)
  obtain ⟨q, hq⟩ : ∃ x, x = (c == b) := ⟨_, rfl⟩
  unfold SpL
  rw [HHD.out, ← hq]
  rw [← hq] at hqb
  rw [← hll] at hS HV ⊢
  rw [← hS] at HV HSK HWO HSEG ⊢
  have HE := Lib.hid (show w.heap.size < (w.alloc (.cells #[.string ⟨#[]⟩, .slice none 0 0, .string ⟨#[]⟩, .bool false] 48)).heap.size by simp)
  have HBE := Lib.hid (bel0 w (.cells #[.string ⟨#[]⟩, .slice none 0 0, .string ⟨#[]⟩, .bool false] 48))
  have HBK := Lib.hid (heap_alloc_new w (.cells #[.string ⟨#[]⟩, .slice none 0 0, .string ⟨#[]⟩, .bool false] 48))
  clear hn hn' hS hat hq h HHD p1 p2 p3 p4 hl hll hSz
  rcases hcase with h1 | ⟨h1, h2⟩
  · go_enter Tryd.func22, Tryd.ntmps22
    go_wp2_with fail
    refine (HV.out _).mono ?_
    rintro e w1 ⟨rfl, hw⟩
    rw [← hw]
    clear hw
    go_wp2_with fail
    refine (HA.out _).mono ?_
    rintro e w1 ⟨rfl, hw⟩
    rw [← hw]
    clear hw
    go_wp2_with fail
    refine (HB.out _).mono ?_
    rintro e w1 ⟨rfl, hw⟩
    rw [← hw]
    clear hw
    go_wp2_with fail
    refine (HSK.out _).mono ?_
    rintro e w1 ⟨f, rfl, hf1, hf2, hf3, hw⟩
    rw [← hw]
    clear hw
    have HWF := Lib.hid (fun W => HWO.out f hf2 W)
    have HF := Lib.hid hf3
    clear hf2 hf3
    go_wp2_with fail
    refine (HWF.out _).mono ?_
    rintro e w1 ⟨g, rfl, hg1, hg2, hg3, hw⟩
    rw [← hw]
    clear hw
    have HX := Lib.hid (HSEG.out f g hg2)
    obtain ⟨hnm, hrs⟩ := HNR.out f g HF.out hg3
    have hgs : g ≤ S.size := by rw [HSZ.out]; exact hg2
    have HG := Lib.hid hg2
    have hrl : (l.drop (g + 1)).length ≤ 100000 := by rw [List.length_drop]; have := HL.out; omega
    have HWD := Lib.hid (fun W => HRW.out (l.drop (g + 1)) hrl W)
    have HNM := Lib.hid hnm
    have HRS := Lib.hid hrs
    clear hg2 hg3 hnm hrs hrl
    by_cases hglt : g < S.size
    · have d9 : decide (g < S.size) = true := decide_eq_true hglt
      have hg1s : g + 1 ≤ S.size := hglt
      have HD := Lib.hid (show S.extract (g + 1) S.size = bs (l.drop (g + 1)) from HDR.out (g + 1) (by rw [← HSZ.out]; exact hglt))
      obtain ⟨T2, T1, TZ⟩ := two_new w (.cells #[.string ⟨#[]⟩, .slice none 0 0, .string ⟨#[]⟩, .bool false] 48) (.cells #[.string (S.extract f g), .slice none 0 0, .string (bs (l.drop (g + 1))), .bool q] 48)
      have HBW := Lib.hid ((bel0 w (.cells #[.string ⟨#[]⟩, .slice none 0 0, .string ⟨#[]⟩, .bool false] 48)).trans ((bel0 (w.alloc (.cells #[.string ⟨#[]⟩, .slice none 0 0, .string ⟨#[]⟩, .bool false] 48)) (.cells #[.string (S.extract f g), .slice none 0 0, .string (bs (l.drop (g + 1))), .bool q] 48)).mono (by simp)))
      have H2 := Lib.hid T2
      have H1 := Lib.hid T1
      have HZ := Lib.hid TZ
      clear T2 T1 TZ
      go_wp2_with fail
      go_region
      go_wp2_with fail
      rw [HD.out]
      refine (HWD.out _).mono ?_
      rintro e w4 ⟨A, cp, rfl, hs, hc9, hle, hb4, hnew⟩
      have hzz : w.heap.size + 2 ≤ w4.heap.size := by rw [← HZ.out]; exact hb4.size
      have he1 := (hb4.block (w.heap.size + 1) (by show _ < ((w.alloc _).alloc _).heap.size; rw [HZ.out]; omega)).trans H1.out
      have he0 := (hb4.block w.heap.size (by show _ < ((w.alloc _).alloc _).heap.size; rw [HZ.out]; omega)).trans H2.out
      have HNW : Hid (∀ z, A = some z → w.heap.size + 2 ≤ z.block) := Lib.hid fun z hz => by rw [← HZ.out]; exact hnew z hz
      have HB4 : Hid (Below w.heap.size w w4) := Lib.hid (HBW.out.trans (Below.mono ⟨hb4.os, hb4.tape, hb4.output, hb4.size, hb4.block⟩ HBW.out.size))
      obtain ⟨⟨k0, k1, k2, k3⟩, ⟨f0, f1, f2, f3⟩⟩ := blk4 he1
      obtain ⟨⟨m0, m1, m2, m3⟩, ⟨n0, n1, n2, n3⟩⟩ := blk4 he0
      have HS := Lib.hid hs
      have HC := Lib.hid (And.intro hc9 hle)
      have HE0' := Lib.hid he0
      clear hs hc9 hle hb4 hnew he0 he1
      go_wp2_with fail
      have hP := put4_at (c0 := .string (S.extract f g)) (c1 := .slice A (wds (l.drop (g + 1))).length cp) (c2 := .string (bs (l.drop (g + 1)))) (c3 := .bool q) (w := w4.setCell ⟨w.heap.size + 1, 1, none⟩ (.slice A (wds (l.drop (g + 1))).length cp)) (g := w.heap.size) ((Below.heap_setCell _ _ _ _ (by first | (intro e; dsimp only at e; omega))).trans HE0'.out)
      refine rreq_end (t := 6) (u := 7) (v := 8) (g := w.heap.size) rfl rfl rfl rfl rfl (blk4 hP).1.1 (blk4 hP).1.2.1 (blk4 hP).1.2.2.1 (blk4 hP).1.2.2.2 ?_
      rw [HNM.out, HRS.out]
      refine ⟨A, cp, by rw [HX.out]; rfl, (HS.out.set (fun z hz => by have := HNW.out z hz; omega) _).put4 (fun z hz => by have := HNW.out z hz; omega), HC.out.1, HC.out.2, put4_bel (set_bel HB4.out (by omega) _) (Nat.le_refl _)⟩
    · have d9 : decide (g < S.size) = false := decide_eq_false hglt
      have HE0 : Hid (bs (l.drop (g + 1)) = ⟨#[]⟩) := Lib.hid (by rw [List.drop_eq_nil_of_le (by rw [← HSZ.out]; omega)]; rfl)
      rw [HE0.out] at HWD
      obtain ⟨T2, T1, TZ⟩ := two_new w (.cells #[.string ⟨#[]⟩, .slice none 0 0, .string ⟨#[]⟩, .bool false] 48) (.cells #[.string (S.extract f g), .slice none 0 0, .string (⟨#[]⟩), .bool q] 48)
      have HBW := Lib.hid ((bel0 w (.cells #[.string ⟨#[]⟩, .slice none 0 0, .string ⟨#[]⟩, .bool false] 48)).trans ((bel0 (w.alloc (.cells #[.string ⟨#[]⟩, .slice none 0 0, .string ⟨#[]⟩, .bool false] 48)) (.cells #[.string (S.extract f g), .slice none 0 0, .string (⟨#[]⟩), .bool q] 48)).mono (by simp)))
      have H2 := Lib.hid T2
      have H1 := Lib.hid T1
      have HZ := Lib.hid TZ
      clear T2 T1 TZ
      go_wp2_with fail
      go_region
      go_wp2_with fail
      refine (HWD.out _).mono ?_
      rintro e w4 ⟨A, cp, rfl, hs, hc9, hle, hb4, hnew⟩
      have hzz : w.heap.size + 2 ≤ w4.heap.size := by rw [← HZ.out]; exact hb4.size
      have he1 := (hb4.block (w.heap.size + 1) (by show _ < ((w.alloc _).alloc _).heap.size; rw [HZ.out]; omega)).trans H1.out
      have he0 := (hb4.block w.heap.size (by show _ < ((w.alloc _).alloc _).heap.size; rw [HZ.out]; omega)).trans H2.out
      have HNW : Hid (∀ z, A = some z → w.heap.size + 2 ≤ z.block) := Lib.hid fun z hz => by rw [← HZ.out]; exact hnew z hz
      have HB4 : Hid (Below w.heap.size w w4) := Lib.hid (HBW.out.trans (Below.mono ⟨hb4.os, hb4.tape, hb4.output, hb4.size, hb4.block⟩ HBW.out.size))
      obtain ⟨⟨k0, k1, k2, k3⟩, ⟨f0, f1, f2, f3⟩⟩ := blk4 he1
      obtain ⟨⟨m0, m1, m2, m3⟩, ⟨n0, n1, n2, n3⟩⟩ := blk4 he0
      have HS := Lib.hid hs
      have HC := Lib.hid (And.intro hc9 hle)
      have HE0' := Lib.hid he0
      clear hs hc9 hle hb4 hnew he0 he1
      go_wp2_with fail
      have hP := put4_at (c0 := .string (S.extract f g)) (c1 := .slice A (wds (l.drop (g + 1))).length cp) (c2 := .string (⟨#[]⟩)) (c3 := .bool q) (w := w4.setCell ⟨w.heap.size + 1, 1, none⟩ (.slice A (wds (l.drop (g + 1))).length cp)) (g := w.heap.size) ((Below.heap_setCell _ _ _ _ (by first | (intro e; dsimp only at e; omega))).trans HE0'.out)
      refine rreq_end (t := 6) (u := 7) (v := 8) (g := w.heap.size) rfl rfl rfl rfl rfl (blk4 hP).1.1 (blk4 hP).1.2.1 (blk4 hP).1.2.2.1 (blk4 hP).1.2.2.2 ?_
      rw [HNM.out, HRS.out]
      refine ⟨A, cp, by rw [HX.out, HE0.out]; rfl, (HS.out.set (fun z hz => by have := HNW.out z hz; omega) _).put4 (fun z hz => by have := HNW.out z hz; omega), HC.out.1, HC.out.2, put4_bel (set_bel HB4.out (by omega) _) (Nat.le_refl _)⟩
  · go_enter Tryd.func22, Tryd.ntmps22
    go_wp2_with fail
    refine (HV.out _).mono ?_
    rintro e w1 ⟨rfl, hw⟩
    rw [← hw]
    clear hw
    go_wp2_with fail
    refine (HA.out _).mono ?_
    rintro e w1 ⟨rfl, hw⟩
    rw [← hw]
    clear hw
    go_wp2_with fail
    refine (HB.out _).mono ?_
    rintro e w1 ⟨rfl, hw⟩
    rw [← hw]
    clear hw
    go_wp2_with fail
    refine (HSK.out _).mono ?_
    rintro e w1 ⟨f, rfl, hf1, hf2, hf3, hw⟩
    rw [← hw]
    clear hw
    have HWF := Lib.hid (fun W => HWO.out f hf2 W)
    have HF := Lib.hid hf3
    clear hf2 hf3
    go_wp2_with fail
    refine (HWF.out _).mono ?_
    rintro e w1 ⟨g, rfl, hg1, hg2, hg3, hw⟩
    rw [← hw]
    clear hw
    have HX := Lib.hid (HSEG.out f g hg2)
    obtain ⟨hnm, hrs⟩ := HNR.out f g HF.out hg3
    have hgs : g ≤ S.size := by rw [HSZ.out]; exact hg2
    have HG := Lib.hid hg2
    have hrl : (l.drop (g + 1)).length ≤ 100000 := by rw [List.length_drop]; have := HL.out; omega
    have HWD := Lib.hid (fun W => HRW.out (l.drop (g + 1)) hrl W)
    have HNM := Lib.hid hnm
    have HRS := Lib.hid hrs
    clear hg2 hg3 hnm hrs hrl
    by_cases hglt : g < S.size
    · have d9 : decide (g < S.size) = true := decide_eq_true hglt
      have hg1s : g + 1 ≤ S.size := hglt
      have HD := Lib.hid (show S.extract (g + 1) S.size = bs (l.drop (g + 1)) from HDR.out (g + 1) (by rw [← HSZ.out]; exact hglt))
      obtain ⟨T2, T1, TZ⟩ := two_new w (.cells #[.string ⟨#[]⟩, .slice none 0 0, .string ⟨#[]⟩, .bool false] 48) (.cells #[.string (S.extract f g), .slice none 0 0, .string (bs (l.drop (g + 1))), .bool q] 48)
      have HBW := Lib.hid ((bel0 w (.cells #[.string ⟨#[]⟩, .slice none 0 0, .string ⟨#[]⟩, .bool false] 48)).trans ((bel0 (w.alloc (.cells #[.string ⟨#[]⟩, .slice none 0 0, .string ⟨#[]⟩, .bool false] 48)) (.cells #[.string (S.extract f g), .slice none 0 0, .string (bs (l.drop (g + 1))), .bool q] 48)).mono (by simp)))
      have H2 := Lib.hid T2
      have H1 := Lib.hid T1
      have HZ := Lib.hid TZ
      clear T2 T1 TZ
      go_wp2_with fail
      go_region
      go_wp2_with fail
      rw [HD.out]
      refine (HWD.out _).mono ?_
      rintro e w4 ⟨A, cp, rfl, hs, hc9, hle, hb4, hnew⟩
      have hzz : w.heap.size + 2 ≤ w4.heap.size := by rw [← HZ.out]; exact hb4.size
      have he1 := (hb4.block (w.heap.size + 1) (by show _ < ((w.alloc _).alloc _).heap.size; rw [HZ.out]; omega)).trans H1.out
      have he0 := (hb4.block w.heap.size (by show _ < ((w.alloc _).alloc _).heap.size; rw [HZ.out]; omega)).trans H2.out
      have HNW : Hid (∀ z, A = some z → w.heap.size + 2 ≤ z.block) := Lib.hid fun z hz => by rw [← HZ.out]; exact hnew z hz
      have HB4 : Hid (Below w.heap.size w w4) := Lib.hid (HBW.out.trans (Below.mono ⟨hb4.os, hb4.tape, hb4.output, hb4.size, hb4.block⟩ HBW.out.size))
      obtain ⟨⟨k0, k1, k2, k3⟩, ⟨f0, f1, f2, f3⟩⟩ := blk4 he1
      obtain ⟨⟨m0, m1, m2, m3⟩, ⟨n0, n1, n2, n3⟩⟩ := blk4 he0
      have HS := Lib.hid hs
      have HC := Lib.hid (And.intro hc9 hle)
      have HE0' := Lib.hid he0
      clear hs hc9 hle hb4 hnew he0 he1
      go_wp2_with fail
      have hP := put4_at (c0 := .string (S.extract f g)) (c1 := .slice A (wds (l.drop (g + 1))).length cp) (c2 := .string (bs (l.drop (g + 1)))) (c3 := .bool q) (w := w4.setCell ⟨w.heap.size + 1, 1, none⟩ (.slice A (wds (l.drop (g + 1))).length cp)) (g := w.heap.size) ((Below.heap_setCell _ _ _ _ (by first | (intro e; dsimp only at e; omega))).trans HE0'.out)
      refine rreq_end (t := 6) (u := 7) (v := 8) (g := w.heap.size) rfl rfl rfl rfl rfl (blk4 hP).1.1 (blk4 hP).1.2.1 (blk4 hP).1.2.2.1 (blk4 hP).1.2.2.2 ?_
      rw [HNM.out, HRS.out]
      refine ⟨A, cp, by rw [HX.out]; rfl, (HS.out.set (fun z hz => by have := HNW.out z hz; omega) _).put4 (fun z hz => by have := HNW.out z hz; omega), HC.out.1, HC.out.2, put4_bel (set_bel HB4.out (by omega) _) (Nat.le_refl _)⟩
    · have d9 : decide (g < S.size) = false := decide_eq_false hglt
      have HE0 : Hid (bs (l.drop (g + 1)) = ⟨#[]⟩) := Lib.hid (by rw [List.drop_eq_nil_of_le (by rw [← HSZ.out]; omega)]; rfl)
      rw [HE0.out] at HWD
      obtain ⟨T2, T1, TZ⟩ := two_new w (.cells #[.string ⟨#[]⟩, .slice none 0 0, .string ⟨#[]⟩, .bool false] 48) (.cells #[.string (S.extract f g), .slice none 0 0, .string (⟨#[]⟩), .bool q] 48)
      have HBW := Lib.hid ((bel0 w (.cells #[.string ⟨#[]⟩, .slice none 0 0, .string ⟨#[]⟩, .bool false] 48)).trans ((bel0 (w.alloc (.cells #[.string ⟨#[]⟩, .slice none 0 0, .string ⟨#[]⟩, .bool false] 48)) (.cells #[.string (S.extract f g), .slice none 0 0, .string (⟨#[]⟩), .bool q] 48)).mono (by simp)))
      have H2 := Lib.hid T2
      have H1 := Lib.hid T1
      have HZ := Lib.hid TZ
      clear T2 T1 TZ
      go_wp2_with fail
      go_region
      go_wp2_with fail
      refine (HWD.out _).mono ?_
      rintro e w4 ⟨A, cp, rfl, hs, hc9, hle, hb4, hnew⟩
      have hzz : w.heap.size + 2 ≤ w4.heap.size := by rw [← HZ.out]; exact hb4.size
      have he1 := (hb4.block (w.heap.size + 1) (by show _ < ((w.alloc _).alloc _).heap.size; rw [HZ.out]; omega)).trans H1.out
      have he0 := (hb4.block w.heap.size (by show _ < ((w.alloc _).alloc _).heap.size; rw [HZ.out]; omega)).trans H2.out
      have HNW : Hid (∀ z, A = some z → w.heap.size + 2 ≤ z.block) := Lib.hid fun z hz => by rw [← HZ.out]; exact hnew z hz
      have HB4 : Hid (Below w.heap.size w w4) := Lib.hid (HBW.out.trans (Below.mono ⟨hb4.os, hb4.tape, hb4.output, hb4.size, hb4.block⟩ HBW.out.size))
      obtain ⟨⟨k0, k1, k2, k3⟩, ⟨f0, f1, f2, f3⟩⟩ := blk4 he1
      obtain ⟨⟨m0, m1, m2, m3⟩, ⟨n0, n1, n2, n3⟩⟩ := blk4 he0
      have HS := Lib.hid hs
      have HC := Lib.hid (And.intro hc9 hle)
      have HE0' := Lib.hid he0
      clear hs hc9 hle hb4 hnew he0 he1
      go_wp2_with fail
      have hP := put4_at (c0 := .string (S.extract f g)) (c1 := .slice A (wds (l.drop (g + 1))).length cp) (c2 := .string (⟨#[]⟩)) (c3 := .bool q) (w := w4.setCell ⟨w.heap.size + 1, 1, none⟩ (.slice A (wds (l.drop (g + 1))).length cp)) (g := w.heap.size) ((Below.heap_setCell _ _ _ _ (by first | (intro e; dsimp only at e; omega))).trans HE0'.out)
      refine rreq_end (t := 6) (u := 7) (v := 8) (g := w.heap.size) rfl rfl rfl rfl rfl (blk4 hP).1.1 (blk4 hP).1.2.1 (blk4 hP).1.2.2.1 (blk4 hP).1.2.2.2 ?_
      rw [HNM.out, HRS.out]
      refine ⟨A, cp, by rw [HX.out, HE0.out]; rfl, (HS.out.set (fun z hz => by have := HNW.out z hz; omega) _).put4 (fun z hz => by have := HNW.out z hz; omega), HC.out.1, HC.out.2, put4_bel (set_bel HB4.out (by omega) _) (Nat.le_refl _)⟩
theorem rsplit_any (l : List UInt8) (a b : UInt8) (hl : l.length ≤ 100000) (w : World) : Calls Tryd.prog 22 #[.string (bs l), .int .u8 (a.toNat : Int), .int .u8 (b.toNat : Int)] w (SpP l a b w) := by
  unfold SpP
  cases h : csS l a b with
  | false => simp only [Bool.false_eq_true, if_false]; exact rsplit_bad l hl a b h w
  | true =>
    simp only [if_true]
    cases h2 : isC l a b with
    | false => simp only [Bool.false_eq_true, if_false]; exact rsplit_no l hl a b h h2 w
    | true =>
      simp only [if_true]
      cases l with
      | nil => cases h2
      | cons c t => exact rsplit_yes c t a b hl h h2 w
end Go.Proofs.YtnffmlfapccgkaaDoor
