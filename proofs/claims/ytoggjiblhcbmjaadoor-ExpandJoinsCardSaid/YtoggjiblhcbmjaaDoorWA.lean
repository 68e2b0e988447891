/- A text expanded: the walk. -/
import Derived.Test.YtoggjiblhcbmjaaDoorW9
namespace Go.Proofs.YtoggjiblhcbmjaaDoor
open Go.RowKit Go.Shelf
set_option maxRecDepth 100000
theorem Fr.low {B : Nat} {w wr w2 : World} (h : Fr B w wr) (k : Below w.heap.size wr w2) (hB : B ≤ w.heap.size) : Fr B w w2 :=
  ⟨h.bel.trans (k.mono hB), fun i o hi ho => (k.block i (Array.getElem?_eq_some_iff.1 hi).1).trans (h.hard i o hi ho)⟩
/-- What holds in a round: the builder, the asking, the frame. -/
structure Rnd (B : Nat) (St : Nat → World → Prop) (w : World) (acc : List UInt8) (n : Nat) (wr : World) : Prop where
  bu : Bu w.heap.size w.heap.size acc wr
  st : St n wr
  fr : Fr B w wr
  sz : w.heap.size ≤ wr.heap.size
section
variable {cp : Bool} {A : List UInt8} {xb B : Nat} {St : Nat → World → Prop}
theorem Rnd.below {w wr w2 : World} {acc : List UInt8} {n : Nat} (h : Rnd B St w acc n wr) (E : Env cp A xb B St) (hB : B ≤ w.heap.size) (k : Below wr.heap.size wr w2) : Rnd B St w acc n w2 :=
  ⟨h.bu.below k, E.keep h.st (Sk.of k), h.fr.low (k.mono h.sz) hB, Nat.le_trans h.sz k.size⟩
theorem Rnd.asked {w wr w2 : World} {acc : List UInt8} {n n' : Nat} (h : Rnd B St w acc n wr) (hs : St n' w2) (k : Fr B wr w2) : Rnd B St w acc n' w2 :=
  ⟨h.bu.fr k, hs, h.fr.trans k, Nat.le_trans h.sz k.size⟩
theorem Rnd.wrote {w wr w2 : World} {acc acc' : List UInt8} {n : Nat} (h : Rnd B St w acc n wr) (E : Env cp A xb B St) (hB : B ≤ w.heap.size) (k : WrP w.heap.size w.heap.size acc' wr w2) : Rnd B St w acc' n w2 :=
  ⟨k.bu, E.keep h.st k.sk, h.fr.low k.fr hB, Nat.le_trans h.sz k.fr.size⟩
theorem Rnd.start {w : World} {n : Nat} (hs : St n w) (E : Env cp A xb B St) (hB : B ≤ w.heap.size) : Rnd B St w [] n (w.alloc (.cells #[.pointer none, .slice none 0 0] 46)) :=
  ⟨bu_new w, E.keep hs (Sk.of (bel0 w _)), (Fr.refl B w).low (bel0 w _) hB, (bel0 w _).size⟩
def TxQ (cp : Bool) (A : List UInt8) (B : Nat) (St : Nat → World → Prop) (l : List UInt8) (w : World) (n0 k : Nat) (s : Value) (wr : World) : Prop :=
  ∃ (t acc : List UInt8) (m : Nat), k = t.length ∧ s = .string (bs t) ∧ ((exF cp A l).1 = acc ++ (exF cp A t).1 ∧ (exF cp A l).2 = m + (exF cp A t).2) ∧ 2 * m + t.length ≤ l.length ∧ acc.length + t.length ≤ l.length ∧ Rnd B St w acc (n0 + m) wr
/-- The piece in memory. -/
theorem pc_cells {W : World} {g : Nat} {p : Pc} (h : W.heap[g]? = some (.cells #[.string (bs p.tx), .int .u8 (p.kd.toNat : Int), .string (bs p.nm), .int .i64 p.st] 65 (0, 0))) : W.cell? ⟨g, 0, none⟩ = some (.string (bs p.tx)) ∧ W.cell? ⟨g, 1, none⟩ = some (.int .u8 (p.kd.toNat : Int)) ∧ W.cell? ⟨g, 2, none⟩ = some (.string (bs p.nm)) ∧ W.cell? ⟨g, 3, none⟩ = some (.int .i64 p.st) := fresh_pc h
set_option maxHeartbeats 4000000 in
theorem text_step (E : Env cp A xb B St) (l : List UInt8) (n0 : Nat) (w : World) (hs : St n0 w) (hl : 2 * n0 + l.length ≤ 1000)
    (IH : ∀ (l' : List UInt8) (n : Nat) (w : World), l'.length < l.length → St n w → 2 * n + l'.length ≤ 1000 → Calls Tryd.prog 31 #[XP xb, .string (bs l')] w (TxP cp A B St l' w n)) :
    Calls Tryd.prog 31 #[XP xb, .string (bs l)] w (TxP cp A B St l w n0) := by
  have hB := E.blt hs
  have hA1 := E.a1
  have HIH := Lib.hid IH
  have HST : Hid (TxQ cp A B St l w n0 l.length (.string (bs l)) (w.alloc (.cells #[.pointer none, .slice none 0 0] 46))) := Lib.hid ⟨l, [], 0, rfl, rfl, ⟨rfl, by omega⟩, by omega, by simp, Rnd.start hs E hB⟩
  clear IH hs
  go_enter Tryd.func31, Tryd.ntmps31
  go_wp2_with fail
  go_loopg [1] l.length (fun k s wr => TxQ cp A B St l w n0 k s wr)
  case atStart => exact HST.out
  case round =>
    obtain ⟨t, acc, m, hk, rfl, hx, hm2, hal, hr⟩ := hrel
    have HX := Lib.hid hx
    have HR := Lib.hid hr
    have HK := Lib.hid hk
    have HB := Lib.hid hB
    have hszr := hr.sz
    clear hx hr hk
    by_cases ht : t = []
    · subst ht
      have he : (bs []).toList = [] := by rw [Lib.toList_data]; rfl
      have HO := Lib.hid (bld_out HR.out.bu HR.out.sz)
      go_wp2_with fail
      refine HO.out.mono ?_
      rintro e w2 ⟨rfl, hw⟩
      have HR2 := Lib.hid (HR.out.wrote E HB.out hw)
      clear hw
      go_wp2_with fail
      go_ret
      have e1 := HX.out.1
      have e2 := HX.out.2
      rw [show exF cp A [] = ([], 0) from rfl] at e1 e2
      simp only [List.append_nil, Nat.add_zero] at e1 e2
      exact ⟨by rw [e1]; rfl, by rw [e2]; exact HR2.out.st, HR2.out.fr⟩
    · have he : (bs t).toList.isEmpty = false := by rw [Lib.toList_data, bs_list]; cases t with | nil => exact absurd rfl ht | cons a t => rfl
      have HC := Lib.hid (fun W => cut_any (bs t) (by rw [bs_size]; unfold maxLen; omega) (by rw [bs_list]; exact ht) W)
      have ok := cutS_ok t ht
      have HSTEP := Lib.hid (exF_step cp A E.a1 t ht)
      have HTX := Lib.hid (cutS_tx t)
      rw [bs_list] at HC
      unfold cutV at HC
      generalize cutS t = c at *
      obtain ⟨p, n⟩ := c
      have hn1 := ok.n1
      have hnl := ok.nl
      have HOK := Lib.hid ok
      simp only at hn1 hnl
      clear ok
      obtain ⟨tx, kd, nm, st⟩ := p
      unfold pcV at HC
      simp only at HC HSTEP HOK HTX
      go_wp2_with fail
      refine (HC.out _).mono ?_
      rintro e w1 ⟨rfl, hb⟩
      have hb1 := hb.trans ((bel0 w1 (.cells #[.string (bs tx), .int .u8 (kd.toNat : Int), .string (bs nm), .int .i64 st] 65)).mono hb.size)
      have HR1 := Lib.hid (HR.out.below E HB.out hb1)
      have HP1 := Lib.hid (heap_alloc_new w1 (.cells #[.string (bs tx), .int .u8 (kd.toNat : Int), .string (bs nm), .int .i64 st] 65))
      clear hb hb1
      have HL := Lib.hid (bld_len HR1.out.bu)
      have hrs : (bs (t.drop n)).size ≤ 1000 ∧ acc.length + (bs (t.drop n)).size + n ≤ l.length := by rw [bs_size, List.length_drop]; omega
      go_wp2_with fail
      refine HL.out.mono ?_
      rintro e w2 ⟨rfl, rfl⟩
      by_cases k34 : kd = 34
      · have t1 : ((kd.toNat : Int) == 34) = true := by rw [k34]; rfl
        have HO := Lib.hid (bld_out HR1.out.bu HR1.out.sz)
        have HQ := Lib.hid (HSTEP.out.onq k34)
        clear k34
        go_wp2_with fail
        refine HO.out.mono ?_
        rintro e w2 ⟨rfl, hw⟩
        have HR2 := Lib.hid (HR1.out.wrote E HB.out hw)
        clear hw
        go_wp2_with fail
        go_ret
        have e1 := HX.out.1
        have e2 := HX.out.2
        rw [HQ.out] at e1 e2
        simp only [List.append_nil, Nat.add_zero] at e1 e2
        exact ⟨by rw [e1]; rfl, by rw [e2]; exact HR2.out.st, HR2.out.fr⟩
      have t1 : ((kd.toNat : Int) == 34) = false := nb kd 34 k34
      have HND := Lib.hid (named_any ⟨tx, kd, nm, st⟩)
      unfold pcV at HND
      simp only at HND
      by_cases k110 : kd = 110
      · have t2 : ((kd.toNat : Int) == 110) = true := by rw [k110]; rfl
        have hnd := HOK.out.nd (.inl k110)
        have HQ := Lib.hid (HSTEP.out.onn k110)
        have HASK := Lib.hid (E.ask 110 nm st (acc.length + (bs (t.drop n)).size) HR1.out.st (by omega) (by omega))
        rw [Int.natCast_add] at HASK
        obtain ⟨c0, c1, c2, c3⟩ := pc_cells (p := ⟨tx, kd, nm, st⟩) HP1.out
        simp only at c0 c1 c2 c3
        clear k110 k34
        go_wp2_with fail
        refine HASK.out.mono ?_
        rintro e w2 ⟨rfl, hst2, hfr2⟩
        have HR2 := Lib.hid (HR1.out.asked hst2 hfr2)
        clear hst2 hfr2
        have HW := Lib.hid (bld_str HR2.out.bu A (by omega) HR2.out.sz)
        go_wp2_with fail
        refine HW.out.mono ?_
        rintro e w3 ⟨rfl, hw⟩
        have HR3 := Lib.hid (HR2.out.wrote E HB.out hw)
        clear hw
        go_wp2_with fail
        go_roundg (t.length - n)
        case measure => have := HK.out; omega
        case rel =>
          refine ⟨t.drop n, acc ++ A, m + 1, by rw [List.length_drop], rfl, ⟨?_, ?_⟩, by rw [List.length_drop]; omega, by rw [List.length_append, List.length_drop]; omega, by rw [show n0 + (m + 1) = n0 + m + 1 by omega]; exact HR3.out⟩
          · rw [HX.out.1, HQ.out, List.append_assoc]
          · rw [HX.out.2, HQ.out]; simp only; omega
      have t2 : ((kd.toNat : Int) == 110) = false := nb kd 110 k110
      obtain ⟨c0, c1, c2, c3⟩ := pc_cells (p := ⟨tx, kd, nm, st⟩) HP1.out
      simp only at c0 c1 c2 c3
      by_cases ks : kd = 42 ∨ kd = 36
      · have hnd := HOK.out.nd (.inr ks)
        have HQ := Lib.hid (HSTEP.out.ons ks)
        rw [show namS ⟨tx, kd, nm, st⟩ = true by unfold namS; rcases ks with k | k <;> rw [k] <;> rfl] at HND
        clear k110 k34 ks
        go_wp2_with fail
        refine (HND.out _).mono ?_
        rintro e w2 ⟨rfl, hb⟩
        have HR2 := Lib.hid (HR1.out.below E HB.out hb)
        have HP2 := Lib.hid ((hb.block w1.heap.size (by rw [siz0]; omega)).trans HP1.out)
        clear hb c0 c1 c2 c3
        have HASK := Lib.hid (E.ask kd nm 0 (acc.length + (bs (t.drop n)).size) HR2.out.st (by omega) (by omega))
        rw [Int.natCast_add] at HASK
        obtain ⟨c0, c1, c2, c3⟩ := pc_cells (p := ⟨tx, kd, nm, st⟩) HP2.out
        simp only at c0 c1 c2 c3
        have HCAT := Lib.hid (show bs A ++ bs (t.drop n) = bs (A ++ t.drop n) by apply ByteArray.ext; rw [ByteArray.data_append]; simp [bs])
        have hAs : (bs A).size ≤ 1 := by rw [bs_size]; exact hA1
        go_wp2_with fail
        refine HASK.out.mono ?_
        rintro e w3 ⟨rfl, hst2, hfr2⟩
        have HR3 := Lib.hid (HR2.out.asked hst2 hfr2)
        clear hst2 hfr2
        go_wp2_with fail
        rw [HCAT.out]
        go_roundg (t.length - n + A.length)
        case measure => have := HK.out; omega
        case rel =>
          refine ⟨A ++ t.drop n, acc, m + 1, by rw [List.length_append, List.length_drop]; omega, rfl, ⟨?_, ?_⟩, by rw [List.length_append, List.length_drop]; omega, by rw [List.length_append, List.length_drop]; omega, by rw [show n0 + (m + 1) = n0 + m + 1 by omega]; exact HR3.out⟩
          · rw [HX.out.1, HQ.out]
          · rw [HX.out.2, HQ.out]; simp only; omega
      have k42 : kd ≠ 42 := fun e => ks (.inl e)
      have k36 : kd ≠ 36 := fun e => ks (.inr e)
      rw [show namS ⟨tx, kd, nm, st⟩ = false by unfold namS; simp [k110, k42, k36]] at HND
      by_cases k119 : kd = 119
      · have t3 : ((kd.toNat : Int) == 119) = true := by rw [k119]; rfl
        have hwd := HOK.out.wd k119
        simp only at hwd
        cases hcp : cp with
        | false =>
          subst hcp
          have HQ := Lib.hid (HSTEP.out.onw k119 rfl)
          clear k110 k34 ks k42 k36 k119
          go_wp2_with fail
          refine (HND.out _).mono ?_
          rintro e w2 ⟨rfl, hb⟩
          have HR2 := Lib.hid (HR1.out.below E HB.out hb)
          have HP2 := Lib.hid ((hb.block w1.heap.size (by rw [siz0]; omega)).trans HP1.out)
          clear hb c0 c1 c2 c3
          obtain ⟨c0, c1, c2, c3⟩ := pc_cells (p := ⟨tx, kd, nm, st⟩) HP2.out
          simp only at c0 c1 c2 c3
          have hcx := E.cpy HR2.out.st
          have HIN := Lib.hid (HIH.out nm (n0 + m) w2 (by omega) HR2.out.st (by omega))
          unfold TxP at HIN
          have hin := exF_le false A hA1 nm
          obtain ⟨o1, ho1⟩ : ∃ o, o = (exF false A nm).1 := ⟨_, rfl⟩
          obtain ⟨q1, hq1⟩ : ∃ q, q = (exF false A nm).2 := ⟨_, rfl⟩
          rw [← ho1, ← hq1] at HIN hin
          rw [← hq1] at HQ
          clear ho1 hq1
          go_wp2_with fail
          refine HIN.out.mono ?_
          rintro e w3 ⟨rfl, hst2, hfr2⟩
          have HR3 := Lib.hid (HR2.out.asked hst2 hfr2)
          clear hst2 hfr2
          have HASK := Lib.hid (E.ask 119 o1 0 (acc.length + (bs (t.drop n)).size) HR3.out.st (by omega) (by omega))
          rw [Int.natCast_add] at HASK
          go_wp2_with fail
          refine HASK.out.mono ?_
          rintro e w4 ⟨rfl, hst2, hfr2⟩
          have HR4 := Lib.hid (HR3.out.asked hst2 hfr2)
          clear hst2 hfr2
          have HW := Lib.hid (bld_str HR4.out.bu A (by omega) HR4.out.sz)
          go_wp2_with fail
          refine HW.out.mono ?_
          rintro e w5 ⟨rfl, hw⟩
          have HR5 := Lib.hid (HR4.out.wrote E HB.out hw)
          clear hw
          go_wp2_with fail
          go_roundg (t.length - n)
          case measure => have := HK.out; omega
          case rel =>
            refine ⟨t.drop n, acc ++ A, m + q1 + 1, by rw [List.length_drop], rfl, ⟨?_, ?_⟩, by rw [List.length_drop]; omega, by rw [List.length_append, List.length_drop]; omega, by rw [show n0 + (m + q1 + 1) = n0 + m + q1 + 1 by omega]; exact HR5.out⟩
            · rw [HX.out.1, HQ.out, List.append_assoc]
            · rw [HX.out.2, HQ.out]; simp only; omega
        | true =>
          subst hcp
          have HQ := Lib.hid (HSTEP.out.onv k119 rfl)
          clear k110 k34 ks k42 k36 k119
          go_wp2_with fail
          refine (HND.out _).mono ?_
          rintro e w2 ⟨rfl, hb⟩
          have HR2 := Lib.hid (HR1.out.below E HB.out hb)
          have HP2 := Lib.hid ((hb.block w1.heap.size (by rw [siz0]; omega)).trans HP1.out)
          clear hb c0 c1 c2 c3
          obtain ⟨c0, c1, c2, c3⟩ := pc_cells (p := ⟨tx, kd, nm, st⟩) HP2.out
          simp only at c0 c1 c2 c3
          have hcx := E.cpy HR2.out.st
          have HW := Lib.hid (bld_str HR2.out.bu [92, 119] (by simp only [List.length_cons, List.length_nil]; omega) HR2.out.sz)
          rw [show bs [92, 119] = ⟨#[92, 119]⟩ from rfl] at HW
          have hts : 2 ≤ (bs t).size := by rw [bs_size]; omega
          have HEX := Lib.hid (show (bs t).extract 2 (bs t).size = bs (t.drop 2) by rw [ext_drop, bs_list])
          have htm : (bs t).size ≤ 1000 := by rw [bs_size]; omega
          go_wp2_with fail
          refine HW.out.mono ?_
          rintro e w3 ⟨rfl, hw⟩
          have HR3 := Lib.hid (HR2.out.wrote E HB.out hw)
          clear hw
          go_wp2_with fail
          rw [HEX.out]
          go_roundg (t.length - 2)
          case measure => have := HK.out; omega
          case rel =>
            refine ⟨t.drop 2, acc ++ [92, 119], m, by rw [List.length_drop], rfl, ⟨?_, ?_⟩, by rw [List.length_drop]; omega, by rw [List.length_append, List.length_drop]; simp only [List.length_cons, List.length_nil]; omega, HR3.out⟩
            · rw [HX.out.1, HQ.out]; simp
            · rw [HX.out.2, HQ.out]
      have t3 : ((kd.toNat : Int) == 119) = false := nb kd 119 k119
      have htx : tx.length ≤ n := by have := HTX.out; rw [this]; exact List.length_take_le n t
      cases hcp : cp with
      | true =>
        subst hcp
        by_cases k92 : kd = 92
        · have t4 : ((kd.toNat : Int) == 92) = true := by rw [k92]; rfl
          have HQ := Lib.hid (HSTEP.out.onb (.inl k92) rfl)
          have hk2 := HOK.out.k2 (show kd ≠ 0 by rw [k92]; decide)
          clear k110 k34 ks k42 k36 k119 k92
          go_wp2_with fail
          refine (HND.out _).mono ?_
          rintro e w2 ⟨rfl, hb⟩
          have HR2 := Lib.hid (HR1.out.below E HB.out hb)
          have HP2 := Lib.hid ((hb.block w1.heap.size (by rw [siz0]; omega)).trans HP1.out)
          clear hb c0 c1 c2 c3
          obtain ⟨c0, c1, c2, c3⟩ := pc_cells (p := ⟨tx, kd, nm, st⟩) HP2.out
          simp only at c0 c1 c2 c3
          have hcx := E.cpy HR2.out.st
          have HW := Lib.hid (bld_byte HR2.out.bu kd (by omega) HR2.out.sz)
          go_wp2_with fail
          refine HW.out.mono ?_
          rintro e w3 ⟨rfl, hw⟩
          have HR3 := Lib.hid (HR2.out.wrote E HB.out hw)
          clear hw
          go_wp2_with fail
          go_roundg (t.length - n)
          case measure => have := HK.out; omega
          case rel =>
            refine ⟨t.drop n, acc ++ [kd], m, by rw [List.length_drop], rfl, ⟨?_, ?_⟩, by rw [List.length_drop]; omega, by rw [List.length_append, List.length_drop]; simp only [List.length_cons, List.length_nil]; omega, HR3.out⟩
            · rw [HX.out.1, HQ.out]; simp
            · rw [HX.out.2, HQ.out]
        have t4 : ((kd.toNat : Int) == 92) = false := nb kd 92 k92
        by_cases k46 : kd = 46
        · have t5 : ((kd.toNat : Int) == 46) = true := by rw [k46]; rfl
          have HQ := Lib.hid (HSTEP.out.onb (.inr k46) rfl)
          have hk2 := HOK.out.k2 (show kd ≠ 0 by rw [k46]; decide)
          clear k110 k34 ks k42 k36 k119 k92 k46
          go_wp2_with fail
          refine (HND.out _).mono ?_
          rintro e w2 ⟨rfl, hb⟩
          have HR2 := Lib.hid (HR1.out.below E HB.out hb)
          have HP2 := Lib.hid ((hb.block w1.heap.size (by rw [siz0]; omega)).trans HP1.out)
          clear hb c0 c1 c2 c3
          obtain ⟨c0, c1, c2, c3⟩ := pc_cells (p := ⟨tx, kd, nm, st⟩) HP2.out
          simp only at c0 c1 c2 c3
          have hcx := E.cpy HR2.out.st
          have HW := Lib.hid (bld_byte HR2.out.bu kd (by omega) HR2.out.sz)
          go_wp2_with fail
          refine HW.out.mono ?_
          rintro e w3 ⟨rfl, hw⟩
          have HR3 := Lib.hid (HR2.out.wrote E HB.out hw)
          clear hw
          go_wp2_with fail
          go_roundg (t.length - n)
          case measure => have := HK.out; omega
          case rel =>
            refine ⟨t.drop n, acc ++ [kd], m, by rw [List.length_drop], rfl, ⟨?_, ?_⟩, by rw [List.length_drop]; omega, by rw [List.length_append, List.length_drop]; simp only [List.length_cons, List.length_nil]; omega, HR3.out⟩
            · rw [HX.out.1, HQ.out]; simp
            · rw [HX.out.2, HQ.out]
        · have t5 : ((kd.toNat : Int) == 46) = false := nb kd 46 k46
          have HQ := Lib.hid (HSTEP.out.ono k34 k110 k42 k36 k119 (fun _ => ⟨k92, k46⟩))
          clear k110 k34 ks k42 k36 k119 k92 k46
          go_wp2_with fail
          refine (HND.out _).mono ?_
          rintro e w2 ⟨rfl, hb⟩
          have HR2 := Lib.hid (HR1.out.below E HB.out hb)
          have HP2 := Lib.hid ((hb.block w1.heap.size (by rw [siz0]; omega)).trans HP1.out)
          clear hb c0 c1 c2 c3
          obtain ⟨c0, c1, c2, c3⟩ := pc_cells (p := ⟨tx, kd, nm, st⟩) HP2.out
          simp only at c0 c1 c2 c3
          have hcx := E.cpy HR2.out.st
          have HW := Lib.hid (bld_str HR2.out.bu tx (by omega) HR2.out.sz)
          go_wp2_with fail
          refine HW.out.mono ?_
          rintro e w3 ⟨rfl, hw⟩
          have HR3 := Lib.hid (HR2.out.wrote E HB.out hw)
          clear hw
          go_wp2_with fail
          go_roundg (t.length - n)
          case measure => have := HK.out; omega
          case rel =>
            refine ⟨t.drop n, acc ++ tx, m, by rw [List.length_drop], rfl, ⟨?_, ?_⟩, by rw [List.length_drop]; omega, by rw [List.length_append, List.length_drop]; omega, HR3.out⟩
            · rw [HX.out.1, HQ.out, List.append_assoc]
            · rw [HX.out.2, HQ.out]
      | false =>
          subst hcp
          have HQ := Lib.hid (HSTEP.out.ono k34 k110 k42 k36 k119 (fun h => by cases h))
          clear k110 k34 ks k42 k36 k119
          go_wp2_with fail
          refine (HND.out _).mono ?_
          rintro e w2 ⟨rfl, hb⟩
          have HR2 := Lib.hid (HR1.out.below E HB.out hb)
          have HP2 := Lib.hid ((hb.block w1.heap.size (by rw [siz0]; omega)).trans HP1.out)
          clear hb c0 c1 c2 c3
          obtain ⟨c0, c1, c2, c3⟩ := pc_cells (p := ⟨tx, kd, nm, st⟩) HP2.out
          simp only at c0 c1 c2 c3
          have hcx := E.cpy HR2.out.st
          have HW := Lib.hid (bld_str HR2.out.bu tx (by omega) HR2.out.sz)
          go_wp2_with fail
          refine HW.out.mono ?_
          rintro e w3 ⟨rfl, hw⟩
          have HR3 := Lib.hid (HR2.out.wrote E HB.out hw)
          clear hw
          go_wp2_with fail
          go_roundg (t.length - n)
          case measure => have := HK.out; omega
          case rel =>
            refine ⟨t.drop n, acc ++ tx, m, by rw [List.length_drop], rfl, ⟨?_, ?_⟩, by rw [List.length_drop]; omega, by rw [List.length_append, List.length_drop]; omega, HR3.out⟩
            · rw [HX.out.1, HQ.out, List.append_assoc]
            · rw [HX.out.2, HQ.out]
theorem text_any (E : Env cp A xb B St) (N : Nat) : ∀ (l : List UInt8) (n : Nat) (w : World), l.length = N → St n w → 2 * n + l.length ≤ 1000 → Calls Tryd.prog 31 #[XP xb, .string (bs l)] w (TxP cp A B St l w n) := by
  induction N using Nat.strongRecOn with
  | _ N ih =>
    intro l n w hl hs hn
    exact text_step E l n w hs hn (fun l' n' w' h1 h2 h3 => ih l'.length (by omega) l' n' w' rfl h2 h3)
end
end Go.Proofs.YtoggjiblhcbmjaaDoor
