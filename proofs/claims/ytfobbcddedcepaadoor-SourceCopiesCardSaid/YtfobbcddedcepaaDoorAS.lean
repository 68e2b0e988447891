/- Numbers and lines that are the same. -/
import Derived.Test.YtfobbcddedcepaaDoorA7
import Derived.Deep.RegionHeld3
namespace Go.Proofs.YtfobbcddedcepaaDoor
open Go.RowKit
set_option maxRecDepth 100000
set_option linter.unusedSimpArgs false
set_option linter.unusedVariables false
theorem int_at (ns : List Int) (j : Nat) (h : j < ns.length) : (intCs ns)[j]? = some (.int .i64 ns[j]) := by
  unfold intCs; rw [List.getElem?_map, List.getElem?_eq_getElem h]; rfl
set_option maxHeartbeats 1000000 in
theorem numbers_eq {P P' : Nat → Prop} {w : World} {A A' : Option Addr} {n c c' : Nat} {ns : List Int} (h : ReadsP P w 1 A n (intCs ns)) (h' : ReadsP P' w 1 A' n (intCs ns)) (hn : (n : Int) ≤ 9223372036854775807) :
    Calls Tryd.prog 64 #[.slice A n c, .slice A' n c'] w fun e w' => e = .returned (.bool true) ∧ Below w.heap.size w w' := by
  have H := Lib.hid h
  have H' := Lib.hid h'
  have HL := Lib.hid (show ns.length = n by have := h.1; unfold intCs at this; rw [List.length_map, Nat.mul_one] at this; exact this)
  have hself : ((n : Int) != (n : Int)) = false := by simp
  clear h h'
  go_enter Tryd.func64, Tryd.ntmps64
  go_wp2_with fail
  go_loopg [5] n (fun k i wr => ∃ j : Nat, k + j = n ∧ i = .int .i64 j ∧ wr.heap = w.heap ∧ Below w.heap.size w wr)
  case atStart => exact ⟨0, rfl, rfl, rfl, Below.refl _ _⟩
  case round =>
    obtain ⟨j, hk, rfl, hh, hb⟩ := hrel
    have HK := Lib.hid hk
    have HH := Lib.hid hh
    have HB := Lib.hid hb
    by_cases hj : j < n
    · have dj : decide (j < n) = true := decide_eq_true hj
      have hjl : j < ns.length := by rw [HL.out]; exact hj
      obtain ⟨b, off, rfl, _, hc⟩ := H.out.2 (by omega)
      obtain ⟨b', off', rfl, _, hc'⟩ := H'.out.2 (by omega)
      have c0 := hc j _ (int_at ns j hjl)
      have c0' := hc' j _ (int_at ns j hjl)
      have key : ∀ p : Addr, wr.cell? p = w.cell? p := fun p => by unfold World.cell?; rw [HH.out]
      rw [← key] at c0 c0'
      obtain ⟨z, hz⟩ : ∃ z, z = ns[j] := ⟨_, rfl⟩
      rw [← hz] at c0 c0'
      have HJ := Lib.hid hj
      have hj0 : (0 : Int) ≤ (j : Int) := by omega
      have hj1 : (j : Int) < (n : Int) := by omega
      clear hk hj hh hb hjl hc hc' key hz
      go_wp2_with fail
      go_quiet (fail)
      go_wp2_with fail
      go_roundg (gk - 1)
      case measure => have := HK.out; have := HJ.out; omega
      case rel => have := HK.out; have := HJ.out; exact ⟨j + 1, by omega, by go_num, HH.out, ⟨HB.out.os, HB.out.tape, HB.out.output, HB.out.size, HB.out.block⟩⟩
    · have dj : decide (j < n) = false := decide_eq_false hj
      clear hk hj hh hb
      go_wp2_with fail
      go_ret
      exact ⟨rfl, HB.out⟩
/-- The cells of a box that is read. -/
theorem reads_bx {P : Nat → Prop} {w : World} {A : Option Addr} {n : Nat} {rs : List RB} (h : ReadsP P w 7 A n (rs.flatMap rbCs)) (j : Nat) (r : RB) (hr : rs[j]? = some r) :
    ∃ b off, A = some ⟨b, off, none⟩ ∧ P b ∧ w.cell? ⟨b, off + j * 7, none⟩ = some (.int .i64 r.kd) ∧ w.cell? ⟨b, off + j * 7 + 1, none⟩ = some (.int .i64 r.wd) ∧ w.cell? ⟨b, off + j * 7 + 2, none⟩ = some (.int .i64 r.fo) ∧ w.cell? ⟨b, off + j * 7 + 3, none⟩ = some (.int .i64 r.sz) ∧ w.cell? ⟨b, off + j * 7 + 4, none⟩ = some (.string r.nm) ∧ w.cell? ⟨b, off + j * 7 + 5, none⟩ = some (.string r.co) ∧ w.cell? ⟨b, off + j * 7 + 6, none⟩ = some (.slice r.no r.nn r.nc) := by
  have hjl : j < rs.length := (List.getElem?_eq_some_iff.1 hr).1
  have h1 := h.1
  rw [fm_len rb_len] at h1
  obtain ⟨b, off, hA, hp, hc⟩ := h.2 (by omega)
  have key := fun k (hk : k < 7) => fm_at rb_len rs j k r hr hk
  have key2 : ∀ k (hk : k < 7) u, (rbCs r)[k]? = some u → w.cell? ⟨b, off + j * 7 + k, none⟩ = some u := by
    intro k hk u hu
    have := hc _ _ ((key k hk).trans hu)
    rwa [← Nat.add_assoc] at this
  exact ⟨b, off, hA, hp, key2 0 (by omega) _ rfl, key2 1 (by omega) _ rfl, key2 2 (by omega) _ rfl, key2 3 (by omega) _ rfl, key2 4 (by omega) _ rfl, key2 5 (by omega) _ rfl, key2 6 (by omega) _ rfl⟩
/-- Two lines in blocks of their own. -/
structure TwoLn (w wr : World) (tx : ByteArray) (md : Bool) (up dn : Int) (bo : Option Addr) (bc : Nat) (bo' : Option Addr) (bc' n : Nat) (x y : Value) (wx : World) : Prop where
  ex : ∃ g g', x = BP g ∧ y = BP g' ∧ wx.heap[g]? = some (.cells #[.string tx, .bool md, .int .i64 up, .int .i64 dn, .slice bo n bc] 31 (0, 0)) ∧ wx.heap[g']? = some (.cells #[.string tx, .bool md, .int .i64 up, .int .i64 dn, .slice bo' n bc'] 31 (0, 0)) ∧ wr.heap.size ≤ g ∧ wr.heap.size ≤ g'
  below : Below wr.heap.size wr wx
/-- Two boxes in blocks of their own. -/
structure TwoBx (wr : World) (kd wd fo sz : Int) (nm co : ByteArray) (no : Option Addr) (nc : Nat) (no' : Option Addr) (nc' nn : Nat) (x y : Value) (wx : World) : Prop where
  ex : ∃ g g', x = BP g ∧ y = BP g' ∧ wx.heap[g]? = some (.cells #[.int .i64 kd, .int .i64 wd, .int .i64 fo, .int .i64 sz, .string nm, .string co, .slice no nn nc] 85 (0, 0)) ∧ wx.heap[g']? = some (.cells #[.int .i64 kd, .int .i64 wd, .int .i64 fo, .int .i64 sz, .string nm, .string co, .slice no' nn nc'] 85 (0, 0))
  below : Below wr.heap.size wr wx
/-- At the head of the inner loop. -/
def InL (w : World) (g g' : Nat) (tx : ByteArray) (md : Bool) (up dn : Int) (bo : Option Addr) (bc : Nat) (bo' : Option Addr) (bc' n k : Nat) (i : Value) (wi : World) : Prop :=
  ∃ m : Nat, k + m = n ∧ i = .int .i64 m ∧ wi.heap[g]? = some (.cells #[.string tx, .bool md, .int .i64 up, .int .i64 dn, .slice bo n bc] 31 (0, 0)) ∧ wi.heap[g']? = some (.cells #[.string tx, .bool md, .int .i64 up, .int .i64 dn, .slice bo' n bc'] 31 (0, 0)) ∧ Below w.heap.size w wi
set_option maxHeartbeats 8000000 in
theorem sameLines_eq {P P' : TypeId → Nat → Prop} {w : World} {A A' : Option Addr} {n c c' : Nat} {ls : List Ln} (h : LnsAt P w A n ls) (h' : LnsAt P' w A' n ls) (hP : ∀ e b, P e b → b < w.heap.size) (hP' : ∀ e b, P' e b → b < w.heap.size) (hn : (n : Int) ≤ 9223372036854775807) :
    Calls Tryd.prog 32 #[.slice A n c, .slice A' n c'] w fun e w' => e = .returned (.bool true) ∧ Below w.heap.size w w' := by
  obtain ⟨⟨rs, hr, ha⟩, hlen⟩ := h
  obtain ⟨⟨rs', hr', ha'⟩, hlen'⟩ := h'
  have HR := Lib.hid hr
  have HR' := Lib.hid hr'
  have HA : Hid (All2 (RlIs P w) rs ls) := Lib.hid ha
  have HA' : Hid (All2 (RlIs P' w) rs' ls) := Lib.hid ha'
  have HLEN := Lib.hid hlen
  have HP := Lib.hid hP
  have HP' := Lib.hid hP'
  have HRL := Lib.hid (show rs.length = n by rw [ha.1, hlen])
  have HRL' := Lib.hid (show rs'.length = n by rw [ha'.1, hlen])
  have hself : ((n : Int) != (n : Int)) = false := by simp
  clear hr hr' ha ha' hlen hlen' hP hP'
  go_enter Tryd.func32, Tryd.ntmps32
  go_wp2_with fail
  go_loopg [5] n (fun k i wr => ∃ j : Nat, k + j = n ∧ i = .int .i64 j ∧ Below w.heap.size w wr)
  case atStart => exact ⟨0, rfl, rfl, Below.refl _ _⟩
  case round =>
    obtain ⟨j, hk, rfl, hb⟩ := hrel
    have HK := Lib.hid hk
    have HB := Lib.hid hb
    by_cases hj : j < n
    · have dj : decide (j < n) = true := decide_eq_true hj
      have hrj : rs[j]? = some (rs[j]'(by have := HRL.out; omega)) := List.getElem?_eq_getElem (by have := HRL.out; omega)
      obtain ⟨r, hre⟩ : ∃ r, r = rs[j]'(by have := HRL.out; omega) := ⟨_, rfl⟩
      rw [← hre] at hrj
      have hrj' : rs'[j]? = some (rs'[j]'(by have := HRL'.out; omega)) := List.getElem?_eq_getElem (by have := HRL'.out; omega)
      obtain ⟨r', hre'⟩ : ∃ r', r' = rs'[j]'(by have := HRL'.out; omega) := ⟨_, rfl⟩
      rw [← hre'] at hrj'
      have hlj : ls[j]? = some (ls[j]'(by have := HLEN.out; omega)) := List.getElem?_eq_getElem (by have := HLEN.out; omega)
      obtain ⟨l, hle⟩ : ∃ l, l = ls[j]'(by have := HLEN.out; omega) := ⟨_, rfl⟩
      rw [← hle] at hlj
      have hri := HA.out.2 j r l hrj hlj
      have hri' := HA'.out.2 j r' l hrj' hlj
      obtain ⟨b, off, rfl, hp, c0, c1, c2, c3, c4⟩ := reads_ln HR.out j r hrj
      obtain ⟨b', off', rfl, hp', d0, d1, d2, d3, d4⟩ := reads_ln HR'.out j r' hrj'
      have e := fun o => hb.cell (p := ⟨b, o, none⟩) (HP.out _ b hp)
      have e' := fun o => hb.cell (p := ⟨b', o, none⟩) (HP'.out _ b' hp')
      rw [← e] at c0 c1 c2 c3 c4
      rw [← e'] at d0 d1 d2 d3 d4
      rw [hri.tx] at c0
      rw [hri.md] at c1
      rw [hri.up] at c2
      rw [hri.dn] at c3
      rw [hri'.tx] at d0
      rw [hri'.md] at d1
      rw [hri'.up] at d2
      rw [hri'.dn] at d3
      have hbx := hri.bx
      have hbx' := hri'.bx
      have hbl := hri.bx.len
      have hbl' := hri'.bx.len
      have hcp := hri.cap
      have hle1 := hri.le
      obtain ⟨_, _, _, _, bo, bn, bc⟩ := r
      obtain ⟨_, _, _, _, bo', bn', bc'⟩ := r'
      simp only at c4 d4 hbx hbx' hbl hbl' hcp hle1
      have hbb : bn' = bn := by omega
      subst hbb
      have HBX := Lib.hid hbx
      have HBX' := Lib.hid hbx'
      have HBL := Lib.hid hbl
      have hbn : (bn' : Int) ≤ 9223372036854775807 := by omega
      obtain ⟨tx, md, up, dn, bs⟩ := l
      simp only at c0 c1 c2 c3 d0 d1 d2 d3 HBX HBX' HBL
      have HJ := Lib.hid hj
      have hself2 : ((bn' : Int) != (bn' : Int)) = false := by simp
      have hj0 : (0 : Int) ≤ (j : Int) := by omega
      have hj1 : (j : Int) < (n : Int) := by omega
      have eb : wr.heap.size ≠ b := World.new_ne wr ⟨b, off + j * 5, none⟩ c0
      have eb' : wr.heap.size ≠ b' := World.new_ne wr ⟨b', off' + j * 5, none⟩ d0
      have hlt1 : b < wr.heap.size := World.block_lt_of_cell? wr ⟨b, off + j * 5, none⟩ c0
      have hlt2 : b' < wr.heap.size := World.block_lt_of_cell? wr ⟨b', off' + j * 5, none⟩ d0
      clear hk hj hb hrj hre hrj' hre' hlj hle hri hri' hp hp' e e' hbx hbx' hbl hbl' hcp hle1
      go_upto_region 6 with (fail)
      go_cut [6, 7] (fun x y wx => TwoLn w wr tx md up dn bo bc bo' bc' bn' x y wx)
      case first =>
        go_region_held3 (fun w' => w'.cell? ⟨b, off + j * 5, none⟩ = some (.string tx) ∧ w'.cell? ⟨b, off + j * 5 + 1, none⟩ = some (.bool md) ∧ w'.cell? ⟨b, off + j * 5 + 2, none⟩ = some (.int .i64 up) ∧ w'.cell? ⟨b, off + j * 5 + 3, none⟩ = some (.int .i64 dn) ∧ w'.cell? ⟨b, off + j * 5 + 4, none⟩ = some (.slice bo bn' bc) ∧
          w'.cell? ⟨b', off' + j * 5, none⟩ = some (.string tx) ∧ w'.cell? ⟨b', off' + j * 5 + 1, none⟩ = some (.bool md) ∧ w'.cell? ⟨b', off' + j * 5 + 2, none⟩ = some (.int .i64 up) ∧ w'.cell? ⟨b', off' + j * 5 + 3, none⟩ = some (.int .i64 dn) ∧ w'.cell? ⟨b', off' + j * 5 + 4, none⟩ = some (.slice bo' bn' bc')) (go_keep) (fail)
        all_goals
          go_wp2_with fail
          go_meet
          have h1 := two_alloc wr #[.string tx, .bool md, .int .i64 up, .int .i64 dn, .slice bo bn' bc] #[.string tx, .bool md, .int .i64 up, .int .i64 dn, .slice bo' bn' bc'] 31 31
          have h2 := two_alloc wr #[.string tx, .bool md, .int .i64 up, .int .i64 dn, .slice bo' bn' bc'] #[.string tx, .bool md, .int .i64 up, .int .i64 dn, .slice bo bn' bc] 31 31
          first
            | exact ⟨⟨wr.heap.size, wr.heap.size + 1, rfl, rfl, h1.1, h1.2.1, Nat.le_refl _, Nat.le_succ _⟩, h1.2.2.drew⟩
            | exact ⟨⟨wr.heap.size + 1, wr.heap.size, rfl, rfl, h2.2.1, h2.1, Nat.le_succ _, Nat.le_refl _⟩, h2.2.2.drew⟩
      case rest =>
        obtain ⟨⟨g, g', rfl, rfl, hg, hg', hgl, hgl'⟩, hbw⟩ := hcut
        have HG := Lib.hid hg
        have HG' := Lib.hid hg'
        have HBW := Lib.hid hbw
        have HGL : Hid (w.heap.size ≤ g ∧ w.heap.size ≤ g') := Lib.hid ⟨by have := HB.out.size; omega, by have := HB.out.size; omega⟩
        have HL1 := Lib.hid (lt_of_block hg)
        have HL2 := Lib.hid (lt_of_block hg')
        obtain ⟨⟨x0, x1, x2, x3, x4⟩, _⟩ := fresh_ln hg
        obtain ⟨⟨y0, y1, y2, y3, y4⟩, _⟩ := fresh_ln hg'
        clear hg hg' hbw
        obtain ⟨rb, hrb, hab⟩ := HBX.out.ex
        obtain ⟨rb', hrb', hab'⟩ := HBX'.out.ex
        have HRB := Lib.hid hrb
        have HRB' := Lib.hid hrb'
        have HAB : Hid (All2 (RbIs P w) rb bs) := Lib.hid hab
        have HAB' : Hid (All2 (RbIs P' w) rb' bs) := Lib.hid hab'
        clear hrb hrb' hab hab' c0 c1 c2 c3 c4 d0 d1 d2 d3 d4 hj0 hj1 eb eb' hlt1 hlt2
        have HST : Hid (InL w g g' tx md up dn bo bc bo' bc' bn' bn' (.int .i64 0) _) := Lib.hid ⟨0, rfl, rfl, HG.out, HG'.out, HB.out.trans (HBW.out.mono HB.out.size)⟩
        go_wp2_with fail
        go_loopg [8] bn' (fun k i wi => InL w g g' tx md up dn bo bc bo' bc' bn' k i wi)
        case atStart => exact HST.out
        case round =>
          obtain ⟨m, hk2, rfl, hg2, hg2', hb2⟩ := hrel
          have HK2 := Lib.hid hk2
          have HB2 := Lib.hid hb2
          have HG2 := Lib.hid hg2
          have HG2' := Lib.hid hg2'
          obtain ⟨⟨x0, x1, x2, x3, x4⟩, _⟩ := fresh_ln hg2
          obtain ⟨⟨y0, y1, y2, y3, y4⟩, _⟩ := fresh_ln hg2'
          by_cases hm : m < bn'
          · have dm : decide (m < bn') = true := decide_eq_true hm
            have hbs : m < bs.length := by have := HBL.out; omega
            have hrm : rb[m]? = some (rb[m]'(by rw [HAB.out.1]; exact hbs)) := List.getElem?_eq_getElem _
            obtain ⟨r, hre⟩ : ∃ r, r = rb[m]'(by rw [HAB.out.1]; exact hbs) := ⟨_, rfl⟩
            rw [← hre] at hrm
            have hrm' : rb'[m]? = some (rb'[m]'(by rw [HAB'.out.1]; exact hbs)) := List.getElem?_eq_getElem _
            obtain ⟨r', hre'⟩ : ∃ r', r' = rb'[m]'(by rw [HAB'.out.1]; exact hbs) := ⟨_, rfl⟩
            rw [← hre'] at hrm'
            have hxm : bs[m]? = some bs[m] := List.getElem?_eq_getElem _
            obtain ⟨x, hx⟩ : ∃ x, x = bs[m] := ⟨_, rfl⟩
            rw [← hx] at hxm
            have hri := HAB.out.2 m r x hrm hxm
            have hri' := HAB'.out.2 m r' x hrm' hxm
            obtain ⟨q, qo, rfl, hp, c0, c1, c2, c3, c4, c5, c6⟩ := reads_bx HRB.out m r hrm
            obtain ⟨q', qo', rfl, hp', d0, d1, d2, d3, d4, d5, d6⟩ := reads_bx HRB'.out m r' hrm'
            have e := fun o => hb2.cell (p := ⟨q, o, none⟩) (HP.out _ q hp)
            have e' := fun o => hb2.cell (p := ⟨q', o, none⟩) (HP'.out _ q' hp')
            rw [← e] at c0 c1 c2 c3 c4 c5 c6
            rw [← e'] at d0 d1 d2 d3 d4 d5 d6
            rw [hri.kd] at c0
            rw [hri.wd] at c1
            rw [hri.fo] at c2
            rw [hri.sz] at c3
            rw [hri.nm] at c4
            rw [hri.co] at c5
            rw [hri'.kd] at d0
            rw [hri'.wd] at d1
            rw [hri'.fo] at d2
            rw [hri'.sz] at d3
            rw [hri'.nm] at d4
            rw [hri'.co] at d5
            have hns := hri.ns
            have hns' := hri'.ns
            have hnn := hri.nn
            have hnn' := hri'.nn
            have hcp := hri.cap
            have hle1 := hri.le
            obtain ⟨_, _, _, _, _, _, no, nn, nc⟩ := r
            obtain ⟨_, _, _, _, _, _, no', nn', nc'⟩ := r'
            simp only at c6 d6 hns hns' hnn hnn' hcp hle1
            have hee : nn' = nn := by omega
            subst hee
            have HNQ := Lib.hid (fun W (hW : Below w.heap.size w W) => numbers_eq (c := nc) (c' := nc') (w := W) (P := fun b => b < w.heap.size) (P' := fun b => b < w.heap.size) (hns.keep fun b hb => ⟨hW.block b (HP.out _ b hb), HP.out _ b hb⟩) (hns'.keep fun b hb => ⟨hW.block b (HP'.out _ b hb), HP'.out _ b hb⟩) (by omega))
            obtain ⟨kd, wd, fo, sz, nm, co, ns⟩ := x
            simp only at c0 c1 c2 c3 c4 c5 d0 d1 d2 d3 d4 d5
            have HM := Lib.hid hm
            have hm0 : (0 : Int) ≤ (m : Int) := by omega
            have hm1 : (m : Int) < (bn' : Int) := by omega
            have eb := World.new_ne _ ⟨q, qo + m * 7, none⟩ c0
            have eb' := World.new_ne _ ⟨q', qo' + m * 7, none⟩ d0
            have eb2 := World.new_ne _ ⟨g, 4, none⟩ x4
            have eb3 := World.new_ne _ ⟨g', 4, none⟩ y4
            have hlt1 := World.block_lt_of_cell? _ ⟨q, qo + m * 7, none⟩ c0
            have hlt2 := World.block_lt_of_cell? _ ⟨q', qo' + m * 7, none⟩ d0
            have hlt3 := World.block_lt_of_cell? _ ⟨g, 4, none⟩ x4
            have hlt4 := World.block_lt_of_cell? _ ⟨g', 4, none⟩ y4
            simp only at eb eb' eb2 eb3 hlt1 hlt2 hlt3 hlt4
            clear hk2 hm hb2 hg2 hg2' hbs hrm hre hrm' hre' hxm hx hri hri' hp hp' e e' hns hns' hnn hnn' hcp hle1 x0 x1 x2 x3 y0 y1 y2 y3
            go_wp2_with fail
            go_upto_region 12 with (fail)
            go_cut [9, 10] (fun x y wx => TwoBx wr kd wd fo sz nm co no nc no' nc' nn' x y wx)
            case first =>
              go_region_held3 (fun w' => w'.cell? ⟨g, 4, none⟩ = some (.slice (some ⟨q, qo, none⟩) bn' bc) ∧ w'.cell? ⟨g', 4, none⟩ = some (.slice (some ⟨q', qo', none⟩) bn' bc') ∧ w'.cell? ⟨q, qo + m * 7, none⟩ = some (.int .i64 kd) ∧ w'.cell? ⟨q, qo + m * 7 + 1, none⟩ = some (.int .i64 wd) ∧ w'.cell? ⟨q, qo + m * 7 + 2, none⟩ = some (.int .i64 fo) ∧ w'.cell? ⟨q, qo + m * 7 + 3, none⟩ = some (.int .i64 sz) ∧ w'.cell? ⟨q, qo + m * 7 + 4, none⟩ = some (.string nm) ∧ w'.cell? ⟨q, qo + m * 7 + 5, none⟩ = some (.string co) ∧ w'.cell? ⟨q, qo + m * 7 + 6, none⟩ = some (.slice no nn' nc) ∧
                w'.cell? ⟨q', qo' + m * 7, none⟩ = some (.int .i64 kd) ∧ w'.cell? ⟨q', qo' + m * 7 + 1, none⟩ = some (.int .i64 wd) ∧ w'.cell? ⟨q', qo' + m * 7 + 2, none⟩ = some (.int .i64 fo) ∧ w'.cell? ⟨q', qo' + m * 7 + 3, none⟩ = some (.int .i64 sz) ∧ w'.cell? ⟨q', qo' + m * 7 + 4, none⟩ = some (.string nm) ∧ w'.cell? ⟨q', qo' + m * 7 + 5, none⟩ = some (.string co) ∧ w'.cell? ⟨q', qo' + m * 7 + 6, none⟩ = some (.slice no' nn' nc')) (go_keep) (fail)
              all_goals
                go_wp2_with fail
                go_meet
                have h1 := two_alloc wr #[.int .i64 kd, .int .i64 wd, .int .i64 fo, .int .i64 sz, .string nm, .string co, .slice no nn' nc] #[.int .i64 kd, .int .i64 wd, .int .i64 fo, .int .i64 sz, .string nm, .string co, .slice no' nn' nc'] 85 85
                have h2 := two_alloc wr #[.int .i64 kd, .int .i64 wd, .int .i64 fo, .int .i64 sz, .string nm, .string co, .slice no' nn' nc'] #[.int .i64 kd, .int .i64 wd, .int .i64 fo, .int .i64 sz, .string nm, .string co, .slice no nn' nc] 85 85
                first
                  | exact ⟨⟨wr.heap.size, wr.heap.size + 1, rfl, rfl, h1.1, h1.2.1⟩, h1.2.2.drew⟩
                  | exact ⟨⟨wr.heap.size + 1, wr.heap.size, rfl, rfl, h2.2.1, h2.1⟩, h2.2.2.drew⟩
            case rest =>
              obtain ⟨⟨p, p', rfl, rfl, hp, hp'⟩, hbw3⟩ := hcut
              have HBW3 := Lib.hid hbw3
              have HX1 := Lib.hid ((hbw3.block _ hlt3).trans HG2.out)
              have HX2 := Lib.hid ((hbw3.block _ hlt4).trans HG2'.out)
              have HB3 := Lib.hid (HB2.out.trans (hbw3.mono HB2.out.size))
              obtain ⟨⟨u0, u1, u2, u3, u4, u5, u6⟩, _⟩ := fresh_bx hp
              obtain ⟨⟨v0, v1, v2, v3, v4, v5, v6⟩, _⟩ := fresh_bx hp'
              clear hp hp' hbw3 c0 c1 c2 c3 c4 c5 c6 d0 d1 d2 d3 d4 d5 d6 eb eb' eb2 eb3 hlt1 hlt2 hlt3 hlt4 x4 y4 hm0 hm1
              go_wp2_with fail
              refine (HNQ.out _ HB3.out).mono ?_
              rintro e wz ⟨rfl, hbz⟩
              have HZ1 := Lib.hid ((hbz.block _ (lt_of_block HX1.out)).trans HX1.out)
              have HZ2 := Lib.hid ((hbz.block _ (lt_of_block HX2.out)).trans HX2.out)
              have HBZ := Lib.hid (HB3.out.trans (hbz.mono HB3.out.size))
              clear hbz
              go_wp2_with fail
              go_roundg (gk - 1)
              case measure => have := HK2.out; have := HM.out; omega
              case rel => have := HK2.out; have := HM.out; exact ⟨m + 1, by omega, by congr 1; rw [IntWalk.wrap64_in _ (by omega)]; omega, HZ1.out, HZ2.out, HBZ.out⟩
          · have dm : decide (m < bn') = false := decide_eq_false hm
            clear hk2 hm hb2 hg2 hg2' x0 x1 x2 x3 y0 y1 y2 y3
            go_wp2_with fail
            go_roundg (n - (j + 1))
            case measure => have := HK.out; have := HJ.out; omega
            case rel => have := HJ.out; exact ⟨j + 1, by omega, by congr 1; rw [IntWalk.wrap64_in _ (by omega)]; omega, HB2.out⟩
    · have dj : decide (j < n) = false := decide_eq_false hj
      clear hk hj hb
      go_wp2_with fail
      go_ret
      exact ⟨rfl, HB.out⟩
end Go.Proofs.YtfobbcddedcepaaDoor
