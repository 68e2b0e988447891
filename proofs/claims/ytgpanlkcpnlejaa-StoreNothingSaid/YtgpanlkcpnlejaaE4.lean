/- Deeds in a slice; big. -/
import Derived.Test.YtgpanlkcpnlejaaE3
set_option linter.unusedSimpArgs false
set_option linter.unusedVariables false
namespace Go.Proofs.Ytgpanlkcpnlejaa
open Go.RowKit Go.Maps
set_option maxRecDepth 100000
structure Dd where
  k : Int
  nm : ByteArray
  ot : ByteArray
  tx : ByteArray
  A : Option Addr
  n : Nat
  c : Nat
  a : Int
  b : Int
  ls : List Ln
def ddCs (d : Dd) : List Value := [.int .i64 d.k, .string d.nm, .string d.ot, .string d.tx, .slice d.A d.n d.c, .int .i64 d.a, .int .i64 d.b]
theorem dd_len (d : Dd) : (ddCs d).length = 7 := rfl
structure DdOk (W : World) (d : Dd) : Prop where
  ls : LnsAt (fun _ b => b < W.heap.size) W d.A d.n d.ls
  nil : d.A = none → d.n = 0
  le : d.n ≤ d.c
  cap : (d.c : Int) ≤ 9223372036854775807
  fit : d.n * 64 ≤ 140737488351232
  txs : ∀ l ∈ d.ls, l.tx.size ≤ 140737488351232
  nm : d.nm.size ≤ 140737488351232
  ot : d.ot.size ≤ 140737488351232
  tx : d.tx.size ≤ 140737488351232
  k9 : I64 d.k
  a9 : I64 d.a
  b9 : I64 d.b
theorem reads_dd {P : Nat → Prop} {w : World} {A : Option Addr} {n : Nat} {ds : List Dd} (h : ReadsP P w 7 A n (ds.flatMap ddCs)) (j : Nat) (r : Dd) (hr : ds[j]? = some r) :
    ∃ b off, A = some ⟨b, off, none⟩ ∧ P b ∧ w.cell? ⟨b, off + j * 7, none⟩ = some (.int .i64 r.k) ∧ w.cell? ⟨b, off + j * 7 + 1, none⟩ = some (.string r.nm) ∧ w.cell? ⟨b, off + j * 7 + 2, none⟩ = some (.string r.ot) ∧ w.cell? ⟨b, off + j * 7 + 3, none⟩ = some (.string r.tx) ∧ w.cell? ⟨b, off + j * 7 + 4, none⟩ = some (.slice r.A r.n r.c) ∧ w.cell? ⟨b, off + j * 7 + 5, none⟩ = some (.int .i64 r.a) ∧ w.cell? ⟨b, off + j * 7 + 6, none⟩ = some (.int .i64 r.b) := by
  have hjl : j < ds.length := (List.getElem?_eq_some_iff.1 hr).1
  have h1 := h.1
  rw [fm_len dd_len] at h1
  obtain ⟨b, off, hA, hp, hc⟩ := h.2 (by omega)
  have key := fun k (hk : k < 7) => fm_at dd_len ds j k r hr hk
  have key2 : ∀ k (hk : k < 7) u, (ddCs r)[k]? = some u → w.cell? ⟨b, off + j * 7 + k, none⟩ = some u := by
    intro k hk u hu
    have := hc _ _ ((key k hk).trans hu)
    rwa [← Nat.add_assoc] at this
  exact ⟨b, off, hA, hp, key2 0 (by omega) _ rfl, key2 1 (by omega) _ rfl, key2 2 (by omega) _ rfl, key2 3 (by omega) _ rfl, key2 4 (by omega) _ rfl, key2 5 (by omega) _ rfl, key2 6 (by omega) _ rfl⟩
def BgR (w : World) (n k : Nat) (x i : Value) (wr : World) : Prop := ∃ j : Nat, k + j = n ∧ i = .int .i64 j ∧ (∃ m : Int, x = .int .i64 m) ∧ wr.heap = w.heap ∧ Below w.heap.size w wr
theorem bg_cases (j n : Nat) (m : Int) : (decide (j < n) = true ∧ decide (m < 6000) = true) ∨ (decide (j < n) = true ∧ decide (m < 6000) = false) ∨ decide (j < n) = false := by
  rcases Bool.eq_false_or_eq_true (decide (j < n)) with h | h
  · rcases Bool.eq_false_or_eq_true (decide (m < 6000)) with h' | h'
    · exact .inl ⟨h, h'⟩
    · exact .inr (.inl ⟨h, h'⟩)
  · exact .inr (.inr h)
def IsB (e : Ending) : Prop := ∃ t, e = .returned (.bool t)
set_option maxHeartbeats 4000000 in
theorem big_any {w : World} (A : Option Addr) (n c : Nat) (ds : List Dd) (hn : n = ds.length) (hn9 : (n : Int) ≤ 9223372036854775807) (hr : ReadsP (fun b => b < w.heap.size) w 7 A n (ds.flatMap ddCs)) (hd : ∀ d ∈ ds, DdOk w d) :
    Calls Try.prog 19 #[.slice A n c] w fun e w' => IsB e ∧ Below w.heap.size w w' := by
  have HN := Lib.hid hn
  have HR := Lib.hid hr
  have HD := Lib.hid hd
  clear hn hr hd
  go_enter Try.func19, Try.ntmps19
  go_wp2_with fail
  go_loopg [3, 4] n (fun k x i wr => BgR w n k x i wr)
  case atStart => exact ⟨0, rfl, rfl, ⟨0, rfl⟩, rfl, Below.refl _ _⟩
  case round =>
    obtain ⟨j, hk, rfl, ⟨m, rfl⟩, hh, hb⟩ := hrel
    have HK := Lib.hid hk
    have HH := Lib.hid hh
    have HB := Lib.hid hb
    have hc := bg_cases j n m
    rcases hc with ⟨dj, dm⟩ | ⟨dj, dm⟩ | dj
    · have hj : j < n := of_decide_eq_true dj
      have hdj : ds[j]? = some (ds[j]'(by have := HN.out; omega)) := List.getElem?_eq_getElem (by have := HN.out; omega)
      obtain ⟨r, hre⟩ : ∃ r, r = ds[j]'(by have := HN.out; omega) := ⟨_, rfl⟩
      rw [← hre] at hdj
      obtain ⟨b, off, rfl, hbl, _, _, _, c3, c4, _, _⟩ := reads_dd HR.out j r hdj
      have hok := HD.out r (List.mem_of_getElem? hdj)
      have HOK := Lib.hid hok
      have key : ∀ p : Addr, wr.cell? p = w.cell? p := fun p => by unfold World.cell?; rw [HH.out]
      rw [← key] at c3 c4
      obtain ⟨dk, nm, ot, tx, dA, dn, dc, da, db, dls⟩ := r
      simp only at c3 c4
      have hdn : dn * 64 ≤ 140737488351232 := hok.fit
      have htx : tx.size ≤ 140737488351232 := hok.tx
      have HJ := Lib.hid hj
      have hj0 : (0 : Int) ≤ (j : Int) := by omega
      have hj1 : (j : Int) < (n : Int) := by omega
      have C3 := Lib.hid ((key _).symm.trans c3)
      have C4 := Lib.hid ((key _).symm.trans c4)
      clear hk hj hh hb hbl hok key hre hdj
      go_wp2_with fail
      go_quiet (fail)
      go_wp2_with fail
      go_loopg [3, 5] dn (fun k x i wi => BgR w dn k x i wi)
      case atStart => exact ⟨0, rfl, rfl, ⟨_, rfl⟩, HH.out, ⟨HB.out.os, HB.out.tape, HB.out.output, HB.out.size, HB.out.block⟩⟩
      case round =>
        obtain ⟨j2, hk2, rfl, ⟨m2, rfl⟩, hh2, hb2⟩ := hrel
        have HK2 := Lib.hid hk2
        have HH2 := Lib.hid hh2
        have HB2 := Lib.hid hb2
        have key : ∀ p : Addr, wr.cell? p = w.cell? p := fun p => by unfold World.cell?; rw [HH2.out]
        have c4 := (key _).trans C4.out
        have hc := bg_cases j2 dn m2
        rcases hc with ⟨dj2, dm2⟩ | ⟨dj2, dm2⟩ | dj2
        · have hj2 : j2 < dn := of_decide_eq_true dj2
          have HJ2 := Lib.hid hj2
          obtain ⟨⟨rs, hr, ha⟩, hl⟩ := HOK.out.ls
          simp only at hr ha hl
          have hrl : rs.length = dn := by rw [ha.1, hl]
          have hrj : rs[j2]? = some (rs[j2]'(by omega)) := List.getElem?_eq_getElem (by omega)
          obtain ⟨r2, hre⟩ : ∃ r2, r2 = rs[j2]'(by omega) := ⟨_, rfl⟩
          rw [← hre] at hrj
          obtain ⟨b2, off2, rfl, hbl2, e0, _, _, _, e4⟩ := reads_ln hr j2 r2 hrj
          rw [← key] at e0 e4
          obtain ⟨ltx, lmd, lup, ldn, lbo, lbn, lbc⟩ := r2
          simp only at e0 e4
          have hj20 : (0 : Int) ≤ (j2 : Int) := by omega
          have hj21 : (j2 : Int) < (dn : Int) := by omega
          clear hk2 hh2 hb2 key hr ha hl hrl hrj hre hbl2 hj2
          go_wp2_with fail
          go_quiet (fail)
          go_wp2_with fail
          go_roundg (gk - 1)
          case measure => have := HK2.out; have := HJ2.out; omega
          case rel => have := HK2.out; have := HJ2.out; exact ⟨j2 + 1, by omega, by first | go_num | (congr 1; rw [IntWalk.wrap64_in _ (by omega)]; omega), ⟨_, rfl⟩, HH2.out, ⟨HB2.out.os, HB2.out.tape, HB2.out.output, HB2.out.size, HB2.out.block⟩⟩
        · clear hk2 hh2 hb2 key
          go_wp2_with fail
          go_roundg (n - (j + 1))
          case measure => have := HK.out; have := HJ.out; omega
          case rel => have := HJ.out; exact ⟨j + 1, by omega, by first | go_num | (congr 1; rw [IntWalk.wrap64_in _ (by omega)]; omega), ⟨_, rfl⟩, HH2.out, ⟨HB2.out.os, HB2.out.tape, HB2.out.output, HB2.out.size, HB2.out.block⟩⟩
        · clear hk2 hh2 hb2 key
          go_wp2_with fail
          go_roundg (n - (j + 1))
          case measure => have := HK.out; have := HJ.out; omega
          case rel => have := HJ.out; exact ⟨j + 1, by omega, by first | go_num | (congr 1; rw [IntWalk.wrap64_in _ (by omega)]; omega), ⟨_, rfl⟩, HH2.out, ⟨HB2.out.os, HB2.out.tape, HB2.out.output, HB2.out.size, HB2.out.block⟩⟩
    · clear hk hh hb
      go_wp2_with fail
      all_goals
        go_ret
        exact ⟨⟨_, rfl⟩, HB.out⟩
    · clear hk hh hb
      go_wp2_with fail
      all_goals
        go_ret
        exact ⟨⟨_, rfl⟩, HB.out⟩
end Go.Proofs.Ytgpanlkcpnlejaa
