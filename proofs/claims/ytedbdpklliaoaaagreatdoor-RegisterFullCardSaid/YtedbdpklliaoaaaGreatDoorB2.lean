/- The code's book: a register is looked up, told, asked for. -/
import Derived.Test.YtedbdpklliaoaaaGreatDoorB1
namespace Go.Proofs.YtedbdpklliaoaaaGreatDoor
open Go.RowKit Go.Shelf Go.Maps
set_option maxRecDepth 100000
abbrev BP (b : Nat) : Value := .pointer (some ⟨b, 0, none⟩)
theorem made_any {bb mb : Nat} {L : List Reg} {w : World} (h : BK bb mb L w) : Calls Tryz.prog 34 #[BP bb] w fun e w' => e = .returned (.bool true) ∧ w = w' := by
  have hc := h.c0
  have hmn := fun (w : World) (r : Option Nat) => run_neq_map_nil (P := Tryz.prog) w 54 9 60 r Tryz.underlying54
  clear h
  go_enter Tryz.func34, Tryz.ntmps34
  go_wp2_with fail
  go_ret
  exact ⟨rfl, rfl⟩
/-- A look-up whose element is known. -/
theorem wpList_lookup_reg (w : World) {ops : Array Oper} {rest : List Oper} {o : Oper} {a : Act} {Q : Exit → Act → World → Prop}
    (hg : o.guard = none) (m x : Operand) (hop : o.op = Op.lookup 54 m x true) (b n : Nat) (D : DataW Unit) (s : ByteArray) (hs : s.size ≤ maxLen) (r : Reg) (t : Bool)
    (hm : a.eval m = .map (some b)) (hown : w.ownsMap Tryz.prog 9 regElem b n D) (hx : a.eval x = .string s) (hat : D.atKey (.string s.data.toList) (regD ⟨[], 0, 0, []⟩) = regD r) (ht : Maps.has D (.string s.data.toList) = t)
    (hK : wpList Tryz.prog ops Q rest (a.put o.dst (.tuple #[regV r, .bool t])) w) : wpList Tryz.prog ops Q (o :: rest) a w :=
  wpList_lookup_own_ok w hg m x 54 hop 9 60 law Tryz.underlying54 regElem (zeroReg w) (regD ⟨[], 0, 0, []⟩) [] rfl b n D hm hown _ _ hx (WideMaps.keyOf_string_mk Tryz.underlying9 hs) (fun v ps hv => by
    rw [hat] at hv
    obtain rfl := regElem_inv hv
    rw [ht]
    exact hK)
theorem wpList_lookup_none (w : World) {ops : Array Oper} {rest : List Oper} {o : Oper} {a : Act} {Q : Exit → Act → World → Prop}
    (hg : o.guard = none) (m x : Operand) (hop : o.op = Op.lookup 54 m x true) (b n : Nat) (D : DataW Unit) (s : ByteArray) (hs : s.size ≤ maxLen)
    (hm : a.eval m = .map (some b)) (hown : w.ownsMap Tryz.prog 9 regElem b n D) (hx : a.eval x = .string s) (ht : Maps.has D (.string s.data.toList) = false)
    (hK : wpList Tryz.prog ops Q rest (a.put o.dst (.tuple #[.agg #[.int .i64 0, .int .i64 0, .string ⟨#[]⟩], .bool false])) w) : wpList Tryz.prog ops Q (o :: rest) a w :=
  wpList_lookup_reg w hg m x hop b n D s hs ⟨[], 0, 0, []⟩ false hm hown hx (atKey_of_not_has ht _) ht hK
/-- What is looked up at a name. -/
def findR (L : List Reg) (nm : List UInt8) : Reg := if okNm nm then getS L nm else ⟨[], 0, 0, []⟩
def regA (r : Reg) : Value := .agg #[.int .i64 r.v, .int .i64 r.st, .string ⟨r.fm.toArray⟩]
abbrev Z0 : Value := .agg #[.int .i64 0, .int .i64 0, .string ⟨#[]⟩]
/-- A fresh cell for a register, in a later world. -/
theorem fresh_reg {b : Nat} {x y z : Value} {w : World} (h : w.heap[b]? = some (.cells #[x, y, z] 60 (0, 0))) : (w.cell? ⟨b, 0, none⟩ = some x ∧ w.cell? ⟨b, 1, none⟩ = some y ∧ w.cell? ⟨b, 2, none⟩ = some z) ∧ (w.frozen? ⟨b, 0, none⟩ = false ∧ w.frozen? ⟨b, 1, none⟩ = false ∧ w.frozen? ⟨b, 2, none⟩ = false) := by
  simp [World.cell?, World.frozen?, h]
theorem find_bad {bb mb : Nat} {L : List Reg} {w : World} (h : BK bb mb L w) (s : ByteArray) (hn : okNm s.data.toList = false) : Calls Tryz.prog 36 #[BP bb, .string s] w fun e w' => e = .returned (.tuple #[Z0, .bool false, .int .i64 6]) ∧ Below w.heap.size w w' := by
  have hb0 : Below w.heap.size w (w.alloc (.cells #[.int .i64 0, .int .i64 0, .string ⟨#[]⟩] 60)) := (Below.refl _ _).alloc (Nat.le_refl _) _
  have H := Lib.hid (h.below hb0)
  have HB0 := Lib.hid hb0
  have HV := Lib.hid (fun W => validName_any s W)
  rw [hn] at HV
  clear h hn hb0
  go_enter Tryz.func36, Tryz.ntmps36
  go_wp2_with fail
  refine (made_any H.out).mono ?_
  rintro e w1 ⟨rfl, rfl⟩
  go_wp2_with fail
  refine (HV.out _).mono ?_
  rintro e w2 ⟨rfl, hb⟩
  have HB := Lib.hid (HB0.out.trans (hb.mono (by simp)))
  have hblk : w2.heap[w.heap.size]? = some (.cells #[.int .i64 0, .int .i64 0, .string ⟨#[]⟩] 60 (0, 0)) := (hb.block _ (by simp)).trans (heap_alloc_new _ _)
  obtain ⟨⟨hc0, hc1, hc2⟩, hf0, hf1, hf2⟩ := fresh_reg hblk
  have HBLK := Lib.hid hblk
  clear hb hblk
  go_wp2_with fail
  refine bodyPost_ret (v := .tuple #[Z0, .bool false, .int .i64 6]) (by simp [results, Tryz.results36, go_sem, hc0, hc1, hc2]) rfl ⟨rfl, ?_⟩
  exact ((HB.out.setCell (p := ⟨w.heap.size, 0, none⟩) (Nat.le_refl _) _).setCell (p := ⟨w.heap.size, 1, none⟩) (Nat.le_refl _) _).setCell (p := ⟨w.heap.size, 2, none⟩) (Nat.le_refl _) _
/-- The end of find: the register lies in a cell. -/
theorem find_end {a : Act} {W' : World} {g : Nat} {x y z t e : Value} {Q : Ending → World → Prop} (hd : a.defers = []) (h4 : a.tmps.getD 4 undef = .pointer (some ⟨g, 0, none⟩)) (h5 : a.tmps.getD 5 undef = t) (h6 : a.tmps.getD 6 undef = e)
    (hg : W'.heap[g]? = some (.cells #[x, y, z] 60 (0, 0))) (hQ : Q (.returned (.tuple #[.agg #[x, y, z], t, e])) W') : bodyPost Tryz.prog Tryz.f36 Q Exit.ret a W' := by
  have h4' : a.tmps[4]?.getD undef = .pointer (some ⟨g, 0, none⟩) := by simpa using h4
  have h5' : a.tmps[5]?.getD undef = t := by simpa using h5
  have h6' : a.tmps[6]?.getD undef = e := by simpa using h6
  refine bodyPost_ret (v := .tuple #[.agg #[x, y, z], t, e]) ?_ hd hQ
  obtain ⟨⟨c0, c1, c2⟩, _⟩ := fresh_reg hg
  simp [results, Tryz.results36, h4', h5', h6', go_sem, c0, c1, c2]
abbrev tup3 (r : Reg) (t : Bool) (e : Int) : Value := .tuple #[.agg #[.int .i64 r.v, .int .i64 r.st, .string ⟨r.fm.toArray⟩], .bool t, .int .i64 e]
set_option maxHeartbeats 1000000 in
theorem find_yes {bb mb : Nat} {L : List Reg} {w : World} (h : BK bb mb L w) (s : ByteArray) (hn : okNm s.data.toList = true) (r : Reg) (hr : getS L s.data.toList = r) (ht : hasS L s.data.toList = true) :
    Calls Tryz.prog 36 #[BP bb, .string s] w fun e w' => e = .returned (tup3 r true 0) ∧ Below w.heap.size w w' := by
  have hb0 : Below w.heap.size w (w.alloc (.cells #[.int .i64 0, .int .i64 0, .string ⟨#[]⟩] 60)) := (Below.refl _ _).alloc (Nat.le_refl _) _
  have H := Lib.hid (h.below hb0)
  have HB0 := Lib.hid hb0
  have HV := Lib.hid (fun W => validName_any s W)
  rw [hn] at HV
  have hs : s.size ≤ maxLen := by
    rw [okNm_eq] at hn
    simp only [Bool.and_eq_true, decide_eq_true_eq] at hn
    unfold maxLen; omega
  have HS := Lib.hid hs
  have HTT := Lib.hid ht
  clear h hn hb0 hs ht
  go_enter Tryz.func36, Tryz.ntmps36
  go_wp2_with fail
  refine (made_any H.out).mono ?_
  rintro e w1 ⟨rfl, rfl⟩
  go_wp2_with fail
  refine (HV.out _).mono ?_
  rintro e w2 ⟨rfl, hb⟩
  have HB := Lib.hid (HB0.out.trans (hb.mono (by simp)))
  have hblk : w2.heap[w.heap.size]? = some (.cells #[.int .i64 0, .int .i64 0, .string ⟨#[]⟩] 60 (0, 0)) := (hb.block _ (by simp)).trans (heap_alloc_new _ _)
  obtain ⟨⟨hc0, hc1, hc2⟩, hf0, hf1, hf2⟩ := fresh_reg hblk
  have HBLK := Lib.hid hblk
  have hbk : BK bb mb L w2 := H.out.below hb
  have hcb := hbk.c0
  have hlt := hbk.lt
  have hbne : bb ≠ w.heap.size := by
    intro e
    have h1 := hbk.cell
    rw [e, hblk] at h1
    simp at h1
  obtain ⟨D, hown, his⟩ := hbk.map
  have HOWN := Lib.hid hown
  have HIS : Hid (MapIs D L) := Lib.hid his
  clear hb hblk hbk hown his
  have HAT := Lib.hid (HIS.out.at_ s.data.toList HTT.out (regD ⟨[], 0, 0, []⟩))
  rw [hr] at HAT
  have HHAS := Lib.hid ((HIS.out.has s.data.toList).trans HTT.out)
  clear hr
  go_wp2_with (at_lookup; refine wpList_lookup_reg _ rfl _ _ rfl mb L.length D s HS.out r true rfl HOWN.out rfl HAT.out HHAS.out ?_; unfold regV)
  refine find_end rfl rfl rfl rfl ?_ ⟨rfl, ?_⟩
  · simp [World.setCell, Array.getElem?_modify, HBLK.out]
  · repeat (with_reducible refine Below.setCell ?_ (Nat.le_refl w.heap.size) _)
    exact HB.out
end Go.Proofs.YtedbdpklliaoaaaGreatDoor
