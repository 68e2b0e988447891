/- The document's book in memory; where a name stands. -/
import Derived.Test.YtedbdpklliaoaaaGreatDoorR1
import Derived.BigQuiet
namespace Go.Proofs.YtedbdpklliaoaaaGreatDoor
open Go.RowKit Go.Shelf Go.Maps
set_option maxRecDepth 100000
/-- The document's book in memory: from block B on. -/
structure RK (B bx : Nat) (v : Value) (L : List Reg) (w : World) : Prop where
  cell : w.heap[bx]? = some (.cells #[v] 29 (0, 0))
  row : w.ownsRow B 74 4 v L.length (rowOf L)
  ne : v.ownBlock ≠ some bx
  bx : B ≤ bx
theorem RK.c0 {B bx : Nat} {v : Value} {L : List Reg} {w : World} (h : RK B bx v L w) : w.cell? ⟨bx, 0, none⟩ = some v := by simp [World.cell?, h.cell]
theorem RK.val {B bx : Nat} {v : Value} {L : List Reg} {w : World} (h : RK B bx v L w) : ∃ o cap, v = .slice o L.length cap ∧ (cap : Int) ≤ 9223372036854775807 ∧ L.length ≤ cap := by
  rcases h.row.2 with ⟨hv, hn⟩ | ⟨g, cap, cur, hv, _, _, h1, h2, _⟩
  · exact ⟨none, 0, by rw [hv, hn], by omega, by omega⟩
  · exact ⟨_, _, hv, by unfold maxLen at h2; omega, h1⟩
theorem RK.at_ {B bx : Nat} {o : Option Addr} {n cap : Nat} {L : List Reg} {w : World} (h : RK B bx (.slice o n cap) L w) (i : Nat) (hi : i < L.length) :
    ∃ g, o = some ⟨g, 0, none⟩ ∧ w.cell? ⟨g, i * 4, none⟩ = some (.string ⟨(L[i]).nm.toArray⟩) ∧ w.cell? ⟨g, i * 4 + 1, none⟩ = some (.int .i64 (L[i]).v) ∧ w.cell? ⟨g, i * 4 + 2, none⟩ = some (.int .i64 (L[i]).st) ∧ w.cell? ⟨g, i * 4 + 3, none⟩ = some (.string ⟨(L[i]).fm.toArray⟩) := by
  rcases h.row.2 with ⟨hv, hn⟩ | ⟨g, cap', cur, hv, _, hh, h1, h2, h3, h4⟩
  · omega
  · obtain ⟨rfl, rfl, rfl⟩ : o = some ⟨g, 0, none⟩ ∧ n = L.length ∧ cap = cap' := by simpa using hv
    obtain ⟨a0, a1, a2, a3⟩ := row_at L i hi
    rw [← h4] at a0 a1 a2 a3
    rw [List.getElem?_take, if_pos (by omega)] at a0 a1 a2 a3
    rw [Array.getElem?_toList] at a0 a1 a2 a3
    exact ⟨g, rfl, by simp [World.cell?, hh, a0], by simp [World.cell?, hh, a1], by simp [World.cell?, hh, a2], by simp [World.cell?, hh, a3]⟩
theorem bl_bytes (l : List UInt8) (s : ByteArray) (h : Op.bytesLess l s.data.toList = true) : Op.bytesLess (⟨l.toArray⟩ : ByteArray).toList s.toList = true := by
  rw [Lib.toList_data, Lib.toList_data]; exact h
theorem bn_bytes (l : List UInt8) (s : ByteArray) (h : Op.bytesLess l s.data.toList = false) : Op.bytesLess (⟨l.toArray⟩ : ByteArray).toList s.toList = false := by
  rw [Lib.toList_data, Lib.toList_data]; exact h
theorem be_bytes (l : List UInt8) (s : ByteArray) : ((⟨l.toArray⟩ : ByteArray).toList == s.toList) = (l == s.data.toList) := by
  rw [Lib.toList_data, Lib.toList_data]
theorem below_dn (w : World) (n : Nat) : Below w.heap.size w (w.drewN n) := ⟨rfl, rfl, rfl, Nat.le_refl _, fun _ _ => rfl⟩
def AtR (L : List Reg) (nm : List UInt8) (w : World) (k : Nat) (i : Value) (wr : World) : Prop :=
  ∃ j : Nat, k + j = ixS L nm ∧ i = .int .i64 j ∧ wr = w
set_option maxHeartbeats 1000000 in
theorem rat_any {B bx : Nat} {v : Value} {L : List Reg} {w : World} (h : RK B bx v L w) (hl : L.length ≤ 500) (s : ByteArray) : Calls Tryz.prog 54 #[BP bx, .string s] w fun e w' => e = .returned (.tuple #[.int .i64 (ixS L s.data.toList), .bool (atS L s.data.toList)]) ∧ Below w.heap.size w w' := by
  obtain ⟨o, cap, rfl, hcap, hlc⟩ := h.val
  have H := Lib.hid h
  have hc := h.c0
  clear h
  go_enter Tryz.func54, Tryz.ntmps54
  go_wp2_with fail
  go_loopg [6] (ixS L s.data.toList) (fun k i wr => AtR L s.data.toList w k i wr)
  case atStart => exact ⟨0, rfl, rfl, rfl⟩
  case round =>
    obtain ⟨j, hk, rfl, rfl⟩ := hrel
    have hjl := ix_le L s.data.toList
    by_cases hj : j < ixS L s.data.toList
    · have hjL : j < L.length := by omega
      have d1 : decide (j < L.length) = true := decide_eq_true hjL
      obtain ⟨g, rfl, c0, c1, c2, c3⟩ := H.out.at_ j hjL
      have hlt := bl_bytes (L[j]).nm s (ix_lt L s.data.toList j hj hjL)
      obtain ⟨x, hx⟩ : ∃ x : ByteArray, x = ⟨(L[j]).nm.toArray⟩ := ⟨_, rfl⟩
      rw [← hx] at c0 hlt
      have HK := Lib.hid hk
      have HJ := Lib.hid hj
      have hj5 : j < 1000 := by omega
      clear hk hj hx c1 c2 c3 hjl
      go_wp2_with fail
      go_roundg (gk - 1)
      case measure => have := HK.out; have := HJ.out; omega
      case rel => have := HK.out; have := HJ.out; exact ⟨j + 1, by omega, by go_num, rfl⟩
    · have hje : j = ixS L s.data.toList := by omega
      by_cases hjL : j < L.length
      · have d1 : decide (j < L.length) = true := decide_eq_true hjL
        obtain ⟨g, rfl, c0, c1, c2, c3⟩ := H.out.at_ j hjL
        have hlt := bn_bytes (L[j]).nm s (by simp only [hje]; exact ix_not L s.data.toList (by omega))
        have heq := be_bytes (L[j]).nm s
        have HAT := Lib.hid (show atS L s.data.toList = ((L[j]).nm == s.data.toList) by unfold atS; rw [← hje, List.getElem?_eq_getElem hjL])
        obtain ⟨x, hx⟩ : ∃ x : ByteArray, x = ⟨(L[j]).nm.toArray⟩ := ⟨_, rfl⟩
        rw [← hx] at c0 hlt heq
        have HJ := Lib.hid hje
        have hj5 : j < 1000 := by omega
        clear hk hj hx c1 c2 c3 hjl hje
        go_wp2_with fail
        go_quiet (fail)
        go_wp2_with fail
        go_ret2
        rw [HAT.out, ← HJ.out]
        exact ⟨rfl, below_dn _ _⟩
      · have d1 : decide (j < L.length) = false := decide_eq_false hjL
        have HAT := Lib.hid (show atS L s.data.toList = false by unfold atS; rw [← hje, List.getElem?_eq_none (by omega)])
        have HJ := Lib.hid hje
        clear hk hj hjl hje
        go_wp2_with fail
        go_quiet (fail)
        go_wp2_with fail
        go_ret2
        rw [HAT.out, ← HJ.out]
        exact ⟨rfl, below_dn _ _⟩
end Go.Proofs.YtedbdpklliaoaaaGreatDoor
