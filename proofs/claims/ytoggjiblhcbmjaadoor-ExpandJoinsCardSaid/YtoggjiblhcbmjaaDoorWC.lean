/- The asking, of both. -/
import Derived.Test.YtoggjiblhcbmjaaDoorWB
namespace Go.Proofs.YtoggjiblhcbmjaaDoor
open Go.RowKit Go.Shelf
set_option maxRecDepth 100000
theorem look_any {B tb n : Nat} {w : World} (h : Tl B tb n w) (hB : B ≤ w.heap.size) (hn : n ≤ 100000) (k : Int) (nm : ByteArray) (st : Int) : Calls Tryd.prog 15 #[.pointer (some ⟨tb, 0, none⟩), .int .u8 k, .string nm, .int .i64 st] w fun e w' => e = .returned (.string ⟨#[]⟩) ∧ AnP B tb (n + 1) w w' := by
  have HA := Lib.hid (answer_any h hB hn k nm st)
  clear h
  go_enter Tryd.func15, Tryd.ntmps15
  go_wp2_with fail
  refine HA.out.mono ?_
  rintro e w1 ⟨rfl, h⟩
  have H := Lib.hid h
  clear h
  go_wp2_with fail
  go_ret
  exact ⟨rfl, H.out⟩
/-- An expansion in memory. -/
def Xp (cp : Bool) (lk : Value) (B xb n : Nat) (w : World) : Prop := B ≤ xb ∧ w.heap[xb]? = some (.cells #[.bool cp, lk, .int .i64 (n : Int)] 58 (0, 0))
theorem Xp.lt {cp : Bool} {lk : Value} {B xb n : Nat} {w : World} (h : Xp cp lk B xb n w) : xb < w.heap.size := (Array.getElem?_eq_some_iff.1 h.2).1
theorem Xp.sk {cp : Bool} {lk : Value} {B xb n : Nat} {w w' : World} (h : Xp cp lk B xb n w) (k : Sk w w') : Xp cp lk B xb n w' := ⟨h.1, k _ _ h.2 ⟨_, _, _, rfl, .inl rfl⟩⟩
theorem Xp.cells {cp : Bool} {lk : Value} {B xb n : Nat} {w : World} (h : Xp cp lk B xb n w) : w.cell? ⟨xb, 0, none⟩ = some (.bool cp) ∧ w.cell? ⟨xb, 1, none⟩ = some lk ∧ w.cell? ⟨xb, 2, none⟩ = some (.int .i64 (n : Int)) ∧ w.frozen? ⟨xb, 2, none⟩ = false := by
  have := h.2
  simp [World.cell?, World.frozen?, this]
theorem Xp.set {cp : Bool} {lk : Value} {B xb n : Nat} {w : World} (h : Xp cp lk B xb n w) : Xp cp lk B xb (n + 1) (w.setCell ⟨xb, 2, none⟩ (.int .i64 ((n + 1 : Nat) : Int))) := by
  refine ⟨h.1, ?_⟩
  have := h.2
  simp [World.setCell, Array.getElem?_modify, this]
theorem Xp.fr {cp : Bool} {lk : Value} {B xb n : Nat} {w : World} (h : Xp cp lk B xb n w) (v : Value) : Fr B w (w.setCell ⟨xb, 2, none⟩ v) := by
  refine ⟨⟨rfl, rfl, rfl, by simp [World.setCell], fun j hj => Below.heap_setCell _ _ _ _ (fun e => by have := h.1; simp at e; omega)⟩, fun j o hj ho => ?_⟩
  have hne : j ≠ xb := by
    rintro rfl
    rw [h.2] at hj
    cases hj
    exact ho ⟨_, _, _, rfl, .inl rfl⟩
  rw [Below.heap_setCell _ _ _ _ (fun e => hne (by first | exact e | exact e.symm))]
  exact hj
theorem Tl.set {cp : Bool} {lk : Value} {B xb n tb q : Nat} {w : World} (h : Xp cp lk B xb n w) (t : Tl B tb q w) (v : Value) : Tl B tb q (w.setCell ⟨xb, 2, none⟩ v) := by
  obtain ⟨h1, v', xs, h2, h3⟩ := t
  have hne : ∀ j, j ≠ xb → (w.setCell ⟨xb, 2, none⟩ v).heap[j]? = w.heap[j]? := fun j hj => Below.heap_setCell _ _ _ _ (fun e => hj (by first | exact e | exact e.symm))
  refine ⟨h1, v', xs, (hne tb ?_).trans h2, h3.kept (row := some xb) ⟨rfl, rfl, rfl, by simp [World.setCell], fun j _ hj => hne j (fun e => hj (by rw [e]))⟩ (.inr (fun e => own_ne h3 h.2 (by decide) e.symm))⟩
  rintro rfl
  rw [h.2] at h2
  cases h2
/-- The state of the teller's asking: q questions before this expansion. -/
def StT (cp : Bool) (B xb tb q n : Nat) (w : World) : Prop := Xp cp (.func (.func 15) #[.pointer (some ⟨tb, 0, none⟩)] #[]) B xb n w ∧ Tl B tb (q + n) w ∧ q ≤ 2000 ∧ n ≤ 500
def StF (cp : Bool) (B xb n : Nat) (w : World) : Prop := Xp cp (.func (.func 16) #[] #[]) B xb n w
set_option maxHeartbeats 1000000 in
theorem askT {cp : Bool} {B xb tb q n : Nat} {w : World} (h : StT cp B xb tb q n w) (k : UInt8) (nm : List UInt8) (st : Int) (oth : Nat) (hn : n < 500) (ho : ([] : List UInt8).length + oth ≤ 8000) : Calls Tryd.prog 48 #[XP xb, .int .u8 (k.toNat : Int), .string (bs nm), .int .i64 st, .int .i64 (oth : Int)] w (fun e w' => e = .returned (.string (bs [])) ∧ StT cp B xb tb q (n + 1) w' ∧ Fr B w w') := by
  obtain ⟨hx, ht, hq, hn5⟩ := h
  obtain ⟨c0, c1, c2, c3⟩ := hx.cells
  have d1 : ((n : Int) == 500) = false := by simp; omega
  have hB : B ≤ w.heap.size := Nat.le_trans hx.1 (Nat.le_of_lt hx.lt)
  have HX := Lib.hid hx.set
  have HF := Lib.hid (hx.fr (.int .i64 ((n + 1 : Nat) : Int)))
  have HL := Lib.hid (look_any (ht.set hx (.int .i64 ((n + 1 : Nat) : Int))) (by simpa [World.setCell] using hB) (by omega) (k.toNat : Int) (bs nm) st)
  have hxlt := hx.lt
  rw [Int.natCast_add] at HX HF HL
  have ho' : oth ≤ 8000 := by simp at ho; omega
  have d2 : decide ((8000 : Int) < (oth : Int)) = false := decide_eq_false (by omega)
  clear hx ht ho
  go_enter Tryd.func48, Tryd.ntmps48
  go_wp2_with fail
  refine HL.out.mono ?_
  rintro e w2 ⟨rfl, hp⟩
  have HP := Lib.hid hp
  clear hp
  go_wp2_with fail
  go_ret
  exact ⟨rfl, ⟨⟨HX.out.1, HP.out.ex _ _ _ HX.out.2⟩, HP.out.tl, hq, by omega⟩, HF.out.trans HP.out.fr⟩
set_option maxHeartbeats 1000000 in
theorem askF {cp : Bool} {B xb n : Nat} {w : World} (h : StF cp B xb n w) (k : UInt8) (nm : List UInt8) (st : Int) (oth : Nat) (hn : n < 500) (ho : ([51] : List UInt8).length + oth ≤ 8000) : Calls Tryd.prog 48 #[XP xb, .int .u8 (k.toNat : Int), .string (bs nm), .int .i64 st, .int .i64 (oth : Int)] w (fun e w' => e = .returned (.string (bs [51])) ∧ StF cp B xb (n + 1) w' ∧ Fr B w w') := by
  unfold StF at h
  obtain ⟨c0, c1, c2, c3⟩ := h.cells
  have d1 : ((n : Int) == 500) = false := by simp; omega
  have HX := Lib.hid h.set
  have HF := Lib.hid (h.fr (.int .i64 ((n + 1 : Nat) : Int)))
  have HL := Lib.hid (fun W => fixed_any (k.toNat : Int) (bs nm) st W)
  have hxlt := h.lt
  rw [Int.natCast_add] at HX HF
  have ho' : oth ≤ 7999 := by simp at ho; omega
  have hz : (bs [51]).size = 1 := rfl
  have d2 : decide ((8000 : Int) < 1 + (oth : Int)) = false := decide_eq_false (by omega)
  clear h ho
  go_enter Tryd.func48, Tryd.ntmps48
  go_wp2_with fail
  refine (HL.out _).mono ?_
  rintro e w2 ⟨rfl, rfl⟩
  go_wp2_with fail
  go_ret
  exact ⟨rfl, HX.out, HF.out⟩
theorem env_T (cp : Bool) (B xb tb q : Nat) : Env cp [] xb B (StT cp B xb tb q) :=
  ⟨by decide, fun h => h.1.lt, fun h => Nat.le_trans h.1.1 (Nat.le_of_lt h.1.lt), fun h => h.1.cells.1, fun h k => ⟨h.1.sk k, h.2.1.sk k, h.2.2⟩, fun k nm st oth h hn ho => askT h k nm st oth hn ho⟩
theorem env_F (cp : Bool) (B xb : Nat) : Env cp [51] xb B (StF cp B xb) :=
  ⟨by decide, fun h => h.lt, fun h => Nat.le_trans h.1 (Nat.le_of_lt h.lt), fun h => h.cells.1, fun h k => h.sk k, fun k nm st oth h hn ho => askF h k nm st oth hn ho⟩
end Go.Proofs.YtoggjiblhcbmjaaDoor
