/- Lines; a file's frame. -/
import Derived.Test.YtfobbcddedcepaaDoorBG
import Derived.OwnWalk
namespace Go.Proofs.YtfobbcddedcepaaDoor
open Go.RowKit
set_option maxRecDepth 100000
set_option linter.unusedSimpArgs false
set_option linter.unusedVariables false
def LiP (s : ByteArray) (w : World) (e : Ending) (w' : World) : Prop :=
  e = .returned (.slice (some ⟨w.heap.size, 0, none⟩) (linesS s).length (parts s).length) ∧ w' = w.alloc (.cells ((parts s).map Value.string).toArray 9)
theorem cell_str (w : World) (xs : List ByteArray) (j : Nat) (x : ByteArray) (h : xs[j]? = some x) : (w.alloc (.cells (xs.map Value.string).toArray 9)).cell? ⟨w.heap.size, j, none⟩ = some (.string x) := by
  have h1 := heap_alloc_new w (.cells (xs.map Value.string).toArray 9)
  simp only [World.cell?, h1]
  rw [List.getElem?_toArray, List.getElem?_map, h]; rfl
set_option maxHeartbeats 1000000 in
theorem lines_call (s : ByteArray) (hs : s.size ≤ 1000000) (w : World) : Calls Tryd.prog 66 #[.string s] w (LiP s w) := by
  have hsp := split_call s hs w
  have hle := parts_le s
  obtain ⟨m, hm⟩ : ∃ m, (parts s).length = m + 1 := ⟨Lib.countB s ⟨#[10]⟩, parts_len s⟩
  obtain ⟨x, hx⟩ : ∃ x, (parts s)[m]? = some x := ⟨_, List.getElem?_eq_getElem (by omega)⟩
  have hc := cell_str w (parts s) m x hx
  have hlast : (parts s).getLast?.getD ⟨#[]⟩ = x := by rw [List.getLast?_eq_getElem?, hm, Nat.add_sub_cancel, hx]; rfl
  have hL : linesS s = if x.data.toList = [] then (parts s).dropLast else parts s := by unfold linesS; rw [hlast]
  unfold SpP at hsp
  rw [hm] at hsp
  obtain ⟨W1, hW1⟩ : ∃ W1, W1 = w.alloc (.cells ((parts s).map Value.string).toArray 9) := ⟨_, rfl⟩
  have hP : ∀ n, n = (linesS s).length → LiP s w (.returned (.slice (some ⟨w.heap.size, 0, none⟩) n (m + 1))) W1 := fun n hn => by unfold LiP; rw [hn, hm, hW1]; exact ⟨rfl, rfl⟩
  rw [← hW1] at hc hsp
  have hmz : m ≤ 1000000 := by omega
  by_cases he : x.data.toList = []
  · rw [if_pos he] at hL
    have HP := Lib.hid (hP m (by rw [hL, List.length_dropLast, hm]; rfl))
    have HS := Lib.hid hsp
    have e1 : x.toList.isEmpty = true := by rw [Lib.toList_data, he]; rfl
    have e2 : x.toList = [] := by rw [Lib.toList_data, he]
    have hj1 : (m : Int) < ((m + 1 : Nat) : Int) := by omega
    clear hsp hx hlast hL hP hm he hle hW1
    go_enter Tryd.func66, Tryd.ntmps66
    go_wp2_with fail
    refine HS.out.mono ?_
    rintro e w1 ⟨rfl, rfl⟩
    go_wp2_with fail
    go_ret
    exact HP.out
  · rw [if_neg he] at hL
    have HP := Lib.hid (hP (m + 1) (by rw [hL, hm]))
    have HS := Lib.hid hsp
    have e2 : ¬ x.toList = [] := by rw [Lib.toList_data]; exact he
    have e1 : x.toList.isEmpty = false := by cases h : x.toList with | nil => exact absurd h e2 | cons a b => rfl
    have hj1 : (m : Int) < ((m + 1 : Nat) : Int) := by omega
    clear hsp hx hlast hL hP hm he hle hW1
    go_enter Tryd.func66, Tryd.ntmps66
    go_wp2_with fail
    refine HS.out.mono ?_
    rintro e w1 ⟨rfl, rfl⟩
    go_wp2_with fail
    go_ret
    exact HP.out
end Go.Proofs.YtfobbcddedcepaaDoor
