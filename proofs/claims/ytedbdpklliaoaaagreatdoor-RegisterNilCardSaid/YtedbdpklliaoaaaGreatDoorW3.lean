/- Contracts: formats (the code's and the specification's), the code's texts. -/
import Derived.Test.YtedbdpklliaoaaaGreatDoorS1
namespace Go.Proofs.YtedbdpklliaoaaaGreatDoor
open Go.RowKit Go.Shelf
set_option maxRecDepth 100000
def okW (l : List UInt8) : Bool := l == [105] || l == [73] || l == [97] || l == [65]
theorem isForm_eq (l : List UInt8) : isForm l = (okW l || (decide (1 ≤ l.length) && decide (l.length ≤ 9) && l.all isDg)) := rfl
theorem str_eq_iff (s : ByteArray) (l : List UInt8) : s = ⟨l.toArray⟩ ↔ s.data.toList = l := by
  constructor
  · rintro rfl; rfl
  · intro h; apply ByteArray.ext; rw [← h]
theorem str_of (s : ByteArray) (l : List UInt8) (h : s.data.toList = l) : s = ⟨l.toArray⟩ := (str_eq_iff s l).2 h
/-- A format that is a letter. -/
theorem okW_cases (s : ByteArray) (h : okW s.data.toList = true) : s = ⟨#[105]⟩ ∨ s = ⟨#[73]⟩ ∨ s = ⟨#[97]⟩ ∨ s = ⟨#[65]⟩ := by
  unfold okW at h
  simp only [Bool.or_eq_true, beq_iff_eq] at h
  rcases h with ((h | h) | h) | h
  · exact .inl (str_of s _ h)
  · exact .inr (.inl (str_of s _ h))
  · exact .inr (.inr (.inl (str_of s _ h)))
  · exact .inr (.inr (.inr (str_of s _ h)))
theorem okW_not (s : ByteArray) (h : okW s.data.toList = false) : (s.toList == [105]) = false ∧ (s.toList == [73]) = false ∧ (s.toList == [97]) = false ∧ (s.toList == [65]) = false := by
  unfold okW at h
  rw [show s.toList = s.data.toList from Lib.toList_data s]
  simp only [Bool.or_eq_false_iff] at h
  exact ⟨h.1.1.1, h.1.1.2, h.1.2, h.2⟩
theorem formError_w (s : ByteArray) (w : World) (h : okW s.data.toList = true) : Calls Tryz.prog 42 #[.string s] w fun e w' => e = .returned (.int .i64 0) ∧ Below w.heap.size w w' := by
  have hc := okW_cases s h
  clear h
  rcases hc with rfl | rfl | rfl | rfl
  all_goals
    go_enter Tryz.func42, Tryz.ntmps42
    go_wp2_with fail
    go_ret
    exact ⟨rfl, Below.refl _ _⟩
theorem formError_d (s : ByteArray) (w : World) (h : okW s.data.toList = false) (hs : s.size ≤ 9223372036854775807) : Calls Tryz.prog 42 #[.string s] w fun e w' => e = .returned (.int .i64 (eForm s.data.toList)) ∧ Below w.heap.size w w' := by
  obtain ⟨h1, h2, h3, h4⟩ := okW_not s h
  have HE := Lib.hid (show eForm s.data.toList = if (decide (1 ≤ s.data.toList.length) && decide (s.data.toList.length ≤ 9) && s.data.toList.all isDg) = true then 0 else 4 by unfold eForm; rw [isForm_eq, h, Bool.false_or])
  have hsz : s.data.toList.length = s.size := by simp
  rw [hsz] at HE
  have HT := Lib.hid (fun W => trim_call s W hs)
  clear h hsz
  by_cases ha : s.size < 1
  · have HX : Hid ((decide (1 ≤ s.size) && decide (s.size ≤ 9) && s.data.toList.all isDg) = false) := Lib.hid (by rw [decide_eq_false (by omega)]; rfl)
    have d1 : decide ((s.size : Int) < 1) = true := decide_eq_true (by omega)
    clear ha
    go_enter Tryz.func42, Tryz.ntmps42
    go_wp2_with fail
    go_ret
    rw [HE.out, HX.out]
    exact ⟨rfl, Below.refl _ _⟩
  · have d1 : decide ((s.size : Int) < 1) = false := decide_eq_false (by omega)
    by_cases hb : 9 < s.size
    · have HX : Hid ((decide (1 ≤ s.size) && decide (s.size ≤ 9) && s.data.toList.all isDg) = false) := Lib.hid (by rw [decide_eq_false (show ¬ s.size ≤ 9 by omega)]; simp)
      have d2 : decide ((9 : Int) < (s.size : Int)) = true := decide_eq_true (by omega)
      clear ha hb
      go_enter Tryz.func42, Tryz.ntmps42
      go_wp2_with fail
      go_ret
      rw [HE.out, HX.out]
      exact ⟨rfl, Below.refl _ _⟩
    · have d2 : decide ((9 : Int) < (s.size : Int)) = false := decide_eq_false (by omega)
      have HX : Hid ((decide (1 ≤ s.size) && decide (s.size ≤ 9) && s.data.toList.all isDg) = s.data.toList.all isDg) := Lib.hid (by rw [decide_eq_true (show s.size ≤ 9 by omega), decide_eq_true (show 1 ≤ s.size by omega)]; simp)
      have HN := Lib.hid (trim_nil s.data.toList)
      clear ha hb
      obtain ⟨t, ht⟩ : ∃ t, t = Lib.trimS s.data.toList digSet := ⟨_, rfl⟩
      rw [← ht] at HT HN
      clear ht
      cases he : t.isEmpty with
      | true =>
        obtain rfl : t = [] := by simpa using he
        have HQ := Lib.hid (HN.out.1 rfl)
        clear he HN
        go_enter Tryz.func42, Tryz.ntmps42
        go_wp2_with fail
        refine (HT.out _).mono ?_
        rintro e w' ⟨rfl, hb⟩
        have HB := Lib.hid hb
        clear hb
        go_wp2_with fail
        go_ret
        rw [HE.out, HX.out, HQ.out]
        exact ⟨rfl, HB.out⟩
      | false =>
        have hn : s.data.toList.all isDg = false := by
          cases hq : s.data.toList.all isDg with
          | false => rfl
          | true => rw [HN.out.2 hq] at he; cases he
        have he2 : (t == []) = false := by
          cases t with
          | nil => cases he
          | cons a l => rfl
        have HQ := Lib.hid hn
        clear hn
        go_enter Tryz.func42, Tryz.ntmps42
        go_wp2_with fail
        refine (HT.out _).mono ?_
        rintro e w' ⟨rfl, hb⟩
        have HB := Lib.hid hb
        clear hb
        go_wp2_with fail
        go_ret
        rw [HE.out, HX.out, HQ.out]
        exact ⟨rfl, HB.out⟩
theorem formError_any (s : ByteArray) (w : World) (hs : s.size ≤ 9223372036854775807) : Calls Tryz.prog 42 #[.string s] w fun e w' => e = .returned (.int .i64 (eForm s.data.toList)) ∧ Below w.heap.size w w' := by
  cases h : okW s.data.toList with
  | true =>
    rw [show eForm s.data.toList = 0 by unfold eForm; rw [isForm_eq, h]; rfl]
    exact formError_w s w h
  | false => exact formError_d s w h hs
end Go.Proofs.YtedbdpklliaoaaaGreatDoor
