/- Plain texts. -/
import Derived.Test.YtoggjiblhcbmjaaDoorW6
namespace Go.Proofs.YtoggjiblhcbmjaaDoor
open Go.RowKit Go.Shelf
set_option maxRecDepth 100000
/-- A text whose pieces all stay. -/
def plainS : Nat → List UInt8 → Bool
  | 0, _ => true
  | f + 1, l => if l = [] then true else if staysS (cutS l).1 = true then plainS f (l.drop (cutS l).2) else false
theorem plainS_succ (f : Nat) (l : List UInt8) : plainS (f + 1) l = if l = [] then true else if staysS (cutS l).1 = true then plainS f (l.drop (cutS l).2) else false := rfl
theorem plainS_fuel (f : Nat) : ∀ l : List UInt8, l.length ≤ f → plainS (f + 1) l = plainS f l := by
  induction f with
  | zero =>
    intro l hl
    have : l = [] := List.length_eq_zero_iff.1 (by omega)
    rw [plainS_succ, if_pos this]; rfl
  | succ f ih =>
    intro l hl
    rw [plainS_succ (f + 1) l, plainS_succ f l]
    by_cases he : l = []
    · rw [if_pos he, if_pos he]
    rw [if_neg he, if_neg he]
    have ok := cutS_ok l he
    have h1 := ok.n1
    rw [ih (l.drop (cutS l).2) (by simp only [List.length_drop]; omega)]
theorem plainS_more (f : Nat) (l : List UInt8) (h : l.length ≤ f) : plainS f l = plainS l.length l := by
  obtain ⟨d, rfl⟩ : ∃ d, f = l.length + d := ⟨f - l.length, by omega⟩
  clear h
  induction d with
  | zero => rfl
  | succ d ih => rw [← ih]; exact plainS_fuel (l.length + d) l (by omega)
def plS (l : List UInt8) : Bool := plainS l.length l
theorem plS_nil : plS [] = true := rfl
theorem plS_step (l : List UInt8) (h : l ≠ []) : plS l = if staysS (cutS l).1 = true then plS (l.drop (cutS l).2) else false := by
  obtain ⟨n, hn⟩ : ∃ n, l.length = n + 1 := by cases l with | nil => exact absurd rfl h | cons a t => exact ⟨_, rfl⟩
  unfold plS
  rw [hn, plainS_succ, if_neg h]
  have ok := cutS_ok l h
  have h1 := ok.n1
  rw [plainS_more n (l.drop (cutS l).2) (by simp only [List.length_drop]; omega)]
def WkR (l : List UInt8) (w : World) (k : Nat) (s : Value) (wr : World) : Prop := ∃ t : List UInt8, k = t.length ∧ s = .string (bs t) ∧ t.length ≤ l.length ∧ plS l = plS t ∧ Below w.heap.size w wr
set_option maxHeartbeats 1000000 in
theorem walk_any (s : ByteArray) (hs : s.size ≤ maxLen) (w : World) : Calls Tryd.prog 33 #[.string s, .func (.func 34) #[] #[]] w fun e w' => e = .returned (.bool (plS s.data.toList)) ∧ Below w.heap.size w w' := by
  have hlen : s.data.toList.length = s.size := (sz_of s _ rfl).symm
  obtain ⟨l, hl⟩ : ∃ l, l = s.data.toList := ⟨_, rfl⟩
  rw [← hl] at hlen ⊢
  have hsl : s = bs l := by rw [hl, bs_self]
  subst hsl
  clear hl
  have HST : Hid (WkR l w l.length (.string (bs l)) w) := Lib.hid ⟨l, rfl, rfl, Nat.le_refl _, rfl, Below.refl _ _⟩
  unfold maxLen at hs
  rw [bs_size] at hs
  clear hlen
  go_enter Tryd.func33, Tryd.ntmps33
  go_wp2_with fail
  go_loopg [0] l.length (fun k s wr => WkR l w k s wr)
  case atStart => exact HST.out
  case round =>
    obtain ⟨t, hk, rfl, hle, hp, hb⟩ := hrel
    have HP := Lib.hid hp
    have HB := Lib.hid hb
    have HK := Lib.hid hk
    have HSZ := Lib.hid hb.size
    clear hp hb hk
    by_cases ht : t = []
    · subst ht
      have he : (bs []).toList = [] := by rw [Lib.toList_data]; rfl
      go_wp2_with fail
      go_ret
      rw [HP.out]
      exact ⟨rfl, HB.out⟩
    · have he : (bs t).toList.isEmpty = false := by rw [Lib.toList_data, bs_list]; cases t with | nil => exact absurd rfl ht | cons a t => rfl
      have HC := Lib.hid (fun W => cut_any (bs t) (by rw [bs_size]; unfold maxLen; omega) (by rw [bs_list]; exact ht) W)
      have ok := cutS_ok t ht
      have hn1 := ok.n1
      have hnl := ok.nl
      have HSTEP := Lib.hid (plS_step t ht)
      rw [bs_list] at HC
      unfold cutV at HC
      generalize cutS t = c at *
      obtain ⟨p, n⟩ := c
      simp only at hn1 hnl
      have HF := Lib.hid (fun W => plainF_any p W)
      have hw : staysS p = true → ((p.kd.toNat : Int) == 119) = false := by
        intro h
        rw [show ((p.kd.toNat : Int) == 119) = (p.kd == 119) from kd_eq p 119]
        unfold staysS at h
        cases hq : (p.kd == 119) with
        | false => rfl
        | true => rw [hq] at h; simp at h
      have HW := Lib.hid hw
      obtain ⟨tx, kd, nm, st⟩ := p
      generalize staysS ⟨tx, kd, nm, st⟩ = b at *
      unfold pcV at HC HF
      simp only at HC HF HW HSTEP
      clear ok hw
      cases b with
      | false =>
        clear HW
        go_wp2_with fail
        refine (HC.out _).mono ?_
        rintro e w1 ⟨rfl, hb⟩
        have HB1 := Lib.hid (HB.out.trans (hb.mono HSZ.out))
        clear hb
        go_wp2_with fail
        refine (HF.out _).mono ?_
        rintro e w2 ⟨rfl, hb⟩
        have HB2 := Lib.hid ((HB1.out.alloc HB1.out.size _).trans (hb.mono (by have := HB1.out.size; simp; omega)))
        clear hb
        go_wp2_with fail
        go_ret
        rw [HP.out, HSTEP.out]
        exact ⟨rfl, HB2.out⟩
      | true =>
        have hw := HW.out rfl
        clear HW
        go_wp2_with fail
        refine (HC.out _).mono ?_
        rintro e w1 ⟨rfl, hb⟩
        have HB1 := Lib.hid (HB.out.trans (hb.mono HSZ.out))
        clear hb
        go_wp2_with fail
        refine (HF.out _).mono ?_
        rintro e w2 ⟨rfl, hb⟩
        have HB2 := Lib.hid ((HB1.out.alloc HB1.out.size _).trans (hb.mono (by have := HB1.out.size; simp; omega)))
        obtain ⟨hc, hf⟩ := bcell hb
        clear hb
        go_wp2_with fail
        go_roundg (t.length - n)
        case measure => have := HK.out; omega
        case rel => exact ⟨t.drop n, by rw [List.length_drop], rfl, by rw [List.length_drop]; omega, by rw [HP.out, HSTEP.out]; simp, HB2.out⟩
theorem plain_any (s : ByteArray) (hs : s.size ≤ maxLen) (w : World) : Calls Tryd.prog 18 #[.string s] w fun e w' => e = .returned (.bool (plS s.data.toList)) ∧ Below w.heap.size w w' := by
  have HW := Lib.hid (walk_any s hs w)
  go_enter Tryd.func18, Tryd.ntmps18
  go_wp2_with fail
  refine HW.out.mono ?_
  rintro e w1 ⟨rfl, hb⟩
  have HB := Lib.hid hb
  clear hb
  go_wp2_with fail
  go_ret
  exact ⟨rfl, HB.out⟩
end Go.Proofs.YtoggjiblhcbmjaaDoor
