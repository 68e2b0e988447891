/- The document's book: what it tells of a name. -/
import Derived.Test.YtedbdpklliaoaaaGreatDoorR7
import Derived.Test.YtedbdpklliaoaaaGreatDoorV3
namespace Go.Proofs.YtedbdpklliaoaaaGreatDoor
open Go.RowKit Go.Shelf Go.Maps
set_option maxRecDepth 100000
theorem write_ok (n : Int) (l : List UInt8) (hn : okN n = true) (hl : isForm l = true) : writeS n l = (txt n l, 0) := by
  unfold writeS
  rw [if_neg (by rw [hl]; decide), if_neg (by rw [hn]; decide)]
theorem form_len (l : List UInt8) (h : isForm l = true) : l.length ≤ 1000 := by
  rw [isForm_eq] at h
  simp only [Bool.or_eq_true, Bool.and_eq_true, decide_eq_true_eq] at h
  rcases h with h | h
  · unfold okW at h; simp at h; rcases h with ((h | h) | h) | h <;> rw [h] <;> simp
  · omega
theorem field1 (a b c d : Value) (W : World) : (Instr.field 74 (.agg #[a, b, c, d]) 1).run Tryz.prog W = .ok b W := by kernel_rfl
theorem field3 (a b c d : Value) (W : World) : (Instr.field 74 (.agg #[a, b, c, d]) 3).run Tryz.prog W = .ok d W := by kernel_rfl
set_option maxHeartbeats 1000000 in
theorem rValue_any {B bx : Nat} {v : Value} {L : List Reg} {w : World} (h : RK B bx v L w) (hA : Asc L) (hl : L.length ≤ 500) (hok : ∀ r ∈ L, regOk r) (s : ByteArray) :
    Calls Tryz.prog 55 #[BP bx, .string s] w fun e w' => e = .returned (.tuple #[.int .i64 (if okNm s.data.toList = true then (getS L s.data.toList).v else 0), .int .i64 (if okNm s.data.toList = true then 0 else 6)]) ∧ Below w.heap.size w w' := by
  have HN := Lib.hid (rIsName_any s w)
  have hf1 := field1
  have hf3 := field3
  cases hn : okNm s.data.toList with
  | false =>
    rw [if_neg (by decide), if_neg (by decide)]
    rw [hn] at HN
    clear h hn
    go_enter Tryz.func55, Tryz.ntmps55
    go_wp2_with fail
    refine HN.out.mono ?_
    rintro e w1 ⟨rfl, rfl⟩
    go_wp2_with fail
    go_ret2
    exact ⟨rfl, Below.refl _ _⟩
  | true =>
    rw [if_pos rfl, if_pos rfl]
    rw [hn] at HN
    have HG := Lib.hid (rget_any h hA hl s)
    have hr := getS_ok L s.data.toList hok hn
    generalize getS L s.data.toList = r at HG hr ⊢
    unfold regX at HG
    clear h hn hr
    go_enter Tryz.func55, Tryz.ntmps55
    go_wp2_with fail
    refine HN.out.mono ?_
    rintro e w1 ⟨rfl, rfl⟩
    go_wp2_with fail
    refine HG.out.mono ?_
    rintro e w2 ⟨rfl, hb⟩
    have HB := Lib.hid hb
    have hz := hb.size
    clear hb
    go_wp2_with fail
    go_ret2
    first | exact ⟨rfl, HB.out⟩ | exact ⟨rfl, HB.out.alloc hz _⟩
set_option maxHeartbeats 1000000 in
theorem rFormatOf_any {B bx : Nat} {v : Value} {L : List Reg} {w : World} (h : RK B bx v L w) (hA : Asc L) (hl : L.length ≤ 500) (hok : ∀ r ∈ L, regOk r) (s : ByteArray) :
    Calls Tryz.prog 57 #[BP bx, .string s] w fun e w' => e = .returned (.tuple #[.string ⟨(if okNm s.data.toList = true then (getS L s.data.toList).fm else []).toArray⟩, .int .i64 (if okNm s.data.toList = true then 0 else 6)]) ∧ Below w.heap.size w w' := by
  have HN := Lib.hid (rIsName_any s w)
  have hf1 := field1
  have hf3 := field3
  cases hn : okNm s.data.toList with
  | false =>
    rw [if_neg (by decide), if_neg (by decide)]
    rw [hn] at HN
    clear h hn
    go_enter Tryz.func57, Tryz.ntmps57
    go_wp2_with fail
    refine HN.out.mono ?_
    rintro e w1 ⟨rfl, rfl⟩
    go_wp2_with fail
    go_ret2
    exact ⟨rfl, Below.refl _ _⟩
  | true =>
    rw [if_pos rfl, if_pos rfl]
    rw [hn] at HN
    have HG := Lib.hid (rget_any h hA hl s)
    have hr := getS_ok L s.data.toList hok hn
    generalize getS L s.data.toList = r at HG hr ⊢
    unfold regX at HG
    clear h hn hr
    go_enter Tryz.func57, Tryz.ntmps57
    go_wp2_with fail
    refine HN.out.mono ?_
    rintro e w1 ⟨rfl, rfl⟩
    go_wp2_with fail
    refine HG.out.mono ?_
    rintro e w2 ⟨rfl, hb⟩
    have HB := Lib.hid hb
    have hz := hb.size
    clear hb
    go_wp2_with fail
    go_ret2
    first | exact ⟨rfl, HB.out⟩ | exact ⟨rfl, HB.out.alloc hz _⟩
set_option maxHeartbeats 1000000 in
theorem rText_any {B bx : Nat} {v : Value} {L : List Reg} {w : World} (h : RK B bx v L w) (hA : Asc L) (hl : L.length ≤ 500) (hok : ∀ r ∈ L, regOk r) (s : ByteArray) :
    Calls Tryz.prog 56 #[BP bx, .string s] w fun e w' => e = .returned (.tuple #[.string ⟨(if okNm s.data.toList = true then txt (getS L s.data.toList).v (getS L s.data.toList).fm else []).toArray⟩, .int .i64 (if okNm s.data.toList = true then 0 else 6)]) ∧ Below w.heap.size w w' := by
  have HN := Lib.hid (rIsName_any s w)
  have hf1 := field1
  have hf3 := field3
  cases hn : okNm s.data.toList with
  | false =>
    rw [if_neg (by decide), if_neg (by decide)]
    rw [hn] at HN
    clear h hn
    go_enter Tryz.func56, Tryz.ntmps56
    go_wp2_with fail
    refine HN.out.mono ?_
    rintro e w1 ⟨rfl, rfl⟩
    go_wp2_with fail
    go_ret2
    exact ⟨rfl, Below.refl _ _⟩
  | true =>
    rw [if_pos rfl, if_pos rfl]
    rw [hn] at HN
    have HG := Lib.hid (rget_any h hA hl s)
    have hr := getS_ok L s.data.toList hok hn
    generalize getS L s.data.toList = r at HG hr ⊢
    unfold regX at HG
    have HW := Lib.hid (fun W => rWrite_any r.v ⟨r.fm.toArray⟩ (by have := form_len _ hr.2.2.2; show r.fm.toArray.size ≤ _; rw [List.size_toArray]; omega) W)
    rw [show (⟨r.fm.toArray⟩ : ByteArray).data.toList = r.fm from rfl, write_ok _ _ hr.2.1 hr.2.2.2] at HW
    clear h hn hr
    go_enter Tryz.func56, Tryz.ntmps56
    go_wp2_with fail
    refine HN.out.mono ?_
    rintro e w1 ⟨rfl, rfl⟩
    go_wp2_with fail
    refine HG.out.mono ?_
    rintro e w2 ⟨rfl, hb⟩
    have HB := Lib.hid hb
    have hz := hb.size
    clear hb
    go_wp2_with fail
    refine (HW.out _).mono ?_
    rintro e w3 ⟨rfl, hb⟩
    have HB3 := hb
    go_wp2_with fail
    go_ret2
    first | exact ⟨rfl, HB.out.trans (HB3.mono HB.out.size)⟩ | exact ⟨rfl, (HB.out.alloc hz _).trans (HB3.mono (HB.out.alloc hz _).size)⟩
end Go.Proofs.YtedbdpklliaoaaaGreatDoor
