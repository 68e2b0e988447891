/- putLines, Macro, Add, Lines. -/
import Derived.Test.YtgpanlkcpnlejaaD5
import Derived.Maps.AppendAt
namespace Go.Proofs.Ytgpanlkcpnlejaa
open Go.RowKit Go.Maps
set_option maxRecDepth 100000
/-- Lines that an entry has. -/
structure LnOwn (w : World) (o : Option Addr) (n c : Nat) (ls : List Ln) : Prop where
  ex : ∃ rs : List RL, w.ownsRow 0 69 5 (.slice o n c) n (rs.flatMap rlCs) ∧ All2 (RlIs (Tg w) w) rs ls
  len : n = ls.length
theorem LnOwn.nil (w : World) : LnOwn w none 0 0 [] := ⟨⟨[], World.ownsRow_nil _ _ _ _, rfl, fun i a b h => by simp at h⟩, rfl⟩
/-- What only turns blocks that are neither of boxes nor of numbers, and not the row itself, leaves lines as they are. -/
theorem LnOwn.keep {w w' : World} {o : Option Addr} {n c : Nat} {ls : List Ln} (h : LnOwn w o n c ls) (h1 : ∀ g, (Value.slice o n c).ownBlock = some g → w'.heap[g]? = w.heap[g]?) (h2 : ∀ e, e = 3 ∨ e = 74 → ∀ b, Tg w e b → w'.heap[b]? = w.heap[b]?) : LnOwn w' o n c ls := by
  obtain ⟨⟨rs, ho, ha⟩, hl⟩ := h
  refine ⟨⟨rs, ⟨ho.1, ?_⟩, ha.mono fun r l hr => hr.keep fun e he b hb => ⟨h2 e he b hb, hb.keep (h2 e he b hb)⟩⟩, hl⟩
  rcases ho.2 with hn | ⟨g, cap, cur, hv, hb, hg, rest⟩
  · exact .inl hn
  · exact .inr ⟨g, cap, cur, hv, hb, (h1 g (by rw [hv]; rfl)).trans hg, rest⟩
theorem LnOwn.below {w w' : World} {o : Option Addr} {n c : Nat} {ls : List Ln} (h : LnOwn w o n c ls) (k : Below w.heap.size w w') : LnOwn w' o n c ls := by
  obtain ⟨⟨rs, ho, ha⟩, hl⟩ := h
  exact ⟨⟨rs, own_kept ho (Kept.of (S := fun _ => False) k) (fun _ _ h => h), ha.mono fun r l hr => hr.keep fun e he b hb => hb.below k⟩, hl⟩
theorem LnOwn.tag {w : World} {o : Option Addr} {n c : Nat} {ls : List Ln} (h : LnOwn w o n c ls) {g : Nat} (hg : (Value.slice o n c).ownBlock = some g) : Tg w 69 g := by
  obtain ⟨⟨rs, ho, ha⟩, hl⟩ := h
  rcases ho.2 with ⟨hv, hn⟩ | ⟨g', cap, cur, hv, hb, hh, _⟩
  · rw [hv] at hg; simp [Value.ownBlock] at hg
  · rw [hv] at hg
    have : g' = g := by simpa [Value.ownBlock] using hg
    subst this
    exact ⟨cur, _, hh⟩
theorem all2_app {R : RL → Ln → Prop} {xs xs' : List RL} {ys ys' : List Ln} (h : All2 R xs ys) (h' : All2 R xs' ys') : All2 R (xs ++ xs') (ys ++ ys') := by
  refine ⟨by rw [List.length_append, List.length_append, h.1, h'.1], fun i a b ha hb => ?_⟩
  by_cases hi : i < xs.length
  · rw [List.getElem?_append_left hi] at ha
    rw [List.getElem?_append_left (by rw [← h.1]; exact hi)] at hb
    exact h.2 i a b ha hb
  · rw [List.getElem?_append_right (by omega)] at ha
    rw [List.getElem?_append_right (by rw [← h.1]; omega), ← h.1] at hb
    exact h'.2 _ a b ha hb
/-- What putLines leaves before it puts. -/
structure PutR (w : World) (oo : Option Addr) (on oc : Nat) (ls : List Ln) (o' : Option Addr) (n' c' : Nat) (W : World) : Prop where
  own : LnOwn W o' n' c' ls
  kept : Kept (fun k => (Value.slice oo on oc).ownBlock = some k) w W
  blk : ∀ g, (Value.slice o' n' c').ownBlock = some g → (Value.slice oo on oc).ownBlock = some g ∨ w.heap.size ≤ g
  le : n' ≤ c'
  cap : (c' : Int) ≤ 9223372036854775807
set_option maxHeartbeats 2000000 in
theorem putLines_limit (sb : Nat) (s : ByteArray) (oo : Option Addr) (on oc : Nat) (A : Option Addr) (n c : Nat) (w : World) (h1 : on ≤ 2000) (hn : n ≤ 140737488355328) (h : 2000 < on + n) :
    Calls Try.prog 35 #[BP sb, .string s, .slice oo on oc, .slice A n c] w fun e w' => e = .returned (.int .i64 2) ∧ w = w' := by
  have d1 : decide ((2000 : Int) < (on : Int) + (n : Int)) = true := decide_eq_true (by omega)
  clear h
  go_enter Try.func35, Try.ntmps35
  go_wp2_with fail
  go_ret
  exact ⟨rfl, rfl⟩
set_option maxHeartbeats 4000000 in
theorem putLines_fit {P : TypeId → Nat → Prop} {sb : Nat} {w : World} {A : Option Addr} {n c : Nat} {ls lso : List Ln} {oo : Option Addr} {on oc : Nat} (s : ByteArray) (ho : LnOwn w oo on oc lso) (h : LnsAt P w A n ls) (hP : ∀ e b, P e b → b < w.heap.size) (hA : A = none → n = 0) (hbx : ∀ l ∈ ls, l.bx.length ≤ 2000) (hn : on + n ≤ 2000) (cc : Int) (R : World → World → Prop)
    (hput : ∀ W o' c', PutR w oo on oc (lso ++ ls) o' (on + n) c' W → Calls Try.prog 31 #[BP sb, .string s, .agg #[.int .i64 2, .string ⟨#[]⟩, .slice o' (on + n) c']] W fun e w' => e = .returned (.int .i64 cc) ∧ R W w') :
    Calls Try.prog 35 #[BP sb, .string s, .slice oo on oc, .slice A n c] w fun e w' => e = .returned (.int .i64 cc) ∧ ∃ W o' c', PutR w oo on oc (lso ++ ls) o' (on + n) c' W ∧ R W w' := by
  obtain ⟨i0, hi0, hz0, hz1, hz2⟩ := info_parts info_line
  have d1 : decide ((2000 : Int) < (on : Int) + (n : Int)) = false := decide_eq_false (by omega)
  have HCL := Lib.hid (copyLines_any (c := c) h hP hA (by omega) hbx)
  have HPUT := Lib.hid hput
  have HO := Lib.hid ho
  have HLN := Lib.hid h.len
  have hon : on ≤ 2000 := by omega
  have hnn : n ≤ 2000 := by omega
  have HN := Lib.hid hn
  clear h hP hA hbx hput ho hn
  go_enter Try.func35, Try.ntmps35
  go_wp2_with fail
  refine HCL.out.mono ?_
  rintro e w1 ⟨A', c', rs, rfl, hown, hall, hb1⟩
  have HB1 := Lib.hid hb1
  have HALL : Hid (All2 (RlIs (Tg w1) w1) rs ls) := Lib.hid hall
  have HO1 := Lib.hid (HO.out.below hb1)
  have HOWN := Lib.hid hown
  obtain ⟨rso, hoo, hao⟩ := HO1.out.ex
  have HOO := Lib.hid hoo
  have HAO : Hid (All2 (RlIs (Tg w1) w1) rso lso) := Lib.hid hao
  clear hown hall hb1 hoo hao
  rcases A' with _ | a
  · have HN0 := Lib.hid (own_none HOWN.out rfl)
    have hv : (Value.slice none n c' : Value) = .slice none 0 0 := by
      rcases HOWN.out.2 with ⟨hv, _⟩ | ⟨g, cap, cur, hv, _⟩
      · exact hv
      · cases hv
    injection hv with _ hv1 hv2
    subst hv1 hv2
    have HPUT2 := Lib.hid (HPUT.out w1 oo oc (by
      have hl0 : ls = [] := List.eq_nil_of_length_eq_zero HLN.out.symm
      subst hl0
      rw [List.append_nil]
      obtain ⟨o, cap, hv, hc1, hc2⟩ := row_shape HOO.out
      injection hv with _ _ hv3
      subst hv3
      exact ⟨HO1.out, Kept.of HB1.out, fun g hg => .inl hg, hc1, hc2⟩))
    rw [Nat.add_zero] at HPUT2
    go_wp2_with (at_builtin; refine wpList_append_own_none rfl _ _ 23 rfl 0 69 i0 5 Try.underlying23 hi0 _ _ _ rfl HOO.out rfl ?_)
    refine HPUT2.out.mono ?_
    rintro e w2 ⟨rfl, hR⟩
    have HR := Lib.hid hR
    clear hR
    go_wp2_with fail
    go_ret
    refine ⟨rfl, w1, oo, oc, ?_, HR.out⟩
    have hl0 : ls = [] := List.eq_nil_of_length_eq_zero HLN.out.symm
    subst hl0
    rw [List.append_nil]
    obtain ⟨o, cap, hv, hc1, hc2⟩ := row_shape HOO.out
    injection hv with _ _ hv3
    subst hv3
    exact ⟨HO1.out, Kept.of HB1.out, fun g hg => .inl hg, hc1, hc2⟩
  · have hshape : ∃ g, a = ⟨g, 0, none⟩ := by
      rcases HOWN.out.2 with ⟨hv, _⟩ | ⟨g, cap, cur, hv, _⟩
      · cases hv
      · injection hv with e1; injection e1 with e1; exact ⟨g, e1⟩
    obtain ⟨g, rfl⟩ := hshape
    have HSRC := Lib.hid (fun (j : Nat) (u : Value) (hu : (rs.flatMap rlCs)[j]? = some u) => HOWN.out.cells (g := g) rfl j u hu)
    have HFIN : Hid (∀ v' W, W.ownsRow 0 69 5 v' (on + n) (rso.flatMap rlCs ++ rs.flatMap rlCs) → w1.grownBy W (Value.slice oo on oc).ownBlock → (v'.ownBlock = (Value.slice oo on oc).ownBlock ∨ v'.ownBlock = some w1.heap.size) → ∃ o' c', v' = .slice o' (on + n) c' ∧ PutR w oo on oc (lso ++ ls) o' (on + n) c' W) := by
      refine Lib.hid (fun v' W hw hg hat => ?_)
      obtain ⟨o', c'', rfl, hc1, hc2⟩ := row_shape hw
      rw [← List.flatMap_append] at hw
      have htag : ∀ g, (Value.slice oo on oc).ownBlock = some g → Tg w1 69 g := fun g hg => HO1.out.tag hg
      have hk : ∀ e, e = 3 ∨ e = 74 → ∀ b, Tg w1 e b → W.heap[b]? = w1.heap[b]? ∧ Tg W e b := by
        intro e he b hb
        have hne : some b ≠ (Value.slice oo on oc).ownBlock := by
          intro heq
          exact hb.ne (htag b heq.symm) (by rcases he with rfl | rfl <;> decide) rfl
        have := hg.block b hb.lt hne
        exact ⟨this, hb.keep this⟩
      refine ⟨o', c'', rfl, ⟨⟨_, hw, (all2_app HAO.out HALL.out).mono fun r l hr => hr.keep hk⟩, ?_⟩, ?_, ?_, hc1, hc2⟩
      · rw [List.length_append, ← HO.out.len, ← HLN.out]
      · exact ⟨hg.os.trans HB1.out.os, hg.tape.trans HB1.out.tape, hg.output.trans HB1.out.output, Nat.le_trans HB1.out.size hg.size, fun k hk hs => (hg.block k (Nat.lt_of_lt_of_le hk HB1.out.size) (fun e => hs e.symm)).trans (HB1.out.block k hk)⟩
      · intro g' hg'
        rcases hat with e | e
        · exact .inl (by rw [← e]; exact hg')
        · rw [e] at hg'
          have : w1.heap.size = g' := by injection hg'
          exact .inr (by have := HB1.out.size; omega)
    have hln : (rs.flatMap rlCs).length = n * 5 := HOWN.out.1
    have HLNR := Lib.hid hln
    clear hln
    go_wp2_with (at_builtin; refine wpList_append_own_at _ rfl _ _ 23 rfl 0 69 i0 _ 5 64 Try.underlying23 hi0 hz0 hz1 hz2 rfl (by decide) _ _ _ rfl HOO.out ⟨g, 0, none⟩ n c' (rs.flatMap rlCs) rfl HLNR.out HSRC.out (fm_one rl_one rs) (by unfold maxLen; omega) (by omega) (Nat.zero_le _) ?_
                 intro v3 w4 hown3 hgrow3 _ hat3
                 obtain ⟨o3, c3, rfl, hput3⟩ := HFIN.out _ _ hown3 hgrow3 hat3
                 have HPU := Lib.hid hput3
                 clear hown3 hgrow3 hat3 hput3)
    refine (HPUT.out _ _ _ HPU.out).mono ?_
    rintro e w5 ⟨rfl, hR⟩
    have HR := Lib.hid hR
    clear hR
    go_wp2_with fail
    go_ret
    exact ⟨rfl, w4, o3, c3, HPU.out, HR.out⟩
end Go.Proofs.Ytgpanlkcpnlejaa
