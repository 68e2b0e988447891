/- SourceDeep: the walk. -/
import Derived.Test.YtfmlokkkhfnglaaDoorSB
namespace Go.Proofs.YtfmlokkkhfnglaaDoor
open Go.RowKit
set_option maxRecDepth 100000
set_option linter.unusedSimpArgs false
set_option linter.unusedVariables false
abbrev dM : Fr := ⟨2, ⟨#[109]⟩, [lnT ⟨#[120]⟩], [], 0⟩
abbrev dW : Fr := ⟨3, ⟨#[]⟩, [lnT ⟨#[121]⟩], [], 0⟩
def deep (i : Nat) : List Fr := List.replicate i dM
theorem deep_len (i : Nat) : (deep i).length = i := List.length_replicate
theorem deep_at (i j : Nat) (h : j < i) : (deep i)[j]? = some dM := by unfold deep; rw [List.getElem?_replicate, if_pos h]
theorem deep_snoc (i : Nat) : deep i ++ [dM] = deep (i + 1) := by unfold deep; rw [List.replicate_succ']
theorem deep_top (i : Nat) : topS stays (deep i) = i := by
  unfold topS
  rw [deep_len]
  cases i with
  | zero => rfl
  | succ i => exact topN_yes _ _ i dM (deep_at _ _ (by omega)) (by kernel_rfl)
theorem mac_deep (i : Nat) (h : i ≤ 50) : macS (deep i) ⟨#[109]⟩ [lnT ⟨#[120]⟩] [] = if i < 50 then (0, deep (i + 1)) else (2, deep i) := by
  have hok : (okName ⟨#[109]⟩ && okLs [lnT ⟨#[120]⟩]) = true := by kernel_rfl
  unfold macS
  rw [hok, if_pos rfl]
  unfold pushS
  rw [deep_top]
  by_cases h5 : i < 50
  · rw [if_pos h5, if_neg (by omega), List.take_of_length_le (by rw [deep_len]; exact Nat.le_refl _), deep_snoc]
  · rw [if_neg h5, if_pos (by omega)]
theorem topN_cut (p : Fr → Bool) (F : List Fr) (f : Fr) : ∀ k, k ≤ F.length → topN p (F ++ [f]) k = topN p F k
  | 0, _ => rfl
  | k + 1, h => by
    unfold topN
    rw [List.getElem?_append_left (by omega), topN_cut p F f k (by omega)]
theorem topS_yes (p : Fr → Bool) (F : List Fr) (f : Fr) (hp : p f = true) : topS p (F ++ [f]) = F.length + 1 := by
  unfold topS
  rw [List.length_append]
  exact topN_yes p _ F.length f (by rw [List.getElem?_append_right (Nat.le_refl _), Nat.sub_self]; rfl) hp
theorem topS_no (p : Fr → Bool) (F : List Fr) (f : Fr) (hp : p f = false) : topS p (F ++ [f]) = topS p F := by
  unfold topS
  rw [List.length_append]
  show topN p (F ++ [f]) (F.length + 1) = _
  rw [topN_no p _ F.length f (by rw [List.getElem?_append_right (Nat.le_refl _), Nat.sub_self]; rfl) hp]
  exact topN_cut p F f _ (Nat.le_refl _)
theorem take_app {α : Type} (A B : List α) : (A ++ B).take A.length = A := by simp
theorem wait_ok : okLs [lnT ⟨#[121]⟩] = true := by kernel_rfl
theorem wait_deep (k : Nat) (h : k < 50) : waitS (deep k) [lnT ⟨#[121]⟩] = (0, deep k ++ [dW]) := by
  unfold waitS
  rw [wait_ok, if_pos rfl]
  unfold pushS
  rw [deep_top, if_neg (by omega), List.take_of_length_le (by rw [deep_len]; exact Nat.le_refl _)]
theorem wait_again (k : Nat) (h : k < 50) : waitS (deep k ++ [bump dW]) [lnT ⟨#[121]⟩] = (0, deep k ++ [dW]) := by
  unfold waitS
  rw [wait_ok, if_pos rfl]
  unfold pushS
  rw [topS_no _ _ _ (by kernel_rfl), deep_top, if_neg (by omega)]
  have e := take_app (deep k) [bump dW]
  rw [deep_len] at e
  rw [e]
theorem next_deep (k : Nat) : nextS (deep k ++ [dW]) = ((lnT ⟨#[121]⟩, 0), deep k ++ [bump dW]) := by
  have ht : topS hasMore (deep k ++ [dW]) = (deep k).length + 1 := topS_yes _ _ _ (by kernel_rfl)
  have hg : (deep k ++ [dW])[(deep k).length]? = some dW := by rw [List.getElem?_append_right (Nat.le_refl _), Nat.sub_self]; rfl
  unfold nextS peekS
  rw [ht]
  unfold pickS nextF
  simp only [hg]
  rw [List.take_of_length_le (by simp), List.set_append_right _ _ (Nat.le_refl _), Nat.sub_self]
  rfl
set_option maxHeartbeats 1000000 in
theorem law_deep (n : Int) (w : World) : Calls Tryd.prog 6 #[.int .i64 n] w fun e w' => e = .returned (.bool true) ∧ Below w.heap.size w w' := by
  have hsb : w.heap.size ≤ w.heap.size + 1 := Nat.le_succ _
  have HSB := Lib.hid hsb
  clear hsb
  obtain ⟨k, hk, hk60⟩ : ∃ k : Nat, wrap64 ((IntKind.u64.wrap n).tmod 60) = (k : Int) ∧ k < 60 := by
    have h0 : 0 ≤ IntKind.u64.wrap n := Int.emod_nonneg _ (by decide)
    have h1 : 0 ≤ (IntKind.u64.wrap n).tmod 60 := Int.tmod_nonneg _ h0
    have h2 : (IntKind.u64.wrap n).tmod 60 < 60 := Int.tmod_lt_of_pos _ (by decide)
    rw [IntWalk.wrap64_in _ (by omega)]
    exact ⟨((IntKind.u64.wrap n).tmod 60).toNat, by omega, by omega⟩
  go_enter Tryd.func6, Tryd.ntmps6
  go_wp2_with fail
  refine step_new.mono ?_
  rintro e w1 ⟨rfl, h1⟩
  have H1 := Lib.hid h1
  clear h1
  go_wp2_with fail
  rw [hk]
  go_loopg [5] k (fun q i wr => ∃ j : Nat, q + j = k ∧ i = .int .i64 j ∧ At w.heap.size w (w.heap.size + 1) (deep (min j 50)) wr)
  case atStart => exact ⟨0, rfl, rfl, H1.out⟩
  case round =>
    obtain ⟨j, hq, rfl, hat⟩ := hrel
    have HQ := Lib.hid hq
    by_cases hj : j < k
    · have dj : decide (j < k) = true := decide_eq_true hj
      have hl := ls_one wr ⟨#[120]⟩
      have hb := (Below.refl wr.heap.size wr).alloc (Nat.le_refl _) (.cells #[.string ⟨#[120]⟩, .bool false, .int .i64 0, .int .i64 0, .slice none 0 0] 31)
      have hm := step_macro HSB.out (hat.below hb) ⟨#[109]⟩ hl (ss_none _)
      rw [mac_deep _ (Nat.min_le_right _ _)] at hm
      have HJ := Lib.hid hj
      have hj60 : j < 60 := by omega
      by_cases h50 : j < 50
      · have d5 : decide ((j : Int) < 50) = true := decide_eq_true (by omega)
        rw [Nat.min_eq_left (by omega), if_pos h50] at hm
        have HM := Lib.hid hm
        have HE := Lib.hid (show min (j + 1) 50 = j + 1 by omega)
        clear hq hat hj hl hb hm h50
        go_wp2_with fail
        refine HM.out.mono ?_
        rintro e w3 ⟨rfl, h3, _⟩
        have H3 := Lib.hid h3
        clear h3
        go_wp2_with fail
        go_roundg (gk - 1)
        case measure => have := HQ.out; have := HJ.out; omega
        case rel => have := HQ.out; have := HJ.out; exact ⟨j + 1, by omega, by go_num, by rw [HE.out]; exact H3.out⟩
      · have d5 : decide ((j : Int) < 50) = false := decide_eq_false (by omega)
        rw [Nat.min_eq_right (by omega), if_neg (by omega)] at hm
        have HM := Lib.hid hm
        have HE := Lib.hid (show min (j + 1) 50 = 50 by omega)
        clear hq hat hj hl hb hm h50
        go_wp2_with fail
        refine HM.out.mono ?_
        rintro e w3 ⟨rfl, h3, _⟩
        have H3 := Lib.hid h3
        clear h3
        go_wp2_with fail
        go_roundg (gk - 1)
        case measure => have := HQ.out; have := HJ.out; omega
        case rel => have := HQ.out; have := HJ.out; exact ⟨j + 1, by omega, by go_num, by rw [HE.out]; exact H3.out⟩
    · have dj : decide (j < k) = false := decide_eq_false hj
      have hjk : j = k := by omega
      rw [hjk] at hat
      have hdp := hat
      obtain ⟨g, hg, ⟨c, rs, hc⟩, hkk⟩ := hdp
      have hde := depth_any hc
      rw [deep_len] at hde
      have HD := Lib.hid hde
      have HAT := Lib.hid hat
      have hmin : min (k : Int) 50 = ((min k 50 : Nat) : Int) := by omega
      have HMI := Lib.hid (show k < 50 → min k 50 = k by omega)
      have HNJ := Lib.hid hj
      clear hq hj hjk hat hc hde hg hkk
      by_cases h50 : 50 ≤ k
      · have d5 : decide ((50 : Int) ≤ (k : Int)) = true := decide_eq_true (by omega)
        have HS := Lib.hid (sane_any wr)
        clear h50
        go_wp2_with fail
        refine HD.out.mono ?_
        rintro e w3 ⟨rfl, rfl⟩
        go_wp2_with fail
        refine HS.out.mono ?_
        rintro e w3 ⟨rfl, hb3⟩
        have HB := Lib.hid (HAT.out.to.trans (hb3.mono HAT.out.lt))
        clear hb3
        go_wp2_with fail
        go_ret
        exact ⟨rfl, HB.out⟩
      · have d5 : decide ((50 : Int) ≤ (k : Int)) = false := decide_eq_false (by omega)
        have hk50 : k < 50 := by omega
        have hat := HAT.out
        rw [HMI.out hk50] at hat
        have HAT2 := Lib.hid hat
        clear h50 hat
        go_wp2_with fail
        refine HD.out.mono ?_
        rintro e w3 ⟨rfl, rfl⟩
        go_wp2_with fail
        go_loopg [7] 5 (fun q i wx => ∃ j : Nat, q + j = 5 ∧ i = .int .i64 j ∧ ∃ F, (F = deep k ∨ F = deep k ++ [bump dW]) ∧ At w.heap.size w (w.heap.size + 1) F wx)
        case atStart => exact ⟨0, rfl, rfl, _, .inl rfl, HAT2.out⟩
        case round =>
          obtain ⟨i, hq, rfl, F, hF, hat⟩ := hrel
          have HQ2 := Lib.hid hq
          by_cases hi : i < 5
          · have di : decide ((i : Int) < 5) = true := decide_eq_true (by omega)
            have hl := ls_one wr ⟨#[121]⟩
            have hb := (Below.refl wr.heap.size wr).alloc (Nat.le_refl _) (.cells #[.string ⟨#[121]⟩, .bool false, .int .i64 0, .int .i64 0, .slice none 0 0] 31)
            have hm := step_wait HSB.out (hat.below hb) hl
            rw [show waitS F [lnT ⟨#[121]⟩] = (0, deep k ++ [dW]) by rcases hF with e | e <;> rw [e]; exact wait_deep k hk50; exact wait_again k hk50] at hm
            have HM := Lib.hid hm
            have HI := Lib.hid hi
            have hi5 : i < 5 := hi
            clear hq hat hF hl hb hm hi
            go_wp2_with fail
            refine HM.out.mono ?_
            rintro e w3 ⟨rfl, h3, _⟩
            have hn := step_next HSB.out h3
            rw [next_deep] at hn
            have HN := Lib.hid hn
            clear h3 hn
            go_wp2_with fail
            refine HN.out.mono ?_
            rintro e w4 ⟨⟨tx, md, up, dn, bo, bn, bc⟩, rfl, hr, h4, _⟩
            obtain rfl : tx = ⟨#[121]⟩ := hr.tx
            have hb4 := (Below.refl w4.heap.size w4).alloc (Nat.le_refl _) (.cells #[.string ⟨#[121]⟩, .bool md, .int .i64 up, .int .i64 dn, .slice bo bn bc] 31)
            have hx4 := heap_alloc_new w4 (.cells #[.string ⟨#[121]⟩, .bool md, .int .i64 up, .int .i64 dn, .slice bo bn bc] 31)
            obtain ⟨⟨x0, _⟩, _⟩ := fresh_ln hx4
            have h5 := h4.below hb4
            have H5 := Lib.hid h5
            obtain ⟨g, hg, ⟨c, rs, hc⟩, hkk⟩ := h5
            have hde := depth_any hc
            rw [show (deep k ++ [bump dW]).length = k + 1 by simp [deep]] at hde
            rw [show ((k + 1 : Nat) : Int) = (k : Int) + 1 by omega] at hde
            have HDE := Lib.hid hde
            have hself : (((k : Int) + 1) != ((k : Int) + 1)) = false := by simp
            clear hr h4 hb4 hx4 hg hc hkk hde
            go_wp2_with fail
            refine HDE.out.mono ?_
            rintro e w6 ⟨rfl, rfl⟩
            go_wp2_with fail
            go_roundg (gk - 1)
            case measure => have := HQ2.out; have := HI.out; omega
            case rel => have := HQ2.out; have := HI.out; exact ⟨i + 1, by omega, by go_num, _, .inr rfl, H5.out⟩
          · have di : decide ((i : Int) < 5) = false := decide_eq_false (by omega)
            have HS := Lib.hid (sane_any wr)
            have HAT3 := Lib.hid hat
            clear hq hi hat hF
            go_wp2_with fail
            refine HS.out.mono ?_
            rintro e w3 ⟨rfl, hb3⟩
            have HB := Lib.hid (HAT3.out.to.trans (hb3.mono HAT3.out.lt))
            clear hb3
            go_wp2_with fail
            go_ret
            exact ⟨rfl, HB.out⟩
end Go.Proofs.YtfmlokkkhfnglaaDoor
