/- The code's store: Part, Chop, Length, whatever the entry. -/
import Derived.Test.YtgpanlkcpnlejaaE1
set_option linter.unusedSimpArgs false
set_option linter.unusedVariables false
namespace Go.Proofs.Ytgpanlkcpnlejaa
open Go.RowKit Go.Maps
set_option maxRecDepth 100000
def lenM (m : Mc) : Nat := if m.kind = 1 then m.tx.size else m.ls.length
def keepM (m : Mc) (x y : Nat) : Mc := if m.kind = 1 then ⟨1, m.tx.extract x y, []⟩ else ⟨2, ⟨#[]⟩, (m.ls.take y).drop x⟩
theorem lenM_le {m : Mc} (h : mcOk m) : lenM m ≤ 2000 := by
  unfold lenM
  split
  · exact mc_size h
  · exact mc_len h
theorem okTx_ex {t : ByteArray} (h : okTx t.data.toList = true) (x y : Nat) : okTx (t.extract x y).data.toList = true := by
  have hz := okTx_size h
  unfold okTx at *
  rw [ib_any] at *
  simp only [Bool.and_eq_true, decide_eq_true_eq, Bool.not_eq_true'] at *
  have he : (t.extract x y).data.toList = (t.data.toList.drop x).take (y - x) := by
    rw [ByteArray.data_extract, Array.toList_extract]
  rw [he]
  refine ⟨by rw [List.length_take, List.length_drop]; have := h.1; omega, ?_⟩
  have h2 := h.2
  rw [List.any_eq_false] at h2 ⊢
  exact fun b hb => h2 b (List.mem_of_mem_drop (List.mem_of_mem_take hb))
theorem keepM_ok {m : Mc} (h : mcOk m) (x y : Nat) : mcOk (keepM m x y) := by
  unfold keepM
  rcases h with ⟨hk, ht, hl⟩ | ⟨hk, ht, hn, hl⟩
  · rw [if_pos hk]; exact .inl ⟨rfl, okTx_ex ht x y, rfl⟩
  · rw [if_neg (by rw [hk]; decide)]
    refine .inr ⟨rfl, rfl, by simp only [List.length_drop, List.length_take]; omega, List.all_eq_true.2 fun l hl' => List.all_eq_true.1 hl l (List.mem_of_mem_take (List.mem_of_mem_drop hl'))⟩
theorem len_gen {T sb mb : Nat} {L : List Reg} {E : Nat → En} {M : Nat → Mc} {w : World} (h : SL T sb mb L E M w) (r : Reg) (hr : r ∈ L) : Calls Try.prog 43 #[BP r.v] w fun e w' => e = .returned (.int .i64 (lenM (M r.v))) ∧ w = w' := by
  have hre := h.sk.ent r hr
  have hen := h.en r hr
  unfold EnAt enCs at hre
  obtain ⟨en, he⟩ : ∃ en, en = E r.v := ⟨_, rfl⟩
  rw [← he] at hre hen
  obtain ⟨kd, tx, lo, ln, lc⟩ := en
  have h1 : kd = (M r.v).kind := hen.kd
  have h2 : tx = (M r.v).tx := hen.tx
  have h3 : ln = (M r.v).ls.length := hen.ln.len
  unfold lenM
  rcases hen.ok with ⟨hk, _⟩ | ⟨hk, _⟩
  · rw [hk] at h1
    subst h1
    rw [if_pos hk, ← h2]
    exact length_str r.v tx lo ln lc w hre
  · rw [hk] at h1
    subst h1
    rw [if_neg (by rw [hk]; decide), ← h3]
    exact length_mac r.v 2 tx lo ln lc w rfl hre
structure KpP (T sb mb : Nat) (L : List Reg) (M : Nat → Mc) (r : Reg) (x y : Nat) (w' : World) : Prop where
  sa : SA T sb mb L (updM M r.v (keepM (M r.v) x y)) w'
theorem keep_gen {T sb mb : Nat} {L : List Reg} {E : Nat → En} {M : Nat → Mc} {w : World} (h : SL T sb mb L E M w) (r : Reg) (hr : r ∈ L) (x y : Nat) (hxy : x ≤ y) (hy : y ≤ lenM (M r.v)) :
    Calls Try.prog 41 #[BP r.v, .int .i64 x, .int .i64 y] w fun e w' => e = .returned (.tuple #[]) ∧ KpP T sb mb L M r x y w' ∧ Below T w w' := by
  have hre := h.sk.ent r hr
  have hen := h.en r hr
  have hok := keepM_ok hen.ok x y
  unfold EnAt enCs at hre
  obtain ⟨en, he⟩ : ∃ en, en = E r.v := ⟨_, rfl⟩
  rw [← he] at hre hen
  obtain ⟨kd, tx, lo, ln, lc⟩ := en
  have h1 : kd = (M r.v).kind := hen.kd
  have h2 : tx = (M r.v).tx := hen.tx
  have h3 : ln = (M r.v).ls.length := hen.ln.len
  unfold lenM at hy
  rcases hen.ok with ⟨hk, ht, hls⟩ | ⟨hk, ht, hn, _⟩
  · rw [hk] at h1
    subst h1
    rw [if_pos hk, ← h2] at hy
    have htz := okTx_size ht
    refine (keep_str r.v tx lo ln lc x y hxy hy (by rw [h2]; exact htz) w hre).mono fun e w' ⟨g1, g2, g3⟩ => ?_
    have hsk := h.sk.with r hr ⟨1, tx.extract x y, lo, ln, lc⟩ g2 g3
    have htag : Tg w 59 r.v := ⟨_, _, hre⟩
    have hln : LnOwn w' lo ln lc [] := by
      have := hen.ln
      rw [hls] at this
      exact LnOwn.keep this (fun g hg => g3.block g (this.tag hg).lt ((this.tag hg).ne htag (by decide))) (fun e he b hb => g3.block b hb.lt (hb.ne htag (by rcases he with rfl | rfl <;> decide)))
    have hm : keepM (M r.v) x y = ⟨1, tx.extract x y, []⟩ := by unfold keepM; rw [if_pos hk, h2]
    obtain ⟨h4, h5⟩ := h.with r hr _ (keepM (M r.v) x y) hsk (by rw [hm] at hok ⊢; exact ⟨rfl, rfl, hln, hok⟩) (g3.mono fun k hk => .inl hk) (fun g hg => .inl (by rw [← he]; exact hg))
    exact ⟨g1, ⟨_, h4⟩, h5⟩
  · rw [hk] at h1
    subst h1
    rw [if_neg (by rw [hk]; decide), ← h3] at hy
    refine (keep_mac r.v tx lo ln lc (M r.v).ls x y hxy hy (by rw [h3]; exact hn) w hre hen.ln).mono fun e w' ⟨g1, ⟨⟨lo', ln', lc', g2, g4, g5⟩, g3⟩⟩ => ?_
    have hsk := h.sk.with r hr ⟨2, tx, lo', ln', lc'⟩ g2 g3
    have hm : keepM (M r.v) x y = ⟨2, ⟨#[]⟩, ((M r.v).ls.take y).drop x⟩ := by unfold keepM; rw [if_neg (by rw [hk]; decide)]
    obtain ⟨h4, h5⟩ := h.with r hr _ (keepM (M r.v) x y) hsk (by rw [hm] at hok ⊢; exact ⟨rfl, h2.trans ht, g4, hok⟩) (g3.mono fun k hk => .inl hk) (fun g hg => .inr (g5 g hg))
    exact ⟨g1, ⟨_, h4⟩, h5⟩
theorem partA {T sb mb : Nat} {L : List Reg} {M : Nat → Mc} {w : World} (h : SA T sb mb L M w) (s : ByteArray) (f t : Int) (hf : I64 f) (ht : I64 t) (hs : s.size ≤ maxLen) (hh : hasS L s.data.toList = true) (a b : Nat) (hab : spanS (lenM (M (getS L s.data.toList).v)) f t = ((a : Int), (b : Int))) :
    Calls Try.prog 24 #[BP sb, .string s, .int .i64 f, .int .i64 t] w fun e w' => e = .returned (.int .i64 0) ∧ KpP T sb mb L M (getS L s.data.toList) a b w' ∧ Below T w w' := by
  obtain ⟨E, h⟩ := h
  have HG := Lib.hid (get_yes h.sk s hs hh)
  have hmem := getS_mem L _ hh
  have hsp := span_nat (lenM (M (getS L s.data.toList).v)) f t
  have hz := lenM_le (h.en _ hmem).ok
  obtain ⟨r, hr⟩ : ∃ r, r = getS L s.data.toList := ⟨_, rfl⟩
  rw [← hr] at HG hmem hab hsp hz ⊢
  have hres : a ≤ b ∧ b ≤ lenM (M r.v) := by
    obtain ⟨x, y, h1, h2, h3⟩ := hsp
    rw [hab] at h1
    simp only [Prod.mk.injEq] at h1
    omega
  have HL := Lib.hid (len_gen h r hmem)
  have HSP := Lib.hid (span_any (lenM (M r.v)) f t hz hf ht w)
  rw [hab] at HSP
  have HK := Lib.hid (keep_gen h r hmem a b hres.1 hres.2)
  obtain ⟨n, hn⟩ : ∃ n, n = lenM (M r.v) := ⟨_, rfl⟩
  rw [← hn] at HL HSP
  clear h hs hh hr hmem hz hf ht hab hsp hres hn
  go_enter Try.func24, Try.ntmps24
  go_wp2_with fail
  refine HG.out.mono ?_
  rintro e w1 ⟨rfl, rfl⟩
  go_wp2_with fail
  refine HL.out.mono ?_
  rintro e w1 ⟨rfl, rfl⟩
  go_wp2_with fail
  refine HSP.out.mono ?_
  rintro e w1 ⟨rfl, rfl⟩
  go_wp2_with fail
  refine HK.out.mono ?_
  rintro e w1 ⟨rfl, hb, hk⟩
  have HB := Lib.hid hb
  have HKK := Lib.hid hk
  clear hb hk
  go_wp2_with fail
  go_ret
  exact ⟨rfl, HB.out, HKK.out⟩
theorem chopA {T sb mb : Nat} {L : List Reg} {M : Nat → Mc} {w : World} (h : SA T sb mb L M w) (s : ByteArray) (hs : s.size ≤ maxLen) (hh : hasS L s.data.toList = true) :
    Calls Try.prog 40 #[BP sb, .string s] w fun e w' => e = .returned (.int .i64 0) ∧ KpP T sb mb L M (getS L s.data.toList) 0 (lenM (M (getS L s.data.toList).v) - 1) w' ∧ Below T w w' := by
  obtain ⟨E, h⟩ := h
  have HG := Lib.hid (get_yes h.sk s hs hh)
  have hmem := getS_mem L _ hh
  have hz := lenM_le (h.en _ hmem).ok
  obtain ⟨r, hr⟩ : ∃ r, r = getS L s.data.toList := ⟨_, rfl⟩
  rw [← hr] at HG hmem hz ⊢
  have HL := Lib.hid (len_gen h r hmem)
  have HK := Lib.hid (keep_gen h r hmem 0 (lenM (M r.v) - 1) (Nat.zero_le _) (Nat.sub_le _ _))
  obtain ⟨n, hn⟩ : ∃ n, n = lenM (M r.v) := ⟨_, rfl⟩
  rw [← hn] at HL HK hz ⊢
  have HM := Lib.hid (show max (0 : Int) ((n : Int) - 1) = ((n - 1 : Nat) : Int) by omega)
  clear h hs hh hr hmem hn
  go_enter Try.func40, Try.ntmps40
  go_wp2_with fail
  refine HG.out.mono ?_
  rintro e w1 ⟨rfl, rfl⟩
  go_wp2_with fail
  refine HL.out.mono ?_
  rintro e w1 ⟨rfl, rfl⟩
  go_wp2_with fail
  rw [HM.out]
  refine HK.out.mono ?_
  rintro e w1 ⟨rfl, hb, hk⟩
  have HB := Lib.hid hb
  have HKK := Lib.hid hk
  clear hb hk
  go_wp2_with fail
  go_ret
  exact ⟨rfl, HB.out, HKK.out⟩
end Go.Proofs.Ytgpanlkcpnlejaa
