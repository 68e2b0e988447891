/- The code's store: Append, Macro, Add. -/
import Derived.Test.YtgpanlkcpnlejaaD8
namespace Go.Proofs.Ytgpanlkcpnlejaa
open Go.RowKit Go.Maps
set_option maxRecDepth 100000
abbrev M0 : Mc := ⟨0, ⟨#[]⟩, []⟩
/-- What a name has says; nothing: kind 0. -/
def mOf (L : List Reg) (M : Nat → Mc) (nm : List UInt8) : Mc := if hasS L nm then M (getS L nm).v else M0
theorem ent_of {T sb mb : Nat} {L : List Reg} {E : Nat → En} {M : Nat → Mc} {w : World} (h : SL T sb mb L E M w) (nm : List UInt8) : (entOf L E nm).kind = (mOf L M nm).kind ∧ (entOf L E nm).tx = (mOf L M nm).tx ∧ LnOwn w (entOf L E nm).lo (entOf L E nm).ln (entOf L E nm).lc (mOf L M nm).ls ∧ (mOf L M nm).tx.size ≤ 2000 ∧ (mOf L M nm).ls.length ≤ 2000 ∧ (∀ g, (Value.slice (entOf L E nm).lo (entOf L E nm).ln (entOf L E nm).lc).ownBlock = some g → hasS L nm = true ∧ own (E (getS L nm).v) = some g) := by
  unfold entOf mOf
  cases hh : hasS L nm with
  | true =>
    rw [if_pos rfl, if_pos rfl]
    have := h.en _ (getS_mem L nm hh)
    exact ⟨this.kd, this.tx, this.ln, mc_size this.ok, mc_len this.ok, fun g hg => ⟨rfl, hg⟩⟩
  | false =>
    rw [if_neg (by decide), if_neg (by decide)]
    exact ⟨rfl, rfl, LnOwn.nil _, by decide, by simp, fun g hg => by simp [Value.ownBlock] at hg⟩
theorem mOf_okTx {T sb mb : Nat} {L : List Reg} {E : Nat → En} {M : Nat → Mc} {w : World} (h : SL T sb mb L E M w) (nm : List UInt8) : okTx (mOf L M nm).tx.data.toList = true := by
  unfold mOf
  cases hh : hasS L nm with
  | true =>
    rw [if_pos rfl]
    rcases (h.en _ (getS_mem L nm hh)).ok with ⟨_, h1, _⟩ | ⟨_, h1, _⟩
    · exact h1
    · rw [h1]; rfl
  | false => rw [if_neg (by decide)]; rfl
theorem mOf_okLn {T sb mb : Nat} {L : List Reg} {E : Nat → En} {M : Nat → Mc} {w : World} (h : SL T sb mb L E M w) (nm : List UInt8) : (mOf L M nm).ls.all okLn = true := by
  unfold mOf
  cases hh : hasS L nm with
  | true =>
    rw [if_pos rfl]
    rcases (h.en _ (getS_mem L nm hh)).ok with ⟨_, _, h1⟩ | ⟨_, _, _, h1⟩
    · rw [h1]; rfl
    · exact h1
  | false => rw [if_neg (by decide)]; rfl
theorem okTx_app {a b : ByteArray} (ha : okTx a.data.toList = true) (hb : okTx b.data.toList = true) (h : a.size + b.size ≤ 2000) : okTx (a ++ b).data.toList = true := by
  unfold okTx at *
  rw [ib_any] at *
  simp only [Bool.and_eq_true, decide_eq_true_eq, Bool.not_eq_true'] at *
  rw [ByteArray.data_append, Array.toList_append, List.any_append, ha.2, hb.2]
  refine ⟨?_, rfl⟩
  rw [List.length_append, show a.data.toList.length = a.size by simp, show b.data.toList.length = b.size by simp]
  exact h
theorem okLn_bx {ls : List Ln} (h : ls.all okLn = true) : ∀ l ∈ ls, l.bx.length ≤ 2000 := by
  intro l hl
  have := List.all_eq_true.1 h l hl
  unfold okLn okRL at this
  split at this
  · simp only [Bool.and_eq_true, decide_eq_true_eq] at this; exact this.2
  · simp only [Bool.and_eq_true, beq_iff_eq] at this; omega
/-- Append. -/
theorem appendA {T sb mb : Nat} {L : List Reg} {M : Nat → Mc} {w : World} (h : SA T sb mb L M w) (s t : ByteArray) (hn : okNm s.data.toList = true) (ht : okTx t.data.toList = true) (hl : (mOf L M s.data.toList).tx.size + t.size ≤ 2000) :
    Calls Try.prog 12 #[BP sb, .string s, .string t] w fun e w' => PutP T sb mb L M s.data.toList ⟨1, (mOf L M s.data.toList).tx ++ t, []⟩ w e w' := by
  obtain ⟨E, h⟩ := h
  have HV := Lib.hid (fun W => validText_any t W)
  have htz := okTx_size ht
  have hm := ent_of h s.data.toList
  have hok := okTx_app (mOf_okTx h s.data.toList) ht hl
  rw [ht] at HV
  have HF := Lib.hid (find_ok h.sk s hn)
  obtain ⟨tm, htm⟩ : ∃ tm, tm = (mOf L M s.data.toList).tx := ⟨_, rfl⟩
  rw [← htm] at hm hl hok ⊢
  have HP := Lib.hid (fun W (hW : Below w.heap.size w W) => putA_str h hW s (tm ++ t) hn hok)
  obtain ⟨⟨kd, tx, lo, ln, lc⟩, hen⟩ : ∃ en, en = entOf L E s.data.toList := ⟨_, rfl⟩
  rw [← hen] at HF hm
  unfold enA at HF
  simp only at HF hm
  have hz := hm.2.2.2.1
  obtain rfl := hm.2.1
  clear hm
  have d1 : decide ((2000 : Int) < (tx.size : Int) + (t.size : Int)) = false := decide_eq_false (by omega)
  clear h ht hn hen hl hok htm
  go_enter Try.func12, Try.ntmps12
  go_wp2_with fail
  refine (HV.out _).mono ?_
  rintro e w1 ⟨rfl, rfl⟩
  go_wp2_with fail
  refine HF.out.mono ?_
  rintro e w2 ⟨rfl, hb⟩
  have HB := Lib.hid (hb.alloc hb.size (.cells #[.int .i64 kd, .string tx, .slice lo ln lc] 59))
  have hsz := hb.size
  clear hb
  go_wp2_with fail
  refine (HP.out _ HB.out).mono ?_
  rintro e w3 ⟨⟨b, hb, rfl, hsa⟩, hbw⟩
  have HR : Hid (PutP T sb mb L M s.data.toList ⟨1, tx ++ t, []⟩ w (.returned (.int .i64 (putTo L M s.data.toList ⟨1, tx ++ t, []⟩ b).1)) w3) := Lib.hid ⟨⟨b, hb, rfl, hsa⟩, hbw⟩
  clear hsa hbw hb
  go_wp2_with fail
  go_ret
  exact HR.out
theorem appendA_limit {T sb mb : Nat} {L : List Reg} {M : Nat → Mc} {w : World} (h : SA T sb mb L M w) (s t : ByteArray) (hn : okNm s.data.toList = true) (ht : okTx t.data.toList = true) (hl : 2000 < (mOf L M s.data.toList).tx.size + t.size) :
    Calls Try.prog 12 #[BP sb, .string s, .string t] w fun e w' => e = .returned (.int .i64 2) ∧ Below w.heap.size w w' := by
  obtain ⟨E, h⟩ := h
  have hm := ent_of h s.data.toList
  exact append_limit h.sk s t ht hn (by rw [hm.2.1]; exact hm.2.2.2.1) (by rw [hm.2.1]; exact hl)
/- Macro and Add: the errors ahead. -/
theorem macro_arg {P : TypeId → Nat → Prop} {sb mb : Nat} {L : List Reg} {E : Nat → En} {w : World} {A : Option Addr} {n c : Nat} {ls : List Ln} (h : SK sb mb L E w) (s : ByteArray) (hl : LnsAt P w A n ls) (hP : ∀ e b, P e b → b < w.heap.size) (hn9 : (n : Int) ≤ 9223372036854775807) (hall : ls.all okLn = false) :
    Calls Try.prog 15 #[BP sb, .string s, .slice A n c] w fun e w' => e = .returned (.int .i64 1) ∧ Below w.heap.size w w' := by
  have HV := Lib.hid (validLines_any (c := c) hl hP hn9)
  rw [hall] at HV
  have HF := Lib.hid (fun W (hW : Below w.heap.size w W) => find_arg (h.below hW) s)
  clear h hl hP hall
  go_enter Try.func15, Try.ntmps15
  go_wp2_with fail
  refine HV.out.mono ?_
  rintro e w1 ⟨rfl, hb1⟩
  have HB1 := Lib.hid hb1
  clear hb1
  go_wp2_with fail
  refine (HF.out _ HB1.out).mono ?_
  rintro e w2 ⟨rfl, hb⟩
  have HB := Lib.hid (HB1.out.trans (hb.mono HB1.out.size))
  have hz := hb.size
  clear hb
  go_wp2_with fail
  go_ret
  exact ⟨rfl, HB.out.alloc HB.out.size _⟩
theorem add_arg {P : TypeId → Nat → Prop} {sb mb : Nat} {L : List Reg} {E : Nat → En} {w : World} {A : Option Addr} {n c : Nat} {ls : List Ln} (h : SK sb mb L E w) (s : ByteArray) (hl : LnsAt P w A n ls) (hP : ∀ e b, P e b → b < w.heap.size) (hn9 : (n : Int) ≤ 9223372036854775807) (hall : ls.all okLn = false) :
    Calls Try.prog 16 #[BP sb, .string s, .slice A n c] w fun e w' => e = .returned (.int .i64 1) ∧ Below w.heap.size w w' := by
  have HV := Lib.hid (validLines_any (c := c) hl hP hn9)
  rw [hall] at HV
  have HF := Lib.hid (fun W (hW : Below w.heap.size w W) => find_arg (h.below hW) s)
  clear h hl hP hall
  go_enter Try.func16, Try.ntmps16
  go_wp2_with fail
  refine HV.out.mono ?_
  rintro e w1 ⟨rfl, hb1⟩
  have HB1 := Lib.hid hb1
  clear hb1
  go_wp2_with fail
  refine (HF.out _ HB1.out).mono ?_
  rintro e w2 ⟨rfl, hb⟩
  have HB := Lib.hid (HB1.out.trans (hb.mono HB1.out.size))
  have hz := hb.size
  clear hb
  go_wp2_with fail
  go_ret
  exact ⟨rfl, HB.out.alloc HB.out.size _⟩
theorem macro_bad {P : TypeId → Nat → Prop} {sb mb : Nat} {L : List Reg} {E : Nat → En} {w : World} {A : Option Addr} {n c : Nat} {ls : List Ln} (h : SK sb mb L E w) (s : ByteArray) (hl : LnsAt P w A n ls) (hP : ∀ e b, P e b → b < w.heap.size) (hn9 : (n : Int) ≤ 9223372036854775807) (hall : ls.all okLn = true) (hn : okNm s.data.toList = false) :
    Calls Try.prog 15 #[BP sb, .string s, .slice A n c] w fun e w' => e = .returned (.int .i64 6) ∧ Below w.heap.size w w' := by
  have HV := Lib.hid (validLines_any (c := c) hl hP hn9)
  rw [hall] at HV
  have HF := Lib.hid (fun W (hW : Below w.heap.size w W) => find_bad (h.below hW) s hn)
  clear h hl hP hall hn
  go_enter Try.func15, Try.ntmps15
  go_wp2_with fail
  refine HV.out.mono ?_
  rintro e w1 ⟨rfl, hb1⟩
  have HB1 := Lib.hid hb1
  clear hb1
  go_wp2_with fail
  refine (HF.out _ HB1.out).mono ?_
  rintro e w2 ⟨rfl, hb⟩
  have HB := Lib.hid (HB1.out.trans (hb.mono HB1.out.size))
  have hz := hb.size
  clear hb
  go_wp2_with fail
  go_ret
  exact ⟨rfl, HB.out.alloc HB.out.size _⟩
theorem add_bad {P : TypeId → Nat → Prop} {sb mb : Nat} {L : List Reg} {E : Nat → En} {w : World} {A : Option Addr} {n c : Nat} {ls : List Ln} (h : SK sb mb L E w) (s : ByteArray) (hl : LnsAt P w A n ls) (hP : ∀ e b, P e b → b < w.heap.size) (hn9 : (n : Int) ≤ 9223372036854775807) (hall : ls.all okLn = true) (hn : okNm s.data.toList = false) :
    Calls Try.prog 16 #[BP sb, .string s, .slice A n c] w fun e w' => e = .returned (.int .i64 6) ∧ Below w.heap.size w w' := by
  have HV := Lib.hid (validLines_any (c := c) hl hP hn9)
  rw [hall] at HV
  have HF := Lib.hid (fun W (hW : Below w.heap.size w W) => find_bad (h.below hW) s hn)
  clear h hl hP hall hn
  go_enter Try.func16, Try.ntmps16
  go_wp2_with fail
  refine HV.out.mono ?_
  rintro e w1 ⟨rfl, hb1⟩
  have HB1 := Lib.hid hb1
  clear hb1
  go_wp2_with fail
  refine (HF.out _ HB1.out).mono ?_
  rintro e w2 ⟨rfl, hb⟩
  have HB := Lib.hid (HB1.out.trans (hb.mono HB1.out.size))
  have hz := hb.size
  clear hb
  go_wp2_with fail
  go_ret
  exact ⟨rfl, HB.out.alloc HB.out.size _⟩
/-- putLines at the store: what the old lines are is the entry's, or nothing. -/
theorem putLinesA {P : TypeId → Nat → Prop} {T sb mb : Nat} {L : List Reg} {E : Nat → En} {M : Nat → Mc} {w : World} {A : Option Addr} {n c : Nat} {ls lso : List Ln} {oo : Option Addr} {on oc : Nat} (h : SL T sb mb L E M w) (s : ByteArray) (hn : okNm s.data.toList = true)
    (ho : LnOwn w oo on oc lso) (hoo : ∀ g, (Value.slice oo on oc).ownBlock = some g → hasS L s.data.toList = true ∧ own (E (getS L s.data.toList).v) = some g) (hol : lso.all okLn = true) (hl : LnsAt P w A n ls) (hP : ∀ e b, P e b → b < w.heap.size) (hA : A = none → n = 0) (hall : ls.all okLn = true) (hfit : on + n ≤ 2000) :
    Calls Try.prog 35 #[BP sb, .string s, .slice oo on oc, .slice A n c] w fun e w' => PutP T sb mb L M s.data.toList ⟨2, ⟨#[]⟩, lso ++ ls⟩ w e w' := by
  have hlen : (lso ++ ls).length = on + n := by rw [List.length_append, ← ho.len, ← hl.len]
  have hput : ∀ W o' c', PutR w oo on oc (lso ++ ls) o' (on + n) c' W → Calls Try.prog 31 #[BP sb, .string s, .agg #[.int .i64 2, .string ⟨#[]⟩, .slice o' (on + n) c']] W fun e w' => PutP T sb mb L M s.data.toList ⟨2, ⟨#[]⟩, lso ++ ls⟩ w e w' := by
    intro W o' c' hr
    refine putA_gen h s hn (hr.kept.mono (fun k hk => hoo k hk)) 2 ⟨#[]⟩ o' (on + n) c' ⟨2, ⟨#[]⟩, lso ++ ls⟩ ⟨rfl, rfl, hr.own, .inr ⟨rfl, rfl, by simp only; omega, by simp only; rw [List.all_append, hol, hall]; rfl⟩⟩ (fun g hg => ?_)
    rcases hr.blk g hg with h1 | h1
    · exact .inl (hoo g h1)
    · exact .inr h1
  by_cases hc : ∃ b cc, (putTo L M s.data.toList ⟨2, ⟨#[]⟩, lso ++ ls⟩ b).1 = cc
  · have hcc : ∀ b, (putTo L M s.data.toList ⟨2, ⟨#[]⟩, lso ++ ls⟩ b).1 = (putTo L M s.data.toList ⟨2, ⟨#[]⟩, lso ++ ls⟩ 0).1 := by
      intro b; unfold putTo; split
      · rfl
      · split <;> rfl
    refine (putLines_fit (c := c) s ho hl hP hA (okLn_bx hall) hfit (putTo L M s.data.toList ⟨2, ⟨#[]⟩, lso ++ ls⟩ 0).1 (fun W w' => PutP T sb mb L M s.data.toList ⟨2, ⟨#[]⟩, lso ++ ls⟩ w (.returned (.int .i64 (putTo L M s.data.toList ⟨2, ⟨#[]⟩, lso ++ ls⟩ 0).1)) w') (fun W o' c' hr => (hput W o' c' hr).mono fun e w' hp => ?_)).mono fun e w' ⟨h1, W, o', c', h2, h3⟩ => ?_
    · obtain ⟨⟨b, h1, h2, h3⟩, h4⟩ := hp
      rw [hcc b] at h2
      exact ⟨h2, ⟨⟨b, h1, by rw [hcc b], h3⟩, h4⟩⟩
    · rw [h1]; exact h3
  · exact absurd ⟨0, _, rfl⟩ hc
/-- Macro. -/
theorem macroA {P : TypeId → Nat → Prop} {T sb mb : Nat} {L : List Reg} {M : Nat → Mc} {w : World} {A : Option Addr} {n c : Nat} {ls : List Ln} (h : SA T sb mb L M w) (s : ByteArray) (hn : okNm s.data.toList = true) (hl : LnsAt P w A n ls) (hP : ∀ e b, P e b → b < w.heap.size) (hA : A = none → n = 0) (hn9 : (n : Int) ≤ 9223372036854775807) (hall : ls.all okLn = true) (hfit : n ≤ 2000) :
    Calls Try.prog 15 #[BP sb, .string s, .slice A n c] w fun e w' => PutP T sb mb L M s.data.toList ⟨2, ⟨#[]⟩, ls⟩ w e w' := by
  obtain ⟨E, h⟩ := h
  have HV := Lib.hid (validLines_any (c := c) hl hP hn9)
  rw [hall] at HV
  have HF := Lib.hid (fun W (hW : Below w.heap.size w W) => find_ok (h.sk.below hW) s hn)
  have HP := Lib.hid (fun W (hW : Below w.heap.size w W) => putLinesA (c := c) (P := fun _ b => b < w.heap.size) (h.below hW) s hn (LnOwn.nil W) (fun g hg => by simp [Value.ownBlock] at hg) rfl (hl.keep fun e b hb => ⟨hW.block b (hP e b hb), hP e b hb⟩) (fun _ b hb => Nat.lt_of_lt_of_le hb hW.size) hA hall (by omega : 0 + n ≤ 2000))
  have HT := Lib.hid h.hi
  obtain ⟨⟨kd, tx, lo, ln, lc⟩, hen⟩ : ∃ en, en = entOf L E s.data.toList := ⟨_, rfl⟩
  rw [← hen] at HF
  unfold enA at HF
  simp only [List.nil_append] at HF HP
  clear h hl hP hall hn hen hA
  go_enter Try.func15, Try.ntmps15
  go_wp2_with fail
  refine HV.out.mono ?_
  rintro e w1 ⟨rfl, hb1⟩
  have HB1 := Lib.hid hb1
  clear hb1
  go_wp2_with fail
  refine (HF.out _ HB1.out).mono ?_
  rintro e w2 ⟨rfl, hb⟩
  have HB := Lib.hid ((HB1.out.trans (hb.mono HB1.out.size)).alloc (Nat.le_trans HB1.out.size hb.size) (.cells #[.int .i64 kd, .string tx, .slice lo ln lc] 59))
  have hsz := hb.size
  clear hb
  go_wp2_with fail
  refine (HP.out _ HB.out).mono ?_
  rintro e w3 hp
  have hp2 := hp.from HB.out HT.out
  obtain ⟨⟨b, hb, rfl, hsa⟩, hbw⟩ := hp2
  have HR : Hid (PutP T sb mb L M s.data.toList ⟨2, ⟨#[]⟩, ls⟩ w (.returned (.int .i64 (putTo L M s.data.toList ⟨2, ⟨#[]⟩, ls⟩ b).1)) w3) := Lib.hid ⟨⟨b, hb, rfl, hsa⟩, hbw⟩
  clear hsa hbw hb hp
  go_wp2_with fail
  go_ret
  exact HR.out
theorem macroA_limit {P : TypeId → Nat → Prop} {T sb mb : Nat} {L : List Reg} {M : Nat → Mc} {w : World} {A : Option Addr} {n c : Nat} {ls : List Ln} (h : SA T sb mb L M w) (s : ByteArray) (hn : okNm s.data.toList = true) (hl : LnsAt P w A n ls) (hP : ∀ e b, P e b → b < w.heap.size) (hn9 : n ≤ 140737488355328) (hall : ls.all okLn = true) (hfit : 2000 < n) :
    Calls Try.prog 15 #[BP sb, .string s, .slice A n c] w fun e w' => e = .returned (.int .i64 2) ∧ Below w.heap.size w w' := by
  obtain ⟨E, h⟩ := h
  have HV := Lib.hid (validLines_any (c := c) hl hP (by omega))
  rw [hall] at HV
  have HF := Lib.hid (fun W (hW : Below w.heap.size w W) => find_ok (h.sk.below hW) s hn)
  have HP := Lib.hid (fun W => putLines_limit sb s none 0 0 A n c W (by omega) hn9 (by omega))
  obtain ⟨⟨kd, tx, lo, ln, lc⟩, hen⟩ : ∃ en, en = entOf L E s.data.toList := ⟨_, rfl⟩
  rw [← hen] at HF
  unfold enA at HF
  simp only at HF
  clear h hl hP hall hn hen
  go_enter Try.func15, Try.ntmps15
  go_wp2_with fail
  refine HV.out.mono ?_
  rintro e w1 ⟨rfl, hb1⟩
  have HB1 := Lib.hid hb1
  clear hb1
  go_wp2_with fail
  refine (HF.out _ HB1.out).mono ?_
  rintro e w2 ⟨rfl, hb⟩
  have HB := Lib.hid ((HB1.out.trans (hb.mono HB1.out.size)).alloc (Nat.le_trans HB1.out.size hb.size) (.cells #[.int .i64 kd, .string tx, .slice lo ln lc] 59))
  have hsz := hb.size
  clear hb
  go_wp2_with fail
  refine (HP.out _).mono ?_
  rintro e w3 ⟨rfl, rfl⟩
  go_wp2_with fail
  go_ret
  exact ⟨rfl, HB.out⟩
/-- Add. -/
theorem addA {P : TypeId → Nat → Prop} {T sb mb : Nat} {L : List Reg} {M : Nat → Mc} {w : World} {A : Option Addr} {n c : Nat} {ls : List Ln} (h : SA T sb mb L M w) (s : ByteArray) (hn : okNm s.data.toList = true) (hl : LnsAt P w A n ls) (hP : ∀ e b, P e b → b < w.heap.size) (hA : A = none → n = 0) (hn9 : (n : Int) ≤ 9223372036854775807) (hall : ls.all okLn = true) (hfit : (mOf L M s.data.toList).ls.length + n ≤ 2000) :
    Calls Try.prog 16 #[BP sb, .string s, .slice A n c] w fun e w' => PutP T sb mb L M s.data.toList ⟨2, ⟨#[]⟩, (mOf L M s.data.toList).ls ++ ls⟩ w e w' := by
  obtain ⟨E, h⟩ := h
  have HV := Lib.hid (validLines_any (c := c) hl hP hn9)
  rw [hall] at HV
  have HF := Lib.hid (fun W (hW : Below w.heap.size w W) => find_ok (h.sk.below hW) s hn)
  have hm := ent_of h s.data.toList
  have HP := Lib.hid (fun W (hW : Below w.heap.size w W) => putLinesA (c := c) (P := fun _ b => b < w.heap.size) (h.below hW) s hn (hm.2.2.1.below hW) hm.2.2.2.2.2 (mOf_okLn h s.data.toList) (hl.keep fun e b hb => ⟨hW.block b (hP e b hb), hP e b hb⟩) (fun _ b hb => Nat.lt_of_lt_of_le hb hW.size) hA hall (by rw [hm.2.2.1.len]; exact hfit))
  have HT := Lib.hid h.hi
  obtain ⟨⟨kd, tx, lo, ln, lc⟩, hen⟩ : ∃ en, en = entOf L E s.data.toList := ⟨_, rfl⟩
  rw [← hen] at HF HP
  unfold enA at HF
  simp only at HF HP
  clear h hl hP hall hn hen hA hm hfit
  generalize (mOf L M s.data.toList).ls = lso at HP ⊢
  go_enter Try.func16, Try.ntmps16
  go_wp2_with fail
  refine HV.out.mono ?_
  rintro e w1 ⟨rfl, hb1⟩
  have HB1 := Lib.hid hb1
  clear hb1
  go_wp2_with fail
  refine (HF.out _ HB1.out).mono ?_
  rintro e w2 ⟨rfl, hb⟩
  have HB := Lib.hid ((HB1.out.trans (hb.mono HB1.out.size)).alloc (Nat.le_trans HB1.out.size hb.size) (.cells #[.int .i64 kd, .string tx, .slice lo ln lc] 59))
  have hsz := hb.size
  clear hb
  go_wp2_with fail
  refine (HP.out _ HB.out).mono ?_
  rintro e w3 hp
  have hp2 := hp.from HB.out HT.out
  obtain ⟨⟨b, hb, rfl, hsa⟩, hbw⟩ := hp2
  have HR : Hid (PutP T sb mb L M s.data.toList ⟨2, ⟨#[]⟩, lso ++ ls⟩ w (.returned (.int .i64 (putTo L M s.data.toList ⟨2, ⟨#[]⟩, lso ++ ls⟩ b).1)) w3) := Lib.hid ⟨⟨b, hb, rfl, hsa⟩, hbw⟩
  clear hsa hbw hb hp
  go_wp2_with fail
  go_ret
  exact HR.out
theorem addA_limit {P : TypeId → Nat → Prop} {T sb mb : Nat} {L : List Reg} {M : Nat → Mc} {w : World} {A : Option Addr} {n c : Nat} {ls : List Ln} (h : SA T sb mb L M w) (s : ByteArray) (hn : okNm s.data.toList = true) (hl : LnsAt P w A n ls) (hP : ∀ e b, P e b → b < w.heap.size) (hn9 : n ≤ 140737488355328) (hall : ls.all okLn = true) (hfit : 2000 < (mOf L M s.data.toList).ls.length + n) :
    Calls Try.prog 16 #[BP sb, .string s, .slice A n c] w fun e w' => e = .returned (.int .i64 2) ∧ Below w.heap.size w w' := by
  obtain ⟨E, h⟩ := h
  have HV := Lib.hid (validLines_any (c := c) hl hP (by omega))
  rw [hall] at HV
  have HF := Lib.hid (fun W (hW : Below w.heap.size w W) => find_ok (h.sk.below hW) s hn)
  have hm := ent_of h s.data.toList
  have HP := Lib.hid (fun W => putLines_limit sb s (entOf L E s.data.toList).lo (entOf L E s.data.toList).ln (entOf L E s.data.toList).lc A n c W (by rw [hm.2.2.1.len]; exact hm.2.2.2.2.1) hn9 (by rw [hm.2.2.1.len]; exact hfit))
  obtain ⟨⟨kd, tx, lo, ln, lc⟩, hen⟩ : ∃ en, en = entOf L E s.data.toList := ⟨_, rfl⟩
  rw [← hen] at HF HP
  unfold enA at HF
  simp only at HF HP
  clear h hl hP hall hn hen hm hfit
  go_enter Try.func16, Try.ntmps16
  go_wp2_with fail
  refine HV.out.mono ?_
  rintro e w1 ⟨rfl, hb1⟩
  have HB1 := Lib.hid hb1
  clear hb1
  go_wp2_with fail
  refine (HF.out _ HB1.out).mono ?_
  rintro e w2 ⟨rfl, hb⟩
  have HB := Lib.hid ((HB1.out.trans (hb.mono HB1.out.size)).alloc (Nat.le_trans HB1.out.size hb.size) (.cells #[.int .i64 kd, .string tx, .slice lo ln lc] 59))
  have hsz := hb.size
  clear hb
  go_wp2_with fail
  refine (HP.out _).mono ?_
  rintro e w3 ⟨rfl, rfl⟩
  go_wp2_with fail
  go_ret
  exact ⟨rfl, HB.out⟩
end Go.Proofs.Ytgpanlkcpnlejaa
