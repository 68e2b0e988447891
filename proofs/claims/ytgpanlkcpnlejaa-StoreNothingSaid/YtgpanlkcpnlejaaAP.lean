/- The law StoreAppends: its walk. -/
import Derived.Test.YtgpanlkcpnlejaaDB
namespace Go.Proofs.Ytgpanlkcpnlejaa
open Go.RowKit Go.Maps
set_option maxRecDepth 100000
def cat : List ByteArray → ByteArray
  | [] => ⟨#[]⟩
  | s :: t => s ++ cat t
theorem ba_assoc (a b c : ByteArray) : a ++ b ++ c = a ++ (b ++ c) := by
  apply ByteArray.ext; simp [ByteArray.data_append]
theorem ba_nil (a : ByteArray) : a ++ ⟨#[]⟩ = a := by
  apply ByteArray.ext; simp [ByteArray.data_append]
theorem nil_ba (a : ByteArray) : (⟨#[]⟩ : ByteArray) ++ a = a := by
  apply ByteArray.ext; simp [ByteArray.data_append]
theorem cat_snoc : ∀ (l : List ByteArray) (s : ByteArray), cat (l ++ [s]) = cat l ++ s
  | [], s => by show s ++ ⟨#[]⟩ = ⟨#[]⟩ ++ s; rw [ba_nil, nil_ba]
  | a :: t, s => by show a ++ cat (t ++ [s]) = a ++ cat t ++ s; rw [cat_snoc t s, ba_assoc]
theorem cat_take (ss : List ByteArray) (j : Nat) (h : j < ss.length) : cat (ss.take (j + 1)) = cat (ss.take j) ++ ss[j] := by
  rw [List.take_succ_eq_append_getElem h, cat_snoc]
theorem okTx_tail {a b : ByteArray} (h : okTx (a ++ b).data.toList = true) : okTx b.data.toList = true ∧ a.size + b.size ≤ 2000 := by
  have hz := okTx_size h
  rw [ByteArray.size_append] at hz
  unfold okTx at *
  rw [ib_any] at *
  simp only [Bool.and_eq_true, decide_eq_true_eq, Bool.not_eq_true'] at *
  rw [ByteArray.data_append, Array.toList_append, List.any_append] at h
  simp only [Bool.or_eq_false_iff] at h
  exact ⟨⟨by rw [show b.data.toList.length = b.size by simp]; omega, h.2.2⟩, hz⟩
theorem SA.elt {T sb mb : Nat} {L : List Reg} {M : Nat → Mc} {w : World} (h : SA T sb mb L M w) (r : Reg) (hr : r ∈ L) : r.v < w.heap.size := by
  obtain ⟨E, h⟩ := h
  exact h.sk.elt r hr
theorem LnsAt.take {P : TypeId → Nat → Prop} {w : World} {A : Option Addr} {n : Nat} {ls : List Ln} (h : LnsAt P w A n ls) (k : Nat) (hk : k ≤ n) : LnsAt P w A k (ls.take k) := by
  obtain ⟨⟨rs, hr, ha⟩, hl⟩ := h
  have hrl : rs.length = n := by rw [ha.1, hl]
  refine ⟨⟨rs.take k, ⟨by rw [fm_len rl_len, List.length_take]; rw [Nat.min_eq_left (by omega)], fun hn => ?_⟩, by rw [List.length_take, List.length_take, ha.1], fun i r l hr' hl' => ?_⟩, by rw [List.length_take]; omega⟩
  · obtain ⟨b, off, hA, hp, hc⟩ := hr.2 (by omega)
    refine ⟨b, off, hA, hp, fun j u hu => hc j u ?_⟩
    have h0 := List.take_append_drop k rs
    rw [← h0, List.flatMap_append, List.getElem?_append_left (List.getElem?_eq_some_iff.1 hu).1]
    exact hu
  · rw [List.getElem?_take] at hr' hl'
    split at hr'
    · rename_i hik
      rw [if_pos hik] at hl'
      exact ha.2 i r l hr' hl'
    · cases hr'
theorem LnsAt.drop {P : TypeId → Nat → Prop} {w : World} {b off n : Nat} {ls : List Ln} (h : LnsAt P w (some ⟨b, off, none⟩) n ls) (k : Nat) (hk : k ≤ n) : LnsAt P w (some ⟨b, off + k * 5, none⟩) (n - k) (ls.drop k) := by
  obtain ⟨⟨rs, hr, ha⟩, hl⟩ := h
  have hrl : rs.length = n := by rw [ha.1, hl]
  refine ⟨⟨rs.drop k, ⟨by rw [fm_len rl_len, List.length_drop, hrl], fun hn => ?_⟩, by rw [List.length_drop, List.length_drop, ha.1], fun i r l hr' hl' => ?_⟩, by rw [List.length_drop]; omega⟩
  · obtain ⟨b', off', hA, hp, hc⟩ := hr.2 (by omega)
    injection hA with hA
    injection hA with h1 h2
    subst h1 h2
    refine ⟨b, off + k * 5, rfl, hp, fun j u hu => ?_⟩
    have := hc (k * 5 + j) u (by
      have h0 := List.take_append_drop k rs
      rw [← h0, List.flatMap_append, List.getElem?_append_right (by rw [fm_len rl_len, List.length_take, Nat.min_eq_left (by omega)]; omega), fm_len rl_len, List.length_take, Nat.min_eq_left (by omega), show k * 5 + j - k * 5 = j by omega]
      exact hu)
    rwa [← Nat.add_assoc] at this
  · rw [List.getElem?_drop] at hr' hl'
    exact ha.2 _ r l hr' hl'
theorem LnsAt.none_of {P : TypeId → Nat → Prop} {w : World} {A A' : Option Addr} {n : Nat} {ls : List Ln} (h : LnsAt P w A n ls) : LnsAt P w A' (n - n) (ls.drop n) := by
  have : ls.drop n = [] := List.drop_eq_nil_of_le (by rw [h.len]; exact Nat.le_refl _)
  rw [this, Nat.sub_self]
  exact ⟨⟨[], ⟨rfl, fun h => absurd h (Nat.lt_irrefl 0)⟩, rfl, fun i a b h _ => by simp at h⟩, rfl⟩
theorem strs_at {P : Nat → Prop} {w : World} {A : Option Addr} {n : Nat} {ss : List ByteArray} (h : ReadsP P w 1 A n (ss.flatMap fun s => [.string s])) (j : Nat) (hj : j < ss.length) : ∃ b off, A = some ⟨b, off, none⟩ ∧ P b ∧ w.cell? ⟨b, off + j, none⟩ = some (.string ss[j]) := by
  have hl := h.1
  rw [fm_len (f := fun s : ByteArray => [Value.string s]) (m := 1) (fun _ => rfl)] at hl
  obtain ⟨b, off, hA, hp, hc⟩ := h.2 (by omega)
  have := fm_at (f := fun s : ByteArray => [Value.string s]) (m := 1) (fun _ => rfl) ss j 0 ss[j] (List.getElem?_eq_getElem hj) (by omega)
  rw [Nat.mul_one, Nat.add_zero] at this
  exact ⟨b, off, hA, hp, hc j _ this⟩
/-- Two names that have texts. -/
structure Two (T sb mb ia ib : Nat) (ta tb : ByteArray) (w : World) : Prop where
  ex : ∃ M, SA T sb mb [⟨[97], ia⟩, ⟨[98], ib⟩] M w ∧ M ia = ⟨1, ta, []⟩ ∧ M ib = ⟨1, tb, []⟩
  ne : ia ≠ ib
theorem Two.below {T sb mb ia ib : Nat} {ta tb : ByteArray} {w w' : World} (h : Two T sb mb ia ib ta tb w) (k : Below w.heap.size w w') : Two T sb mb ia ib ta tb w' := by
  obtain ⟨⟨M, h1, h2⟩, h3⟩ := h
  exact ⟨⟨M, h1.below k, h2⟩, h3⟩
theorem Two.hi {T sb mb ia ib : Nat} {ta tb : ByteArray} {w : World} (h : Two T sb mb ia ib ta tb w) : T ≤ w.heap.size := by
  obtain ⟨⟨M, h1, h2⟩, h3⟩ := h
  exact h1.hi
theorem def_a {T sb mb : Nat} {M : Nat → Mc} {w : World} (h : SA T sb mb [] M w) :
    Calls Try.prog 11 #[BP sb, .string ⟨#[97]⟩, .string ⟨#[]⟩] w fun e w' => e = .returned (.int .i64 0) ∧ (∃ ia M, SA T sb mb [⟨[97], ia⟩] M w' ∧ M ia = ⟨1, ⟨#[]⟩, []⟩) ∧ Below T w w' :=
  (defineA h ⟨#[97]⟩ ⟨#[]⟩ rfl rfl).mono fun e w' ⟨⟨b, hb, he, hs⟩, hw⟩ => ⟨he, ⟨b, _, hs, updM_same _ _ _⟩, hw⟩
theorem def_b {T sb mb ia : Nat} {M : Nat → Mc} {w : World} (h : SA T sb mb [⟨[97], ia⟩] M w) (hM : M ia = ⟨1, ⟨#[]⟩, []⟩) (t : ByteArray) (ht : okTx t.data.toList = true) :
    Calls Try.prog 11 #[BP sb, .string ⟨#[98]⟩, .string t] w fun e w' => e = .returned (.int .i64 0) ∧ (∃ ib, Two T sb mb ia ib ⟨#[]⟩ t w') ∧ Below T w w' :=
  (defineA h ⟨#[98]⟩ t rfl ht).mono fun e w' ⟨⟨b, hb, he, hs⟩, hw⟩ => by
    have hne : ia ≠ b := by have : ia < w.heap.size := h.elt ⟨[97], ia⟩ (by simp); omega
    exact ⟨he, ⟨b, ⟨_, hs, (updM_other _ _ _ hne).trans hM, updM_same _ _ _⟩, hne⟩, hw⟩
theorem app_a {T sb mb ia ib : Nat} {ta tb : ByteArray} {w : World} (h : Two T sb mb ia ib ta tb w) (t : ByteArray) (ht : okTx t.data.toList = true) (hz : ta.size + t.size ≤ 2000) :
    Calls Try.prog 12 #[BP sb, .string ⟨#[97]⟩, .string t] w fun e w' => e = .returned (.int .i64 0) ∧ Two T sb mb ia ib (ta ++ t) tb w' ∧ Below T w w' := by
  obtain ⟨⟨M, h1, h2, h3⟩, h4⟩ := h
  have hm : mOf [⟨[97], ia⟩, ⟨[98], ib⟩] M [97] = ⟨1, ta, []⟩ := h2
  refine (appendA h1 ⟨#[97]⟩ t rfl ht (by rw [show (⟨#[97]⟩ : ByteArray).data.toList = [97] from rfl, hm]; exact hz)).mono fun e w' ⟨⟨b, hb, he, hs⟩, hw⟩ => ?_
  rw [show (⟨#[97]⟩ : ByteArray).data.toList = [97] from rfl, hm] at he hs
  exact ⟨he, ⟨⟨_, hs, updM_same _ _ _, (updM_other _ _ _ (Ne.symm h4)).trans h3⟩, h4⟩, hw⟩
theorem text_a {T sb mb ia ib : Nat} {ta tb : ByteArray} {w : World} (h : Two T sb mb ia ib ta tb w) : Calls Try.prog 13 #[BP sb, .string ⟨#[97]⟩] w fun e w' => e = .returned (.tuple #[.string ta, .int .i64 0]) ∧ w = w' := by
  obtain ⟨⟨M, h1, h2, h3⟩, h4⟩ := h
  have := textA h1 ⟨#[97]⟩ (by decide) rfl (by show (M ia).kind = 1; rw [h2])
  rwa [show (getS [⟨[97], ia⟩, ⟨[98], ib⟩] (⟨#[97]⟩ : ByteArray).data.toList).v = ia from rfl, h2] at this
theorem text_b {T sb mb ia ib : Nat} {ta tb : ByteArray} {w : World} (h : Two T sb mb ia ib ta tb w) : Calls Try.prog 13 #[BP sb, .string ⟨#[98]⟩] w fun e w' => e = .returned (.tuple #[.string tb, .int .i64 0]) ∧ w = w' := by
  obtain ⟨⟨M, h1, h2, h3⟩, h4⟩ := h
  have := textA h1 ⟨#[98]⟩ (by decide) rfl (by show (M ib).kind = 1; rw [h3])
  rwa [show (getS [⟨[97], ia⟩, ⟨[98], ib⟩] (⟨#[98]⟩ : ByteArray).data.toList).v = ib from rfl, h3] at this
/-- A third name that has lines. -/
structure Thr (T sb mb : Nat) (ls : List Ln) (w : World) : Prop where
  ex : ∃ ia ib ic M, SA T sb mb [⟨[97], ia⟩, ⟨[98], ib⟩, ⟨[99], ic⟩] M w ∧ M ic = ⟨2, ⟨#[]⟩, ls⟩
theorem Thr.hi {T sb mb : Nat} {ls : List Ln} {w : World} (h : Thr T sb mb ls w) : T ≤ w.heap.size := by
  obtain ⟨ia, ib, ic, M, h1, h2⟩ := h
  exact h1.hi
theorem mac_c {P : TypeId → Nat → Prop} {T sb mb ia ib : Nat} {ta tb : ByteArray} {w : World} {A : Option Addr} {n c : Nat} {ls : List Ln} (h : Two T sb mb ia ib ta tb w) (hl : LnsAt P w A n ls) (hP : ∀ e b, P e b → b < w.heap.size) (hA : A = none → n = 0) (hn9 : (n : Int) ≤ 9223372036854775807) (hall : ls.all okLn = true) (hfit : n ≤ 2000) :
    Calls Try.prog 15 #[BP sb, .string ⟨#[99]⟩, .slice A n c] w fun e w' => e = .returned (.int .i64 0) ∧ Thr T sb mb ls w' ∧ Below T w w' := by
  obtain ⟨⟨M, h1, h2, h3⟩, h4⟩ := h
  exact (macroA h1 ⟨#[99]⟩ rfl hl hP hA hn9 hall hfit).mono fun e w' ⟨⟨b, hb, he, hs⟩, hw⟩ => ⟨he, ⟨ia, ib, b, _, hs, updM_same _ _ _⟩, hw⟩
theorem add_c {P : TypeId → Nat → Prop} {T sb mb : Nat} {w : World} {A : Option Addr} {n c : Nat} {lo ls : List Ln} (h : Thr T sb mb lo w) (hl : LnsAt P w A n ls) (hP : ∀ e b, P e b → b < w.heap.size) (hA : A = none → n = 0) (hn9 : (n : Int) ≤ 9223372036854775807) (hall : ls.all okLn = true) (hfit : lo.length + n ≤ 2000) :
    Calls Try.prog 16 #[BP sb, .string ⟨#[99]⟩, .slice A n c] w fun e w' => e = .returned (.int .i64 0) ∧ Thr T sb mb (lo ++ ls) w' ∧ Below T w w' := by
  obtain ⟨ia, ib, ic, M, h1, h2⟩ := h
  have hm : mOf [⟨[97], ia⟩, ⟨[98], ib⟩, ⟨[99], ic⟩] M [99] = ⟨2, ⟨#[]⟩, lo⟩ := h2
  refine (addA h1 ⟨#[99]⟩ rfl hl hP hA hn9 hall (by rw [show (⟨#[99]⟩ : ByteArray).data.toList = [99] from rfl, hm]; exact hfit)).mono fun e w' ⟨⟨b, hb, he, hs⟩, hw⟩ => ?_
  rw [show (⟨#[99]⟩ : ByteArray).data.toList = [99] from rfl, hm] at he hs
  exact ⟨he, ⟨ia, ib, ic, _, hs, updM_same _ _ _⟩, hw⟩
theorem lin_c {T sb mb : Nat} {w : World} {ls : List Ln} (h : Thr T sb mb ls w) :
    Calls Try.prog 17 #[BP sb, .string ⟨#[99]⟩] w fun e w' => ∃ A n c, e = .returned (.tuple #[.slice A n c, .int .i64 0]) ∧ LinP ls w A n c w' := by
  obtain ⟨ia, ib, ic, M, h1, h2⟩ := h
  have := linesA h1 ⟨#[99]⟩ (by decide) rfl
  rwa [show (getS [⟨[97], ia⟩, ⟨[98], ib⟩, ⟨[99], ic⟩] (⟨#[99]⟩ : ByteArray).data.toList).v = ic from rfl, h2] at this
def Ap1 (w : World) (ss : List ByteArray) (N k : Nat) (x i : Value) (wr : World) : Prop :=
  ∃ j : Nat, k + j = N ∧ i = .int .i64 j ∧ x = .string (cat (ss.take j)) ∧ (∀ j', j' ≤ j → okTx (cat (ss.take j')).data.toList = true) ∧ Below w.heap.size w wr
theorem cut_at (cut : Int) (n : Nat) (hn : n ≤ 300) : ∃ k : Nat, wrap64 ((IntKind.u64.wrap cut).tmod (IntKind.u64.wrap (wrap64 ((n : Int) + 1)))) = (k : Int) ∧ k ≤ n := by
  have h0 : 0 ≤ IntKind.u64.wrap cut := by rw [IntKind.wrap_u64]; exact Int.emod_nonneg _ (by decide)
  have h1 : IntKind.u64.wrap (wrap64 ((n : Int) + 1)) = (n : Int) + 1 := by
    rw [IntWalk.wrap64_in _ (by omega), IntKind.wrap_u64]; omega
  rw [h1]
  have h2 : (IntKind.u64.wrap cut).tmod ((n : Int) + 1) = (IntKind.u64.wrap cut) % ((n : Int) + 1) := Int.tmod_eq_emod_of_nonneg h0
  have h3 := Int.emod_nonneg (IntKind.u64.wrap cut) (show (n : Int) + 1 ≠ 0 by omega)
  have h4 := Int.emod_lt_of_pos (IntKind.u64.wrap cut) (show 0 < (n : Int) + 1 by omega)
  rw [h2]
  refine ⟨((IntKind.u64.wrap cut) % ((n : Int) + 1)).toNat, ?_, by omega⟩
  rw [IntWalk.wrap64_in _ (by omega)]
  omega
def Ap2 (w : World) (ss : List ByteArray) (T sb mb ia ib : Nat) (x : ByteArray) (N k : Nat) (i : Value) (wr : World) : Prop :=
  ∃ j : Nat, k + j = N ∧ i = .int .i64 j ∧ Two T sb mb ia ib (cat (ss.take j)) x wr ∧ Below w.heap.size w wr
theorem LnsAt.from {P : TypeId → Nat → Prop} {w : World} {A : Option Addr} {n : Nat} {ls : List Ln} (h : LnsAt P w A n ls) (k : Nat) (hk : k ≤ n) : LnsAt P w (A.map fun x => x.add (k * 5)) (n - k) (ls.drop k) := by
  by_cases e : k = n
  · subst e; exact h.none_of
  · obtain ⟨⟨rs, hr, ha⟩, hl⟩ := h
    have hrl : rs.length = n := by rw [ha.1, hl]
    obtain ⟨b, off, rfl, hp, hc⟩ := hr.2 (by omega)
    rw [show (Option.map (fun x : Addr => x.add (k * 5)) (some ⟨b, off, none⟩)) = some ⟨b, off + k * 5, none⟩ by simp [Addr.add]]
    exact LnsAt.drop ⟨⟨rs, hr, ha⟩, hl⟩ k hk
set_option maxHeartbeats 8000000 in
theorem law_appends {w : World} (A : Option Addr) (n cap : Nat) (ss : List ByteArray) (A2 : Option Addr) (n2 cap2 : Nat) (ls : List Ln) (cut : Int) (hcut : I64 cut)
    (hn : n = ss.length) (hc : (n : Int) ≤ 9223372036854775807) (hr : ReadsP (fun b => b < w.heap.size) w 1 A n (ss.flatMap fun s => [.string s])) (hs : ∀ s ∈ ss, s.size ≤ 140737488351232)
    (hl : LnsAt (fun _ b => b < w.heap.size) w A2 n2 ls) (hA2 : A2 = none → n2 = 0) (hc2 : n2 ≤ cap2) (hcc2 : (cap2 : Int) ≤ 9223372036854775807) (hl9 : ∀ l ∈ ls, l.tx.size ≤ 9223372036854775807) :
    Calls Try.prog 3 #[.slice A n cap, .slice A2 n2 cap2, .int .i64 cut] w fun e w' => e = .returned (.bool true) ∧ Below w.heap.size w w' := by
  obtain ⟨N, hN⟩ : ∃ N, N = min n 50 := ⟨_, rfl⟩
  have hN1 : N ≤ n := by omega
  have hN2 : N ≤ 50 := by omega
  have hN3 : N = n ∨ N = 50 := by omega
  have HN := Lib.hid hn
  have HR := Lib.hid hr
  have HS := Lib.hid hs
  have HL := Lib.hid hl
  have HA2 := Lib.hid hA2
  have HL9 := Lib.hid hl9
  have HCUT := Lib.hid hcut
  have HST : Hid (Ap1 w ss N N (.string ⟨#[]⟩) (.int .i64 0) w) := Lib.hid ⟨0, rfl, rfl, rfl, fun j' hj' => by rw [show j' = 0 by omega]; rfl, Below.refl _ _⟩
  have HN3 := Lib.hid hN3
  clear hn hr hs hl hA2 hl9 hcut hN hN3
  go_enter Try.func3, Try.ntmps3
  go_wp2_with fail
  go_loopg [7, 8] N (fun k x i wr => Ap1 w ss N k x i wr)
  case atStart => exact HST.out
  case round =>
    obtain ⟨j, hk, rfl, rfl, hok, hb⟩ := hrel
    have HK := Lib.hid hk
    have HB := Lib.hid hb
    have HOK := Lib.hid hok
    by_cases hj : j < N
    · have hjn : j < n := by omega
      have dj : decide (j < n) = true := decide_eq_true hjn
      have dj2 : decide ((j : Int) < 50) = true := decide_eq_true (by omega)
      have hjs : j < ss.length := by have := HN.out; omega
      obtain ⟨b, off, rfl, hbl, c0⟩ := strs_at HR.out j hjs
      have hsz := HS.out _ (List.getElem_mem hjs)
      have hct := cat_take ss j hjs
      have hxz := okTx_size (hok j (Nat.le_refl _))
      have e := hb.cell (p := ⟨b, off + j, none⟩) hbl
      rw [← e] at c0
      obtain ⟨s, hse⟩ : ∃ s, s = ss[j] := ⟨_, rfl⟩
      rw [← hse] at c0 hsz hct
      obtain ⟨x, hx⟩ : ∃ x, x = cat (ss.take j) := ⟨_, rfl⟩
      rw [← hx] at hct hxz ⊢
      have HCT := Lib.hid hct
      have hxs : (x ++ s).size ≤ 9223372036854775807 := by rw [ByteArray.size_append]; omega
      have HI := Lib.hid (fun W => rIsText_any (x ++ s) hxs W)
      have HJ := Lib.hid hj
      cases hcase : okTx (x ++ s).data.toList with
      | false =>
        rw [hcase] at HI
        clear hk hj hjs hbl e hse hx hct hxs hb hok hcase
        go_wp2_with fail
        refine (HI.out _).mono ?_
        rintro e w1 ⟨rfl, rfl⟩
        go_wp2_with fail
        refine (sane_any _).mono ?_
        rintro e w2 ⟨rfl, hb2⟩
        have HB2 := Lib.hid (HB.out.trans (hb2.mono HB.out.size))
        clear hb2
        go_wp2_with fail
        go_ret
        exact ⟨rfl, HB2.out⟩
      | true =>
        rw [hcase] at HI
        have HCASE := Lib.hid hcase
        clear hk hj hjs hbl e hse hx hct hxs hb hok hcase
        go_wp2_with fail
        refine (HI.out _).mono ?_
        rintro e w1 ⟨rfl, rfl⟩
        go_wp2_with fail
        go_roundg (gk - 1)
        case measure => have := HK.out; have := HJ.out; omega
        case rel =>
          have := HK.out
          have := HJ.out
          refine ⟨j + 1, by omega, by first | go_num | (congr 1; rw [IntWalk.wrap64_in _ (by omega)]; omega), by rw [HCT.out], fun j' hj' => ?_, HB.out⟩
          by_cases he : j' = j + 1
          · rw [he, HCT.out]; exact HCASE.out
          · exact HOK.out j' (by omega)
    · have hjN : j = N := by omega
      subst hjN
      obtain ⟨x, hx⟩ : ∃ x, x = cat (ss.take j) := ⟨_, rfl⟩
      have HX := Lib.hid hx
      have HW := Lib.hid (hok j (Nat.le_refl _))
      rw [← hx] at HW ⊢
      have hd : (decide (j < n) = true ∧ decide ((j : Int) < 50) = false) ∨ decide (j < n) = false := by
        rcases Bool.eq_false_or_eq_true (decide (j < n)) with dj | dj
        · have hjn : j < n := of_decide_eq_true dj
          exact .inl ⟨dj, decide_eq_false (by have := HN3.out; omega)⟩
        · exact .inr dj
      clear hk hb hok hj hx
      rcases hd with ⟨dj, dj2⟩ | dj
      all_goals
        go_wp2_with fail
        refine (newL_any _).mono ?_
        rintro e w1 ⟨rfl, hsl, hb1⟩
        have HSA : Hid (SA wr.heap.size (wr.heap.size + 1) wr.heap.size [] (fun _ => M0) w1) := Lib.hid ⟨E9, hsl E9 (fun _ => M0)⟩
        have HB1 := Lib.hid (HB.out.trans (hb1.mono HB.out.size))
        clear hsl hb1
        go_wp2_with fail
        refine (def_a HSA.out).mono ?_
        rintro e w2 ⟨rfl, ⟨ia, M2, hs2, hM2⟩, hw2⟩
        have HS2 := Lib.hid hs2
        have HM2 := Lib.hid hM2
        have HB2 := Lib.hid (HB1.out.trans (hw2.mono HB.out.size))
        clear hs2 hM2 hw2
        go_wp2_with fail
        refine (def_b HS2.out HM2.out x HW.out).mono ?_
        rintro e w3 ⟨rfl, ⟨ib, ht3⟩, hw3⟩
        have HT3 := Lib.hid ht3
        have HB3 := Lib.hid (HB2.out.trans (hw3.mono HB.out.size))
        clear ht3 hw3
        go_wp2_with fail
        have HS3 : Hid (Ap2 w ss wr.heap.size (wr.heap.size + 1) wr.heap.size ia ib x j j (.int .i64 0) w3) := Lib.hid ⟨0, rfl, rfl, HT3.out, HB3.out⟩
        have HD := Lib.hid dj
        go_loopg [10] j (fun k i wz => Ap2 w ss wr.heap.size (wr.heap.size + 1) wr.heap.size ia ib x j k i wz)
        case atStart => exact HS3.out
        case round =>
          obtain ⟨m, hk, rfl, ht, hb⟩ := hrel
          have HKm := Lib.hid hk
          have HBm := Lib.hid hb
          have HTm := Lib.hid ht
          by_cases hj : m < j
          · have hmn : m < n := by omega
            have dm : decide (m < n) = true := decide_eq_true hmn
            have dm2 : decide ((m : Int) < 50) = true := decide_eq_true (by omega)
            have hjs : m < ss.length := by have := HN.out; omega
            obtain ⟨b, off, rfl, hbl, c0⟩ := strs_at HR.out m hjs
            have hct := cat_take ss m hjs
            have h1 := HOK.out (m + 1) (by omega)
            rw [hct] at h1
            have HO := Lib.hid (okTx_tail h1)
            have e := hb.cell (p := ⟨b, off + m, none⟩) hbl
            rw [← e] at c0
            obtain ⟨s, hse⟩ : ∃ s, s = ss[m] := ⟨_, rfl⟩
            rw [← hse] at c0 hct HO
            have HCT := Lib.hid hct
            have HJ := Lib.hid hj
            clear hk hj hjs hbl e hse hct hb ht h1
            go_wp2_with fail
            refine (app_a HTm.out s HO.out.1 HO.out.2).mono ?_
            rintro e w4 ⟨rfl, ht4, hw4⟩
            have HT4 := Lib.hid ht4
            have HB4 := Lib.hid (HBm.out.trans (hw4.mono HB.out.size))
            clear ht4 hw4
            go_wp2_with fail
            go_roundg (gk - 1)
            case measure => have := HKm.out; have := HJ.out; omega
            case rel =>
              have := HKm.out
              have := HJ.out
              have ht5 := HT4.out
              rw [← HCT.out] at ht5
              exact ⟨m + 1, by omega, by first | go_num | (congr 1; rw [IntWalk.wrap64_in _ (by omega)]; omega), ht5, HB4.out⟩
          · obtain rfl : m = j := by omega
            rw [← HX.out] at ht
            have HT := Lib.hid ht
            clear hk hj hb ht HTm
            go_wp2_with fail
            refine (text_a HT.out).mono ?_
            rintro e w4 ⟨rfl, rfl⟩
            go_wp2_with fail
            refine (text_b HT.out).mono ?_
            rintro e w4 ⟨rfl, rfl⟩
            rcases Bool.eq_false_or_eq_true (decide ((300 : Int) < (n2 : Int))) with d3 | d3
            · go_wp2_with fail
              refine (sane_any _).mono ?_
              rintro e w5 ⟨rfl, hb2⟩
              have HB5 := Lib.hid (HBm.out.trans (hb2.mono HBm.out.size))
              clear hb2
              go_wp2_with fail
              go_ret
              exact ⟨rfl, HB5.out⟩
            · have HN2 : Hid (n2 ≤ 300) := Lib.hid (by have := of_decide_eq_false d3; omega)
              have HLK : Hid (∀ W, Below w.heap.size w W → LnsAt (fun _ b => b < w.heap.size) W A2 n2 ls) := Lib.hid (fun W hW => HL.out.keep (fun e b hb => ⟨hW.block b hb, hb⟩))
              go_wp2_with fail
              refine (rAreLines_any (HLK.out _ HBm.out) (fun _ b hb => Nat.lt_of_lt_of_le hb HBm.out.size) (by have := HN2.out; omega) HL9.out).mono ?_
              rintro e w5 ⟨rfl, hb2⟩
              have HB5 := Lib.hid (HBm.out.trans (hb2.mono HBm.out.size))
              have HT5 := Lib.hid (HT.out.below (hb2))
              clear hb2
              rcases Bool.eq_false_or_eq_true (ls.all okLn) with hall | hall
              · rw [hall]
                have HALL := Lib.hid hall
                obtain ⟨kk, hke, hkn⟩ := cut_at cut n2 HN2.out
                have HKN := Lib.hid hkn
                have hkc : kk ≤ cap2 := by omega
                have hnz : ¬ IntKind.u64.wrap (wrap64 ((n2 : Int) + 1)) = 0 := by
                  have := HN2.out
                  rw [IntWalk.wrap64_in _ (by omega), IntKind.wrap_u64]; omega
                clear hall
                go_wp2_with fail
                refine (mac_c HT5.out ((HLK.out _ HB5.out).take kk HKN.out) (fun _ b hb => Nat.lt_of_lt_of_le hb HB5.out.size) (fun e => by have := HA2.out e; have := HKN.out; omega) (by have := HKN.out; have := HN2.out; omega) (List.all_eq_true.2 fun y hy => List.all_eq_true.1 HALL.out y (List.mem_of_mem_take hy)) (by have := HKN.out; have := HN2.out; omega)).mono ?_
                rintro e w6 ⟨rfl, ht6, hw6⟩
                have HT6 := Lib.hid ht6
                have HB6 := Lib.hid (HB5.out.trans (hw6.mono HB.out.size))
                clear ht6 hw6
                have hkn2 : (kk : Int) ≤ (n2 : Int) := by omega
                by_cases hcc : kk = cap2
                · go_wp2_with fail
                  refine (add_c HT6.out (ls := ls.drop kk) (P := fun _ b => b < w.heap.size) (by
                    have h := (HLK.out _ HB6.out).none_of (A' := A2)
                    have e : n2 = kk := by omega
                    rw [Nat.sub_self, e] at h
                    exact h) (fun _ b hb => Nat.lt_of_lt_of_le hb HB6.out.size) (fun _ => rfl) (by omega) (List.all_eq_true.2 fun y hy => List.all_eq_true.1 HALL.out y (List.mem_of_mem_drop hy)) (by have := HN2.out; have := HKN.out; rw [List.length_take]; omega)).mono ?_
                  rintro e w7 ⟨rfl, ht7, hw7⟩
                  have HT7 := Lib.hid ht7
                  have HB7 := Lib.hid (HB6.out.trans (hw7.mono HB.out.size))
                  clear ht7 hw7
                  rw [List.take_append_drop] at HT7
                  go_wp2_with fail
                  refine (lin_c HT7.out).mono ?_
                  rintro e w8 ⟨A8, n8, c8, rfl, hl8⟩
                  obtain rfl : n8 = n2 := hl8.at_.len.trans HL.out.len.symm
                  have HB8 := Lib.hid (HB7.out.trans (hl8.below.mono HB7.out.size))
                  have HL8 := Lib.hid hl8.at_
                  clear hl8
                  go_wp2_with fail
                  refine (sameLines_eq HL8.out (HLK.out _ HB8.out) (fun _ b hb => hb.lt) (fun _ b hb => Nat.lt_of_lt_of_le hb HB8.out.size) (by have := HN2.out; omega)).mono ?_
                  rintro e w9 ⟨rfl, hb9⟩
                  have HB9 := Lib.hid (HB8.out.trans (hb9.mono HB8.out.size))
                  clear hb9
                  go_wp2_with fail
                  refine (sane_any _).mono ?_
                  rintro e w10 ⟨rfl, hb10⟩
                  have HB10 := Lib.hid (HB9.out.trans (hb10.mono HB9.out.size))
                  clear hb10
                  go_wp2_with fail
                  go_ret
                  exact ⟨rfl, HB10.out⟩
                · go_wp2_with fail
                  refine (add_c HT6.out ((HLK.out _ HB6.out).from kk HKN.out) (fun _ b hb => Nat.lt_of_lt_of_le hb HB6.out.size) (fun e => by
                    have e2 := HA2.out (by cases A2 with
                      | none => rfl
                      | some a => cases e)
                    omega) (by have := HN2.out; omega) (List.all_eq_true.2 fun y hy => List.all_eq_true.1 HALL.out y (List.mem_of_mem_drop hy)) (by have := HN2.out; have := HKN.out; rw [List.length_take]; omega)).mono ?_
                  rintro e w7 ⟨rfl, ht7, hw7⟩
                  have HT7 := Lib.hid ht7
                  have HB7 := Lib.hid (HB6.out.trans (hw7.mono HB.out.size))
                  clear ht7 hw7
                  rw [List.take_append_drop] at HT7
                  go_wp2_with fail
                  refine (lin_c HT7.out).mono ?_
                  rintro e w8 ⟨A8, n8, c8, rfl, hl8⟩
                  obtain rfl : n8 = n2 := hl8.at_.len.trans HL.out.len.symm
                  have HB8 := Lib.hid (HB7.out.trans (hl8.below.mono HB7.out.size))
                  have HL8 := Lib.hid hl8.at_
                  clear hl8
                  go_wp2_with fail
                  refine (sameLines_eq HL8.out (HLK.out _ HB8.out) (fun _ b hb => hb.lt) (fun _ b hb => Nat.lt_of_lt_of_le hb HB8.out.size) (by have := HN2.out; omega)).mono ?_
                  rintro e w9 ⟨rfl, hb9⟩
                  have HB9 := Lib.hid (HB8.out.trans (hb9.mono HB8.out.size))
                  clear hb9
                  go_wp2_with fail
                  refine (sane_any _).mono ?_
                  rintro e w10 ⟨rfl, hb10⟩
                  have HB10 := Lib.hid (HB9.out.trans (hb10.mono HB9.out.size))
                  clear hb10
                  go_wp2_with fail
                  go_ret
                  exact ⟨rfl, HB10.out⟩
              · rw [hall]
                clear hall
                go_wp2_with fail
                refine (sane_any _).mono ?_
                rintro e w6 ⟨rfl, hb2⟩
                have HB6 := Lib.hid (HB5.out.trans (hb2.mono HB5.out.size))
                clear hb2
                go_wp2_with fail
                go_ret
                exact ⟨rfl, HB6.out⟩
end Go.Proofs.Ytgpanlkcpnlejaa
