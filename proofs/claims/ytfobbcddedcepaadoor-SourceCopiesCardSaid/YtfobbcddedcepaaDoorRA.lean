/- The document's lines of a text; texts that are the same. -/
import Derived.Test.YtfobbcddedcepaaDoorSB
namespace Go.Proofs.YtfobbcddedcepaaDoor
open Go.RowKit
set_option maxRecDepth 100000
set_option linter.unusedSimpArgs false
set_option linter.unusedVariables false
theorem spl_lf : ∀ (a : List UInt8) (init : List (List UInt8)) (cur : List UInt8), spl a = init ++ [cur] → spl (a ++ [10]) = init ++ [cur] ++ [[]]
  | [], init, cur, h => by
    have e : init = [] ∧ cur = [] := by
      cases init with
      | nil => simp [spl] at h; exact ⟨rfl, h⟩
      | cons x t => simp [spl] at h
    rw [e.1, e.2]; rfl
  | c :: t, init, cur, h => by
    rw [List.cons_append]
    unfold spl at h ⊢
    by_cases hc : c = 10
    · rw [if_pos hc] at h ⊢
      cases init with
      | nil =>
        simp only [List.nil_append, List.cons.injEq] at h
        exact absurd h.2 (spl_ne t)
      | cons x xs =>
        simp only [List.cons_append, List.cons.injEq] at h
        rw [spl_lf t xs cur h.2, ← h.1]; rfl
    · rw [if_neg hc] at h ⊢
      cases ht : spl t with
      | nil => exact absurd ht (spl_ne t)
      | cons p ps =>
        rw [ht] at h
        cases init with
        | nil =>
          simp only [List.nil_append, List.cons.injEq] at h
          rw [spl_lf t [] p (by rw [ht, h.2]; rfl), ← h.1]; rfl
        | cons x xs =>
          simp only [List.cons_append, List.cons.injEq] at h
          rw [spl_lf t (p :: xs) cur (by rw [ht, h.2]; rfl), ← h.1]; rfl
theorem spl_c : ∀ (a : List UInt8) (c : UInt8) (init : List (List UInt8)) (cur : List UInt8), c ≠ 10 → spl a = init ++ [cur] → spl (a ++ [c]) = init ++ [cur ++ [c]]
  | [], c, init, cur, hc, h => by
    have e : init = [] ∧ cur = [] := by
      cases init with
      | nil => simp [spl] at h; exact ⟨rfl, h⟩
      | cons x t => simp [spl] at h
    rw [e.1, e.2]
    show spl [c] = [[c]]
    unfold spl
    rw [if_neg hc]; rfl
  | b :: t, c, init, cur, hc, h => by
    rw [List.cons_append]
    unfold spl at h ⊢
    by_cases hb : b = 10
    · rw [if_pos hb] at h ⊢
      cases init with
      | nil =>
        simp only [List.nil_append, List.cons.injEq] at h
        exact absurd h.2 (spl_ne t)
      | cons x xs =>
        simp only [List.cons_append, List.cons.injEq] at h
        rw [spl_c t c xs cur hc h.2, ← h.1]; rfl
    · rw [if_neg hb] at h ⊢
      cases ht : spl t with
      | nil => exact absurd ht (spl_ne t)
      | cons p ps =>
        rw [ht] at h
        cases init with
        | nil =>
          simp only [List.nil_append, List.cons.injEq] at h
          rw [spl_c t c [] p hc (by rw [ht, h.2]; rfl), ← h.1]; rfl
        | cons x xs =>
          simp only [List.cons_append, List.cons.injEq] at h
          rw [spl_c t c (p :: xs) cur hc (by rw [ht, h.2]; rfl), ← h.1]; rfl
/-- Behind i bytes: the lines that are done, and where the next one begins. -/
structure Fl (s : ByteArray) (i f : Nat) (done : List ByteArray) : Prop where
  le : f ≤ i
  is : i ≤ s.size
  n : done.length ≤ i
  eq : spl (s.data.toList.take i) = done.map (·.data.toList) ++ [(s.data.toList.take i).drop f]
theorem ex_list (s : ByteArray) (a b : Nat) : (s.extract a b).data.toList = (s.data.toList.take b).drop a := by
  rw [ByteArray.data_extract, Array.toList_extract]
  simp [List.extract_eq_take_drop, List.drop_take]
theorem Fl.lf {s : ByteArray} {i f : Nat} {done : List ByteArray} (h : Fl s i f done) (hi : i < s.size) (hc : s[i] = 10) : Fl s (i + 1) (i + 1) (done ++ [s.extract f i]) := by
  have hl : i < s.data.toList.length := by simpa using hi
  have ht : s.data.toList.take (i + 1) = s.data.toList.take i ++ [10] := by
    rw [List.take_succ_eq_append_getElem hl]
    have : s.data.toList[i] = s[i] := rfl
    rw [this, hc]
  refine ⟨Nat.le_refl _, hi, by have := h.n; simp; omega, ?_⟩
  rw [ht, spl_lf _ _ _ h.eq, List.map_append, List.map_cons, List.map_nil, ex_list]
  have e : (s.data.toList.take i ++ [10]).drop (i + 1) = [] := List.drop_eq_nil_of_le (by rw [List.length_append, List.length_take]; simp; omega)
  rw [e]
theorem Fl.c {s : ByteArray} {i f : Nat} {done : List ByteArray} (h : Fl s i f done) (hi : i < s.size) (hc : s[i] ≠ 10) : Fl s (i + 1) f done := by
  have hl : i < s.data.toList.length := by simpa using hi
  have ht : s.data.toList.take (i + 1) = s.data.toList.take i ++ [s[i]] := by
    rw [List.take_succ_eq_append_getElem hl]; rfl
  refine ⟨by have := h.le; omega, hi, by have := h.n; omega, ?_⟩
  rw [ht, spl_c _ _ _ _ hc h.eq, List.drop_append_of_le_length (by rw [List.length_take]; have := h.le; omega)]
theorem map_data_inj : ∀ {a b : List ByteArray}, a.map (·.data.toList) = b.map (·.data.toList) → a = b
  | [], [], _ => rfl
  | [], _ :: _, h => by simp at h
  | _ :: _, [], h => by simp at h
  | x :: a, y :: b, h => by
    simp only [List.map_cons, List.cons.injEq] at h
    rw [bytes_ext (show x.data.toList = y.data.toList from h.1), map_data_inj h.2]
theorem Fl.endd {s : ByteArray} {f : Nat} {done : List ByteArray} (h : Fl s s.size f done) : linesS s = if f < s.size then done ++ [s.extract f s.size] else done := by
  have hl : s.data.toList.length = s.size := by simp
  have he := h.eq
  rw [List.take_of_length_le (by omega)] at he
  have hp : parts s = done ++ [s.extract f s.size] := by
    apply map_data_inj
    rw [parts_data, he, List.map_append, List.map_cons, List.map_nil, ex_list, List.take_of_length_le (by omega)]
  have hx : (s.extract f s.size).data.toList = s.data.toList.drop f := by rw [ex_list, List.take_of_length_le (by omega)]
  have hL : (parts s).getLast?.getD ⟨#[]⟩ = s.extract f s.size := by rw [hp]; simp
  have key : linesS s = if s.data.toList.drop f = [] then (parts s).dropLast else parts s := by unfold linesS; simp only [hL, hx]
  rw [key, hp]
  by_cases hf : f < s.size
  · rw [if_neg (by intro e; have := congrArg List.length e; rw [List.length_drop, hl] at this; simp at this; omega), if_pos hf]
  · rw [if_pos (List.drop_eq_nil_of_le (by rw [hl]; omega)), if_neg hf, List.dropLast_concat]
theorem cell_one_new (w : World) (c0 : Value) (e : TypeId) : ∀ j u, [c0][j]? = some u → (w.alloc (.cells #[c0] e)).cell? ((⟨w.heap.size, 0, none⟩ : Addr).add j) = some u := by
  intro j u hu
  rw [cell_add]
  have h := heap_alloc_new w (.cells #[c0] e)
  simp only [World.cell?, h, Nat.zero_add]
  have : (#[c0] : Array Value).toList[j]? = some u := hu
  rwa [Array.getElem?_toList] at this
/-- The loop of the document's Lines. -/
def FlR (s : ByteArray) (w : World) (k : Nat) (x f i : Value) (wr : World) : Prop :=
  ∃ (j q : Nat) (done : List ByteArray), k + j = s.size ∧ i = .int .i64 j ∧ f = .int .i64 q ∧ Fl s j q done ∧ wr.ownsRow w.heap.size 9 1 x done.length (strCs done) ∧ Below w.heap.size w wr
theorem str_app (a : List ByteArray) (b : ByteArray) : strCs a ++ [.string b] = strCs (a ++ [b]) := by simp [strCs]
set_option maxHeartbeats 2000000 in
theorem rLines_any (s : ByteArray) (hs : s.size ≤ 1000000) (w : World) : Calls Tryd.prog 73 #[.string s] w (StrP (linesS s) w) := by
  obtain ⟨i0, hi0, hz0, hz1, hz2⟩ := info_parts info_str
  have HST : Hid (FlR s w s.size (.slice none 0 0) (.int .i64 0) (.int .i64 0) w) := Lib.hid ⟨0, 0, [], rfl, rfl, rfl, ⟨Nat.le_refl _, Nat.zero_le _, Nat.le_refl _, rfl⟩, World.ownsRow_nil _ _ _ _, Below.refl _ _⟩
  go_enter Tryd.func73, Tryd.ntmps73
  go_wp2_with fail
  go_loopg [3, 4, 5] s.size (fun k x f i wr => FlR s w k x f i wr)
  case atStart => exact HST.out
  case round =>
    obtain ⟨j, q, done, hk, rfl, rfl, hf, ho, hb⟩ := hrel
    have HK := Lib.hid hk
    have hqj := hf.le
    have hdl := hf.n
    obtain ⟨o, cap, rfl, hcl, hcl2⟩ := row_shape ho
    have HO := Lib.hid ho
    have HB := Lib.hid hb
    have HF := Lib.hid hf
    by_cases hj : j < s.size
    · have dj : decide (j < s.size) = true := decide_eq_true hj
      have hj0 : (0 : Int) ≤ (j : Int) := by omega
      have hj1 : (j : Int) < (s.size : Int) := by omega
      by_cases hc : s[j] = 10
      · have hlf := hf.lf hj hc
        have hbyte : s[j].toNat = 10 := by rw [hc]; rfl
        have e1 : ((s[j].toNat : Int) == 10) = true := by rw [hbyte]; rfl
        have hs4 := cell_one_new wr (.string (s.extract q j)) 9
        have HSRC := Lib.hid hs4
        have HO4 := Lib.hid (own_kept ho (Kept.of (S := fun _ => False) ((Below.refl wr.heap.size wr).alloc (Nat.le_refl _) (.cells #[.string (s.extract q j)] 9))) (fun _ _ h => h))
        have HLF := Lib.hid hlf
        have HJ := Lib.hid hj
        have hq0 : (0 : Int) ≤ (q : Int) := by omega
        have hqj2 : (q : Int) ≤ (j : Int) := by omega
        clear hk hf ho hb hlf hc hs4 hbyte
        go_wp2_with (first
          | (at_builtin; refine wpList_append_own _ rfl _ _ 36 rfl w.heap.size 9 i0 _ 1 16 Tryd.underlying36 hi0 hz0 hz1 hz2 rfl (by decide) _ _ _ rfl HO4.out ⟨wr.heap.size, 0, none⟩ 1 1 [.string (s.extract q j)] rfl rfl HSRC.out (fun u hu => by simp only [List.mem_cons, List.not_mem_nil, or_false] at hu; rcases hu with rfl; rfl) (by unfold maxLen; omega) (by omega) (by have := HB.out.size; simp; omega) ?_
             intro v5 w5 hown5 hgrow5 _
             have hg5 : (wr.alloc (.cells #[.string (s.extract q j)] 9)).grownBy w5 (Value.slice o done.length cap).ownBlock := hgrow5
             have HG5 := Lib.hid hg5
             rw [str_app] at hown5
             have HO5 := Lib.hid hown5
             clear hgrow5 hg5 hown5))
        have hblw := (HB.out.alloc HB.out.size (.cells #[.string (s.extract q j)] 9)).grown HG5.out (by have := HB.out.size; simp; omega) (fun k hk => (own_tag HO.out hk).2)
        have HBLW := Lib.hid hblw
        clear hblw
        go_roundg (gk - 1)
        case measure => have := HK.out; have := HJ.out; omega
        case rel =>
          have := HK.out
          have := HJ.out
          exact ⟨j + 1, j + 1, done ++ [s.extract q j], by omega, by go_num, by go_num, HLF.out, by rw [List.length_append]; exact HO5.out, HBLW.out⟩
      · have hlf := hf.c hj hc
        have e1 : ((s[j].toNat : Int) == 10) = false := by
          rw [beq_eq_false_iff_ne]; intro h; exact hc (UInt8.toNat_inj.1 (by show s[j].toNat = 10; omega))
        have HLF := Lib.hid hlf
        have HJ := Lib.hid hj
        clear hk hf ho hb hlf hc
        go_wp2_with fail
        go_roundg (gk - 1)
        case measure => have := HK.out; have := HJ.out; omega
        case rel =>
          have := HK.out
          have := HJ.out
          exact ⟨j + 1, q, done, by omega, by go_num, rfl, HLF.out, HO.out, HB.out⟩
    · have dj : decide (j < s.size) = false := decide_eq_false hj
      have hjs : j = s.size := by have := hf.is; omega
      rw [hjs] at hf
      have hend := hf.endd
      by_cases hq : q < s.size
      · have dq : decide (q < s.size) = true := decide_eq_true hq
        rw [if_pos hq] at hend
        have HE := Lib.hid hend
        have hq0 : (0 : Int) ≤ (q : Int) := by omega
        have hqj2 : (q : Int) ≤ (s.size : Int) := by omega
        have hs4 := cell_one_new wr (.string (s.extract q s.size)) 9
        have HSRC := Lib.hid hs4
        have HO4 := Lib.hid (own_kept ho (Kept.of (S := fun _ => False) ((Below.refl wr.heap.size wr).alloc (Nat.le_refl _) (.cells #[.string (s.extract q s.size)] 9))) (fun _ _ h => h))
        have hd9 : done.length ≤ 1000000 := by have := hf.n; omega
        clear hk hf ho hb hend hs4 hjs hj
        go_wp2_with (first
          | (at_builtin; refine wpList_append_own _ rfl _ _ 36 rfl w.heap.size 9 i0 _ 1 16 Tryd.underlying36 hi0 hz0 hz1 hz2 rfl (by decide) _ _ _ rfl HO4.out ⟨wr.heap.size, 0, none⟩ 1 1 [.string (s.extract q s.size)] rfl rfl HSRC.out (fun u hu => by simp only [List.mem_cons, List.not_mem_nil, or_false] at hu; rcases hu with rfl; rfl) (by unfold maxLen; omega) (by omega) (by have := HB.out.size; simp; omega) ?_
             intro v5 w5 hown5 hgrow5 _
             have hg5 : (wr.alloc (.cells #[.string (s.extract q s.size)] 9)).grownBy w5 (Value.slice o done.length cap).ownBlock := hgrow5
             have HG5 := Lib.hid hg5
             rw [str_app] at hown5
             have HO5 := Lib.hid hown5
             clear hgrow5 hg5 hown5))
        have hblw := (HB.out.alloc HB.out.size (.cells #[.string (s.extract q s.size)] 9)).grown HG5.out (by have := HB.out.size; simp; omega) (fun k hk => (own_tag HO.out hk).2)
        have HBLW := Lib.hid hblw
        clear hblw
        obtain ⟨o5, c5, rfl, hn5, hc5⟩ := row_shape HO5.out
        go_wp2_with fail
        go_ret
        rw [HE.out]
        exact ⟨⟨o5, done.length + 1, c5, rfl, ⟨ReadsP.of_own HO5.out (fun g cs hg _ => ⟨cs, _, hg⟩), by simp⟩, own_none HO5.out, hn5, hc5⟩, HBLW.out⟩
      · have dq : decide (q < s.size) = false := decide_eq_false hq
        rw [if_neg hq] at hend
        have HE := Lib.hid hend
        clear hk hf ho hb hend hjs hj hq
        go_wp2_with fail
        go_ret
        rw [HE.out]
        exact ⟨⟨o, done.length, cap, rfl, ⟨ReadsP.of_own HO.out (fun g cs hg _ => ⟨cs, _, hg⟩), rfl⟩, own_none HO.out, hcl, hcl2⟩, HB.out⟩
end Go.Proofs.YtfobbcddedcepaaDoor
