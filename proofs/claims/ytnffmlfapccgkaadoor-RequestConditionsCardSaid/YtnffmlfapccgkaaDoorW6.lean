/- The code's Split. -/
import Derived.Test.YtnffmlfapccgkaaDoorW5
namespace Go.Proofs.YtnffmlfapccgkaaDoor
open Go.RowKit Go.Shelf
set_option maxRecDepth 100000
set_option linter.unusedSimpArgs false
set_option linter.unusedVariables false
/-- A letter or a digit. -/
def ld (c : UInt8) : Bool := decide ((97 ≤ c.toNat ∧ c.toNat ≤ 122) ∨ (65 ≤ c.toNat ∧ c.toNat ≤ 90) ∨ (48 ≤ c.toNat ∧ c.toNat ≤ 57))
theorem ld_any (c : UInt8) (w : World) : Calls Tryd.prog 58 #[.int .u8 (c.toNat : Int)] w fun e w' => e = .returned (.bool (ld c)) ∧ w = w' := by
  have hc := c.toNat_lt
  unfold ld
  obtain ⟨k, hk⟩ : ∃ k, k = c.toNat := ⟨_, rfl⟩
  rw [← hk] at hc ⊢
  clear hk
  go_enter Tryd.func58, Tryd.ntmps58
  go_wp2
  all_goals
    go_ret
    refine ⟨congrArg (fun b => Ending.returned (Value.bool b)) ?_, rfl⟩
    rw [Bool.eq_iff_iff]
    simp only [Bool.or_eq_true, Bool.and_eq_true, decide_eq_true_eq, Bool.false_eq_true, Bool.false_or, Bool.true_or, Bool.false_and, Bool.true_and, eq_self, true_iff, iff_true, false_iff, iff_false]
    omega
/-- A byte that can be a control byte. -/
def cc (c : UInt8) : Bool := !ld c && !bl c && !(c == 92)
theorem canControl_any (c : UInt8) (w : World) : Calls Tryd.prog 65 #[.int .u8 (c.toNat : Int)] w fun e w' => e = .returned (.bool (cc c)) ∧ w = w' := by
  have HL := Lib.hid (fun W => ld_any c W)
  have HB := Lib.hid (fun W => blank_any c W)
  have h92 : ((c.toNat : Int) != 92) = !(c == 92) := by
    by_cases h : c = 92
    · rw [h]; rfl
    · have h1 := nb c 92 h
      have h2 : ((c.toNat : Int) == 92) = false := h1
      rw [bne, h2]; simp [h]
  unfold cc
  obtain ⟨k, hk⟩ : ∃ k, k = c.toNat := ⟨_, rfl⟩
  rw [← hk] at HL HB h92 ⊢
  obtain ⟨x, hx⟩ : ∃ x, x = (c == 92) := ⟨_, rfl⟩
  rw [← hx] at h92 ⊢
  clear hk hx
  cases h1 : ld c <;> rw [h1] at HL
  · cases h2 : bl c <;> rw [h2] at HB
    · clear h1 h2
      go_enter Tryd.func65, Tryd.ntmps65
      go_wp2_with fail
      refine (HL.out _).mono ?_
      rintro e w1 ⟨rfl, rfl⟩
      go_wp2_with fail
      refine (HB.out _).mono ?_
      rintro e w1 ⟨rfl, rfl⟩
      go_wp2_with fail
      go_ret
      refine ⟨?_, rfl⟩
      first | rfl | (simp [h92]) | (cases x <;> simp_all)
    · clear h1 h2
      go_enter Tryd.func65, Tryd.ntmps65
      go_wp2_with fail
      refine (HL.out _).mono ?_
      rintro e w1 ⟨rfl, rfl⟩
      go_wp2_with fail
      refine (HB.out _).mono ?_
      rintro e w1 ⟨rfl, rfl⟩
      go_wp2_with fail
      go_ret
      exact ⟨rfl, rfl⟩
  · clear h1
    go_enter Tryd.func65, Tryd.ntmps65
    go_wp2_with fail
    refine (HL.out _).mono ?_
    rintro e w1 ⟨rfl, rfl⟩
    go_wp2_with fail
    go_ret
    exact ⟨rfl, rfl⟩
theorem ne_u8 (a b : UInt8) : ((a.toNat : Int) != (b.toNat : Int)) = !(a == b) := by
  by_cases h : a = b
  · subst h; simp
  · rw [bne, nb a b h]; simp [h]
theorem eq_u8 (a b : UInt8) : ((a.toNat : Int) == (b.toNat : Int)) = (a == b) := by
  by_cases h : a = b
  · subst h; simp
  · rw [nb a b h]; simp [h]
def csS (l : List UInt8) (a b : UInt8) : Bool := okTx l && cc a && cc b && !(a == b)
theorem canSplit_any (s : ByteArray) (a b : UInt8) (w : World) : Calls Tryd.prog 45 #[.string s, .int .u8 (a.toNat : Int), .int .u8 (b.toNat : Int)] w fun e w' => e = .returned (.bool (csS s.data.toList a b)) ∧ w = w' := by
  have HV := Lib.hid (fun W => validText_any s W)
  have HA := Lib.hid (fun W => canControl_any a W)
  have HB := Lib.hid (fun W => canControl_any b W)
  have hne := ne_u8 a b
  unfold csS
  obtain ⟨v, hv⟩ : ∃ v, v = okTx s.data.toList := ⟨_, rfl⟩
  obtain ⟨ca, hca⟩ : ∃ v, v = cc a := ⟨_, rfl⟩
  obtain ⟨cb, hcb⟩ : ∃ v, v = cc b := ⟨_, rfl⟩
  obtain ⟨ka, hka⟩ : ∃ v, v = a.toNat := ⟨_, rfl⟩
  obtain ⟨kb, hkb⟩ : ∃ v, v = b.toNat := ⟨_, rfl⟩
  obtain ⟨x, hx⟩ : ∃ x, x = (a == b) := ⟨_, rfl⟩
  rw [← hv] at HV ⊢
  rw [← hca] at HA ⊢
  rw [← hcb] at HB ⊢
  rw [← hka] at HA hne ⊢
  rw [← hkb] at HB hne ⊢
  rw [← hx] at hne ⊢
  clear hv hca hcb hka hkb hx
  cases v
  · go_enter Tryd.func45, Tryd.ntmps45
    go_wp2_with fail
    refine (HV.out _).mono ?_
    rintro e w1 ⟨rfl, rfl⟩
    go_wp2_with fail
    go_ret
    exact ⟨rfl, rfl⟩
  cases ca
  · go_enter Tryd.func45, Tryd.ntmps45
    go_wp2_with fail
    refine (HV.out _).mono ?_
    rintro e w1 ⟨rfl, rfl⟩
    go_wp2_with fail
    refine (HA.out _).mono ?_
    rintro e w1 ⟨rfl, rfl⟩
    go_wp2_with fail
    go_ret
    exact ⟨rfl, rfl⟩
  cases cb
  · go_enter Tryd.func45, Tryd.ntmps45
    go_wp2_with fail
    refine (HV.out _).mono ?_
    rintro e w1 ⟨rfl, rfl⟩
    go_wp2_with fail
    refine (HA.out _).mono ?_
    rintro e w1 ⟨rfl, rfl⟩
    go_wp2_with fail
    refine (HB.out _).mono ?_
    rintro e w1 ⟨rfl, rfl⟩
    go_wp2_with fail
    go_ret
    exact ⟨rfl, rfl⟩
  · cases x
    all_goals
      go_enter Tryd.func45, Tryd.ntmps45
      go_wp2_with fail
      refine (HV.out _).mono ?_
      rintro e w1 ⟨rfl, rfl⟩
      go_wp2_with fail
      refine (HA.out _).mono ?_
      rintro e w1 ⟨rfl, rfl⟩
      go_wp2_with fail
      refine (HB.out _).mono ?_
      rintro e w1 ⟨rfl, rfl⟩
      go_wp2_with fail
      go_ret
      exact ⟨rfl, rfl⟩
/-- A request that is none. -/
abbrev noReq : Value := .agg #[.string ⟨#[]⟩, .slice none 0 0, .string ⟨#[]⟩, .bool false]
/-- Is a line a control line? -/
def isC (l : List UInt8) (a b : UInt8) : Bool := match l with
  | [] => false
  | c :: _ => c == a || c == b
def nmS (l : List UInt8) : List UInt8 := (cutB (skB (l.drop 1))).1
def rsS (l : List UInt8) : List UInt8 := (cutB (skB (l.drop 1))).2
/-- What Split leaves of a control line. -/
def SpL (l : List UInt8) (b : UInt8) (w : World) (e : Ending) (w' : World) : Prop :=
  ∃ A c, e = .returned (.tuple #[.agg #[.string (bs (nmS l)), .slice A (wds (rsS l)).length c, .string (bs (rsS l)), .bool (l.head? == some b)], .bool true, .int .i64 0]) ∧
    StrsAt w' A (wds (rsS l)).length ((wds (rsS l)).map bs) ∧ (c : Int) ≤ 9223372036854775807 ∧ (wds (rsS l)).length ≤ c ∧ Below w.heap.size w w'
def SpP (l : List UInt8) (a b : UInt8) (w : World) (e : Ending) (w' : World) : Prop :=
  if csS l a b = true then (if isC l a b = true then SpL l b w e w' else (e = .returned (.tuple #[noReq, .bool false, .int .i64 0]) ∧ Below w.heap.size w w')) else (e = .returned (.tuple #[noReq, .bool false, .int .i64 1]) ∧ Below w.heap.size w w')
theorem req_end {F : Func} {a : Act} {W' : World} {t u v g : Nat} {c0 c1 c2 c3 x y : Value} {Q : Ending → World → Prop} (hF : F.results = #[.cell t 44, .tmp u, .tmp v]) (hd : a.defers = []) (h2 : a.tmps.getD t undef = .pointer (some ⟨g, 0, none⟩)) (h3 : a.tmps.getD u undef = x) (h4 : a.tmps.getD v undef = y)
    (e0 : W'.cell? ⟨g, 0, none⟩ = some c0) (e1 : W'.cell? ⟨g, 1, none⟩ = some c1) (e2 : W'.cell? ⟨g, 2, none⟩ = some c2) (e3 : W'.cell? ⟨g, 3, none⟩ = some c3) (hQ : Q (.returned (.tuple #[.agg #[c0, c1, c2, c3], x, y])) W') : bodyPost Tryd.prog F Q Exit.ret a W' := by
  have h2' : a.tmps[t]?.getD undef = .pointer (some ⟨g, 0, none⟩) := by simpa using h2
  have h3' : a.tmps[u]?.getD undef = x := by simpa using h3
  have h4' : a.tmps[v]?.getD undef = y := by simpa using h4
  refine bodyPost_ret (v := .tuple #[.agg #[c0, c1, c2, c3], x, y]) ?_ hd hQ
  simp [results, hF, h2', h3', h4', go_sem, e0, e1, e2, e3]
theorem fresh4 (w : World) (c0 c1 c2 c3 : Value) (t : TypeId) : ((w.alloc (.cells #[c0, c1, c2, c3] t)).cell? ⟨w.heap.size, 0, none⟩ = some c0 ∧ (w.alloc (.cells #[c0, c1, c2, c3] t)).cell? ⟨w.heap.size, 1, none⟩ = some c1 ∧ (w.alloc (.cells #[c0, c1, c2, c3] t)).cell? ⟨w.heap.size, 2, none⟩ = some c2 ∧ (w.alloc (.cells #[c0, c1, c2, c3] t)).cell? ⟨w.heap.size, 3, none⟩ = some c3) := by
  have h := heap_alloc_new w (.cells #[c0, c1, c2, c3] t)
  refine ⟨?_, ?_, ?_, ?_⟩ <;> (simp only [World.cell?, h]; rfl)
theorem blk4 {w : World} {g : Nat} {c0 c1 c2 c3 : Value} {t : TypeId} (h : w.heap[g]? = some (.cells #[c0, c1, c2, c3] t (0, 0))) : (w.cell? ⟨g, 0, none⟩ = some c0 ∧ w.cell? ⟨g, 1, none⟩ = some c1 ∧ w.cell? ⟨g, 2, none⟩ = some c2 ∧ w.cell? ⟨g, 3, none⟩ = some c3) ∧ (w.frozen? ⟨g, 0, none⟩ = false ∧ w.frozen? ⟨g, 1, none⟩ = false ∧ w.frozen? ⟨g, 2, none⟩ = false ∧ w.frozen? ⟨g, 3, none⟩ = false) := by
  refine ⟨⟨?_, ?_, ?_, ?_⟩, ⟨?_, ?_, ?_, ?_⟩⟩ <;> simp [World.cell?, World.frozen?, h]
/-- Four cells of a block, written. -/
def put4 (w : World) (g : Nat) (c0 c1 c2 c3 : Value) : World := (((w.setCell ⟨g, 0, none⟩ c0).setCell ⟨g, 1, none⟩ c1).setCell ⟨g, 2, none⟩ c2).setCell ⟨g, 3, none⟩ c3
theorem put4_far {w : World} {g : Nat} {c0 c1 c2 c3 : Value} {k : Nat} (hk : k ≠ g) : (put4 w g c0 c1 c2 c3).heap[k]? = w.heap[k]? := by
  unfold put4
  rw [Below.heap_setCell _ _ _ _ (by first | exact hk | exact Ne.symm hk), Below.heap_setCell _ _ _ _ (by first | exact hk | exact Ne.symm hk), Below.heap_setCell _ _ _ _ (by first | exact hk | exact Ne.symm hk), Below.heap_setCell _ _ _ _ (by first | exact hk | exact Ne.symm hk)]
theorem put4_at {w : World} {g : Nat} {d0 d1 d2 d3 c0 c1 c2 c3 : Value} {t : TypeId} (h : w.heap[g]? = some (.cells #[d0, d1, d2, d3] t (0, 0))) : (put4 w g c0 c1 c2 c3).heap[g]? = some (.cells #[c0, c1, c2, c3] t (0, 0)) := by
  unfold put4
  simp [World.setCell, Array.getElem?_modify, h]
theorem put4_bel {B : Nat} {u w : World} {g : Nat} {c0 c1 c2 c3 : Value} (h : Below B u w) (hg : B ≤ g) : Below B u (put4 w g c0 c1 c2 c3) :=
  h.trans ⟨rfl, rfl, rfl, by simp [put4, World.setCell], fun k hk => put4_far (by omega)⟩
theorem StrsAt.put4 {w : World} {A : Option Addr} {n : Nat} {ss : List ByteArray} {g : Nat} {c0 c1 c2 c3 : Value} (h : StrsAt w A n ss) (hA : ∀ q, A = some q → q.block ≠ g) : StrsAt (put4 w g c0 c1 c2 c3) A n ss := by
  refine ⟨h.1, fun hn => ?_⟩
  obtain ⟨b, off, rfl, hb, hc⟩ := h.2 hn
  have hne : b ≠ g := hA _ rfl
  refine ⟨b, off, rfl, by unfold YtnffmlfapccgkaaDoor.put4; simp [World.setCell]; exact hb, fun j hj => ?_⟩
  have := hc j hj
  simp only [World.cell?, put4_far (w := w) (c0 := c0) (c1 := c1) (c2 := c2) (c3 := c3) hne] at this ⊢
  exact this
set_option maxHeartbeats 4000000 in
theorem split_bad (l : List UInt8) (a b : UInt8) (h : csS l a b = false) (w : World) : Calls Tryd.prog 21 #[.string (bs l), .int .u8 (a.toNat : Int), .int .u8 (b.toNat : Int)] w (fun e w' => e = .returned (.tuple #[noReq, .bool false, .int .i64 1]) ∧ Below w.heap.size w w') := by
  have HC := Lib.hid (fun W => canSplit_any (bs l) a b W)
  rw [bs_list, h] at HC
  have HE := Lib.hid (fresh4 w (.string ⟨#[]⟩) (.slice none 0 0) (.string ⟨#[]⟩) (.bool false) 44)
  have HB := Lib.hid (bel0 w (.cells #[.string ⟨#[]⟩, .slice none 0 0, .string ⟨#[]⟩, .bool false] 44))
  clear h
  go_enter Tryd.func21, Tryd.ntmps21
  go_wp2_with fail
  refine (HC.out _).mono ?_
  rintro e w1 ⟨rfl, hw⟩
  rw [← hw]
  clear hw
  go_wp2_with fail
  exact req_end (t := 6) (u := 7) (v := 8) (g := w.heap.size) rfl rfl rfl rfl rfl HE.out.1 HE.out.2.1 HE.out.2.2.1 HE.out.2.2.2 ⟨rfl, HB.out⟩
theorem u8_ne {a b : UInt8} (h : (a == b) = false) : ((a.toNat : Int) != (b.toNat : Int)) = true := by rw [ne_u8, h]; rfl
theorem u8_eq {a b : UInt8} (h : (a == b) = true) : ((a.toNat : Int) != (b.toNat : Int)) = false := by rw [ne_u8, h]; rfl
theorem head_facts (S : ByteArray) (c : UInt8) (t : List UInt8) (hS : S = bs (c :: t)) : ∃ h : 0 < S.size, S[0] = c ∧ S.toList.isEmpty = false ∧ ¬ S.toList = [] := by
  subst hS
  refine ⟨by rw [bs_size]; simp, bs_at (t := c :: t) (j := 0) (c := c) rfl _, by rw [Lib.toList_data, bs_list]; rfl, by rw [Lib.toList_data, bs_list]; simp⟩
set_option maxHeartbeats 4000000 in
theorem split_no (l : List UInt8) (a b : UInt8) (h : csS l a b = true) (hn : isC l a b = false) (w : World) : Calls Tryd.prog 21 #[.string (bs l), .int .u8 (a.toNat : Int), .int .u8 (b.toNat : Int)] w (fun e w' => e = .returned (.tuple #[noReq, .bool false, .int .i64 0]) ∧ Below w.heap.size w w') := by
  have HC := Lib.hid (fun W => canSplit_any (bs l) a b W)
  rw [bs_list, h] at HC
  have HE := Lib.hid (fresh4 w (.string ⟨#[]⟩) (.slice none 0 0) (.string ⟨#[]⟩) (.bool false) 44)
  have HB := Lib.hid (bel0 w (.cells #[.string ⟨#[]⟩, .slice none 0 0, .string ⟨#[]⟩, .bool false] 44))
  clear h
  cases l with
  | nil =>
    have hne : ((bs ([] : List UInt8)).toList).isEmpty = true := by rw [Lib.toList_data, bs_list]; rfl
    have hne2 : (bs ([] : List UInt8)).toList = [] := by rw [Lib.toList_data, bs_list]
    obtain ⟨S, hS⟩ : ∃ S, S = bs ([] : List UInt8) := ⟨_, rfl⟩
    rw [← hS] at hne hne2 HC ⊢
    clear hn hS
    go_enter Tryd.func21, Tryd.ntmps21
    go_wp2_with fail
    refine (HC.out _).mono ?_
    rintro e w1 ⟨rfl, hw⟩
    rw [← hw]
    clear hw
    go_wp2_with fail
    exact req_end (t := 6) (u := 7) (v := 8) (g := w.heap.size) rfl rfl rfl rfl rfl HE.out.1 HE.out.2.1 HE.out.2.2.1 HE.out.2.2.2 ⟨rfl, HB.out⟩
  | cons c t =>
    have hn' : (c == a || c == b) = false := hn
    rw [Bool.or_eq_false_iff] at hn'
    obtain ⟨S, hS⟩ : ∃ S, S = bs (c :: t) := ⟨_, rfl⟩
    obtain ⟨h0s, hat, hne, hne2⟩ := head_facts S c t hS
    have h1 := u8_ne hn'.1
    have h2 := u8_ne hn'.2
    rw [← hat] at h1 h2
    rw [← hS] at HC ⊢
    clear hn hn' hS hat
    go_enter Tryd.func21, Tryd.ntmps21
    go_wp2_with fail
    refine (HC.out _).mono ?_
    rintro e w1 ⟨rfl, hw⟩
    rw [← hw]
    clear hw
    go_wp2_with fail
    exact req_end (t := 6) (u := 7) (v := 8) (g := w.heap.size) rfl rfl rfl rfl rfl HE.out.1 HE.out.2.1 HE.out.2.2.1 HE.out.2.2.2 ⟨rfl, HB.out⟩
theorem cell_below {B : Nat} {w w' : World} (k : Below B w w') {g o : Nat} {v : Value} (hg : g < B) (h : w.cell? ⟨g, o, none⟩ = some v) : w'.cell? ⟨g, o, none⟩ = some v := (k.cell (p := ⟨g, o, none⟩) hg).trans h
set_option maxHeartbeats 4000000 in
theorem split_yes (c : UInt8) (t : List UInt8) (a b : UInt8) (hl : t.length ≤ 100000) (h : csS (c :: t) a b = true) (hn : isC (c :: t) a b = true) (w : World) : Calls Tryd.prog 21 #[.string (bs (c :: t)), .int .u8 (a.toNat : Int), .int .u8 (b.toNat : Int)] w (SpL (c :: t) b w) := by
  have HC := Lib.hid (fun W => canSplit_any (bs (c :: t)) a b W)
  rw [bs_list, h] at HC
  have HE := Lib.hid (fresh4 w (.string ⟨#[]⟩) (.slice none 0 0) (.string ⟨#[]⟩) (.bool false) 44)
  have HB := Lib.hid (bel0 w (.cells #[.string ⟨#[]⟩, .slice none 0 0, .string ⟨#[]⟩, .bool false] 44))
  have hn' : (c == a || c == b) = true := hn
  obtain ⟨S, hS⟩ : ∃ S, S = bs (c :: t) := ⟨_, rfl⟩
  obtain ⟨h0s, hat, hne, hne2⟩ := head_facts S c t hS
  have h1s : 1 ≤ S.size := h0s
  have hqb : ((S[0].toNat : Int) == (b.toNat : Int)) = (c == b) := by rw [hat]; exact eq_u8 c b
  have hcase : ((S[0].toNat : Int) != (a.toNat : Int)) = false ∨ (((S[0].toNat : Int) != (a.toNat : Int)) = true ∧ ((S[0].toNat : Int) != (b.toNat : Int)) = false) := by
    rw [hat, ne_u8, ne_u8]
    cases h1 : c == a with
    | true => left; rfl
    | false => rw [h1, Bool.false_or] at hn'; right; rw [hn']; exact ⟨rfl, rfl⟩
  have HX := Lib.hid (show S.extract 1 S.size = bs t by rw [hS]; exact ext1 _ c t rfl)
  have HK := Lib.hid (fun W => skip_any (bs t) W)
  rw [bs_list] at HK
  have hskl := skB_le t
  have HT := Lib.hid (fun W => cutAt_any (bs (skB t)) (by rw [bs_size]; omega) W)
  rw [bs_list] at HT
  have hcl := cutB_le (skB t)
  have HNR : Hid (nmS (c :: t) = (cutB (skB t)).1 ∧ rsS (c :: t) = (cutB (skB t)).2) := Lib.hid ⟨rfl, rfl⟩
  have HHD : Hid (((c :: t).head? == some b) = (c == b)) := Lib.hid (by simp)
  obtain ⟨nm, hnm⟩ : ∃ x, x = nmS (c :: t) := ⟨_, rfl⟩
  obtain ⟨rs, hrs⟩ : ∃ x, x = rsS (c :: t) := ⟨_, rfl⟩
  obtain ⟨q, hq⟩ : ∃ x, x = (c == b) := ⟨_, rfl⟩
  rw [← hnm, ← hrs] at HNR
  rw [← HNR.out.1, ← HNR.out.2] at HT hcl
  have HWD := Lib.hid (fun W => words_any rs (by omega) W)
  unfold SpL
  rw [← hnm, ← hrs, HHD.out, ← hq]
  rw [← hq] at hqb
  rw [← hS] at HC ⊢
  clear hn hn' hS hat hnm hrs hq hcl hskl h HNR HHD
  rcases hcase with h1 | ⟨h1, h2⟩
  · go_enter Tryd.func21, Tryd.ntmps21
    go_wp2_with fail
    refine (HC.out _).mono ?_
    rintro e w1 ⟨rfl, hw⟩
    rw [← hw]
    clear hw
    go_wp2_with fail
    rw [HX.out]
    refine (HK.out _).mono ?_
    rintro e w2 ⟨rfl, hb2⟩
    have HB2 := Lib.hid (HB.out.trans (hb2.mono HB.out.size))
    have HL2 := Lib.hid (show w.heap.size < w2.heap.size from Nat.lt_of_lt_of_le (by simp) hb2.size)
    have HE2 := Lib.hid (show w2.heap[w.heap.size]? = _ from (hb2.block w.heap.size (by simp)).trans (heap_alloc_new w _))
    clear hb2
    go_wp2_with fail
    refine (HT.out _).mono ?_
    rintro e w3 ⟨rfl, hb3⟩
    have HB3 := Lib.hid (HB2.out.trans (hb3.mono HB2.out.size))
    have HL3 := Lib.hid (show w.heap.size < w3.heap.size from Nat.lt_of_lt_of_le HL2.out hb3.size)
    have HE3 := Lib.hid ((hb3.block w.heap.size HL2.out).trans HE2.out)
    clear hb3
    go_wp2_with fail
    go_region_with (first
      | (go_at_call 13; refine (HWD.out _).mono ?_
         rintro e w4 ⟨A, cp, rfl, hs, hc9, hle, hb4, hnew⟩
         have he4 := (hb4.block w.heap.size HL3.out).trans HE3.out
         obtain ⟨⟨k0, k1, k2, k3⟩, ⟨f0, f1, f2, f3⟩⟩ := blk4 he4
         have HE4 := Lib.hid he4
         have HS4 := Lib.hid hs
         have HC4 := Lib.hid (And.intro hc9 hle)
         have HB4 := Lib.hid (HB3.out.trans (Below.mono ⟨hb4.os, hb4.tape, hb4.output, hb4.size, hb4.block⟩ HB3.out.size))
         have HN4 : Hid (∀ q, A = some q → w3.heap.size ≤ q.block) := Lib.hid hnew
         clear he4 hs hc9 hle hb4 hnew))
    all_goals
      go_wp2_with fail
      have hP := put4_at (c0 := .string (bs nm)) (c1 := .slice A (wds rs).length cp) (c2 := .string (bs rs)) (c3 := .bool q) HE4.out
      exact req_end (t := 6) (u := 7) (v := 8) (g := w.heap.size) rfl rfl rfl rfl rfl (blk4 hP).1.1 (blk4 hP).1.2.1 (blk4 hP).1.2.2.1 (blk4 hP).1.2.2.2 ⟨A, cp, rfl, HS4.out.put4 (fun z hz => by have := HN4.out z hz; have := HL3.out; omega), HC4.out.1, HC4.out.2, put4_bel HB4.out (Nat.le_refl _)⟩
  · go_enter Tryd.func21, Tryd.ntmps21
    go_wp2_with fail
    refine (HC.out _).mono ?_
    rintro e w1 ⟨rfl, hw⟩
    rw [← hw]
    clear hw
    go_wp2_with fail
    rw [HX.out]
    refine (HK.out _).mono ?_
    rintro e w2 ⟨rfl, hb2⟩
    have HB2 := Lib.hid (HB.out.trans (hb2.mono HB.out.size))
    have HL2 := Lib.hid (show w.heap.size < w2.heap.size from Nat.lt_of_lt_of_le (by simp) hb2.size)
    have HE2 := Lib.hid (show w2.heap[w.heap.size]? = _ from (hb2.block w.heap.size (by simp)).trans (heap_alloc_new w _))
    clear hb2
    go_wp2_with fail
    refine (HT.out _).mono ?_
    rintro e w3 ⟨rfl, hb3⟩
    have HB3 := Lib.hid (HB2.out.trans (hb3.mono HB2.out.size))
    have HL3 := Lib.hid (show w.heap.size < w3.heap.size from Nat.lt_of_lt_of_le HL2.out hb3.size)
    have HE3 := Lib.hid ((hb3.block w.heap.size HL2.out).trans HE2.out)
    clear hb3
    go_wp2_with fail
    go_region_with (first
      | (go_at_call 13; refine (HWD.out _).mono ?_
         rintro e w4 ⟨A, cp, rfl, hs, hc9, hle, hb4, hnew⟩
         have he4 := (hb4.block w.heap.size HL3.out).trans HE3.out
         obtain ⟨⟨k0, k1, k2, k3⟩, ⟨f0, f1, f2, f3⟩⟩ := blk4 he4
         have HE4 := Lib.hid he4
         have HS4 := Lib.hid hs
         have HC4 := Lib.hid (And.intro hc9 hle)
         have HB4 := Lib.hid (HB3.out.trans (Below.mono ⟨hb4.os, hb4.tape, hb4.output, hb4.size, hb4.block⟩ HB3.out.size))
         have HN4 : Hid (∀ q, A = some q → w3.heap.size ≤ q.block) := Lib.hid hnew
         clear he4 hs hc9 hle hb4 hnew))
    all_goals
      go_wp2_with fail
      have hP := put4_at (c0 := .string (bs nm)) (c1 := .slice A (wds rs).length cp) (c2 := .string (bs rs)) (c3 := .bool q) HE4.out
      exact req_end (t := 6) (u := 7) (v := 8) (g := w.heap.size) rfl rfl rfl rfl rfl (blk4 hP).1.1 (blk4 hP).1.2.1 (blk4 hP).1.2.2.1 (blk4 hP).1.2.2.2 ⟨A, cp, rfl, HS4.out.put4 (fun z hz => by have := HN4.out z hz; have := HL3.out; omega), HC4.out.1, HC4.out.2, put4_bel HB4.out (Nat.le_refl _)⟩
theorem split_any (l : List UInt8) (a b : UInt8) (hl : l.length ≤ 100000) (w : World) : Calls Tryd.prog 21 #[.string (bs l), .int .u8 (a.toNat : Int), .int .u8 (b.toNat : Int)] w (SpP l a b w) := by
  unfold SpP
  cases h : csS l a b with
  | false => simp only [Bool.false_eq_true, if_false]; exact split_bad l a b h w
  | true =>
    simp only [if_true]
    cases h2 : isC l a b with
    | false => simp only [Bool.false_eq_true, if_false]; exact split_no l a b h h2 w
    | true =>
      simp only [if_true]
      cases l with
      | nil => cases h2
      | cons c t => exact split_yes c t a b (by simp at hl; omega) h h2 w
end Go.Proofs.YtnffmlfapccgkaaDoor
