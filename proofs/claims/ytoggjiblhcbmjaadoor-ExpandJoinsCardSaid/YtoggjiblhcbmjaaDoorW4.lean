/- The code's escapes: an escape. -/
import Derived.Test.YtoggjiblhcbmjaaDoorW3
namespace Go.Proofs.YtoggjiblhcbmjaaDoor
open Go.RowKit Go.Shelf
set_option maxRecDepth 100000
theorem nb (c d : UInt8) (h : c ≠ d) : ((c.toNat : Int) == (d.toNat : Int)) = false := by
  have : c.toNat ≠ d.toNat := fun e => h (UInt8.toNat_inj.1 e)
  simp; omega
theorem ext2 (s : ByteArray) (a k : UInt8) (t : List UInt8) (h : s.data.toList = a :: k :: t) : s.extract 2 s.size = bs t := by
  rw [bs_ext s 2 s.size (Nat.le_refl _), h]
  have : s.size = t.length + 2 := by rw [← bs_self s, bs_size, h]; simp
  rw [this]; simp
theorem bcell {W w1 : World} (hb : Below W.heap.size W w1) : (∀ b o, b < W.heap.size → w1.cell? ⟨b, o, none⟩ = W.cell? ⟨b, o, none⟩) ∧ (∀ b o, b < W.heap.size → w1.frozen? ⟨b, o, none⟩ = W.frozen? ⟨b, o, none⟩) :=
  ⟨fun b o h => hb.cell (p := ⟨b, o, none⟩) h, fun b o h => hb.frozen (p := ⟨b, o, none⟩) h⟩
/-- What escape tells. -/
def escV (r : Pc × Nat) : Value := .tuple #[pcV r.1, .int .i64 (r.2 : Int)]
theorem fresh_pc {W : World} {g : Nat} {x y z u : Value} {fr : Nat × Nat} (h : W.heap[g]? = some (.cells #[x, y, z, u] 65 fr)) : W.cell? ⟨g, 0, none⟩ = some x ∧ W.cell? ⟨g, 1, none⟩ = some y ∧ W.cell? ⟨g, 2, none⟩ = some z ∧ W.cell? ⟨g, 3, none⟩ = some u := by
  simp [World.cell?, h]
theorem esc_end {a : Act} {W' : World} {g : Nat} {x y z u n : Value} {Q : Ending → World → Prop} (hd : a.defers = []) (h2 : a.tmps.getD 2 undef = .pointer (some ⟨g, 0, none⟩)) (h3 : a.tmps.getD 3 undef = n)
    (hg : W'.heap[g]? = some (.cells #[x, y, z, u] 65 (0, 0))) (hQ : Q (.returned (.tuple #[.agg #[x, y, z, u], n])) W') : bodyPost Tryd.prog Tryd.f60 Q Exit.ret a W' := by
  have h2' : a.tmps[2]?.getD undef = .pointer (some ⟨g, 0, none⟩) := by simpa using h2
  have h3' : a.tmps[3]?.getD undef = n := by simpa using h3
  refine bodyPost_ret (v := .tuple #[.agg #[x, y, z, u], n]) ?_ hd hQ
  obtain ⟨c0, c1, c2, c3⟩ := fresh_pc hg
  simp [results, Tryd.results60, h2', h3', go_sem, c0, c1, c2, c3]
/-- A piece's first block. -/
theorem bel0 (w : World) (o : Obj) : Below w.heap.size w (w.alloc o) := (Below.refl w.heap.size w).alloc (Nat.le_refl _) o
theorem siz0 (w : World) (o : Obj) : (w.alloc o).heap.size = w.heap.size + 1 := by simp
set_option maxHeartbeats 1000000 in
theorem escape_n (s : ByteArray) (a : UInt8) (t : List UInt8) (hl : s.data.toList = a :: 110 :: t) (hs : s.size ≤ maxLen) (w : World) : Calls Tryd.prog 60 #[.string s] w fun e w' => e = .returned (escV (escS (a :: 110 :: t))) ∧ Below w.heap.size w w' := by
  unfold maxLen at hs
  have hsz := sz_of s _ hl
  simp only [List.length_cons] at hsz
  have h1 : 1 < s.size := by omega
  have e1 := at_of s _ hl 1 h1 (by simp)
  simp only [List.getElem_cons_succ, List.getElem_cons_zero] at e1
  have d1 : decide ((s.size : Int) < 2) = false := decide_eq_false (by omega)
  have t0 : ((s[1].toNat : Int) == 110) = true := by rw [e1]; rfl
  obtain ⟨R, hR⟩ : ∃ R, R = escS (a :: 110 :: t) := ⟨_, rfl⟩
  rw [← hR]
  rw [escS, if_pos rfl] at hR
  have HX := Lib.hid (ext2 s a 110 t hl)
  have htm : (bs t).size ≤ maxLen := by rw [bs_size]; unfold maxLen; omega
  have HC := Lib.hid (fun W => cutStep_any (bs t) htm W)
  rw [bs_list] at HC
  have hsl := stepS_le t
  have hst : -1 ≤ (stepS t).1 ∧ (stepS t).1 ≤ 1 := by
    cases t with
    | nil => simp [stepS]
    | cons c t => rw [stepS]; split; · simp
                  split <;> simp
  obtain ⟨x, hx⟩ : ∃ x, x = (stepS t).1 := ⟨_, rfl⟩
  obtain ⟨r, hr⟩ : ∃ r, r = (stepS t).2 := ⟨_, rfl⟩
  rw [← hx, ← hr] at HC hR
  rw [← hr] at hsl
  have HN := Lib.hid (fun W => name_any (bs r) (by rw [bs_size]; unfold maxLen; omega) W)
  rw [bs_list] at HN
  have hnl := (nameS_le r).1
  obtain ⟨n, hn⟩ : ∃ n, n = (nameS r).1 := ⟨_, rfl⟩
  obtain ⟨u, hu⟩ : ∃ u, u = (nameS r).2 := ⟨_, rfl⟩
  rw [← hn, ← hu] at HN hR
  rw [← hu] at hnl
  have hrs : (bs r).size ≤ s.size := by rw [bs_size]; omega
  have HRS := Lib.hid (bs_size r)
  have hut : u ≤ s.size := by omega
  have HSZ := Lib.hid hsz
  have HE1 := Lib.hid e1
  by_cases hu0 : u = 0
  · have HR := Lib.hid (show R = (pc0, 1) by rw [hR]; unfold fin; rw [if_pos hu0])
    have d2 : ((u : Int) == 0) = true := by rw [hu0]; rfl
    clear hR hsz e1 hl hx hr hn hu hu0 hst hsl hnl
    go_enter Tryd.func60, Tryd.ntmps60
    go_wp2_with fail
    rw [HX.out]
    refine (HC.out _).mono ?_
    rintro e w1 ⟨rfl, hb⟩
    obtain ⟨hc, hf⟩ := bcell hb
    have hz : w.heap.size < w1.heap.size := by have := hb.size; rw [siz0] at this; omega
    have HBLK := Lib.hid ((hb.block w.heap.size (by rw [siz0]; omega)).trans (heap_alloc_new w _))
    have HB := Lib.hid ((bel0 w _).trans (hb.mono (by rw [siz0]; omega)))
    clear hb
    go_wp2_with fail
    refine (HN.out _).mono ?_
    rintro e w2 ⟨rfl, hb⟩
    obtain ⟨hc2, hf2⟩ := bcell hb
    have hz2 : w.heap.size < w2.heap.size := by have := hb.size; simp at this; omega
    have HBLK2 := Lib.hid ((hb.block w.heap.size (by simpa using hz)).trans (show (w1.setCell ⟨w.heap.size, 3, none⟩ (.int .i64 x)).heap[w.heap.size]? = some (.cells #[.string ⟨#[]⟩, .int .u8 s[1].toNat, .string ⟨#[]⟩, .int .i64 x] 65 (0, 0)) by simp [World.setCell, Array.getElem?_modify, HBLK.out]))
    have HB2 := Lib.hid ((HB.out.setCell (p := ⟨w.heap.size, 3, none⟩) (Nat.le_refl _) (.int .i64 x)).trans (hb.mono (by simp; omega)))
    clear hb
    go_wp2_with fail
    rw [HR.out]
    refine esc_end rfl rfl rfl ?_ ⟨rfl, ?_⟩
    · simp [World.setCell, Array.getElem?_modify, HBLK2.out]; exact ⟨rfl, rfl, rfl, rfl⟩
    · repeat (with_reducible refine Below.setCell ?_ (Nat.le_refl w.heap.size) _)
      exact HB2.out
  · have HR := Lib.hid (show R = (⟨[], 110, n, x⟩, t.length + 2 - r.length + u) by rw [hR]; unfold fin; rw [if_neg hu0])
    have d2 : ((u : Int) == 0) = false := by simp; omega
    have HN2 : Hid (wrap64 ((s.size : Int) - ((bs r).size : Int) + (u : Int)) = ((t.length + 2 - r.length + u : Nat) : Int)) := Lib.hid (by have := bs_size r; rw [IntWalk.wrap64_in _ (by omega), bs_size, hsz]; omega)
    clear hR hsz e1 hl hx hr hn hu hu0 hst hsl hnl
    go_enter Tryd.func60, Tryd.ntmps60
    go_wp2_with fail
    rw [HX.out]
    refine (HC.out _).mono ?_
    rintro e w1 ⟨rfl, hb⟩
    obtain ⟨hc, hf⟩ := bcell hb
    have hz : w.heap.size < w1.heap.size := by have := hb.size; rw [siz0] at this; omega
    have HBLK := Lib.hid ((hb.block w.heap.size (by rw [siz0]; omega)).trans (heap_alloc_new w _))
    have HB := Lib.hid ((bel0 w _).trans (hb.mono (by rw [siz0]; omega)))
    clear hb
    go_wp2_with fail
    refine (HN.out _).mono ?_
    rintro e w2 ⟨rfl, hb⟩
    obtain ⟨hc2, hf2⟩ := bcell hb
    have hz2 : w.heap.size < w2.heap.size := by have := hb.size; simp at this; omega
    have HBLK2 := Lib.hid ((hb.block w.heap.size (by simpa using hz)).trans (show (w1.setCell ⟨w.heap.size, 3, none⟩ (.int .i64 x)).heap[w.heap.size]? = some (.cells #[.string ⟨#[]⟩, .int .u8 s[1].toNat, .string ⟨#[]⟩, .int .i64 x] 65 (0, 0)) by simp [World.setCell, Array.getElem?_modify, HBLK.out]))
    have HB2 := Lib.hid ((HB.out.setCell (p := ⟨w.heap.size, 3, none⟩) (Nat.le_refl _) (.int .i64 x)).trans (hb.mono (by simp; omega)))
    clear hb
    have h0 : w2.cell? ⟨w.heap.size, 0, none⟩ = some (.string ⟨#[]⟩) := (fresh_pc HBLK2.out).1
    have h1 : w2.cell? ⟨w.heap.size, 1, none⟩ = some (.int .u8 s[1].toNat) := (fresh_pc HBLK2.out).2.1
    have h2 : w2.cell? ⟨w.heap.size, 2, none⟩ = some (.string ⟨#[]⟩) := (fresh_pc HBLK2.out).2.2.1
    have h3 : w2.cell? ⟨w.heap.size, 3, none⟩ = some (.int .i64 x) := (fresh_pc HBLK2.out).2.2.2
    clear hc2
    go_wp2_with fail
    rw [HR.out]
    refine esc_end (x := .string (bs [])) (y := .int .u8 110) (z := .string (bs n)) (u := .int .i64 x) (n := .int .i64 ((t.length + 2 - r.length + u : Nat) : Int)) rfl rfl ?_ ?_ ⟨rfl, ?_⟩
    · show Value.int .i64 _ = _; rw [← HN2.out]
    · have : (s[1].toNat : Int) = 110 := by rw [HE1.out]; rfl
      simp [World.setCell, Array.getElem?_modify, HBLK2.out, this]; exact rfl
    · repeat (with_reducible refine Below.setCell ?_ (Nat.le_refl w.heap.size) _)
      exact HB2.out
set_option maxHeartbeats 2000000 in
theorem escape_42 (s : ByteArray) (a k : UInt8) (t : List UInt8) (hl : s.data.toList = a :: k :: t) (hk : k = 42) (hs : s.size ≤ maxLen) (w : World) : Calls Tryd.prog 60 #[.string s] w fun e w' => e = .returned (escV (fin ⟨[], k, (nameS t).1, 0⟩ (nameS t).2 (2 + (nameS t).2))) ∧ Below w.heap.size w w' := by
  unfold maxLen at hs
  have hsz := sz_of s _ hl
  simp only [List.length_cons] at hsz
  have h1 : 1 < s.size := by omega
  have e1 := at_of s _ hl 1 h1 (by simp)
  simp only [List.getElem_cons_succ, List.getElem_cons_zero] at e1
  have d1 : decide ((s.size : Int) < 2) = false := decide_eq_false (by omega)
  have t0 : ((s[1].toNat : Int) == 110) = false := by rw [e1]; exact nb k 110 (by rw [hk]; decide)
  have t1 : ((s[1].toNat : Int) == 42) = true := by rw [e1, hk]; rfl
  obtain ⟨R, hR⟩ : ∃ R, R = fin ⟨[], k, (nameS t).1, 0⟩ (nameS t).2 (2 + (nameS t).2) := ⟨_, rfl⟩
  rw [← hR]
  have HX := Lib.hid (ext2 s a k t hl)
  have HN := Lib.hid (fun W => name_any (bs t) (by rw [bs_size]; unfold maxLen; omega) W)
  rw [bs_list] at HN
  have hnl := (nameS_le t).1
  obtain ⟨n, hn⟩ : ∃ n, n = (nameS t).1 := ⟨_, rfl⟩
  obtain ⟨u, hu⟩ : ∃ u, u = (nameS t).2 := ⟨_, rfl⟩
  rw [← hn, ← hu] at HN hR
  rw [← hu] at hnl
  have hrs : (bs t).size ≤ s.size := by rw [bs_size]; omega
  have hut : u ≤ s.size := by omega
  have HE1 := Lib.hid e1
  by_cases hu0 : u = 0
  · have HR := Lib.hid (show R = (pc0, 1) by rw [hR]; unfold fin; rw [if_pos hu0])
    have d2 : ((u : Int) == 0) = true := by rw [hu0]; rfl
    clear hR hsz e1 hl hn hu hu0 hnl hk
    go_enter Tryd.func60, Tryd.ntmps60
    go_wp2_with fail
    rw [HX.out]
    refine (HN.out _).mono ?_
    rintro e w1 ⟨rfl, hb⟩
    obtain ⟨hc, hf⟩ := bcell hb
    have hz : w.heap.size < w1.heap.size := by have := hb.size; rw [siz0] at this; omega
    have HBLK := Lib.hid ((hb.block w.heap.size (by rw [siz0]; omega)).trans (heap_alloc_new w _))
    have HB := Lib.hid ((bel0 w _).trans (hb.mono (by rw [siz0]; omega)))
    clear hb
    go_wp2_with fail
    rw [HR.out]
    refine esc_end rfl rfl rfl ?_ ⟨rfl, ?_⟩
    · simp [World.setCell, Array.getElem?_modify, HBLK.out]; exact ⟨rfl, rfl, rfl, rfl⟩
    · repeat (with_reducible refine Below.setCell ?_ (Nat.le_refl w.heap.size) _)
      exact HB.out
  · have HR := Lib.hid (show R = (⟨[], k, n, 0⟩, 2 + u) by rw [hR]; unfold fin; rw [if_neg hu0])
    have d2 : ((u : Int) == 0) = false := by simp; omega
    have HN2 : Hid (wrap64 ((s.size : Int) - ((bs t).size : Int) + (u : Int)) = ((2 + u : Nat) : Int)) := Lib.hid (by have := bs_size t; rw [IntWalk.wrap64_in _ (by omega), bs_size, hsz]; omega)
    clear hR hsz e1 hl hn hu hu0 hnl hk
    go_enter Tryd.func60, Tryd.ntmps60
    go_wp2_with fail
    rw [HX.out]
    refine (HN.out _).mono ?_
    rintro e w1 ⟨rfl, hb⟩
    have hz : w.heap.size < w1.heap.size := by have := hb.size; rw [siz0] at this; omega
    have HBLK := Lib.hid ((hb.block w.heap.size (by rw [siz0]; omega)).trans (heap_alloc_new w _))
    have HB := Lib.hid ((bel0 w _).trans (hb.mono (by rw [siz0]; omega)))
    have hf := (bcell hb).2
    clear hb
    have h0 : w1.cell? ⟨w.heap.size, 0, none⟩ = some (.string ⟨#[]⟩) := (fresh_pc HBLK.out).1
    have h1 : w1.cell? ⟨w.heap.size, 1, none⟩ = some (.int .u8 s[1].toNat) := (fresh_pc HBLK.out).2.1
    have h2 : w1.cell? ⟨w.heap.size, 2, none⟩ = some (.string ⟨#[]⟩) := (fresh_pc HBLK.out).2.2.1
    have h3 : w1.cell? ⟨w.heap.size, 3, none⟩ = some (.int .i64 0) := (fresh_pc HBLK.out).2.2.2
    go_wp2_with fail
    rw [HR.out]
    refine esc_end (x := .string (bs [])) (y := .int .u8 k.toNat) (z := .string (bs n)) (u := .int .i64 0) (n := .int .i64 ((2 + u : Nat) : Int)) rfl rfl ?_ ?_ ⟨rfl, ?_⟩
    · show Value.int .i64 _ = _; rw [← HN2.out]
    · have : s[1].toNat = k.toNat := by rw [HE1.out]
      simp [World.setCell, Array.getElem?_modify, HBLK.out, this]; exact rfl
    · repeat (with_reducible refine Below.setCell ?_ (Nat.le_refl w.heap.size) _)
      exact HB.out
set_option maxHeartbeats 2000000 in
theorem escape_36 (s : ByteArray) (a k : UInt8) (t : List UInt8) (hl : s.data.toList = a :: k :: t) (hk : k = 36) (hs : s.size ≤ maxLen) (w : World) : Calls Tryd.prog 60 #[.string s] w fun e w' => e = .returned (escV (fin ⟨[], k, (nameS t).1, 0⟩ (nameS t).2 (2 + (nameS t).2))) ∧ Below w.heap.size w w' := by
  unfold maxLen at hs
  have hsz := sz_of s _ hl
  simp only [List.length_cons] at hsz
  have h1 : 1 < s.size := by omega
  have e1 := at_of s _ hl 1 h1 (by simp)
  simp only [List.getElem_cons_succ, List.getElem_cons_zero] at e1
  have d1 : decide ((s.size : Int) < 2) = false := decide_eq_false (by omega)
  have t0 : ((s[1].toNat : Int) == 110) = false := by rw [e1]; exact nb k 110 (by rw [hk]; decide)
  have t1 : ((s[1].toNat : Int) == 42) = false := by rw [e1]; exact nb k 42 (by rw [hk]; decide)
  have t2 : ((s[1].toNat : Int) == 36) = true := by rw [e1, hk]; rfl
  obtain ⟨R, hR⟩ : ∃ R, R = fin ⟨[], k, (nameS t).1, 0⟩ (nameS t).2 (2 + (nameS t).2) := ⟨_, rfl⟩
  rw [← hR]
  have HX := Lib.hid (ext2 s a k t hl)
  have HN := Lib.hid (fun W => name_any (bs t) (by rw [bs_size]; unfold maxLen; omega) W)
  rw [bs_list] at HN
  have hnl := (nameS_le t).1
  obtain ⟨n, hn⟩ : ∃ n, n = (nameS t).1 := ⟨_, rfl⟩
  obtain ⟨u, hu⟩ : ∃ u, u = (nameS t).2 := ⟨_, rfl⟩
  rw [← hn, ← hu] at HN hR
  rw [← hu] at hnl
  have hrs : (bs t).size ≤ s.size := by rw [bs_size]; omega
  have hut : u ≤ s.size := by omega
  have HE1 := Lib.hid e1
  by_cases hu0 : u = 0
  · have HR := Lib.hid (show R = (pc0, 1) by rw [hR]; unfold fin; rw [if_pos hu0])
    have d2 : ((u : Int) == 0) = true := by rw [hu0]; rfl
    clear hR hsz e1 hl hn hu hu0 hnl hk
    go_enter Tryd.func60, Tryd.ntmps60
    go_wp2_with fail
    rw [HX.out]
    refine (HN.out _).mono ?_
    rintro e w1 ⟨rfl, hb⟩
    obtain ⟨hc, hf⟩ := bcell hb
    have hz : w.heap.size < w1.heap.size := by have := hb.size; rw [siz0] at this; omega
    have HBLK := Lib.hid ((hb.block w.heap.size (by rw [siz0]; omega)).trans (heap_alloc_new w _))
    have HB := Lib.hid ((bel0 w _).trans (hb.mono (by rw [siz0]; omega)))
    clear hb
    go_wp2_with fail
    rw [HR.out]
    refine esc_end rfl rfl rfl ?_ ⟨rfl, ?_⟩
    · simp [World.setCell, Array.getElem?_modify, HBLK.out]; exact ⟨rfl, rfl, rfl, rfl⟩
    · repeat (with_reducible refine Below.setCell ?_ (Nat.le_refl w.heap.size) _)
      exact HB.out
  · have HR := Lib.hid (show R = (⟨[], k, n, 0⟩, 2 + u) by rw [hR]; unfold fin; rw [if_neg hu0])
    have d2 : ((u : Int) == 0) = false := by simp; omega
    have HN2 : Hid (wrap64 ((s.size : Int) - ((bs t).size : Int) + (u : Int)) = ((2 + u : Nat) : Int)) := Lib.hid (by have := bs_size t; rw [IntWalk.wrap64_in _ (by omega), bs_size, hsz]; omega)
    clear hR hsz e1 hl hn hu hu0 hnl hk
    go_enter Tryd.func60, Tryd.ntmps60
    go_wp2_with fail
    rw [HX.out]
    refine (HN.out _).mono ?_
    rintro e w1 ⟨rfl, hb⟩
    have hz : w.heap.size < w1.heap.size := by have := hb.size; rw [siz0] at this; omega
    have HBLK := Lib.hid ((hb.block w.heap.size (by rw [siz0]; omega)).trans (heap_alloc_new w _))
    have HB := Lib.hid ((bel0 w _).trans (hb.mono (by rw [siz0]; omega)))
    have hf := (bcell hb).2
    clear hb
    have h0 : w1.cell? ⟨w.heap.size, 0, none⟩ = some (.string ⟨#[]⟩) := (fresh_pc HBLK.out).1
    have h1 : w1.cell? ⟨w.heap.size, 1, none⟩ = some (.int .u8 s[1].toNat) := (fresh_pc HBLK.out).2.1
    have h2 : w1.cell? ⟨w.heap.size, 2, none⟩ = some (.string ⟨#[]⟩) := (fresh_pc HBLK.out).2.2.1
    have h3 : w1.cell? ⟨w.heap.size, 3, none⟩ = some (.int .i64 0) := (fresh_pc HBLK.out).2.2.2
    go_wp2_with fail
    rw [HR.out]
    refine esc_end (x := .string (bs [])) (y := .int .u8 k.toNat) (z := .string (bs n)) (u := .int .i64 0) (n := .int .i64 ((2 + u : Nat) : Int)) rfl rfl ?_ ?_ ⟨rfl, ?_⟩
    · show Value.int .i64 _ = _; rw [← HN2.out]
    · have : s[1].toNat = k.toNat := by rw [HE1.out]
      simp [World.setCell, Array.getElem?_modify, HBLK.out, this]; exact rfl
    · repeat (with_reducible refine Below.setCell ?_ (Nat.le_refl w.heap.size) _)
      exact HB.out
set_option maxHeartbeats 2000000 in
theorem escape_w (s : ByteArray) (a k : UInt8) (t : List UInt8) (hl : s.data.toList = a :: k :: t) (hk : k = 119) (hs : s.size ≤ maxLen) (w : World) : Calls Tryd.prog 60 #[.string s] w fun e w' => e = .returned (escV (fin ⟨[], k, (quotS t).1, 0⟩ (quotS t).2 (2 + (quotS t).2))) ∧ Below w.heap.size w w' := by
  unfold maxLen at hs
  have hsz := sz_of s _ hl
  simp only [List.length_cons] at hsz
  have h1 : 1 < s.size := by omega
  have e1 := at_of s _ hl 1 h1 (by simp)
  simp only [List.getElem_cons_succ, List.getElem_cons_zero] at e1
  have d1 : decide ((s.size : Int) < 2) = false := decide_eq_false (by omega)
  have t0 : ((s[1].toNat : Int) == 110) = false := by rw [e1]; exact nb k 110 (by rw [hk]; decide)
  have t1 : ((s[1].toNat : Int) == 42) = false := by rw [e1]; exact nb k 42 (by rw [hk]; decide)
  have t2 : ((s[1].toNat : Int) == 36) = false := by rw [e1]; exact nb k 36 (by rw [hk]; decide)
  have t3 : ((s[1].toNat : Int) == 119) = true := by rw [e1, hk]; rfl
  obtain ⟨R, hR⟩ : ∃ R, R = fin ⟨[], k, (quotS t).1, 0⟩ (quotS t).2 (2 + (quotS t).2) := ⟨_, rfl⟩
  rw [← hR]
  have HX := Lib.hid (ext2 s a k t hl)
  have HN := Lib.hid (fun W => quoted_any (bs t) (by rw [bs_size]; unfold maxLen; omega) W)
  rw [bs_list] at HN
  have hnl := (quotS_le t).1
  obtain ⟨n, hn⟩ : ∃ n, n = (quotS t).1 := ⟨_, rfl⟩
  obtain ⟨u, hu⟩ : ∃ u, u = (quotS t).2 := ⟨_, rfl⟩
  rw [← hn, ← hu] at HN hR
  rw [← hu] at hnl
  have hrs : (bs t).size ≤ s.size := by rw [bs_size]; omega
  have hut : u ≤ s.size := by omega
  have HE1 := Lib.hid e1
  by_cases hu0 : u = 0
  · have HR := Lib.hid (show R = (pc0, 1) by rw [hR]; unfold fin; rw [if_pos hu0])
    have d2 : ((u : Int) == 0) = true := by rw [hu0]; rfl
    clear hR hsz e1 hl hn hu hu0 hnl hk
    go_enter Tryd.func60, Tryd.ntmps60
    go_wp2_with fail
    rw [HX.out]
    refine (HN.out _).mono ?_
    rintro e w1 ⟨rfl, hb⟩
    obtain ⟨hc, hf⟩ := bcell hb
    have hz : w.heap.size < w1.heap.size := by have := hb.size; rw [siz0] at this; omega
    have HBLK := Lib.hid ((hb.block w.heap.size (by rw [siz0]; omega)).trans (heap_alloc_new w _))
    have HB := Lib.hid ((bel0 w _).trans (hb.mono (by rw [siz0]; omega)))
    clear hb
    go_wp2_with fail
    rw [HR.out]
    refine esc_end rfl rfl rfl ?_ ⟨rfl, ?_⟩
    · simp [World.setCell, Array.getElem?_modify, HBLK.out]; exact ⟨rfl, rfl, rfl, rfl⟩
    · repeat (with_reducible refine Below.setCell ?_ (Nat.le_refl w.heap.size) _)
      exact HB.out
  · have HR := Lib.hid (show R = (⟨[], k, n, 0⟩, 2 + u) by rw [hR]; unfold fin; rw [if_neg hu0])
    have d2 : ((u : Int) == 0) = false := by simp; omega
    have HN2 : Hid (wrap64 ((s.size : Int) - ((bs t).size : Int) + (u : Int)) = ((2 + u : Nat) : Int)) := Lib.hid (by have := bs_size t; rw [IntWalk.wrap64_in _ (by omega), bs_size, hsz]; omega)
    clear hR hsz e1 hl hn hu hu0 hnl hk
    go_enter Tryd.func60, Tryd.ntmps60
    go_wp2_with fail
    rw [HX.out]
    refine (HN.out _).mono ?_
    rintro e w1 ⟨rfl, hb⟩
    have hz : w.heap.size < w1.heap.size := by have := hb.size; rw [siz0] at this; omega
    have HBLK := Lib.hid ((hb.block w.heap.size (by rw [siz0]; omega)).trans (heap_alloc_new w _))
    have HB := Lib.hid ((bel0 w _).trans (hb.mono (by rw [siz0]; omega)))
    have hf := (bcell hb).2
    clear hb
    have h0 : w1.cell? ⟨w.heap.size, 0, none⟩ = some (.string ⟨#[]⟩) := (fresh_pc HBLK.out).1
    have h1 : w1.cell? ⟨w.heap.size, 1, none⟩ = some (.int .u8 s[1].toNat) := (fresh_pc HBLK.out).2.1
    have h2 : w1.cell? ⟨w.heap.size, 2, none⟩ = some (.string ⟨#[]⟩) := (fresh_pc HBLK.out).2.2.1
    have h3 : w1.cell? ⟨w.heap.size, 3, none⟩ = some (.int .i64 0) := (fresh_pc HBLK.out).2.2.2
    go_wp2_with fail
    rw [HR.out]
    refine esc_end (x := .string (bs [])) (y := .int .u8 k.toNat) (z := .string (bs n)) (u := .int .i64 0) (n := .int .i64 ((2 + u : Nat) : Int)) rfl rfl ?_ ?_ ⟨rfl, ?_⟩
    · show Value.int .i64 _ = _; rw [← HN2.out]
    · have : s[1].toNat = k.toNat := by rw [HE1.out]
      simp [World.setCell, Array.getElem?_modify, HBLK.out, this]; exact rfl
    · repeat (with_reducible refine Below.setCell ?_ (Nat.le_refl w.heap.size) _)
      exact HB.out
theorem escape_o (s : ByteArray) (a k : UInt8) (t : List UInt8) (hl : s.data.toList = a :: k :: t) (h1 : k ≠ 110) (h2 : k ≠ 42) (h3 : k ≠ 36) (h4 : k ≠ 119) (hs : s.size ≤ maxLen) (w : World) : Calls Tryd.prog 60 #[.string s] w fun e w' => e = .returned (escV (⟨[], k, [], 0⟩, 2)) ∧ Below w.heap.size w w' := by
  unfold maxLen at hs
  have hsz := sz_of s _ hl
  simp only [List.length_cons] at hsz
  have hb1 : 1 < s.size := by omega
  have e1 := at_of s _ hl 1 hb1 (by simp)
  simp only [List.getElem_cons_succ, List.getElem_cons_zero] at e1
  have d1 : decide ((s.size : Int) < 2) = false := decide_eq_false (by omega)
  have t0 : ((s[1].toNat : Int) == 110) = false := by rw [e1]; exact nb k 110 h1
  have t1 : ((s[1].toNat : Int) == 42) = false := by rw [e1]; exact nb k 42 h2
  have t2 : ((s[1].toNat : Int) == 36) = false := by rw [e1]; exact nb k 36 h3
  have t3 : ((s[1].toNat : Int) == 119) = false := by rw [e1]; exact nb k 119 h4
  have HE1 := Lib.hid e1
  have HBLK := Lib.hid (heap_alloc_new w (.cells #[.string ⟨#[]⟩, .int .u8 s[1].toNat, .string ⟨#[]⟩, .int .i64 0] 65))
  clear hl hsz e1 h1 h2 h3 h4
  go_enter Tryd.func60, Tryd.ntmps60
  go_wp2_with fail
  refine esc_end (x := .string (bs [])) (y := .int .u8 k.toNat) (z := .string (bs [])) (u := .int .i64 0) (n := .int .i64 2) rfl rfl rfl ?_ ⟨rfl, ?_⟩
  · have : s[1].toNat = k.toNat := by rw [HE1.out]
    rw [HBLK.out, this]; exact rfl
  · exact bel0 w _
theorem escape_any (s : ByteArray) (hs : s.size ≤ maxLen) (w : World) : Calls Tryd.prog 60 #[.string s] w fun e w' => e = .returned (escV (escS s.data.toList)) ∧ Below w.heap.size w w' := by
  match hl : s.data.toList with
  | [] => exact escape_short s (by rw [hl]; decide) w
  | [a] => exact escape_short s (by rw [hl]; simp) w
  | a :: k :: t =>
    by_cases h1 : k = 110
    · subst h1; exact escape_n s a t hl hs w
    rw [escS, if_neg h1]
    by_cases h2 : k = 42
    · rw [if_pos (.inl h2)]; exact escape_42 s a k t hl h2 hs w
    by_cases h3 : k = 36
    · rw [if_pos (.inr h3)]; exact escape_36 s a k t hl h3 hs w
    rw [if_neg (fun h => h.elim h2 h3)]
    by_cases h4 : k = 119
    · rw [if_pos h4]; exact escape_w s a k t hl h4 hs w
    rw [if_neg h4]
    exact escape_o s a k t hl h1 h2 h3 h4 hs w
end Go.Proofs.YtoggjiblhcbmjaaDoor
