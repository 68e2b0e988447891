/- The code's Join: the builder and the row of texts. -/
import Derived.Test.YtoggjiblhcbmjaaDoorJW
namespace Go.Proofs.YtoggjiblhcbmjaaDoor
open Go.RowKit Go.Shelf
set_option maxRecDepth 100000
/-- What writing leaves, as the library says it. -/
structure WrK (B b : Nat) (l : List UInt8) (w w' : World) : Prop where
  bu : Bu B b l w'
  fr : Below B w w'
  ot : Lib.OthersKept 5 (some b) w w'
theorem bldK_str {B b : Nat} {l : List UInt8} {w : World} (h : Bu B b l w) (m : List UInt8) (hlen : l.length + m.length ≤ 140737488355328) (hB : B ≤ w.heap.size) :
    Calls Tryd.prog 23 #[.pointer (some ⟨b, 0, none⟩), .string (bs m)] w fun e w' => e = .returned (.tuple #[.int .i64 (m.length : Int), .nilIface]) ∧ WrK B b (l ++ m) w w' := by
  have := Any.Builder_WriteString_k (P := Tryd.prog) (ρ := bren) bl166 blX B b (Lib.byteCells l) (bs m) w h (by rw [Lib.byteCells_length, bs_size]; exact hlen) hB
  refine this.mono ?_
  rintro e w' ⟨rfl, h1, h2, h3⟩
  refine ⟨by rw [bs_size], ?_, h2, h3⟩
  rw [bytes_app, bs_list] at h1
  exact .inr h1
theorem bldK_out {B b : Nat} {l : List UInt8} {w : World} (h : Bu B b l w) (hB : B ≤ w.heap.size) : Calls Tryd.prog 24 #[.pointer (some ⟨b, 0, none⟩)] w fun e w' => e = .returned (.string (bs l)) ∧ WrK B b l w w' := by
  have := Any.Builder_String_any_k (P := Tryd.prog) (ρ := bren) bl169 blX B b l w h hB
  refine this.mono ?_
  rintro e w' ⟨rfl, h1, h2, h3⟩
  exact ⟨rfl, h1, h2, h3⟩
theorem Bu.base {B b : Nat} {l : List UInt8} {w : World} (h : Bu B b l w) : B ≤ b := by
  rcases h with ⟨h, _⟩ | ⟨h, _⟩ <;> exact h
theorem Bu.cells {B b : Nat} {l : List UInt8} {w : World} (h : Bu B b l w) : ∃ p v, w.heap[b]? = some (.cells #[p, v] 46 (0, 0)) := by
  rcases h with ⟨_, v, hb, _⟩ | ⟨_, v, hb, _⟩
  · exact ⟨_, _, hb⟩
  · exact ⟨_, _, hb⟩
/-- A builder stands where its own block and the rows of bytes stand. -/
theorem Bu.keep2 {B b : Nat} {l : List UInt8} {w w' : World} (h : Bu B b l w) (hk : ∀ (k : Nat) (c : Array Value) (t : TypeId) (fz : Nat × Nat), w.heap[k]? = some (.cells c t fz) → t = 46 ∨ t = 5 → w'.heap[k]? = some (.cells c t fz)) : Bu B b l w' := by
  have ho : ∀ {v : Value}, w.ownsRowF B 5 1 v (Lib.byteCells l).length (Lib.byteCells l) → w'.ownsRowF B 5 1 v (Lib.byteCells l).length (Lib.byteCells l) := fun h => own_keep h (fun k o h1 ⟨c, fz, h2⟩ => by subst h2; exact hk k _ _ _ h1 (.inr rfl))
  rcases h with ⟨h1, v, hb, h2, h3⟩ | ⟨h1, v, hb, h2, h3⟩
  · exact .inl ⟨h1, v, hk _ _ _ _ hb (.inl rfl), ho h2, h3⟩
  · exact .inr ⟨h1, v, hk _ _ _ _ hb (.inl rfl), ho h2, h3⟩
/-- A row of texts stands while a builder is written. -/
theorem own_other {w w' : World} {base n b : Nat} {v : Value} {xs : List Value} (h : w.ownsRow base 9 1 v n xs) (k : Lib.OthersKept 5 (some b) w w') (hb : ∃ c fz, w.heap[b]? = some (.cells c 46 fz)) : w'.ownsRow base 9 1 v n xs := by
  refine ⟨h.1, ?_⟩
  rcases h.2 with h | ⟨g, cap, cur, h1, h2, h3, h4⟩
  · exact .inl h
  · refine .inr ⟨g, cap, cur, h1, h2, k g _ h3 ?_ ?_, h4⟩
    · intro e
      obtain rfl := Option.some.inj e
      obtain ⟨c, fz, hb⟩ := hb
      rw [hb] at h3
      injection h3 with h3
      injection h3 with _ h3 _
      exact absurd h3 (by decide)
    · intro c fz e
      injection e with _ e _
      exact absurd e (by decide)
theorem bld_reset {B b : Nat} {l : List UInt8} {w : World} (h : Bu B b l w) : Calls Tryd.prog 25 #[.pointer (some ⟨b, 0, none⟩)] w fun e w' => e = .returned (.tuple #[]) ∧ Bu B b [] w' ∧ (∀ k, k ≠ b → w'.heap[k]? = w.heap[k]?) ∧ Below B w w' := by
  obtain ⟨p, v, hb⟩ := h.cells
  have hB := h.base
  have c0 : w.cell? ⟨b, 0, none⟩ = some p := by simp [World.cell?, hb]
  have c1 : w.cell? ⟨b, 1, none⟩ = some v := by simp [World.cell?, hb]
  have f0 : w.frozen? ⟨b, 0, none⟩ = false := by simp [World.frozen?, hb]
  have f1 : w.frozen? ⟨b, 1, none⟩ = false := by simp [World.frozen?, hb]
  have HBK := Lib.hid hb
  clear h hb
  go_enter Tryd.func25, Tryd.ntmps25
  go_wp2_with fail
  refine bodyPost_end (results_none rfl _ _ _) rfl ?_
  have hne : ∀ k, k ≠ b → ((w.setCell ⟨b, 0, none⟩ (.pointer none)).setCell ⟨b, 1, none⟩ (.slice none 0 0)).heap[k]? = w.heap[k]? := fun k hk => by
    rw [Below.heap_setCell _ _ _ _ (fun e => hk (by first | exact e | exact e.symm)), Below.heap_setCell _ _ _ _ (fun e => hk (by first | exact e | exact e.symm))]
  refine ⟨rfl, .inl ⟨hB, .slice none 0 0, ?_, ⟨by simp [Lib.byteCells], .inl ⟨rfl, rfl⟩⟩, by simp [Value.ownBlock]⟩, hne, ?_⟩
  · simp [World.setCell, Array.getElem?_modify, HBK.out]
  · exact ⟨rfl, rfl, rfl, by simp [World.setCell], fun k hk => hne k (by omega)⟩
def tot : List (List UInt8) → Nat
  | [] => 0
  | l :: r => l.length + tot r
theorem tot_at (ls : List (List UInt8)) (j : Nat) (hj : j < ls.length) : tot (ls.drop j) = ls[j].length + tot (ls.drop (j + 1)) := by
  rw [List.drop_eq_getElem_cons hj, tot]
end Go.Proofs.YtoggjiblhcbmjaaDoor
