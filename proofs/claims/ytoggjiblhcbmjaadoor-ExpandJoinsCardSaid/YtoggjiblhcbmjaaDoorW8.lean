/- The frames of an expansion: what the asking changes, and what the text itself does. -/
import Derived.Test.YtoggjiblhcbmjaaDoorW7
import Derived.Test.YtoggjiblhcbmjaaDoorBld
import Derived.Lib.OthersKept
import Derived.Shelf.Strings.BuilderK
namespace Go.Proofs.YtoggjiblhcbmjaaDoor
open Go.RowKit Go.Shelf
set_option maxRecDepth 100000
/-- The blocks that the asking may change. -/
def Soft (o : Obj) : Prop := ∃ c t fz, o = .cells c t fz ∧ (t = 58 ∨ t = 39 ∨ t = 62)
/-- The asking: what lies below B stands, and what is not soft. -/
structure Fr (B : Nat) (w w' : World) : Prop where
  bel : Below B w w'
  hard : ∀ (k : Nat) (o : Obj), w.heap[k]? = some o → ¬ Soft o → w'.heap[k]? = some o
/-- The text: all that is soft stands. -/
def Sk (w w' : World) : Prop := ∀ (k : Nat) (o : Obj), w.heap[k]? = some o → Soft o → w'.heap[k]? = some o
theorem Fr.refl (B : Nat) (w : World) : Fr B w w := ⟨Below.refl _ _, fun _ _ h _ => h⟩
theorem Fr.trans {B : Nat} {u v w : World} (h : Fr B u v) (k : Fr B v w) : Fr B u w := ⟨h.bel.trans k.bel, fun i o hi ho => k.hard i o (h.hard i o hi ho) ho⟩
theorem Fr.of {B : Nat} {w w' : World} (h : Below w.heap.size w w') (hB : B ≤ w.heap.size) : Fr B w w' :=
  ⟨h.mono hB, fun k o hk _ => (h.block k (Array.getElem?_eq_some_iff.1 hk).1).trans hk⟩
theorem Fr.size {B : Nat} {w w' : World} (h : Fr B w w') : w.heap.size ≤ w'.heap.size := h.bel.size
theorem Sk.refl (w : World) : Sk w w := fun _ _ h _ => h
theorem Sk.trans {u v w : World} (h : Sk u v) (k : Sk v w) : Sk u w := fun i o hi ho => k i o (h i o hi ho) ho
theorem Sk.of {w w' : World} (h : Below w.heap.size w w') : Sk w w' := fun k o hk _ => (h.block k (Array.getElem?_eq_some_iff.1 hk).1).trans hk
theorem not_soft {c : Array Value} {t : TypeId} {fz : Nat × Nat} (h1 : t ≠ 58) (h2 : t ≠ 39) (h3 : t ≠ 62) : ¬ Soft (.cells c t fz) := by
  rintro ⟨c', t', fz', h, ht⟩
  cases h
  rcases ht with e | e | e
  · exact h1 e
  · exact h2 e
  · exact h3 e
/-- What a builder's writing leaves. -/
theorem Sk.others {b : Nat} {w w' : World} (h : Lib.OthersKept 5 (some b) w w') (hb : ∃ c fz, w.heap[b]? = some (.cells c 46 fz)) : Sk w w' := by
  intro k o hk ho
  refine h k o hk ?_ ?_
  · intro e
    obtain rfl := Option.some.inj e
    obtain ⟨c, fz, hb⟩ := hb
    rw [hb] at hk
    obtain rfl := Option.some.inj hk
    exact not_soft (by decide) (by decide) (by decide) ho
  · rintro c fz rfl
    exact not_soft (by decide) (by decide) (by decide) ho
/-- A builder that the call has made. -/
def Bu (B b : Nat) (l : List UInt8) (w : World) : Prop := Lib.IsBuilderF 46 5 B b (Lib.byteCells l) w
theorem Bu.blk {B b : Nat} {l : List UInt8} {w : World} (h : Bu B b l w) : ∃ c fz, w.heap[b]? = some (.cells c 46 fz) := by
  rcases h with ⟨_, v, hb, _⟩ | ⟨_, v, hb, _⟩
  · exact ⟨_, _, hb⟩
  · exact ⟨_, _, hb⟩
theorem Bu.lt {B b : Nat} {l : List UInt8} {w : World} (h : Bu B b l w) : b < w.heap.size := by
  obtain ⟨c, fz, hb⟩ := h.blk
  exact (Array.getElem?_eq_some_iff.1 hb).1
theorem own_keep {B : Nat} {v : Value} {n : Nat} {xs : List Value} {w w' : World} (h : w.ownsRowF B 5 1 v n xs) (hk : ∀ (k : Nat) (o : Obj), w.heap[k]? = some o → (∃ c fz, o = .cells c 5 fz) → w'.heap[k]? = some o) : w'.ownsRowF B 5 1 v n xs := by
  refine ⟨h.1, ?_⟩
  rcases h.2 with h | ⟨g, cap, cur, fz, h1, h2, h3, h4⟩
  · exact .inl h
  · exact .inr ⟨g, cap, cur, fz, h1, h2, hk g _ h3 ⟨_, _, rfl⟩, h4⟩
theorem Bu.keep {B b : Nat} {l : List UInt8} {w w' : World} (h : Bu B b l w) (hk : ∀ (k : Nat) (o : Obj), w.heap[k]? = some o → ¬ Soft o → w'.heap[k]? = some o) : Bu B b l w' := by
  have hs : ∀ c fz, ¬ Soft (.cells c 46 fz) := fun c fz => not_soft (by decide) (by decide) (by decide)
  have hu : ∀ c fz, ¬ Soft (.cells c 5 fz) := fun c fz => not_soft (by decide) (by decide) (by decide)
  have ho : ∀ {v : Value}, w.ownsRowF B 5 1 v (Lib.byteCells l).length (Lib.byteCells l) → w'.ownsRowF B 5 1 v (Lib.byteCells l).length (Lib.byteCells l) := fun h => own_keep h (fun k o h1 ⟨c, fz, h2⟩ => hk k o h1 (h2 ▸ hu c fz))
  rcases h with ⟨h1, v, hb, h2, h3⟩ | ⟨h1, v, hb, h2, h3⟩
  · exact .inl ⟨h1, v, hk _ _ hb (hs _ _), ho h2, h3⟩
  · exact .inr ⟨h1, v, hk _ _ hb (hs _ _), ho h2, h3⟩
theorem Bu.fr {B b B0 : Nat} {l : List UInt8} {w w' : World} (h : Bu B b l w) (hf : Fr B0 w w') : Bu B b l w' := h.keep hf.hard
theorem Bu.below {B b : Nat} {l : List UInt8} {w w' : World} (h : Bu B b l w) (hb : Below w.heap.size w w') : Bu B b l w' := h.fr (Fr.of hb (Nat.le_refl _))
theorem bu_new (w : World) : Bu w.heap.size w.heap.size [] (w.alloc (.cells #[.pointer none, .slice none 0 0] 46)) :=
  .inl ⟨Nat.le_refl _, _, heap_alloc_new w _, ⟨by simp [Lib.byteCells], .inl ⟨rfl, rfl⟩⟩, by simp [Value.ownBlock]⟩
/-- What writing leaves. -/
structure WrP (B b : Nat) (l : List UInt8) (w w' : World) : Prop where
  bu : Bu B b l w'
  fr : Below B w w'
  sk : Sk w w'
theorem bytes_app (l : List UInt8) (s : ByteArray) : Lib.byteCells l ++ Lib.strCells s = Lib.byteCells (l ++ s.data.toList) := by simp [Lib.byteCells, Lib.strCells]
theorem bld_str {B b : Nat} {l : List UInt8} {w : World} (h : Bu B b l w) (m : List UInt8) (hlen : l.length + m.length ≤ 140737488355328) (hB : B ≤ w.heap.size) :
    Calls Tryd.prog 23 #[.pointer (some ⟨b, 0, none⟩), .string (bs m)] w fun e w' => e = .returned (.tuple #[.int .i64 (m.length : Int), .nilIface]) ∧ WrP B b (l ++ m) w w' := by
  have := Any.Builder_WriteString_k (P := Tryd.prog) (ρ := bren) bl166 blX B b (Lib.byteCells l) (bs m) w h (by rw [Lib.byteCells_length, bs_size]; exact hlen) hB
  refine this.mono ?_
  rintro e w' ⟨rfl, h1, h2, h3⟩
  refine ⟨by rw [bs_size], ?_, h2, Sk.others h3 h.blk⟩
  rw [bytes_app, bs_list] at h1
  exact .inr h1
theorem bld_byte {B b : Nat} {l : List UInt8} {w : World} (h : Bu B b l w) (c : UInt8) (hlen : l.length + 1 ≤ 140737488355328) (hB : B ≤ w.heap.size) :
    Calls Tryd.prog 49 #[.pointer (some ⟨b, 0, none⟩), .int .u8 (c.toNat : Int)] w fun e w' => e = .returned .nilIface ∧ WrP B b (l ++ [c]) w w' := by
  have := Any.Builder_WriteByte_k (P := Tryd.prog) (ρ := bren) bl167 blX B b (Lib.byteCells l) (c.toNat : Int) w h (by rw [Lib.byteCells_length]; exact hlen) hB
  refine this.mono ?_
  rintro e w' ⟨rfl, h1, h2, h3⟩
  refine ⟨rfl, ?_, h2, Sk.others h3 h.blk⟩
  have e : Lib.byteCells (l ++ [c]) = Lib.byteCells l ++ [.int .u8 (c.toNat : Int)] := by simp [Lib.byteCells]
  show Lib.IsBuilderF _ _ _ _ _ _
  rw [e]
  exact .inr h1
theorem bld_len {B b : Nat} {l : List UInt8} {w : World} (h : Bu B b l w) : Calls Tryd.prog 47 #[.pointer (some ⟨b, 0, none⟩)] w fun e w' => e = .returned (.int .i64 (l.length : Int)) ∧ w = w' := by
  have := Any.Builder_Len_f (P := Tryd.prog) (ρ := bren) bl170 B b (Lib.byteCells l) w h
  rw [Lib.byteCells_length] at this
  exact this.mono fun _ _ h => ⟨h.1, h.2.symm⟩
theorem bld_out {B b : Nat} {l : List UInt8} {w : World} (h : Bu B b l w) (hB : B ≤ w.heap.size) : Calls Tryd.prog 24 #[.pointer (some ⟨b, 0, none⟩)] w fun e w' => e = .returned (.string (bs l)) ∧ WrP B b l w w' := by
  have := Any.Builder_String_any_k (P := Tryd.prog) (ρ := bren) bl169 blX B b l w h hB
  refine this.mono ?_
  rintro e w' ⟨rfl, h1, h2, h3⟩
  exact ⟨rfl, h1, h2, Sk.others h3 h.blk⟩
end Go.Proofs.YtoggjiblhcbmjaaDoor
