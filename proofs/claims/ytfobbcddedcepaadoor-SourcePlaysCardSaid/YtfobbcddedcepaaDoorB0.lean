/- Frames: what they are, in memory; the code's stack. -/
import Derived.Test.YtfobbcddedcepaaDoorA9
import Derived.Maps.AppendAt
namespace Go.Proofs.YtfobbcddedcepaaDoor
open Go.RowKit
set_option maxRecDepth 100000
set_option linter.unusedSimpArgs false
set_option linter.unusedVariables false
/-- Texts in a slice. -/
structure StrsAt (P : TypeId → Nat → Prop) (w : World) (A : Option Addr) (n : Nat) (xs : List ByteArray) : Prop where
  rd : ReadsP (P 9) w 1 A n (strCs xs)
  len : n = xs.length
theorem StrsAt.keep {P P' : TypeId → Nat → Prop} {w w' : World} {A : Option Addr} {n : Nat} {xs : List ByteArray} (h : StrsAt P w A n xs) (k : ∀ e b, P e b → w'.heap[b]? = w.heap[b]? ∧ P' e b) : StrsAt P' w' A n xs :=
  ⟨h.rd.keep (k _), h.len⟩
/-- A frame: its kind, name, lines, arguments, and how many lines were taken. -/
structure Fr where
  kd : Int
  nm : ByteArray
  ls : List Ln
  ar : List ByteArray
  tk : Nat
structure RF where
  kd : Int
  nm : ByteArray
  lo : Option Addr
  ln : Nat
  lc : Nat
  ao : Option Addr
  an : Nat
  ac : Nat
  tk : Nat
def rfCs (r : RF) : List Value := [.int .i64 r.kd, .string r.nm, .slice r.lo r.ln r.lc, .slice r.ao r.an r.ac, .int .i64 r.tk]
abbrev rfA (r : RF) : Value := .agg #[.int .i64 r.kd, .string r.nm, .slice r.lo r.ln r.lc, .slice r.ao r.an r.ac, .int .i64 r.tk]
theorem rf_len (r : RF) : (rfCs r).length = 5 := rfl
theorem rf_one (r : RF) : ∀ u ∈ rfCs r, u.oneCell' = true := by
  intro u hu
  simp only [rfCs, List.mem_cons, List.not_mem_nil, or_false] at hu
  rcases hu with rfl | rfl | rfl | rfl | rfl <;> rfl
structure RfIs (P : TypeId → Nat → Prop) (w : World) (r : RF) (f : Fr) : Prop where
  kd : r.kd = f.kd
  nm : r.nm = f.nm
  tk : r.tk = f.tk
  ls : LnsAt P w r.lo r.ln f.ls
  lnil : r.lo = none → r.ln = 0
  lle : r.ln ≤ r.lc
  lcap : (r.lc : Int) ≤ 9223372036854775807
  ar : StrsAt P w r.ao r.an f.ar
  anil : r.ao = none → r.an = 0
  ale : r.an ≤ r.ac
  acap : (r.ac : Int) ≤ 9223372036854775807
  afit : r.an * 16 ≤ 140737488351232
theorem RfIs.keep {P P' : TypeId → Nat → Prop} {w w' : World} {r : RF} {f : Fr} (h : RfIs P w r f) (k : ∀ e b, P e b → w'.heap[b]? = w.heap[b]? ∧ P' e b) : RfIs P' w' r f :=
  ⟨h.kd, h.nm, h.tk, h.ls.keep k, h.lnil, h.lle, h.lcap, h.ar.keep k, h.anil, h.ale, h.acap, h.afit⟩
/- Kinds. -/
def isFile (f : Fr) : Bool := f.kd == 1
def isMacro (f : Fr) : Bool := f.kd == 2
def hasName (f : Fr) : Bool := isFile f || isMacro f
def hasMore (f : Fr) : Bool := decide (f.tk < f.ls.length)
def stays (f : Fr) : Bool := f.kd != 3 || hasMore f
structure okFr (f : Fr) : Prop where
  ls : f.ls.all okLn = true
  len : f.ls.length ≤ 20000
  tk : f.tk ≤ f.ls.length
  kd : f.kd = 1 ∨ f.kd = 2 ∨ f.kd = 3
theorem okLn_bx {ls : List Ln} (h : ls.all okLn = true) : ∀ l ∈ ls, l.bx.length ≤ 2000 := by
  intro l hl
  have h1 := List.all_eq_true.1 h l hl
  unfold okLn okRL at h1
  cases hm : l.md with
  | true => rw [hm] at h1; simp at h1; exact h1.2
  | false => rw [hm] at h1; simp at h1; rw [h1.2]; simp
/-- The least number of frames above which none is wanted. -/
def topN (p : Fr → Bool) (F : List Fr) : Nat → Nat
  | 0 => 0
  | k + 1 => match F[k]? with
    | some f => if p f then k + 1 else topN p F k
    | none => topN p F k
def topS (p : Fr → Bool) (F : List Fr) : Nat := topN p F F.length
theorem topN_le (p : Fr → Bool) (F : List Fr) : ∀ k, topN p F k ≤ k
  | 0 => Nat.le_refl 0
  | k + 1 => by
    unfold topN
    split
    · split
      · omega
      · have := topN_le p F k; omega
    · have := topN_le p F k; omega
theorem topN_yes (p : Fr → Bool) (F : List Fr) (k : Nat) (f : Fr) (h : F[k]? = some f) (hp : p f = true) : topN p F (k + 1) = k + 1 := by
  unfold topN; rw [h]; simp [hp]
theorem topN_no (p : Fr → Bool) (F : List Fr) (k : Nat) (f : Fr) (h : F[k]? = some f) (hp : p f = false) : topN p F (k + 1) = topN p F k := by
  conv => lhs; unfold topN
  rw [h]; simp [hp]
/-- The frame that is found. -/
theorem topN_at (p : Fr → Bool) (F : List Fr) : ∀ k, 0 < topN p F k → ∃ f, F[topN p F k - 1]? = some f ∧ p f = true
  | 0, h => by simp [topN] at h
  | k + 1, h => by
    unfold topN at h ⊢
    split
    · rename_i f hf
      split
      · rename_i hp; exact ⟨f, by simpa using hf, hp⟩
      · rename_i hp; rw [hf] at h; simp only [hp] at h; exact topN_at p F k h
    · rename_i hf; rw [hf] at h; exact topN_at p F k h
/-- The code's stack. -/
structure CK (sb g c : Nat) (F : List Fr) (rs : List RF) (w : World) : Prop where
  cell : w.heap[sb]? = some (.cells #[.slice (some ⟨g, 0, none⟩) F.length c] 49 (0, 0))
  row : w.ownsRow 0 64 5 (.slice (some ⟨g, 0, none⟩) F.length c) F.length (rs.flatMap rfCs)
  fr : All2 (RfIs (Tg w) w) rs F
  ok : ∀ f ∈ F, okFr f
  len : F.length ≤ 50
  inv : ∀ i f, i + 1 < F.length → F[i]? = some f → stays f = true
def CS (sb g : Nat) (F : List Fr) (w : World) : Prop := ∃ c rs, CK sb g c F rs w
/-- Data that are never written again. -/
def Dt (w w' : World) : Prop := ∀ e b, (e = 3 ∨ e = 85 ∨ e = 31 ∨ e = 9) → Tg w e b → w'.heap[b]? = w.heap[b]?
theorem LnsAt.dt {w w' : World} {A : Option Addr} {n : Nat} {ls : List Ln} (h : LnsAt (Tg w) w A n ls) (k : Dt w w') : LnsAt (Tg w') w' A n ls := by
  obtain ⟨⟨rs, h1, h2⟩, h3⟩ := h
  have key : ∀ e, (e = 3 ∨ e = 85 ∨ e = 31 ∨ e = 9) → ∀ b, Tg w e b → w'.heap[b]? = w.heap[b]? ∧ Tg w' e b := fun e he b hb => ⟨k e b he hb, hb.keep (k e b he hb)⟩
  exact ⟨⟨rs, h1.keep (key _ (by simp)), h2.mono fun _ _ h => h.keep fun e he => key e (by rcases he with rfl | rfl <;> simp)⟩, h3⟩
theorem StrsAt.dt {w w' : World} {A : Option Addr} {n : Nat} {xs : List ByteArray} (h : StrsAt (Tg w) w A n xs) (k : Dt w w') : StrsAt (Tg w') w' A n xs :=
  ⟨h.rd.keep fun b hb => ⟨k _ b (by simp) hb, hb.keep (k _ b (by simp) hb)⟩, h.len⟩
theorem RfIs.dt {w w' : World} {r : RF} {f : Fr} (h : RfIs (Tg w) w r f) (k : Dt w w') : RfIs (Tg w') w' r f :=
  ⟨h.kd, h.nm, h.tk, h.ls.dt k, h.lnil, h.lle, h.lcap, h.ar.dt k, h.anil, h.ale, h.acap, h.afit⟩
theorem Dt.below {w w' : World} (k : Below w.heap.size w w') : Dt w w' := fun _ b _ hb => k.block b hb.lt
theorem Dt.trans {w w1 w2 : World} (h : Dt w w1) (k : Dt w1 w2) : Dt w w2 := fun e b he hb => (k e b he (hb.keep (h e b he hb))).trans (h e b he hb)
/-- Blocks that are written are frames or stacks. -/
theorem Dt.kept {S : Nat → Prop} {w w' : World} (k : Kept S w w') (hS : ∀ b, S b → ∀ e, (e = 3 ∨ e = 85 ∨ e = 31 ∨ e = 9) → ¬ Tg w e b) : Dt w w' :=
  fun e b he hb => k.block b hb.lt fun hs => hS b hs e he hb
theorem CK.g0 {sb g c : Nat} {F : List Fr} {rs : List RF} {w : World} (h : CK sb g c F rs w) : ∃ cur, w.heap[g]? = some (.cells cur 64 (0, 0)) ∧ F.length ≤ c ∧ (c : Int) ≤ 9223372036854775807 ∧ cur.size = c * 5 ∧ cur.toList.take (F.length * 5) = rs.flatMap rfCs := by
  rcases h.row.2 with ⟨hv, _⟩ | ⟨g', cap, cur, hv, _, hg, h1, h2, h3, h4⟩
  · cases hv
  · injection hv with e1 e2 e3
    injection e1 with e1; injection e1 with e1
    subst e1 e3
    exact ⟨cur, hg, h1, by unfold maxLen at h2; omega, h3, h4⟩
theorem CK.lt {sb g c : Nat} {F : List Fr} {rs : List RF} {w : World} (h : CK sb g c F rs w) : sb < w.heap.size ∧ g < w.heap.size := by
  obtain ⟨cur, hg, _⟩ := h.g0
  exact ⟨lt_of_block h.cell, lt_of_block hg⟩
theorem CK.tg {sb g c : Nat} {F : List Fr} {rs : List RF} {w : World} (h : CK sb g c F rs w) : Tg w 49 sb ∧ Tg w 64 g := by
  obtain ⟨cur, hg, _⟩ := h.g0
  exact ⟨⟨_, _, h.cell⟩, ⟨_, _, hg⟩⟩
theorem CK.ne {sb g c : Nat} {F : List Fr} {rs : List RF} {w : World} (h : CK sb g c F rs w) : sb ≠ g := h.tg.1.ne h.tg.2 (by decide)
theorem CK.rl {sb g c : Nat} {F : List Fr} {rs : List RF} {w : World} (h : CK sb g c F rs w) : rs.length = F.length := h.fr.1
/-- The stack's blocks and the data stay. -/
theorem CK.move {sb g c : Nat} {F : List Fr} {rs : List RF} {w w' : World} (h : CK sb g c F rs w) (h1 : w'.heap[sb]? = w.heap[sb]?) (h2 : w'.heap[g]? = w.heap[g]?) (k : Dt w w') : CK sb g c F rs w' :=
  ⟨h1.trans h.cell, own_far h.row (fun g' hg' => by have e : g' = g := (by simpa [Value.ownBlock, eq_comm] using hg'); rw [e]; exact h2), h.fr.mono fun _ _ hr => hr.dt k, h.ok, h.len, h.inv⟩
theorem CK.below {sb g c : Nat} {F : List Fr} {rs : List RF} {w w' : World} (h : CK sb g c F rs w) (k : Below w.heap.size w w') : CK sb g c F rs w' :=
  h.move (k.block _ h.lt.1) (k.block _ h.lt.2) (Dt.below k)
theorem CK.c0 {sb g c : Nat} {F : List Fr} {rs : List RF} {w : World} (h : CK sb g c F rs w) : w.cell? ⟨sb, 0, none⟩ = some (.slice (some ⟨g, 0, none⟩) F.length c) ∧ w.frozen? ⟨sb, 0, none⟩ = false := by simp [World.cell?, World.frozen?, h.cell]
/-- The cells of frame j. -/
theorem CK.fc {sb g c : Nat} {F : List Fr} {rs : List RF} {w : World} (h : CK sb g c F rs w) (j : Nat) (r : RF) (hr : rs[j]? = some r) :
    (w.cell? ⟨g, j * 5, none⟩ = some (.int .i64 r.kd) ∧ w.cell? ⟨g, j * 5 + 1, none⟩ = some (.string r.nm) ∧ w.cell? ⟨g, j * 5 + 2, none⟩ = some (.slice r.lo r.ln r.lc) ∧ w.cell? ⟨g, j * 5 + 3, none⟩ = some (.slice r.ao r.an r.ac) ∧ w.cell? ⟨g, j * 5 + 4, none⟩ = some (.int .i64 r.tk)) ∧
    (w.frozen? ⟨g, j * 5 + 3, none⟩ = false ∧ w.frozen? ⟨g, j * 5 + 4, none⟩ = false) := by
  have key := fun k (hk : k < 5) => fm_at rf_len rs j k r hr hk
  exact ⟨⟨(own_cell h.row _ _ (key 0 (by omega))).1, (own_cell h.row _ _ (key 1 (by omega))).1, (own_cell h.row _ _ (key 2 (by omega))).1, (own_cell h.row _ _ (key 3 (by omega))).1, (own_cell h.row _ _ (key 4 (by omega))).1⟩, (own_cell h.row _ _ (key 3 (by omega))).2, (own_cell h.row _ _ (key 4 (by omega))).2⟩
/-- What a deed on a stack leaves. -/
structure Dl (sb g g' : Nat) (w w' : World) : Prop where
  kept : Kept (fun b => b = sb ∨ b = g) w w'
  blk : g' = g ∨ w.heap.size ≤ g'
theorem made_any {sb g c : Nat} {F : List Fr} {rs : List RF} {w : World} (h : CK sb g c F rs w) : Calls Tryd.prog 41 #[BP sb] w fun e w' => e = .returned (.bool true) ∧ w = w' := by
  have hc := h.c0.1
  have hmn := fun (w : World) (o : Option Addr) (n c : Nat) => Lib.run_eql_slice_nil (P := Tryd.prog) w 47 64 o n c 0 0 Tryd.underlying47
  clear h
  go_enter Tryd.func41, Tryd.ntmps41
  go_wp2_with fail
  go_ret
  exact ⟨rfl, rfl⟩
end Go.Proofs.YtfobbcddedcepaaDoor
