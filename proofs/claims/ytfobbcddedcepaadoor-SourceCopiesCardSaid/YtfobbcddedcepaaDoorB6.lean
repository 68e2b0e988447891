/- push. -/
import Derived.Test.YtfobbcddedcepaaDoorB5
namespace Go.Proofs.YtfobbcddedcepaaDoor
open Go.RowKit
set_option maxRecDepth 100000
set_option linter.unusedSimpArgs false
set_option linter.unusedVariables false
theorem topQ_eq {P : TypeId → Nat → Prop} {w : World} {q : RF → Bool} {p : Fr → Bool} (hqp : ∀ r f, RfIs P w r f → q r = p f) {rs : List RF} {F : List Fr} (h : All2 (RfIs P w) rs F) : ∀ k, topQ q rs k = topN p F k
  | 0 => rfl
  | k + 1 => by
    by_cases hk : k < rs.length
    · have h1 : rs[k]? = some rs[k] := List.getElem?_eq_getElem hk
      have h2 : F[k]? = some (F[k]'(by rw [← h.1]; exact hk)) := List.getElem?_eq_getElem (by rw [← h.1]; exact hk)
      have h3 := hqp _ _ (h.2 k _ _ h1 h2)
      cases hb : q rs[k] with
      | true => rw [topQ_yes q rs k _ h1 hb, topN_yes p F k _ h2 (by rw [← h3, hb])]
      | false => rw [topQ_no q rs k _ h1 hb, topN_no p F k _ h2 (by rw [← h3, hb]), topQ_eq hqp h k]
    · have h1 : rs[k]? = none := List.getElem?_eq_none (by omega)
      have h2 : F[k]? = none := List.getElem?_eq_none (by rw [← h.1]; omega)
      unfold topQ topN
      rw [h1, h2]
      exact topQ_eq hqp h k
theorem q_file {P : TypeId → Nat → Prop} {w : World} (r : RF) (f : Fr) (h : RfIs P w r f) : qFile r = isFile f := by unfold qFile isFile; rw [h.kd]
theorem q_macro {P : TypeId → Nat → Prop} {w : World} (r : RF) (f : Fr) (h : RfIs P w r f) : qMacro r = isMacro f := by unfold qMacro isMacro; rw [h.kd]
theorem q_name {P : TypeId → Nat → Prop} {w : World} (r : RF) (f : Fr) (h : RfIs P w r f) : qName r = hasName f := by unfold qName hasName; rw [q_file r f h, q_macro r f h]
theorem q_more {P : TypeId → Nat → Prop} {w : World} (r : RF) (f : Fr) (h : RfIs P w r f) : qMore r = hasMore f := by unfold qMore hasMore; rw [h.tk, h.ls.len]
theorem q_stays {P : TypeId → Nat → Prop} {w : World} (r : RF) (f : Fr) (h : RfIs P w r f) : qStays r = stays f := by unfold qStays stays; rw [h.kd, q_more r f h]
theorem CK.top {sb g c : Nat} {F : List Fr} {rs : List RF} {w : World} (h : CK sb g c F rs w) {q : RF → Bool} {p : Fr → Bool} (hqp : ∀ r f, RfIs (Tg w) w r f → q r = p f) : topQ q rs rs.length = topS p F := by
  unfold topS; rw [← h.rl]; exact topQ_eq hqp h.fr _
theorem topS_le (p : Fr → Bool) (F : List Fr) : topS p F ≤ F.length := topN_le p F _
/-- The frame that is found. -/
theorem CK.got {sb g c : Nat} {F : List Fr} {rs : List RF} {w : World} (h : CK sb g c F rs w) (k : Nat) (hk : 0 < k) (hl : k ≤ F.length) : ∃ f, F[k - 1]? = some f ∧ rs[k - 1]? = some (gotR rs k) ∧ RfIs (Tg w) w (gotR rs k) f := by
  have h1 : rs[k - 1]? = some (rs[k - 1]'(by rw [h.rl]; omega)) := List.getElem?_eq_getElem (by rw [h.rl]; omega)
  have h2 : F[k - 1]? = some (F[k - 1]'(by omega)) := List.getElem?_eq_getElem (by omega)
  have e : gotR rs k = rs[k - 1]'(by rw [h.rl]; omega) := by unfold gotR; rw [if_neg (by omega), h1]; rfl
  refine ⟨_, h2, by rw [e]; exact h1, ?_⟩
  rw [e]
  exact h.fr.2 _ _ _ h1 h2
theorem CK.addS {sb g c : Nat} {F : List Fr} {rs : List RF} {w W w2 : World} {r : RF} {f : Fr} {v2 : Value} (h : CK sb g c F rs w) (hW : Below w.heap.size w W) (hr : RfIs (Tg w) w r f) (hf : okFr f) (hst : ∀ (i : Nat) (x : Fr), F[i]? = some x → stays x = true) (hlen : F.length < 50)
    (ho : w2.ownsRow 0 64 5 v2 (F.length + 1) (rs.flatMap rfCs ++ rfCs r)) (hg : W.grownBy w2 (some g)) (hat : v2.ownBlock = some g ∨ v2.ownBlock = some W.heap.size) :
    ∃ g', CS sb g' (F ++ [f]) (w2.setCell ⟨sb, 0, none⟩ v2) ∧ Dl sb g g' w (w2.setCell ⟨sb, 0, none⟩ v2) := by
  have hk1 : Kept (· = g) W w2 := Kept.grown hg
  have hk2 : Kept (fun b => b = sb ∨ b = g) w w2 := (Kept.of hW).trans (hk1.mono fun _ e => .inr e)
  have hK : Kept (fun b => b = sb ∨ b = g) w (w2.setCell ⟨sb, 0, none⟩ v2) := hk2.setCell (p := ⟨sb, 0, none⟩) (.inl rfl) _
  have hsW := (hW.block sb h.lt.1).trans h.cell
  have hs : w2.heap[sb]? = some (.cells #[.slice (some ⟨g, 0, none⟩) F.length c] 49 (0, 0)) := (hk1.block sb (lt_of_block hsW) h.ne).trans hsW
  have hdt := Dt.st h hK
  obtain ⟨o, cap, hv, _, _⟩ := row_shape ho
  have hblk : ∃ g', o = some ⟨g', 0, none⟩ ∧ (g' = g ∨ g' = W.heap.size) ∧ Tg w2 64 g' := by
    obtain ⟨g', hg'⟩ : ∃ g', v2.ownBlock = some g' := by rcases hat with e | e <;> exact ⟨_, e⟩
    have htg := (own_tag ho hg').1
    rcases ho.2 with ⟨e, _⟩ | ⟨g2, cap2, cur2, e, _⟩
    · rw [e] at hg'; cases hg'
    · rw [e] at hv hg' hat
      injection hv with e1
      simp only [Value.ownBlock, Option.some.injEq] at hg' hat
      exact ⟨g', by rw [← e1, hg'], by rw [← hg']; exact hat, htg⟩
  obtain ⟨g', rfl, hgg, htg⟩ := hblk
  subst hv
  have hne : sb ≠ g' := (show Tg w2 49 sb from ⟨_, _, hs⟩).ne htg (by decide)
  refine ⟨g', ⟨cap, rs ++ [r], ⟨?_, ?_, ⟨by simp [h.rl], fun i a b ha hb => ?_⟩, fun x hx => ?_, by simp; omega, fun i x hi hx => ?_⟩⟩, hK, ?_⟩
  · rw [List.length_append]; simp [World.setCell, Array.getElem?_modify, hs]
  · rw [List.length_append, List.flatMap_append]
    have e : [r].flatMap rfCs = rfCs r := by simp
    rw [e]
    exact own_far ho fun b hb => Below.heap_setCell _ _ _ _ (by have e : b = g' := (by simpa [Value.ownBlock, eq_comm] using hb); rw [e]; exact Ne.symm hne)
  · by_cases hi : i < rs.length
    · rw [List.getElem?_append_left hi] at ha
      rw [List.getElem?_append_left (by rw [← h.rl]; exact hi)] at hb
      exact (h.fr.2 i a b ha hb).dt hdt
    · have hl1 := (List.getElem?_eq_some_iff.1 ha).1
      have hi' : i = rs.length := by simp at hl1; omega
      subst hi'
      rw [List.getElem?_append_right (by omega), Nat.sub_self] at ha
      rw [List.getElem?_append_right (by rw [h.rl]; exact Nat.le_refl _), h.rl, Nat.sub_self] at hb
      simp only [List.getElem?_cons_zero, Option.some.injEq] at ha hb
      subst ha hb
      exact hr.dt hdt
  · rcases List.mem_append.1 hx with hx | hx
    · exact h.ok x hx
    · simp only [List.mem_cons, List.not_mem_nil, or_false] at hx
      subst hx; exact hf
  · rw [List.length_append] at hi
    rw [List.getElem?_append_left (by simp at hi; omega)] at hx
    exact hst i x hx
  · rcases hgg with e | e
    · exact .inl e
    · exact .inr (by rw [e]; exact hW.size)
theorem step_append_own {ops : Array Oper} {o : Oper} {a : Act} {w : World} {K : Act → World → Prop} {Q : Exit → Act → World → Prop} {E : Prop}
    (hg : o.guard = none) (s x : Operand) (t : TypeId) (hop : o.op = Op.call { callee := Callee.builtin Builtin.append, args := #[s, x], argTypes := #[t, t] })
    (base : Nat) (e : TypeId) (i : TypeInfo) (z : Value) (size bytes : Nat) (ht : Tryd.prog.underlying t = some (.slice e)) (hi : Tryd.prog.info? e = some i) (hz : i.zero = some z) (hsize : i.size = size) (hby : i.bytes = bytes) (hzs : z.cells.size = size) (hsz : 0 < size)
    (v : Value) (n : Nat) (xs : List Value) (hs : a.eval s = v) (hown : w.ownsRow base e size v n xs)
    (ad : Addr) (m c : Nat) (news : List Value) (hx : a.eval x = .slice (some ad) m c) (hl : news.length = m * size) (hnews : ∀ j u, news[j]? = some u → w.cell? (ad.add j) = some u) (h1 : ∀ u ∈ news, u.oneCell' = true)
    (h63 : n + m ≤ maxLen) (hbytes : (n + m) * bytes ≤ 140737488355328) (hbase : base ≤ w.heap.size)
    (hK : ∀ v' w', w'.ownsRow base e size v' (n + m) (xs ++ news) → w.grownBy w' v.ownBlock → (v'.ownBlock = v.ownBlock ∨ v'.ownBlock = some w.heap.size) → K (a.put o.dst v') w') :
    if Region.wanted o (yielded ops a.tmps) = true then Oper.wp Tryd.prog o a w K Q else E := by
  have hw : Region.wanted o (yielded ops a.tmps) = true := by simp [Region.wanted, hg]
  rw [if_pos hw]
  obtain ⟨v', w', hr, h2, h3, _, h5⟩ := run_append_own_at (P := Tryd.prog) w base t o.type e i z size bytes ht hi hz hsize hby hzs hsz v n xs hown ad m c news hl hnews h1 h63 hbytes hbase
  unfold Oper.wp
  simp [execOp, hop, resolve, invoke, builtin, hs, hx, hr, Result.andThen]
  exact hK v' w' h2 h3 h5
/-- A push in plain words. -/
def pushS (F : List Fr) (f : Fr) : Int × List Fr := if topS stays F = 50 then (2, F) else (0, F.take (topS stays F) ++ [f])
/-- What a deed leaves that tells a number. -/
structure DoP (sb g : Nat) (R : Int × List Fr) (w : World) (e : Ending) (w' : World) : Prop where
  e : e = .returned (.int .i64 R.1)
  st : ∃ g', CS sb g' R.2 w' ∧ Dl sb g g' w w'
theorem cell_five_fr (w : World) (r : RF) : ∀ j u, (rfCs r)[j]? = some u → (w.alloc (.cells #[.int .i64 r.kd, .string r.nm, .slice r.lo r.ln r.lc, .slice r.ao r.an r.ac, .int .i64 r.tk] 64)).cell? ((⟨w.heap.size, 0, none⟩ : Addr).add j) = some u := by
  intro j u hu
  rw [cell_add]
  have h := heap_alloc_new w (.cells #[.int .i64 r.kd, .string r.nm, .slice r.lo r.ln r.lc, .slice r.ao r.an r.ac, .int .i64 r.tk] 64)
  simp only [World.cell?, h, Nat.zero_add]
  have : (#[.int .i64 r.kd, .string r.nm, .slice r.lo r.ln r.lc, .slice r.ao r.an r.ac, .int .i64 r.tk] : Array Value).toList[j]? = some u := hu
  rwa [Array.getElem?_toList] at this
end Go.Proofs.YtfobbcddedcepaaDoor
