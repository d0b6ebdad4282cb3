/-
  copy and append of elements of several cells.
  Rows of locks whose paths lie elsewhere.
  'append([]string{}, p...)' of whatever slice of texts.
  A row of locks, as a slice.
  What spec.l13Copy does.
  Two answers that are the same.
  Whether two slices of texts hold the same: what spec.SamePath does.
  What the specification's Under does.
  What spec.Covers does.
  What spec.LockClash does.
  What the specification's l1In does; a byte as an int.
  What the specification's own Plain does.
-/
import Derived.Test.YtclnpfpaabmkcabGenPick
import Derived.Test.YtclnpfpaabmkcabTurn
import Derived.WalkKit
import Derived.Deep.OwnRows
import Derived.Laws.CopyRow
import Derived.Laws.CopyOwn
import Derived.Lib.AppendZerosOnto
import Derived.Lib.Overlaps
import Derived.Laws.Externs
import Derived.Shelf.Spec.SlicesInsert
import Derived.Deep.RegionLaw
import Derived.Maps.AppendAt
import Derived.Laws.OwnMore
import Derived.Test.YtclnpfpaabmkcabDrawNI
import Derived.Test.YtclnpfpaabmkcabRows
import Derived.WalkSpells
import Derived.WalkLawsBesides
import Derived.Deep.Light
namespace Go.Proofs.Ytclnpfpaabmkcab
open Go.RowKit
set_option linter.unusedVariables false

theorem run_copy_rowK {P : Program} (w : World) (k : Nat) (dT sT ty elem : TypeId) (g o dLen dCap : Nat) (a : Addr) (sLen sCap : Nat) (cur : Array Value) (t : TypeId) (cs : List Value)
    (hu : P.underlying dT = some (.slice elem)) (hs : (P.info? elem).map (·.size) = some k)
    (hg : w.heap[g]? = some (.cells cur t (0, 0))) (hn : cs.length = Nat.min sLen dLen * k)
    (hsrc : ∀ j v, cs[j]? = some v → w.cell? (a.add j) = some v) (hfit : o + cs.length ≤ cur.size) (h1 : ∀ v ∈ cs, v.oneCell' = true) :
    (Builtin.copy_ #[dT, sT] ty #[.slice (some ⟨g, o, none⟩) dLen dCap, .slice (some a) sLen sCap]).run P w =
      .ok (goInt (Nat.min sLen dLen)) (w.setRow g (cur.toList.take o ++ cs ++ cur.toList.drop (o + cs.length)).toArray) := by
  have hl := run_loadCells_list (P := P) w a cs hsrc
  have hst := run_storeCells_at P g o t cs 0 cur w hg (by simpa using hfit) h1
  cases hq : P.info? elem with
  | none => simp [hq] at hs
  | some i =>
    have hi : i.size = k := by simpa [hq] using hs
    have hn' : Nat.min sLen dLen * k = cs.length := hn.symm
    simp only [Nat.min_def] at hn'
    simp [Builtin.copy_, run_underlying hu, Builtin.lenOf, Builtin.firstCells, sizeOf, typeInfo, hq, hi, Nat.min_def, hn', hl, hst]

theorem run_copy_noneK {P : Program} (w : World) (k : Nat) (dT sT ty elem : TypeId) (d a : Option Addr) (dLen dCap sLen sCap : Nat) (hu : P.underlying dT = some (.slice elem)) (hs : (P.info? elem).map (·.size) = some k) (hn : Nat.min sLen dLen = 0) :
    (Builtin.copy_ #[dT, sT] ty #[.slice d dLen dCap, .slice a sLen sCap]).run P w = .ok (goInt 0) w := by
  cases hq : P.info? elem with
  | none => simp [hq] at hs
  | some i =>
    have hl : ∀ (x : Addr), (loadCells x 0).run P w = .ok #[] w := fun x => by simpa using run_loadCells_list (P := P) w x [] (by simp)
    cases d <;> cases a <;> simp [Builtin.copy_, run_underlying hu, Builtin.lenOf, Builtin.firstCells, sizeOf, typeInfo, hq, hn, storeCells, hl]
theorem wpList_copy_nothingK {P : Program} {w : World} {ops : Array Oper} {rest : List Oper} {o : Oper} {a : Act} {Q : Exit → Act → World → Prop} (hgd : o.guard = none) (d s : Operand) (dT sT : TypeId)
    (ho : o.op = .call { callee := .builtin .copy, args := #[d, s], argTypes := #[dT, sT] }) (k : Nat) (elem : TypeId) (hu : P.underlying dT = some (.slice elem)) (hsz : (P.info? elem).map (·.size) = some k)
    (dp sp : Option Addr) (dLen dCap sLen sCap : Nat) (hd : a.eval d = .slice dp dLen dCap) (hs : a.eval s = .slice sp sLen sCap) (hn : Nat.min sLen dLen = 0)
    (h : wpList P ops Q rest (a.put o.dst (goInt 0)) w) : wpList P ops Q (o :: rest) a w := by
  refine wpList_plain hgd fun K hK => ?_
  have hrun := run_copy_noneK (P := P) w k dT sT o.type elem dp sp dLen dCap sLen sCap hu hsz hn
  unfold Oper.wp execOp
  simp only [ho, resolve, invoke, builtin, Sem.run_bind, Sem.run_pure, Result.andThen_ok, List.map_toArray, List.map_cons, List.map_nil, hd, hs, hrun]
  exact hK _ _ h

theorem zero_size (zc : Array Value) (k : Nat) : (Builtin.zeroCells zc k).size = k * zc.size := by
  unfold Builtin.zeroCells
  simp
theorem grown_setRow (w : World) (g : Nat) (cs : Array Value) : w.grownBy (w.setRow g cs) (some g) :=
  ⟨rfl, rfl, rfl, by simp [World.setRow], fun k hk hne => setRow_other w g k cs (fun e => hne (by rw [e]))⟩

/-- 'copy(d, s)' into a row of one's own; the world behind it is a new name. -/
theorem wpList_copyK {P : Program} {w : World} {ops : Array Oper} {rest : List Oper} {o : Oper} {a : Act} {Q : Exit → Act → World → Prop} (hgd : o.guard = none) (d s : Operand) (dT sT : TypeId)
    (ho : o.op = .call { callee := .builtin .copy, args := #[d, s], argTypes := #[dT, sT] }) (k : Nat) (elem : TypeId) (hu : P.underlying dT = some (.slice elem)) (hsz : (P.info? elem).map (·.size) = some k)
    (g off dLen dCap : Nat) (ad : Addr) (sLen sCap : Nat) (hd : a.eval d = .slice (some ⟨g, off, none⟩) dLen dCap) (hs : a.eval s = .slice (some ad) sLen sCap)
    (cur : Array Value) (t : TypeId) (hg : w.heap[g]? = some (.cells cur t (0, 0))) (cs : List Value) (hn : cs.length = Nat.min sLen dLen * k)
    (hsrc : ∀ j v, cs[j]? = some v → w.cell? (ad.add j) = some v) (hfit : off + cs.length ≤ cur.size) (h1 : ∀ v ∈ cs, v.oneCell' = true)
    (h : ∀ w', Hid (w'.heap[g]? = some (.cells (splice cur.toList off cs).toArray t (0, 0))) → w.grownBy w' (some g) → wpList P ops Q rest (a.put o.dst (goInt (Nat.min sLen dLen))) w') : wpList P ops Q (o :: rest) a w := by
  refine wpList_plain hgd fun K hK => ?_
  have hrun := run_copy_rowK (P := P) w k dT sT o.type elem g off dLen dCap ad sLen sCap cur t cs hu hsz hg hn hsrc hfit h1
  unfold Oper.wp execOp
  simp only [ho, resolve, invoke, builtin, Sem.run_bind, Sem.run_pure, Result.andThen_ok, List.map_toArray, List.map_cons, List.map_nil, hd, hs, hrun]
  exact hK _ _ (h _ (show _ = _ by rw [splice, ← List.append_assoc]; exact setRow_heap w g cur _ t _ hg) (grown_setRow w g _))

/-- .. and as one step of a region that draws. -/
theorem step_copyK {P : Program} {ops : Array Oper} {o : Oper} {a : Act} {w : World} {K : Act → World → Prop} {Q : Exit → Act → World → Prop} {E : Prop} (hgd : o.guard = none) (d s : Operand) (dT sT : TypeId)
    (ho : o.op = .call { callee := .builtin .copy, args := #[d, s], argTypes := #[dT, sT] }) (k : Nat) (elem : TypeId) (hu : P.underlying dT = some (.slice elem)) (hsz : (P.info? elem).map (·.size) = some k)
    (g off dLen dCap : Nat) (ad : Addr) (sLen sCap : Nat) (hd : a.eval d = .slice (some ⟨g, off, none⟩) dLen dCap) (hs : a.eval s = .slice (some ad) sLen sCap)
    (cur : Array Value) (t : TypeId) (hg : w.heap[g]? = some (.cells cur t (0, 0))) (cs : List Value) (hn : cs.length = Nat.min sLen dLen * k)
    (hsrc : ∀ j v, cs[j]? = some v → w.cell? (ad.add j) = some v) (hfit : off + cs.length ≤ cur.size) (h1 : ∀ v ∈ cs, v.oneCell' = true)
    (h : ∀ w', Hid (w'.heap[g]? = some (.cells (splice cur.toList off cs).toArray t (0, 0))) → w.grownBy w' (some g) → K (a.put o.dst (goInt (Nat.min sLen dLen))) w') :
    if Region.wanted o (yielded ops a.tmps) = true then Oper.wp P o a w K Q else E := by
  have hw : Region.wanted o (yielded ops a.tmps) = true := by simp [Region.wanted, hgd]
  rw [if_pos hw]
  have hrun := run_copy_rowK (P := P) w k dT sT o.type elem g off dLen dCap ad sLen sCap cur t cs hu hsz hg hn hsrc hfit h1
  unfold Oper.wp execOp
  simp only [ho, resolve, invoke, builtin, Sem.run_bind, Sem.run_pure, Result.andThen_ok, List.map_toArray, List.map_cons, List.map_nil, hd, hs, hrun]
  exact h _ (show _ = _ by rw [splice, ← List.append_assoc]; exact setRow_heap w g cur _ t _ hg) (grown_setRow w g _)

/-- 'append(s, make(S, k)...)' where there is no room: a new row. -/
theorem wpList_appendZ {P : Program} {w : World} {ops : Array Oper} {rest : List Oper} {o : Oper} {a : Act} {Q : Exit → Act → World → Prop} (hgd : o.guard = none) (s x : Operand) (t tn e : TypeId)
    (ho : o.op = .call { callee := .builtin .append, args := #[s, x], argTypes := #[t, tn] }) (i : TypeInfo) (z : Value) (kq kn : IntKind) (ht : P.underlying t = some (.slice e)) (htn : P.underlying tn = some (.int kn)) (hi : P.info? e = some i) (hz : i.zero = some z)
    (base : Option Addr) (sLen sCap : Nat) (olds : List Value) (hold : (Builtin.firstCells i.size sLen (.slice base sLen sCap)).run P w.drew = .ok olds.toArray w.drew)
    (k : Nat) (h0 : 0 < k) (hs : 0 < i.size) (hg : sCap < sLen + k) (h63 : ((sLen + k : Nat) : Int) ≤ 9223372036854775807) (h48 : k * i.bytes ≤ 281474976710656) (hfit : Builtin.nextslicecap (sLen + k) sCap * i.bytes ≤ 281474976710656)
    (hes : a.eval s = .slice base sLen sCap) (x' : Int) (hex : a.eval x = .int kq x') (hxk : x' = k)
    (h : ∀ w' (ROW : Array Value), Hid (w'.heap[w.heap.size]? = some (.cells ROW e (0, 0))) → Hid (ROW.size = olds.length + k * z.cells.size + (grownCap w (sLen + k) sCap e - (sLen + k)) * z.cells.size) → Hid (ROW.toList.take olds.length = olds) → w.grownBy w' none → w.heap.size < w'.heap.size → wpList P ops Q rest (a.put o.dst (.slice (some ⟨w.heap.size, 0, none⟩) (sLen + k) (grownCap w (sLen + k) sCap e))) w') : wpList P ops Q (o :: rest) a w := by
  refine wpList_plain hgd fun K hK => ?_
  subst hxk
  have hrun := Lib.run_append_grow_zeros w t tn o.type e i z kq kn ht htn hi hz base sLen sCap olds hold k h0 hs hg h63 h48 hfit
  unfold Oper.wp execOp
  simp only [ho, resolve, invoke, builtin, Sem.run_bind, Sem.run_pure, Result.andThen_ok, List.map_toArray, List.map_cons, List.map_nil, hes, hex, hrun]
  refine hK _ _ (h _ (olds.toArray ++ Builtin.zeroCells z.cells k ++ Builtin.zeroCells z.cells (grownCap w (sLen + k) sCap e - (sLen + k))) ?_ ?_ ?_ ?_ ?_)
  · exact heap_alloc_new w.drew _
  · show _ = _
    rw [Array.size_append, Array.size_append, zero_size, zero_size]
    simp
  · show _ = _
    rw [Array.toList_append, Array.toList_append, List.append_assoc, List.take_append_of_le_length (by simp), List.take_of_length_le (by simp)]
  · exact ⟨rfl, rfl, rfl, by simp, fun b hb hn => (World.grownBy_alloc w.drew _ none).block b hb hn⟩
  · simp
end Go.Proofs.Ytclnpfpaabmkcab
namespace Go.Proofs.Ytclnpfpaabmkcab
open Go.RowKit M
set_option linter.unusedVariables false

/-- A lock in a row: where its path lies, and that slice's room. -/
structure LkT where
  r : Lk
  pa : Option Addr
  pc : Nat
def lkC1 (t : LkT) : List Value := [.int .i64 t.r.tk, .slice t.pa t.r.pa.length t.pc, .bool t.r.de, .bool t.r.sh, .int .i64 t.r.un]
def lkCells (ts : List LkT) : List Value := ts.flatMap lkC1
theorem lkCells_length (ts : List LkT) : (lkCells ts).length = ts.length * 5 := by
  induction ts with
  | nil => rfl
  | cons t l ih => simp only [lkCells, List.flatMap_cons, List.length_append, List.length_cons] at *; rw [ih]; simp only [lkC1, List.length_cons, List.length_nil]; omega
theorem lkCells_append (a b : List LkT) : lkCells (a ++ b) = lkCells a ++ lkCells b := by simp [lkCells]
theorem lkCells_at (ts : List LkT) : ∀ j (hj : j < ts.length) i, i < 5 → (lkCells ts)[j * 5 + i]? = (lkC1 ts[j])[i]? := by
  induction ts with
  | nil => intro j hj; exact absurd hj (Nat.not_lt_zero _)
  | cons t l ih =>
    intro j hj i hi
    have e : lkCells (t :: l) = lkC1 t ++ lkCells l := by simp [lkCells]
    rw [e]
    have hl : (lkC1 t).length = 5 := rfl
    match j, hj with
    | 0, _ => rw [Nat.zero_mul, Nat.zero_add, List.getElem?_append_left (by omega)]; rfl
    | j + 1, hj =>
      rw [List.getElem?_append_right (by rw [hl]; omega), hl, show (j + 1) * 5 + i - 5 = j * 5 + i by omega]
      simpa using ih j (by simpa using hj) i hi
theorem lkCells_one (ts : List LkT) : ∀ v ∈ lkCells ts, v.oneCell' = true := fun v hv => by
  obtain ⟨t, _, ht⟩ := List.mem_flatMap.1 hv
  simp only [lkC1, List.mem_cons, List.not_mem_nil, or_false] at ht
  rcases ht with rfl | rfl | rfl | rfl | rfl <;> rfl

/-- What a row of them holds. -/
def RowV (w : World) (g : Nat) (ts : List LkT) : Prop := g < w.heap.size ∧ (∀ j (hj : j < ts.length), LkAt w g (j * 5) ts[j].r ts[j].pa ts[j].pc) ∧ ∀ i, w.frozen? ⟨g, i, none⟩ = false
theorem RowV.of {w w' : World} {g : Nat} {ts : List LkT} (h : RowV w g ts) (hz : g < w'.heap.size) (e : ∀ o, w'.cell? ⟨g, o, none⟩ = w.cell? ⟨g, o, none⟩) (f : ∀ o, w'.frozen? ⟨g, o, none⟩ = w.frozen? ⟨g, o, none⟩) : RowV w' g ts :=
  ⟨hz, fun j hj => (h.2.1 j hj).of e, fun i => by rw [f]; exact h.2.2 i⟩
theorem RowV.below {w w' : World} {g : Nat} {ts : List LkT} (h : RowV w g ts) (hb : Below w.heap.size w w') : RowV w' g ts :=
  h.of (Nat.lt_of_lt_of_le h.1 hb.size) (fun o => hb.cell (p := ⟨g, o, none⟩) h.1) (fun o => hb.frozen (p := ⟨g, o, none⟩) h.1)
theorem RowV.heap {w : World} {g : Nat} {ts : List LkT} {cs : Array Value} {T : TypeId} (h : w.heap[g]? = some (.cells cs T (0, 0))) (e : ∀ i, i < ts.length * 5 → cs[i]? = (lkCells ts)[i]?) : RowV w g ts := by
  have hc : ∀ o, w.cell? ⟨g, o, none⟩ = cs[o]? := fun o => by simp [World.cell?, h]
  have hf : ∀ o, w.frozen? ⟨g, o, none⟩ = false := fun o => by
    simp only [World.frozen?, h, Bool.and_eq_false_iff, decide_eq_false_iff_not]
    right; omega
  refine ⟨(Array.getElem?_eq_some_iff.1 h).1, fun j hj => ?_, hf⟩
  have h5 : ∀ i, i < 5 → w.cell? ⟨g, j * 5 + i, none⟩ = (lkC1 ts[j])[i]? := fun i hi => by
    rw [hc, e _ (by omega), lkCells_at ts j hj i hi]
  exact ⟨h5 0 (by omega), h5 1 (by omega), h5 2 (by omega), h5 3 (by omega), h5 4 (by omega)⟩
/-- Its paths lie below B. -/
def InV (w : World) (B : Nat) (ts : List LkT) : Prop := ∀ t ∈ ts, LkIn w B t.r t.pa t.pc
theorem InV.below {w w' : World} {B C : Nat} {ts : List LkT} (h : InV w B ts) (hb : Below C w w') (hB : B ≤ C) : InV w' B ts := fun t ht => (h t ht).below hb hB
theorem RowV.lks {w : World} {g B C : Nat} {ts : List LkT} (h : RowV w g ts) (hi : InV w B ts) (hC : g < C) (hB : B ≤ C) : Lks w C (some ⟨g, 0, none⟩) (ts.map (·.r)) := fun _ => by
  refine ⟨g, 0, rfl, hC, fun j hj => ?_⟩
  have hj' : j < ts.length := by simpa using hj
  simp only [List.getElem_map]
  exact ⟨_, _, by rw [Nat.zero_add]; exact h.2.1 j hj', (hi _ (List.getElem_mem hj')).mono hB⟩
/-- A slice of locks as such. -/
theorem Lks.ts {w : World} {B : Nat} {a : Option Addr} {l : List Lk} (h : Lks w B a l) : ∃ ts : List LkT, ts.map (·.r) = l ∧ InV w B ts ∧ (0 < l.length → ∃ b o, a = some ⟨b, o, none⟩ ∧ b < B ∧ ∀ j (hj : j < ts.length), LkAt w b (o + j * 5) ts[j].r ts[j].pa ts[j].pc) := by
  by_cases h0 : 0 < l.length
  · obtain ⟨b, o, ea, hb, hc⟩ := h h0
    have each : ∀ j, j < l.length → ∃ t : LkT, (∀ hj : j < l.length, t.r = l[j]) ∧ LkAt w b (o + j * 5) t.r t.pa t.pc ∧ LkIn w B t.r t.pa t.pc := fun j hj => by
      obtain ⟨pa, pc, h1, h2⟩ := hc j hj
      exact ⟨⟨l[j], pa, pc⟩, fun _ => rfl, h1, h2⟩
    obtain ⟨ts, hl, ht⟩ := pick_gen each
    refine ⟨ts, ?_, fun t hm => ?_, fun _ => ⟨b, o, ea, hb, fun j hj => (ht j hj).2.1⟩⟩
    · apply List.ext_getElem
      · rw [List.length_map, hl]
      · intro j h1 h2
        rw [List.getElem_map]
        exact (ht j (by omega)).1 h2
    · obtain ⟨j, hj, rfl⟩ := List.mem_iff_getElem.1 hm
      exact (ht j hj).2.2
  · have : l = [] := List.eq_nil_of_length_eq_zero (by omega)
    subst this
    exact ⟨[], rfl, fun t h => (by cases h), fun h => absurd h (Nat.lt_irrefl _)⟩
/-- The cells of a part of it, as copy reads them. -/
theorem lks_src {w : World} {b o : Nat} {ts : List LkT} (h : ∀ j (hj : j < ts.length), LkAt w b (o + j * 5) ts[j].r ts[j].pa ts[j].pc) : ∀ i v, (lkCells ts)[i]? = some v → w.cell? ((⟨b, o, none⟩ : Addr).add i) = some v := fun i v hv => by
  have hi := (List.getElem?_eq_some_iff.1 hv).1
  rw [lkCells_length] at hi
  have hj : i / 5 < ts.length := by omega
  have ei : i = i / 5 * 5 + i % 5 := by omega
  have h5 := lkCells_at ts (i / 5) hj (i % 5) (by omega)
  rw [← ei, hv] at h5
  rw [add_pick]
  obtain ⟨c0, c1, c2, c3, c4⟩ := h (i / 5) hj
  have hm : i % 5 = 0 ∨ i % 5 = 1 ∨ i % 5 = 2 ∨ i % 5 = 3 ∨ i % 5 = 4 := by omega
  rcases hm with e | e | e | e | e <;> rw [e] at h5 ei <;> rw [ei] <;> simp only [lkC1, List.getElem?_cons_zero, List.getElem?_cons_succ] at h5
  · rw [Nat.add_zero, h5]; exact c0
  · rw [← Nat.add_assoc, h5]; exact c1
  · rw [← Nat.add_assoc, h5]; exact c2
  · rw [← Nat.add_assoc, h5]; exact c3
  · rw [← Nat.add_assoc, h5]; exact c4

/-- A growing row of them that the call owns. -/
def OwnT (w : World) (B : Nat) (v : Value) (ts : List LkT) : Prop := w.ownsRow B 26 5 v ts.length (lkCells ts)
theorem OwnT.made (w : World) (B : Nat) (hB : B ≤ w.heap.size) : OwnT (w.alloc (Obj.cells #[] 26)) B (.slice (some ⟨w.heap.size, 0, none⟩) 0 0) [] :=
  ⟨rfl, .inr ⟨w.heap.size, 0, #[], rfl, hB, heap_alloc_new w _, Nat.le_refl _, Nat.zero_le _, rfl, rfl⟩⟩
theorem OwnT.next {w w' : World} {B : Nat} {v : Value} {ts : List LkT} (h : OwnT w B v ts) (hb : Below w.heap.size w w') : OwnT w' B v ts :=
  World.ownsRow.kept (row := none) h ⟨hb.os, hb.tape, hb.output, hb.size, fun k hk _ => hb.block k hk⟩ (Classical.em _)
theorem OwnT.keepB {w w' : World} {B g n c : Nat} {ts : List LkT} (h : OwnT w B (.slice (some ⟨g, 0, none⟩) n c) ts) (e : w'.heap[g]? = w.heap[g]?) : OwnT w' B (.slice (some ⟨g, 0, none⟩) n c) ts := by
  refine ⟨h.1, ?_⟩
  rcases h.2 with ⟨h0, _⟩ | ⟨g', c', cur, hv, hB, hh, hr⟩
  · cases h0
  · cases hv
    exact .inr ⟨g, c, cur, rfl, hB, e.trans hh, hr⟩
theorem RowS.hp {w w' : World} {b : Nat} {l : List ByteArray} (h : RowS w b l) (hz : w.heap.size ≤ w'.heap.size) (e : w'.heap[b]? = w.heap[b]?) : RowS w' b l :=
  ⟨Nat.lt_of_lt_of_le h.1 hz, fun j hj => by simp only [World.cell?, World.frozen?, e]; exact h.2 j hj⟩
theorem OwnT.row {w : World} {B g n c : Nat} {ts : List LkT} (h : OwnT w B (.slice (some ⟨g, 0, none⟩) n c) ts) : n = ts.length ∧ RowV w g ts ∧ n ≤ c ∧ c ≤ maxLen ∧ B ≤ g := by
  have hlt := World.ownsRow.lt h g rfl
  rcases h.2 with ⟨e, _⟩ | ⟨g', c', cur, e, hB, hh, h1, h2, _⟩
  · cases e
  · cases e
    have hl := lkCells_length ts
    have hcc : ∀ j (hj : j < ts.length) i, i < 5 → w.cell? ⟨g, j * 5 + i, none⟩ = (lkC1 ts[j])[i]? := fun j hj i hi => by
      rw [World.ownsRow.cellAt h (j * 5 + i) (by omega)]
      exact lkCells_at ts j hj i hi
    refine ⟨rfl, ⟨hlt.2, fun j hj => ⟨hcc j hj 0 (by omega), hcc j hj 1 (by omega), hcc j hj 2 (by omega), hcc j hj 3 (by omega), hcc j hj 4 (by omega)⟩, fun i => ?_⟩, h1, h2, hB⟩
    simp only [World.frozen?, hh, Bool.and_eq_false_iff, decide_eq_false_iff_not]
    right; omega
theorem below_grownT {w w' : World} {B n : Nat} {v : Value} {xs : List Value} (hown : w.ownsRow B 26 5 v n xs) (hB : B ≤ w.heap.size) (hg : w.grownBy w' v.ownBlock) : Below B w w' :=
  ⟨hg.os, hg.tape, hg.output, hg.size, fun k hk => hg.block k (by omega) (fun e => by have := (hown.lt k e.symm).1; omega)⟩

/-- 'l = append(l, x)' on a row that the call owns. -/
theorem wp_append_lkT {w : World} {ops : Array Oper} {rest : List Oper} {o : Oper} {a : Act} {Q : Exit → Act → World → Prop} (T : TypeId) (hu : Try.prog.underlying T = some (.slice 26)) (hgd : o.guard = none) (s x : Operand)
    (ho : o.op = .call { callee := .builtin .append, args := #[s, x], argTypes := #[T, T] })
    (B : Nat) (v : Value) (l : List LkT) (hs : a.eval s = v) (hown : OwnT w B v l)
    (N : Nat) (t : LkT) (hx : a.eval x = .slice (some ⟨N, 0, none⟩) 1 1) (hc0 : LkAt w N 0 t.r t.pa t.pc) (hlen : l.length + 1 ≤ 1099511627776) (hB : B ≤ w.heap.size)
    (h : ∀ g n cap w', n = (l ++ [t]).length → OwnT w' B (.slice (some ⟨g, 0, none⟩) n cap) (l ++ [t]) → Below B w w' → w.grownBy w' v.ownBlock → ((Value.slice (some ⟨g, 0, none⟩) n cap).ownBlock = v.ownBlock ∨ (Value.slice (some ⟨g, 0, none⟩) n cap).ownBlock = some w.heap.size) → wpList Try.prog ops Q rest (a.put o.dst (.slice (some ⟨g, 0, none⟩) n cap)) w') : wpList Try.prog ops Q (o :: rest) a w := by
  obtain ⟨i0, hi, hz0, hz1, hz2⟩ := info_parts info_lock
  refine wpList_append_own_at w hgd s x T ho B 26 i0 _ 5 48 hu hi hz0 hz1 hz2 rfl (by decide) v l.length _ hs hown ⟨N, 0, none⟩ 1 1 (lkC1 t) hx rfl ?_ ?_ ?_ ?_ hB ?_
  · intro j u hj
    rw [add_pick]
    obtain ⟨c0, c1, c2, c3, c4⟩ := hc0
    simp only [Nat.zero_add] at c0 c1 c2 c3 c4 ⊢
    unfold lkC1 at hj
    match j, hj with
    | 0, hj => simp at hj; subst hj; exact c0
    | 1, hj => simp at hj; subst hj; exact c1
    | 2, hj => simp at hj; subst hj; exact c2
    | 3, hj => simp at hj; subst hj; exact c3
    | 4, hj => simp at hj; subst hj; exact c4
  · intro u hu; simp [lkC1] at hu; rcases hu with rfl | rfl | rfl | rfl | rfl <;> rfl
  · unfold maxLen; omega
  · omega
  · intro v' w' ho' hg _ hat
    obtain ⟨g, cap, rfl⟩ : ∃ g cap, v' = .slice (some ⟨g, 0, none⟩) (l.length + 1) cap := by
      rcases ho'.2 with ⟨_, h0⟩ | ⟨g, cap, cur, hv, _⟩
      · omega
      · exact ⟨g, cap, hv⟩
    refine h g (l.length + 1) cap w' (by simp) ?_ (below_grownT hown hB hg) hg hat
    unfold OwnT
    rw [lkCells_append, show lkCells [t] = lkC1 t by simp [lkCells], show (l ++ [t]).length = l.length + 1 by simp]
    exact ho'
/-- 'append(l, x)' or 'append(l, more...)' as one step of a region that draws. -/
theorem step_append_lkT {ops : Array Oper} {o : Oper} {a : Act} {w : World} {K : Act → World → Prop} {Q : Exit → Act → World → Prop} {E : Prop} (T : TypeId) (hu : Try.prog.underlying T = some (.slice 26)) (hgd : o.guard = none) (s x : Operand)
    (ho : o.op = .call { callee := .builtin .append, args := #[s, x], argTypes := #[T, T] })
    (B : Nat) (v : Value) (l : List LkT) (hs : a.eval s = v) (hown : OwnT w B v l)
    (b off n c : Nat) (us : List LkT) (hx : a.eval x = .slice (some ⟨b, off, none⟩) n c) (hn : n = us.length) (hc : ∀ j (hj : j < us.length), LkAt w b (off + j * 5) us[j].r us[j].pa us[j].pc) (hlen : l.length + us.length ≤ 1099511627776) (hB : B ≤ w.heap.size) (h0 : 0 < us.length)
    (h : ∀ g n cap w', n = (l ++ us).length → OwnT w' B (.slice (some ⟨g, 0, none⟩) n cap) (l ++ us) → Below B w w' → w.grownBy w' v.ownBlock → ((Value.slice (some ⟨g, 0, none⟩) n cap).ownBlock = v.ownBlock ∨ (Value.slice (some ⟨g, 0, none⟩) n cap).ownBlock = some w.heap.size) → K (a.put o.dst (.slice (some ⟨g, 0, none⟩) n cap)) w') :
    if Region.wanted o (yielded ops a.tmps) = true then Oper.wp Try.prog o a w K Q else E := by
  have hw : Region.wanted o (yielded ops a.tmps) = true := by simp [Region.wanted, hgd]
  rw [if_pos hw]
  obtain ⟨i0, hi, hz0, hz1, hz2⟩ := info_parts info_lock
  obtain ⟨v', w', hr, ho', hg, _, hat⟩ := run_append_own_at (P := Try.prog) (w := w) B T o.type 26 i0 _ 5 48 hu hi hz0 hz1 hz2 rfl (by decide) v l.length _ hown ⟨b, off, none⟩ n c (lkCells us) (by rw [lkCells_length, hn]) (fun j u hj => lks_src hc j u hj) (lkCells_one us) (by unfold maxLen; omega) (by omega) hB
  unfold Oper.wp execOp
  simp only [ho, resolve, invoke, builtin, Sem.run_bind, Sem.run_pure, Result.andThen_ok, List.map_toArray, List.map_cons, List.map_nil, hs, hx, hr]
  obtain ⟨g, cap, rfl⟩ : ∃ g cap, v' = .slice (some ⟨g, 0, none⟩) (l.length + n) cap := by
    rcases ho'.2 with ⟨_, h1⟩ | ⟨g, cap, cur, hv, _⟩
    · omega
    · exact ⟨g, cap, hv⟩
  refine h g (l.length + n) cap w' (by rw [List.length_append, hn]) ?_ (below_grownT hown hB hg) hg hat
  unfold OwnT
  rw [lkCells_append, List.length_append, ← hn]
  exact ho'
theorem step_append_lkNil {ops : Array Oper} {o : Oper} {a : Act} {w : World} {K : Act → World → Prop} {Q : Exit → Act → World → Prop} {E : Prop} (T : TypeId) (hu : Try.prog.underlying T = some (.slice 26)) (hgd : o.guard = none) (s x : Operand)
    (ho : o.op = .call { callee := .builtin .append, args := #[s, x], argTypes := #[T, T] })
    (B : Nat) (v : Value) (l : List LkT) (hs : a.eval s = v) (hown : OwnT w B v l)
    (ad : Option Addr) (c : Nat) (hx : a.eval x = .slice ad 0 c) (hc : ad = none → c = 0) (hB : B ≤ w.heap.size) (hv0 : v ≠ .slice none 0 0) (hlen : l.length ≤ 1099511627776)
    (h : ∀ g n cap w', n = l.length → OwnT w' B (.slice (some ⟨g, 0, none⟩) n cap) l → Below B w w' → w.grownBy w' v.ownBlock → ((Value.slice (some ⟨g, 0, none⟩) n cap).ownBlock = v.ownBlock ∨ (Value.slice (some ⟨g, 0, none⟩) n cap).ownBlock = some w.heap.size) → K (a.put o.dst (.slice (some ⟨g, 0, none⟩) n cap)) w') :
    if Region.wanted o (yielded ops a.tmps) = true then Oper.wp Try.prog o a w K Q else E := by
  have hw : Region.wanted o (yielded ops a.tmps) = true := by simp [Region.wanted, hgd]
  rw [if_pos hw]
  obtain ⟨i0, hi, hz0, hz1, hz2⟩ := info_parts info_lock
  cases ad with
  | none =>
    obtain rfl := hc rfl
    have hr := run_append_owned_none (P := Try.prog) (w := w) B T o.type 26 i0 5 hu hi _ _ _ hown
    obtain ⟨g, cap, rfl⟩ : ∃ g cap, v = .slice (some ⟨g, 0, none⟩) l.length cap := by
      rcases hown.2 with ⟨h1, _⟩ | ⟨g, cap, cur, hv, _⟩
      · exact absurd h1 hv0
      · exact ⟨g, cap, hv⟩
    unfold Oper.wp execOp
    simp only [ho, resolve, invoke, builtin, Sem.run_bind, Sem.run_pure, Result.andThen_ok, List.map_toArray, List.map_cons, List.map_nil, hs, hx, hr]
    exact h g l.length cap w rfl hown (Below.refl _ _) ⟨rfl, rfl, rfl, Nat.le_refl _, fun _ _ _ => rfl⟩ (.inl rfl)
  | some ad =>
    obtain ⟨v', w', hr, ho', hg, hnn, hat⟩ := run_append_own_at (P := Try.prog) (w := w) B T o.type 26 i0 _ 5 48 hu hi hz0 hz1 hz2 rfl (by decide) v l.length _ hown ad 0 c [] (by simp) (fun j u hj => by simp at hj) (fun u hu => by cases hu) (by unfold maxLen; omega) (by omega) hB
    unfold Oper.wp execOp
    simp only [ho, resolve, invoke, builtin, Sem.run_bind, Sem.run_pure, Result.andThen_ok, List.map_toArray, List.map_cons, List.map_nil, hs, hx, hr]
    obtain ⟨g, cap, rfl⟩ : ∃ g cap, v' = .slice (some ⟨g, 0, none⟩) (l.length + 0) cap := by
      rcases ho'.2 with ⟨h1, _⟩ | ⟨g, cap, cur, hv, _⟩
      · exact absurd (hnn.1 h1).1 hv0
      · exact ⟨g, cap, hv⟩
    refine h g _ cap w' rfl ?_ (below_grownT hown hB hg) hg hat
    unfold OwnT
    rw [List.append_nil] at ho'
    exact ho'
end Go.Proofs.Ytclnpfpaabmkcab
namespace Go.Proofs.Ytclnpfpaabmkcab
open Go.RowKit
set_option linter.unusedVariables false

theorem owns_rowS {w : World} {B g n cap : Nat} {ns : List ByteArray} (h : w.ownsRow B 9 1 (.slice (some ⟨g, 0, none⟩) n cap) n (strCells ns)) (hn : ns.length = n) : RowS w g ns ∧ B ≤ g ∧ n ≤ cap ∧ cap ≤ maxLen := by
  subst hn
  have hlt := h.lt g rfl
  have hcap : ns.length ≤ cap ∧ cap ≤ maxLen := by
    rcases h.2 with ⟨e, _⟩ | ⟨g', cap', cur, hv, _, _, h1, h2, _⟩
    · cases e
    · cases hv; exact ⟨h1, h2⟩
  refine ⟨⟨hlt.2, fun j hj => ⟨?_, h.frozenAt j⟩⟩, hlt.1, hcap.1, hcap.2⟩
  rw [h.cellAt j (by omega)]
  simp [strCells, List.getElem?_eq_getElem hj]

/-- The same texts, in a new row. -/
theorem wp_append_strs {w : World} {ops : Array Oper} {rest : List Oper} {o : Oper} {a : Act} {Q : Exit → Act → World → Prop} (hgd : o.guard = none) (s x : Operand)
    (ho : o.op = .call { callee := .builtin .append, args := #[s, x], argTypes := #[24, 24] })
    (B g0 : Nat) (l : List ByteArray) (n : Nat) (hn : n = l.length) (hs : a.eval s = .slice (some ⟨g0, 0, none⟩) 0 0) (hown : w.ownsRow B 9 1 (.slice (some ⟨g0, 0, none⟩) 0 0) 0 [])
    (C : Nat) (pa : Option Addr) (pc : Nat) (hx : a.eval x = .slice pa n pc) (hst : Strs w C pa l) (hpn : pa = none → pc = 0) (hlen : n ≤ 1099511627776) (hB : B ≤ w.heap.size)
    (h : ∀ g cap w', RowS w' g l → B ≤ g → n ≤ cap → cap ≤ maxLen → Below B w w' → wpList Try.prog ops Q rest (a.put o.dst (.slice (some ⟨g, 0, none⟩) n cap)) w') : wpList Try.prog ops Q (o :: rest) a w := by
  obtain ⟨i0, hi, hz0, hz1, hz2⟩ := info_parts info_str
  cases pa with
  | none =>
    have h0 : n = 0 := by
      rw [hn]
      by_cases e : 0 < l.length
      · obtain ⟨_, _, e', _⟩ := hst e; cases e'
      · omega
    have hl : l = [] := List.length_eq_zero_iff.1 (by omega)
    subst hl h0
    rw [hpn rfl] at hx
    have hr := run_append_owned_none (P := Try.prog) (w := w) B 24 o.type 9 i0 1 Try.underlying24 hi _ _ _ hown
    refine wpList_plain hgd fun K hK => ?_
    unfold Oper.wp execOp
    simp only [ho, resolve, invoke, builtin, Sem.run_bind, Sem.run_pure, Result.andThen_ok, List.map_toArray, List.map_cons, List.map_nil, hs, hx, hr]
    obtain ⟨r1, r2, r3, r4⟩ := owns_rowS (ns := []) (n := 0) hown rfl
    exact hK _ _ (h g0 0 w r1 r2 r3 r4 (Below.refl _ _))
  | some ad =>
    refine wpList_append_own w hgd s x 24 ho B 9 i0 (.string ByteArray.empty) 1 16 Try.underlying24 hi hz0 hz1 hz2 rfl (by decide) _ 0 _ hs hown ad n pc (strCells l) hx (by rw [strCells_length, hn, Nat.mul_one]) ?_ ?_ ?_ ?_ hB ?_
    · intro j u hj
      have hjl : j < l.length := by have := (List.getElem?_eq_some_iff.1 hj).1; rwa [strCells_length] at this
      obtain ⟨b, o', e, _, hc⟩ := hst (by omega)
      have e' : ad = ⟨b, o', none⟩ := by cases e; rfl
      subst e'
      have e2 : (⟨b, o', none⟩ : Addr).add j = ⟨b, o' + j, none⟩ := by unfold Addr.add; split <;> simp_all
      rw [e2, hc j hjl]
      unfold strCells at hj
      rw [List.getElem?_map, List.getElem?_eq_getElem hjl] at hj
      exact hj
    · intro u hu
      unfold strCells at hu
      obtain ⟨y, _, rfl⟩ := List.mem_map.1 hu
      rfl
    · unfold maxLen; omega
    · omega
    · intro v' w' ho' hg hnn
      rw [Nat.zero_add] at ho'
      obtain ⟨g, cap, rfl⟩ : ∃ g cap, v' = .slice (some ⟨g, 0, none⟩) n cap := by
        rcases ho'.2 with ⟨e, h0⟩ | ⟨g, cap, cur, hv, _⟩
        · have := (hnn.1 e).1; cases this
        · exact ⟨g, cap, hv⟩
      have ho2 : w'.ownsRow B 9 1 (.slice (some ⟨g, 0, none⟩) n cap) n (strCells l) := ho'
      obtain ⟨r1, r2, r3, r4⟩ := owns_rowS ho2 hn.symm
      exact h g cap w' r1 r2 r3 r4 (below_grown hown hB hg)
end Go.Proofs.Ytclnpfpaabmkcab
namespace Go.Proofs.Ytclnpfpaabmkcab
open Go.RowKit M
theorem lks_of_rowV {w : World} {g B : Nat} {ts : List LkT} {l : List Lk} (e : ts.map (·.r) = l) (h : RowV w g ts) (hi : InV w B ts) (hB : B ≤ w.heap.size) : Lks w w.heap.size (some ⟨g, 0, none⟩) l := by
  rw [← e]; exact h.lks hi h.1 hB
end Go.Proofs.Ytclnpfpaabmkcab
namespace Go.Proofs.Ytclnpfpaabmkcab
open Go.RowKit M
set_option linter.unusedVariables false

theorem RowV.hp {w w' : World} {g : Nat} {ts : List LkT} (h : RowV w g ts) (hz : w.heap.size ≤ w'.heap.size) (e : w'.heap[g]? = w.heap[g]?) : RowV w' g ts :=
  h.of (Nat.lt_of_lt_of_le h.1 hz) (fun o => by simp only [World.cell?, e]) (fun o => by simp only [World.frozen?, e])
/-- Its paths, each in a block of its own choosing, none of them g. -/
def PathsV (w : World) (lo g : Nat) (ts : List LkT) : Prop := ∀ t ∈ ts, ∃ p, t.pa = some ⟨p, 0, none⟩ ∧ RowS w p t.r.pa ∧ p ≠ g ∧ lo ≤ p ∧ t.r.pa.length ≤ t.pc ∧ t.pc ≤ maxLen
theorem PathsV.next {w w' : World} {lo g : Nat} {ts : List LkT} (h : PathsV w lo g ts) (hb : Below w.heap.size w w') : PathsV w' lo g ts := fun t ht => by
  obtain ⟨p, h1, h2, h3⟩ := h t ht
  exact ⟨p, h1, h2.below hb, h3⟩
theorem PathsV.keepB {w w' : World} {lo g g' : Nat} {ts : List LkT} (h : PathsV w lo g ts) (hz : w.heap.size ≤ w'.heap.size) (e : ∀ x, x < w.heap.size → x ≠ g → w'.heap[x]? = w.heap[x]?) (hg : g' = g ∨ w.heap.size ≤ g') : PathsV w' lo g' ts := fun t ht => by
  obtain ⟨p, h1, h2, h3, h4⟩ := h t ht
  have := h2.1
  exact ⟨p, h1, h2.hp hz (e p h2.1 h3), by omega, h4⟩
theorem PathsV.inV {w : World} {lo g : Nat} {ts : List LkT} (h : PathsV w lo g ts) : InV w w.heap.size ts := fun t ht => by
  obtain ⟨p, h1, h2, h3, _, h4, h5⟩ := h t ht
  rw [h1]
  exact ⟨h2.strs' h2.1, h4, h5, fun e => by cases e⟩

/-- Of what two rows hold: one grows. -/
theorem PickV.next {w w9 : World} {lo g g0 g9 : Nat} {ts0 : List LkT} (hrow : RowV w g0 ts0) (hp : PathsV w lo g ts0) (hne : g0 ≠ g) (hz : w.heap.size ≤ w9.heap.size) (e : ∀ x, x < w.heap.size → x ≠ g → w9.heap[x]? = w.heap[x]?) (hg : g9 = g ∨ w.heap.size ≤ g9) : RowV w9 g0 ts0 ∧ PathsV w9 lo g9 ts0 ∧ g0 ≠ g9 :=
  ⟨hrow.hp hz (e g0 hrow.1 hne), hp.keepB hz e hg, by have := hrow.1; omega⟩
set_option maxRecDepth 100000 in
set_option maxHeartbeats 4000000 in
theorem l13Copy_own (a : Option Addr) (l : List Lk) (cap B : Nat) (w : World) (h : Lks w B a l) (hB : B ≤ w.heap.size) (hl : l.length ≤ 1048577) (hs : ∀ r ∈ l, r.pa.length ≤ 1048576) :
    Calls Try.prog 49 #[.slice a l.length cap] w fun e w' => (∃ (g c : Nat) (ts : List LkT), e = .returned (.slice (some ⟨g, 0, none⟩) l.length c) ∧ ts.map (·.r) = l ∧ RowV w' g ts ∧ PathsV w' w.heap.size g ts ∧ w.heap.size ≤ g ∧ l.length ≤ c ∧ c ≤ maxLen ∧ OwnT w' w.heap.size (.slice (some ⟨g, 0, none⟩) l.length c) ts) ∧ Below w.heap.size w w' := by
  have HH := hide h
  have HS := hide hs
  have HO := hide (OwnT.made w w.heap.size (Nat.le_refl _))
  clear h hs
  go_enter Try.func49, Try.ntmps49
  go_wp2
  go_loopw [3, 4] (fun v i wr => ∃ (k g c : Nat) (ts : List LkT), k ≤ l.length ∧ i = .int .i64 k ∧ v = .slice (some ⟨g, 0, none⟩) k c ∧ Hid (OwnT wr w.heap.size (.slice (some ⟨g, 0, none⟩) k c) ts) ∧ Hid (ts.map (·.r) = l.take k) ∧ Hid (PathsV wr w.heap.size g ts) ∧ Below w.heap.size w wr) (fun _ i _ => l.length - (intOf i).toNat)
  case atStart => exact ⟨0, _, _, [], Nat.zero_le _, rfl, rfl, HO, (by show _ = _; simp), (fun t ht => by cases ht), (Below.refl _ _).alloc (Nat.le_refl _) _⟩
  case round =>
    obtain ⟨k, g, c, ts, hk, rfl, rfl, HOW, HTS, HPV, hbe⟩ := hrel
    by_cases hlt : k < l.length
    · obtain ⟨b, o, rfl, hb, hc⟩ := (HH.out.below hbe hB) (by omega)
      obtain ⟨pa, pc, ⟨hc0, hc1, hc2, hc3, hc4⟩, hin⟩ := hc k hlt
      have hBr := Nat.le_trans hB hbe.size
      have b1 := (Below.refl wr.heap.size wr).alloc (Nat.le_refl _) (Obj.cells #[.int .i64 l[k].tk, .slice pa l[k].pa.length pc, .bool l[k].de, .bool l[k].sh, .int .i64 l[k].un] 26)
      have b2 := b1.alloc b1.size (Obj.cells #[] 9)
      have hown := World.ownsRow_made (e := 9) (size := 1) (base := wr.heap.size + 1) (wr.alloc (Obj.cells #[.int .i64 l[k].tk, .slice pa l[k].pa.length pc, .bool l[k].de, .bool l[k].sh, .int .i64 l[k].un] 26)) #[] 0 (by simp) (by decide) rfl
      have hz : (wr.alloc (Obj.cells #[.int .i64 l[k].tk, .slice pa l[k].pa.length pc, .bool l[k].de, .bool l[k].sh, .int .i64 l[k].un] 26)).heap.size = wr.heap.size + 1 := by simp
      rw [hz] at hown
      have HOWN := hide hown
      have HX := hide ((BoxV.made wr [.int .i64 l[k].tk, .slice pa l[k].pa.length pc, .bool l[k].de, .bool l[k].sh, .int .i64 l[k].un] 26).alloc (Obj.cells #[] 9))
      have HST := hide ((hin.below b2 hBr).ph)
      have HPN := hide hin.pn
      have HC2 := hide (hbe.trans (b2.mono hbe.size))
      have HF := hide (show l.take (k + 1) = l.take k ++ [l[k]] from List.take_succ_eq_append_getElem hlt)
      have hsx : l[k].pa.length ≤ 1099511627776 := by have := HS.out _ (List.getElem_mem hlt); omega
      have hlow : (wr.heap.size + 1 : Nat) ≤ ((wr.alloc (Obj.cells #[.int .i64 l[k].tk, .slice pa l[k].pa.length pc, .bool l[k].de, .bool l[k].sh, .int .i64 l[k].un] 26)).alloc (Obj.cells #[] 9)).heap.size := by simp
      have HBR := hide hBr
      have hcp := (b2.cell (p := ⟨b, o + k * 5 + 1, none⟩) (by show b < wr.heap.size; omega)).trans hc1
      have hz0 := hbe.size
      have hgx : g < wr.heap.size := (OwnT.row HOW.out).2.1.1
      have hz2 := HC2.out.size
      have hz3 : ((wr.alloc (Obj.cells #[.int .i64 l[k].tk, .slice pa l[k].pa.length pc, .bool l[k].de, .bool l[k].sh, .int .i64 l[k].un] 26)).alloc (Obj.cells #[] 9)).heap.size = wr.heap.size + 1 + 1 := by simp
      have HZ3 := hide hz3
      have hb2b := hide b2
      clear hc hin b1 b2 hown hz hBr hz3
      go_wp2_with (at_builtin; refine wp_append_strs rfl _ _ rfl (wr.heap.size + 1) _ l[k].pa l[k].pa.length rfl rfl HOWN.out B pa pc rfl HST.out HPN.out hsx hlow ?_)
      intro g2 c2 w2 r2 hg2 hc21 hc22 hb2
      have hz2' := hb2.size
      rw [HZ3.out] at hz2'
      have HX2 := hide (show BoxV w2 wr.heap.size [.int .i64 l[k].tk, .slice pa l[k].pa.length pc, .bool l[k].de, .bool l[k].sh, .int .i64 l[k].un] from ⟨by omega, fun i v hv => by rw [hb2.cell (p := ⟨wr.heap.size, i, none⟩) (Nat.lt_succ_self _), hb2.frozen (p := ⟨wr.heap.size, i, none⟩) (Nat.lt_succ_self _)]; exact HX.out.2 i v hv⟩)
      have y0 := (HX2.out.2 0 _ rfl).1
      obtain ⟨y1, f1⟩ := HX2.out.2 1 _ rfl
      have y2 := (HX2.out.2 2 _ rfl).1
      have y3 := (HX2.out.2 3 _ rfl).1
      have y4 := (HX2.out.2 4 _ rfl).1
      obtain ⟨w3, hw3⟩ : ∃ W, w2.setCell ⟨wr.heap.size, 1, none⟩ (.slice (some ⟨g2, 0, none⟩) l[k].pa.length c2) = W := ⟨_, rfl⟩
      have hz4 : w3.heap.size = w2.heap.size := by rw [← hw3]; simp
      have hge : ∀ x, x < wr.heap.size → w3.heap[x]? = wr.heap[x]? := fun x hx => by
        rw [← hw3, Below.heap_setCell _ _ _ _ (by show x ≠ wr.heap.size; omega), hb2.block x (by omega)]
        exact hb2b.out.block x hx
      have HX3 := hide (show BoxV w3 wr.heap.size [.int .i64 l[k].tk, .slice (some ⟨g2, 0, none⟩) l[k].pa.length c2, .bool l[k].de, .bool l[k].sh, .int .i64 l[k].un] by rw [← hw3]; exact HX2.out.set 1 (by simp) _)
      have HC3 := hide (show Below w.heap.size w w3 by rw [← hw3]; exact (HC2.out.trans (hb2.mono (by omega))).setCell (p := ⟨wr.heap.size, 1, none⟩) hbe.size _)
      have HR3 := hide (show RowS w3 g2 l[k].pa by rw [← hw3]; exact r2.setCellL _ _ (by simp; omega))
      have HO3 := hide (HOW.out.keepB (w' := w3) (hge g hgx))
      have HP3 := hide (HPV.out.keepB (w' := w3) (g' := g) (by omega) (fun x hx _ => hge x hx) (.inl rfl))
      have bA := (Below.refl w3.heap.size w3).alloc (Nat.le_refl _) (Obj.cells #[.int .i64 l[k].tk, .slice (some ⟨g2, 0, none⟩) l[k].pa.length c2, .bool l[k].de, .bool l[k].sh, .int .i64 l[k].un] 26)
      have HO4 := hide (HO3.out.next bA)
      have HP4 := hide (HP3.out.next bA)
      have HR4 := hide (HR3.out.below bA)
      have HC4 := hide (HC3.out.trans (bA.mono HC3.out.size))
      have hln : ts.length + 1 ≤ 1099511627776 := by have := (OwnT.row HOW.out).1; omega
      have hs4 := HC4.out.size
      have hz5 : (w3.alloc (Obj.cells #[.int .i64 l[k].tk, .slice (some ⟨g2, 0, none⟩) l[k].pa.length c2, .bool l[k].de, .bool l[k].sh, .int .i64 l[k].un] 26)).heap.size = w3.heap.size + 1 := by simp
      obtain ⟨u0, u1, u2, u3, u4⟩ : w3.cell? ⟨wr.heap.size, 0, none⟩ = some (.int .i64 l[k].tk) ∧ w3.cell? ⟨wr.heap.size, 1, none⟩ = some (.slice (some ⟨g2, 0, none⟩) l[k].pa.length c2) ∧ w3.cell? ⟨wr.heap.size, 2, none⟩ = some (.bool l[k].de) ∧ w3.cell? ⟨wr.heap.size, 3, none⟩ = some (.bool l[k].sh) ∧ w3.cell? ⟨wr.heap.size, 4, none⟩ = some (.int .i64 l[k].un) := ⟨(HX3.out.2 0 _ rfl).1, (HX3.out.2 1 _ rfl).1, (HX3.out.2 2 _ rfl).1, (HX3.out.2 3 _ rfl).1, (HX3.out.2 4 _ rfl).1⟩
      have HN := hide (OwnT.row HOW.out).1
      have HAT := hide (show LkAt (w3.alloc (Obj.cells #[.int .i64 l[k].tk, .slice (some ⟨g2, 0, none⟩) l[k].pa.length c2, .bool l[k].de, .bool l[k].sh, .int .i64 l[k].un] 26)) w2.heap.size 0 l[k] (some ⟨g2, 0, none⟩) c2 by rw [← hz4]; refine ⟨?_, ?_, ?_, ?_, ?_⟩ <;> simp [go_sem])
      have HCC := hide (And.intro hc21 hc22)
      clear bA HOW HPV HO3 HP3 HR3 HC3 hb2 r2 hge HX HX2 HX3 HST HOWN hb2b HC2
      go_wp2_with (at_builtin; refine wp_append_lkT 32 Try.underlying32 rfl _ _ rfl w.heap.size _ ts rfl (by first | exact HO4.out | (rw [hw3]; exact HO4.out)) _ ⟨l[k], some ⟨g2, 0, none⟩, c2⟩ rfl HAT.out hln (by first | exact hs4 | (rw [hw3]; exact hs4)) ?_)
      intro g9 n9 c9 w9 hn9 hO9 hb9 hg9 hat
      obtain ⟨e1, e2, e3, e4, e5⟩ := hO9.row
      have hgn : g9 = g ∨ w3.heap.size + 1 ≤ g9 := by
        rcases hat with e | e
        · exact .inl (Option.some.inj e)
        · have e := Option.some.inj e
          simp at e
          right; omega
      have hkeep : ∀ x, x < w3.heap.size + 1 → x ≠ g → w9.heap[x]? = (w3.alloc (Obj.cells #[.int .i64 l[k].tk, .slice (some ⟨g2, 0, none⟩) l[k].pa.length c2, .bool l[k].de, .bool l[k].sh, .int .i64 l[k].un] 26)).heap[x]? := fun x hx hne => hg9.block x (by rw [hz5]; omega) (fun e => hne (Option.some.inj e))
      have hz9 : w3.heap.size + 1 ≤ w9.heap.size := by have := hg9.size; rw [hz5] at this; exact this
      have HP9 := hide (show PathsV w9 w.heap.size g9 (ts ++ [⟨l[k], some ⟨g2, 0, none⟩, c2⟩]) from fun t ht => by
        rcases List.mem_append.1 ht with h | h
        · exact HP4.out.keepB (by rw [hz5]; exact hz9) (fun x hx hne => hkeep x (by rw [hz5] at hx; exact hx) hne) (by rw [hz5]; exact hgn) t h
        · obtain rfl := List.mem_singleton.1 h
          have h4 := HR4.out.1
          rw [hz5] at h4
          refine ⟨g2, rfl, HR4.out.hp (by rw [hz5]; exact hz9) (hkeep g2 h4 (by omega)), by omega, by omega, HCC.out.1, HCC.out.2⟩)
      have HO9 := hide hO9
      have HB9 := hide (HC4.out.trans hb9)
      have HN9 := hide (show (n9 : Nat) = k + 1 by rw [hn9]; have := HN.out; simp; omega)
      have HT9 := hide (show (ts ++ [(⟨l[k], some ⟨g2, 0, none⟩, c2⟩ : LkT)]).map (·.r) = l.take (k + 1) by rw [HF.out, List.map_append, HTS.out]; rfl)
      clear hO9 hb9 hg9 hn9 hat e1 e2 e3 e4 e5 hgn hkeep HO4 HP4 HR4 HC4 hw3
      rw [HN9.out] at HO9 ⊢
      go_wp2
      go_roundw
      case rel => exact ⟨k + 1, g9, c9, _, by omega, by go_num, rfl, HO9, HT9, HP9, HB9.out⟩
      case measure => simp [intOf]; omega
    · have hkl : k = l.length := by omega
      subst hkl
      obtain ⟨e1, e2, e3, e4, e5⟩ := HOW.out.row
      have HEE := hide (And.intro e2 (And.intro e3 (And.intro e4 e5)))
      have HF := hide (show ts.map (·.r) = l by rw [HTS.out, List.take_length])
      clear e1 e2 e3 e4 e5
      go_wp2
      go_ret
      exact ⟨⟨g, c, ts, rfl, HF.out, HEE.out.1, HPV.out, HEE.out.2.2.2, HEE.out.2.1, HEE.out.2.2.1, HOW.out⟩, hbe⟩
theorem l13Copy_any (a : Option Addr) (l : List Lk) (cap B : Nat) (w : World) (h : Lks w B a l) (hB : B ≤ w.heap.size) (hl : l.length ≤ 1048577) (hs : ∀ r ∈ l, r.pa.length ≤ 1048576) :
    Calls Try.prog 49 #[.slice a l.length cap] w fun e w' => (∃ (g c : Nat) (ts : List LkT), e = .returned (.slice (some ⟨g, 0, none⟩) l.length c) ∧ ts.map (·.r) = l ∧ RowV w' g ts ∧ PathsV w' w.heap.size g ts ∧ w.heap.size ≤ g ∧ l.length ≤ c ∧ c ≤ maxLen) ∧ Below w.heap.size w w' := by
  refine (l13Copy_own a l cap B w h hB hl hs).mono ?_
  rintro e w' ⟨⟨g, c, ts, rfl, h1, h2, h3, h4, h5, h6, _⟩, hb⟩
  exact ⟨⟨g, c, ts, rfl, h1, h2, h3, h4, h5, h6⟩, hb⟩
end Go.Proofs.Ytclnpfpaabmkcab
namespace Go.Proofs.Ytclnpfpaabmkcab

theorem ret_bool {a b : Bool} (h : a = b) : Ending.returned (.bool a) = .returned (.bool b) := by rw [h]
end Go.Proofs.Ytclnpfpaabmkcab
namespace Go.Proofs.Ytclnpfpaabmkcab
open Go.RowKit
set_option linter.unusedVariables false

set_option maxHeartbeats 400000 in
theorem specSamePath_any (a b : Option Addr) (ss tt : List ByteArray) (cap cap' B C : Nat) (w : World) (h : Strs w B a ss) (h' : Strs w C b tt) (hl : ss.length ≤ maxLen) (hl' : tt.length ≤ maxLen) :
    Calls Try.prog 59 #[.slice a ss.length cap, .slice b tt.length cap'] w fun e w' => e = .returned (.bool (sameL ss tt)) ∧ ∀ D, Below D w w' := by
  unfold maxLen at hl hl'
  by_cases hlen : ss.length = tt.length
  · have HL : Hid (ss.length = tt.length) := hlen
    go_enter Try.func59, Try.ntmps59
    rw [← hlen]
    clear hlen
    go_wp2
    go_loopw [5] (fun i wr => ∃ k n : Nat, k ≤ ss.length ∧ i = .int .i64 k ∧ ss.take k = tt.take k ∧ wr = w.drewN n) (fun i _ => ss.length - (intOf i).toNat)
    case atStart => exact ⟨0, 0, Nat.zero_le _, rfl, rfl, rfl⟩
    case round =>
      obtain ⟨k, n, hk, rfl, ht, rfl⟩ := hrel
      have HT : Hid (ss.take k = tt.take k) := ht
      clear ht
      by_cases hlt : k < ss.length
      · have hlt' : k < tt.length := by have := HL.out; omega
        obtain ⟨b1, o1, rfl, hb1, hc1⟩ := h (by omega)
        obtain ⟨b2, o2, rfl, hb2, hc2⟩ := h' (by have := HL.out; omega)
        have hcx := hc1 k hlt
        have hcy := hc2 k hlt'
        go_wp2
        go_quiet (fail)
        go_wp2
        · rename_i hne
          have hne' : ¬ ss[k] = tt[k] := fun e => by rw [e] at hne; simp at hne
          go_ret
          exact ⟨ret_bool (sameL_not k hlt hlt' hne').symm, fun D => below_drewN (below_drewN (Below.refl _ _) _) _⟩
        · rename_i he
          have he' : ss[k] = tt[k] := str_inj (by simpa using he)
          go_roundw
          case rel => exact ⟨k + 1, n + nq, by omega, by go_num, take_same k hlt hlt' HT.out he', by simp⟩
          case measure => simp [intOf]; omega
      · go_wp2
        go_ret
        exact ⟨ret_bool (sameL_all HL.out k hlt HT.out).symm, fun D => below_drewN (Below.refl _ _) _⟩
  · have HS := sameL_len hlen
    go_enter Try.func59, Try.ntmps59
    go_wp2
    go_ret
    exact ⟨ret_bool HS.symm, fun D => Below.refl _ _⟩
end Go.Proofs.Ytclnpfpaabmkcab
namespace Go.Proofs.Ytclnpfpaabmkcab
open Go.RowKit
set_option linter.unusedVariables false

set_option maxHeartbeats 400000 in
theorem specUnder_any (a b : Option Addr) (ss tt : List ByteArray) (cap cap' B C : Nat) (w : World) (h : Strs w B a ss) (h' : Strs w C b tt) (hl : ss.length ≤ maxLen) (hl' : tt.length ≤ maxLen) (hc : ss.length ≤ cap) (hc' : cap ≤ maxLen) :
    Calls Try.prog 60 #[.slice a ss.length cap, .slice b tt.length cap'] w fun e w' => e = .returned (.bool (underB ss tt)) ∧ ∀ D, Below D w w' := by
  have hl1 := hl
  have hl2 := hl'
  have hc2 := hc'
  unfold maxLen at hl hl' hc'
  by_cases hlt : tt.length < ss.length
  · have ht : (ss.take tt.length).length = tt.length := by rw [List.length_take]; omega
    have cE := fun w1 cap1 (hh : Strs w1 B a ss) (hh' : Strs w1 C b tt) => specSamePath_any a b (ss.take tt.length) tt cap1 cap' B C w1 (hh.take _) hh' (by omega) hl2
    rw [ht] at cE
    obtain ⟨b1, o1, rfl, _, _⟩ := h (by omega)
    go_enter Try.func60, Try.ntmps60
    go_wp2_with fail
    refine (cE _ _ h h').mono ?_
    rintro e w1 ⟨rfl, hb⟩
    go_wp2
    go_ret
    exact ⟨ret_bool (by simp [underB, hlt]), hb⟩
  · go_enter Try.func60, Try.ntmps60
    go_wp2
    go_ret
    exact ⟨ret_bool (by simp [underB, hlt]), fun D => Below.refl _ _⟩

end Go.Proofs.Ytclnpfpaabmkcab
namespace Go.Proofs.Ytclnpfpaabmkcab
open Go.RowKit M
set_option linter.unusedVariables false

set_option maxHeartbeats 1000000 in
theorem specCovers_any (r : Lk) (pa : Option Addr) (pc : Nat) (a : Option Addr) (ss : List ByteArray) (cap B C : Nat) (w : World) (h : LkIn w B r pa pc) (hB : B ≤ w.heap.size) (h' : Strs w C a ss) (hC : C ≤ w.heap.size) (hl : ss.length ≤ cap) (hm : cap ≤ maxLen) :
    Calls Try.prog 18 #[.agg #[.int .i64 r.tk, .slice pa r.pa.length pc, .bool r.de, .bool r.sh, .int .i64 r.un], .slice a ss.length cap] w fun e w' => e = .returned (.bool (covB r ss)) ∧ Below w.heap.size w w' := by
  have l1 := h.len
  have p1 := h.ph
  have l2 : ss.length ≤ maxLen := Nat.le_trans hl hm
  have F1 : Hid (sameL r.pa ss = true → covB r ss = true) := fun e => by unfold covB; rw [e]; rfl
  have F2 : Hid (sameL r.pa ss = false → r.de = false → covB r ss = false) := fun e e' => by unfold covB; rw [e, e']; rfl
  have F3 : Hid (sameL r.pa ss = false → r.de = true → covB r ss = underB ss r.pa) := fun e e' => by unfold covB; rw [e, e']; rfl
  generalize covB r ss = dd at *
  clear h
  obtain ⟨tk, tt, de, sh, un⟩ := r
  simp only at *
  have hb0 : Below w.heap.size w (w.alloc (Obj.cells #[.int .i64 tk, .slice pa tt.length pc, .bool de, .bool sh, .int .i64 un] 26)) := (Below.refl _ _).alloc (Nat.le_refl _) _
  have hS := specSamePath_any pa a tt ss pc cap B C _ (p1.below hb0 hB) (h'.below hb0 hC) l1 l2
  have HU := hide (fun w1 (hb : ∀ D, Below D (w.alloc (Obj.cells #[.int .i64 tk, .slice pa tt.length pc, .bool de, .bool sh, .int .i64 un] 26)) w1) => specUnder_any a pa ss tt cap pc C B w1 ((h'.below hb0 hC).below (hb _) (Nat.le_refl _)) ((p1.below hb0 hB).below (hb _) (Nat.le_refl _)) l2 l1 hl hm)
  have HB0 := hide hb0
  clear hb0 p1 h'
  obtain ⟨z, hz⟩ : ∃ z, sameL tt ss = z := ⟨_, rfl⟩
  rw [hz] at hS
  have HS := hide hS
  clear hS
  cases z
  · cases de
    · rw [F2.out hz rfl]
      clear hz
      go_enter Try.func18, Try.ntmps18
      go_wp2_with fail
      refine HS.out.mono ?_
      rintro e w1 ⟨rfl, hb1⟩
      have hcl : ∀ b o, w1.cell? ⟨b, o, none⟩ = _ := fun b o => (hb1 (b + 1)).cell (p := ⟨b, o, none⟩) (Nat.lt_succ_self _)
      have HC1 := hide (HB0.out.trans (hb1 _))
      clear hb1
      go_wp2
      go_ret
      exact ⟨rfl, HC1.out⟩
    · rw [F3.out hz rfl]
      clear hz
      go_enter Try.func18, Try.ntmps18
      go_wp2_with fail
      refine HS.out.mono ?_
      rintro e w1 ⟨rfl, hb1⟩
      have hcl : ∀ b o, w1.cell? ⟨b, o, none⟩ = _ := fun b o => (hb1 (b + 1)).cell (p := ⟨b, o, none⟩) (Nat.lt_succ_self _)
      have HC1 := hide (HB0.out.trans (hb1 _))
      have HU1 := hide (HU.out w1 hb1)
      clear hb1
      go_wp2_with fail
      refine HU1.out.mono ?_
      rintro e w2 ⟨rfl, hb2⟩
      have c2 := HC1.out.trans (hb2 _)
      go_wp2
      go_ret
      exact ⟨rfl, c2⟩
  · rw [F1.out hz]
    clear hz
    go_enter Try.func18, Try.ntmps18
    go_wp2_with fail
    refine HS.out.mono ?_
    rintro e w1 ⟨rfl, hb1⟩
    have HC1 := hide (HB0.out.trans (hb1 _))
    clear hb1
    go_wp2
    go_ret
    exact ⟨rfl, HC1.out⟩
end Go.Proofs.Ytclnpfpaabmkcab
namespace Go.Proofs.Ytclnpfpaabmkcab
open Go.RowKit M
set_option linter.unusedVariables false

set_option maxHeartbeats 2000000 in
theorem specLockClash_any (r : Lk) (pa : Option Addr) (pc : Nat) (s : Lk) (qa : Option Addr) (qc B C : Nat) (w : World) (h : LkIn w B r pa pc) (hB : B ≤ w.heap.size) (h' : LkIn w C s qa qc) (hC : C ≤ w.heap.size) :
    Calls Try.prog 20 #[.agg #[.int .i64 r.tk, .slice pa r.pa.length pc, .bool r.de, .bool r.sh, .int .i64 r.un], .agg #[.int .i64 s.tk, .slice qa s.pa.length qc, .bool s.de, .bool s.sh, .int .i64 s.un]] w fun e w' => e = .returned (.bool (clashB r s)) ∧ Below w.heap.size w w' := by
  have F0 : Hid (r.sh = true → s.sh = true → clashB r s = false) := fun e e' => by unfold clashB; rw [e, e']; rfl
  have F1 : Hid ((!r.sh || !s.sh) = true → covB r s.pa = true → clashB r s = true) := fun e e' => by unfold clashB; rw [e, e']; rfl
  have F2 : Hid ((!r.sh || !s.sh) = true → covB r s.pa = false → clashB r s = covB s r.pa) := fun e e' => by unfold clashB; rw [e, e']; rfl
  have hb0 : Below w.heap.size w ((w.alloc (Obj.cells #[.int .i64 r.tk, .slice pa r.pa.length pc, .bool r.de, .bool r.sh, .int .i64 r.un] 26)).alloc (Obj.cells #[.int .i64 s.tk, .slice qa s.pa.length qc, .bool s.de, .bool s.sh, .int .i64 s.un] 26)) := ((Below.refl _ _).alloc (Nat.le_refl _) _).alloc (by simp) _
  have hS := specCovers_any r pa pc qa s.pa qc B C _ (h.below hb0 hB) (Nat.le_trans hB hb0.size) (h'.ph.below hb0 hC) (Nat.le_trans hC hb0.size) h'.pl h'.pm
  have HU := hide (fun w1 (hb : Below w.heap.size w w1) => specCovers_any s qa qc pa r.pa pc C B w1 (h'.below hb hC) (Nat.le_trans hC hb.size) (h.ph.below hb hB) (Nat.le_trans hB hb.size) h.pl h.pm)
  have HB0 := hide hb0
  obtain ⟨z1, hz1⟩ : ∃ z, covB r s.pa = z := ⟨_, rfl⟩
  obtain ⟨z2, hz2⟩ : ∃ z, covB s r.pa = z := ⟨_, rfl⟩
  rw [hz1] at hS F1 F2
  rw [hz2] at HU F2
  generalize clashB r s = dd at *
  clear hb0 h h' hz1 hz2
  obtain ⟨tk, ss, de, sh, un⟩ := r
  obtain ⟨tk', ss', de', sh', un'⟩ := s
  simp only at *
  have HS := hide hS
  clear hS
  by_cases hsh : (!sh || !sh') = true
  · have hdd : dd = if z1 = true then true else z2 := by
      cases z1
      · rw [F2.out hsh rfl]; rfl
      · rw [F1.out hsh rfl]; rfl
    clear F0 F1 F2
    have hsh2 : sh = false ∨ (sh = true ∧ sh' = false) := by cases sh <;> cases sh' <;> simp_all
    clear hsh
    rcases hsh2 with rfl | ⟨rfl, rfl⟩
    all_goals
      cases z1
      · obtain rfl : dd = z2 := by simpa using hdd
        clear hdd
        go_enter Try.func20, Try.ntmps20
        go_wp2_with fail
        refine HS.out.mono ?_
        rintro e w1 ⟨rfl, hb1⟩
        obtain ⟨hcl, _⟩ := bcellL hb1
        have HC1 := hide (HB0.out.trans (hb1.mono HB0.out.size))
        have HU1 := hide (HU.out w1 HC1.out)
        clear hb1
        go_wp2_with fail
        refine HU1.out.mono ?_
        rintro e w2 ⟨rfl, hb2⟩
        have c2 := HC1.out.trans (hb2.mono HC1.out.size)
        go_wp2
        go_ret
        exact ⟨rfl, c2⟩
      · obtain rfl : dd = true := by simpa using hdd
        clear hdd
        go_enter Try.func20, Try.ntmps20
        go_wp2_with fail
        refine HS.out.mono ?_
        rintro e w1 ⟨rfl, hb1⟩
        have HC1 := hide (HB0.out.trans (hb1.mono HB0.out.size))
        clear hb1
        go_wp2
        go_ret
        exact ⟨rfl, HC1.out⟩
  · have hsh2 : sh = true ∧ sh' = true := by cases sh <;> cases sh' <;> simp_all
    obtain ⟨rfl, rfl⟩ := hsh2
    rw [F0.out rfl rfl]
    clear hsh
    go_enter Try.func20, Try.ntmps20
    go_wp2
    go_ret
    exact ⟨rfl, HB0.out⟩
end Go.Proofs.Ytclnpfpaabmkcab
namespace Go.Proofs.Ytclnpfpaabmkcab
open Go.RowKit M

set_option maxHeartbeats 400000 in
theorem l1In_any (x a b : Int) (w : World) :
    Calls Try.prog 55 #[.int .i64 x, .int .i64 a, .int .i64 b] w fun e w' => e = .returned (.bool (inB x a b)) ∧ w' = w := by
  go_enter Try.func55, Try.ntmps55
  go_wp2
  all_goals
    go_ret
    refine ⟨ret_bool ?_, rfl⟩
    go_light
    unfold inB
    simp_all
    try omega

theorem wrap64_u8 (c : UInt8) : wrap64 (c.toNat : Int) = c.toNat := by
  have := c.toNat_lt
  unfold wrap64
  omega
end Go.Proofs.Ytclnpfpaabmkcab
namespace Go.Proofs.Ytclnpfpaabmkcab
open Go.RowKit M

set_option maxHeartbeats 400000 in
theorem specPlain_any (s : ByteArray) (w : World) (hs : s.size ≤ maxLen) :
    Calls Try.prog 100 #[.string s] w fun e w' => e = .returned (.bool (allB s.data.toList [0])) ∧ w' = w := by
  unfold maxLen at hs
  go_enter Try.func100, Try.ntmps100
  go_wp2
  go_loop [3] (fun i => ∃ k : Nat, k ≤ s.size ∧ i = .int .i64 k ∧ allB (s.data.toList.take k) [0] = true) (fun i => s.size - (intOf i).toNat)
  case atStart => exact ⟨0, Nat.zero_le _, rfl, rfl⟩
  case round =>
    obtain ⟨k, hk, rfl, hn⟩ := hrel
    have HN : Hid (allB (s.data.toList.take k) [0] = true) := hn; clear hn
    by_cases hlt : k < s.size
    · go_wp2_with (go_at_call 55; refine (l1In_any _ _ _ _).mono ?_; rintro e w' ⟨rfl, rfl⟩; rw [wrap64_u8, inB_plain])
      · go_ret
        exact ⟨ret_bool (by rw [allB_not s [0] k hlt (by assumption)]), rfl⟩
      · go_round
        case rel => exact ⟨k + 1, by omega, by go_num, allB_snoc s [0] k hlt HN.out (by assumption)⟩
        case measure => simp [intOf]; omega
    · go_wp2
      go_ret
      exact ⟨ret_bool (by rw [← HN.out, take_all s k hlt]), rfl⟩

end Go.Proofs.Ytclnpfpaabmkcab
