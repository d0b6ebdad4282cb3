/-
  What the program's readLines does.
-/
import Derived.Test.YtanebchmeaomgaaGreatDoorLower
import Derived.Test.YtanebchmeaomgaaGreatDoorMathCutB
import Derived.Test.YtanebchmeaomgaaGreatDoorStepByts
import Derived.Test.YtanebchmeaomgaaGreatDoorSpecSm
import Derived.Scope
import Derived.WalkMore
import Derived.Laws.Rows
import Derived.Laws.ResultCell
namespace Go.Proofs.YtanebchmeaomgaaGreatDoor
open Go.RowKit M
set_option linter.unusedVariables false

/-- By a goto: what holds at its label; else as ever. -/
def jumpsTo (J : Nat → Act → World → Prop) (Q : Exit → Act → World → Prop) : Exit → Act → World → Prop
  | .goto l, a, w => J l a w
  | e, a, w => Q e a w
theorem jumps_ret {J : Nat → Act → World → Prop} {Q : Exit → Act → World → Prop} {a : Act} {w : World} (h : Q .ret a w) : jumpsTo J Q .ret a w := h
/-- A scope with many labels: what holds at each of them, and a measure that every pass lowers. -/
theorem wp_scope_many {P : Program} {a : Act} {w : World} {Q : Exit → Act → World → Prop} {c : Code} (J : Nat → Act → World → Prop) (μ : Nat → Act → World → Nat)
    (first : c.wp P (jumpsTo J Q) a w)
    (pass : ∀ l a w, J l a w → ∃ rest, findLabel c l = some rest ∧ rest.wp P (jumpsTo (fun l' a' w' => J l' a' w' ∧ μ l' a' w' < μ l a w) Q) a w) : (Code.scope c).wp P Q a w := by
  intro b k cs
  have key : ∀ n l a w, μ l a w = n → J l a w → ∃ rest, findLabel c l = some rest ∧ ∃ e a' w', Q e a' w' ∧ Arrives P (lone (b.at a (.code rest :: .inScope c :: k)) cs w) b k cs e a' w' := by
    intro n
    induction n using Nat.strongRecOn with
    | _ n ih =>
      intro l a w hn hJ
      obtain ⟨rest, hf, hp⟩ := pass l a w hJ
      refine ⟨rest, hf, ?_⟩
      obtain ⟨e, a₁, w₁, hq, harr⟩ := hp b (.inScope c :: k) cs
      cases e with
      | normal => exact ⟨.normal, a₁, w₁, hq, Steps.trans harr (.one step_inScope)⟩
      | exit id => exact ⟨.exit id, a₁, w₁, hq, fun k' hk => harr k' (by simp [exitTo, hk])⟩
      | goto l' =>
        obtain ⟨hJ', hlt⟩ := hq
        obtain ⟨rest', hf', e₂, a₂, w₂, hq₂, harr₂⟩ := ih _ (by omega) l' a₁ w₁ rfl hJ'
        exact ⟨e₂, a₂, w₂, hq₂, .of_steps (harr _ (by simp [gotoIn, hf'])) harr₂⟩
      | ret => exact ⟨_, a₁, w₁, hq, harr⟩
      | panic ch => exact ⟨_, a₁, w₁, hq, harr⟩
      | outgrown => exact ⟨_, a₁, w₁, hq, harr⟩
  obtain ⟨e, a₁, w₁, hq, harr⟩ := first b (.inScope c :: k) cs
  cases e with
  | normal => exact ⟨.normal, a₁, w₁, hq, .head step_scope (Steps.trans harr (.one step_inScope))⟩
  | exit id => exact ⟨.exit id, a₁, w₁, hq, fun k' hk => .head step_scope (harr k' (by simp [exitTo, hk]))⟩
  | goto l' =>
    obtain ⟨rest', hf', e₂, a₂, w₂, hq₂, harr₂⟩ := key _ l' a₁ w₁ rfl hq
    exact ⟨e₂, a₂, w₂, hq₂, .of_steps (.head step_scope (harr _ (by simp [gotoIn, hf']))) harr₂⟩
  | ret => exact ⟨_, a₁, w₁, hq, .of_steps (.one step_scope) harr⟩
  | panic ch => exact ⟨_, a₁, w₁, hq, .of_steps (.one step_scope) harr⟩
  | outgrown => exact ⟨_, a₁, w₁, hq, .of_steps (.one step_scope) harr⟩

/-- The frame, at a label. -/
def FrL (rv : Value) (N : Nat) (a : Act) : Prop := ∃ u1 u6 u7 u8 u9 u10 u11 u12 u13 u14 u15 u16 u17 u18 u19 u20 u21 u22 u23 u24 u25 u26 u27 u28 u29 u30 u31 u32 u33 u34 u35 u36 u37 u38 u39 u40 u41 u42 u43 u44 u45 u46 u47 u48 u49 u50 u51 u52 u53 u54 u55 u56 u57 u58 u59 u60 u61 u62 u63 u64 u65 u66 u67 u68 u69 u70 u71 u72 u73 u74 u75 u76 u77 u78 u79 : Value, a = { tmps := #[rv, u1, .pointer (some ⟨N, 0, none⟩), .bool false, .pointer (some ⟨N + 1, 0, none⟩), .pointer (some ⟨N + 1 + 1, 0, none⟩), u6, u7, u8, u9, u10, u11, u12, u13, u14, u15, u16, u17, u18, u19, u20, u21, u22, u23, u24, u25, u26, u27, u28, u29, u30, u31, u32, u33, u34, u35, u36, u37, u38, u39, u40, u41, u42, u43, u44, u45, u46, u47, u48, u49, u50, u51, u52, u53, u54, u55, u56, u57, u58, u59, u60, u61, u62, u63, u64, u65, u66, u67, u68, u69, u70, u71, u72, u73, u74, u75, u76, u77, u78, u79], defers := [] }
/-- What lies in the three boxes, and the row of the heads. -/
def MemL (w : World) (m p : ByteArray) (hs : List Hd) (x y : ByteArray) (W : World) : Prop :=
  W.heap[w.heap.size]? = some (Obj.cells #[.string ⟨#[]⟩, .string ⟨#[]⟩, .slice none 0 0, .string ⟨#[]⟩] 39) ∧
  (∃ hv, W.heap[w.heap.size + 1]? = some (Obj.cells #[.string m, .string p, hv, .string ⟨#[]⟩] 39) ∧ W.ownsRow (w.heap.size + 1 + 1 + 1) 82 2 hv hs.length (hdCells hs)) ∧
  W.heap[w.heap.size + 1 + 1]? = some (Obj.cells #[.string x, .string y] 82) ∧ Below w.heap.size w W ∧ w.heap.size + 3 ≤ W.heap.size
def rd3 (m p : ByteArray) (t : List UInt8) : Option (ByteArray × ByteArray × List Hd) :=
  match cut2 t with
  | none => none
  | some (v, t3) => if v = proto then (headsI (t3.length + 1) t3).map fun hs => (m, p, hs) else none
def rd1 (m : ByteArray) (t : List UInt8) : Option (ByteArray × ByteArray × List Hd) :=
  match cut1 32 t with
  | none => none
  | some (p, t2) => if targB (bytesOf p) then rd3 m (bytesOf p) t2 else none
theorem readI_rd (t : List UInt8) : readI t = match cut1 32 t with | none => none | some (m, t1) => if methB (bytesOf m) then rd1 (bytesOf m) t1 else none := rfl
def rd6 (f : Nat) (n t1 : List UInt8) : Option (List Hd) :=
  match cut2 t1 with
  | none => none
  | some (v, t2) => if hdB (mkH n v) then (headsI f t2).map (mkH n v :: ·) else none
/-- What holds at a label. -/
def JL (w : World) (B : Nat) (t0 : List UInt8) (l : Nat) (a : Act) (W : World) : Prop :=
  ∃ rv, FrL rv w.heap.size a ∧
    ((l = 0 ∧ MemL w ⟨#[]⟩ ⟨#[]⟩ [] ⟨#[]⟩ ⟨#[]⟩ W ∧ Rst W B rv t0) ∨
     (l = 1 ∧ ∃ m t, MemL w m ⟨#[]⟩ [] ⟨#[]⟩ ⟨#[]⟩ W ∧ Rst W B rv t ∧ t.length ≤ t0.length ∧ readI t0 = rd1 m t) ∨
     (l = 3 ∧ ∃ m p t, MemL w m p [] ⟨#[]⟩ ⟨#[]⟩ W ∧ Rst W B rv t ∧ t.length ≤ t0.length ∧ readI t0 = rd3 m p t) ∨
     (l = 4 ∧ ∃ m p hs x y f t, MemL w m p hs x y W ∧ Rst W B rv t ∧ t.length ≤ t0.length ∧ hs.length + t.length ≤ t0.length ∧ t.length < f ∧ readI t0 = (headsI f t).map fun r => (m, p, hs ++ r)) ∨
     (l = 5 ∧ ∃ m p hs x y f t, MemL w m p hs x y W ∧ Rst W B rv t ∧ t.length ≤ t0.length ∧ hs.length + t.length ≤ t0.length ∧ t ≠ [] ∧ t.length < f ∧ readI t0 = (headsI f t).map fun r => (m, p, hs ++ r)) ∨
     (l = 6 ∧ ∃ m p hs n y f t, MemL w m p hs (bytesOf (lowL n)) y W ∧ Rst W B rv t ∧ t.length ≤ t0.length ∧ n.length ≤ t0.length ∧ hs.length + t.length + 1 ≤ t0.length ∧ t.length < f ∧ readI t0 = (rd6 f n t).map fun r => (m, p, hs ++ r)) ∨
     (l = 2 ∧ (∃ m p hs x y, MemL w m p hs x y W) ∧ readI t0 = none))
def restLen (a : Act) : Nat := match a.tmps.getD 0 undef with | .slice _ n _ => n | _ => 0
def rank : Nat → Nat | 0 => 7 | 1 => 6 | 3 => 5 | 4 => 4 | 5 => 3 | 6 => 2 | _ => 0
def muL (l : Nat) (a : Act) (_ : World) : Nat := if l = 2 then 0 else 10 * restLen a + rank l

/-- What was read, as it is handed back. -/
def ReadIs (w : World) (B : Nat) (r : Option (ByteArray × ByteArray × List Hd)) (e : Ending) : Prop :=
  match r with
  | none => e = .returned (.tuple #[.agg #[.string ⟨#[]⟩, .string ⟨#[]⟩, .slice none 0 0, .string ⟨#[]⟩], .bool false])
  | some (m, p, hs) => ∃ hv, e = .returned (.tuple #[.agg #[.string m, .string p, hv, .string ⟨#[]⟩], .bool true]) ∧ w.ownsRow B 82 2 hv hs.length (hdCells hs)

section
variable {w W : World} {m p x y : ByteArray} {hs : List Hd}
theorem MemL.next {W' : World} (h : MemL w m p hs x y W) (hb : Below W.heap.size W W') : MemL w m p hs x y W' := by
  obtain ⟨h1, ⟨hv, h2, h3⟩, h4, h5, h6⟩ := h
  exact ⟨(hb.block _ (by omega)).trans h1, ⟨hv, (hb.block _ (by omega)).trans h2, ownsH_below h3 hb⟩, (hb.block _ (by omega)).trans h4, h5.trans (hb.mono h5.size), Nat.le_trans h6 hb.size⟩
theorem MemL.set_m (h : MemL w m p hs x y W) (m' : ByteArray) : MemL w m' p hs x y (W.setCell ⟨w.heap.size + 1, 0, none⟩ (.string m')) := by
  obtain ⟨h1, ⟨hv, h2, h3⟩, h4, h5, h6⟩ := h
  exact ⟨set_other h1 (by omega) _, ⟨hv, set_heap h2 0 _, ownsRow_setCell_below h3 (by show w.heap.size + 1 < _; omega) _⟩, set_other h4 (by omega) _, h5.setCell (p := ⟨w.heap.size + 1, 0, none⟩) (by show w.heap.size ≤ w.heap.size + 1; omega) _, by simpa using h6⟩
theorem MemL.set_p (h : MemL w m p hs x y W) (p' : ByteArray) : MemL w m p' hs x y (W.setCell ⟨w.heap.size + 1, 1, none⟩ (.string p')) := by
  obtain ⟨h1, ⟨hv, h2, h3⟩, h4, h5, h6⟩ := h
  exact ⟨set_other h1 (by omega) _, ⟨hv, set_heap h2 1 _, ownsRow_setCell_below h3 (by show w.heap.size + 1 < _; omega) _⟩, set_other h4 (by omega) _, h5.setCell (p := ⟨w.heap.size + 1, 1, none⟩) (by show w.heap.size ≤ w.heap.size + 1; omega) _, by simpa using h6⟩
theorem MemL.set_x (h : MemL w m p hs x y W) (x' : ByteArray) : MemL w m p hs x' y (W.setCell ⟨w.heap.size + 1 + 1, 0, none⟩ (.string x')) := by
  obtain ⟨h1, ⟨hv, h2, h3⟩, h4, h5, h6⟩ := h
  exact ⟨set_other h1 (by omega) _, ⟨hv, set_other h2 (by omega) _, ownsRow_setCell_below h3 (by show w.heap.size + 1 + 1 < _; omega) _⟩, set_heap h4 0 _, h5.setCell (p := ⟨w.heap.size + 1 + 1, 0, none⟩) (by show w.heap.size ≤ w.heap.size + 1 + 1; omega) _, by simpa using h6⟩
theorem MemL.set_y (h : MemL w m p hs x y W) (y' : ByteArray) : MemL w m p hs x y' (W.setCell ⟨w.heap.size + 1 + 1, 1, none⟩ (.string y')) := by
  obtain ⟨h1, ⟨hv, h2, h3⟩, h4, h5, h6⟩ := h
  exact ⟨set_other h1 (by omega) _, ⟨hv, set_other h2 (by omega) _, ownsRow_setCell_below h3 (by show w.heap.size + 1 + 1 < _; omega) _⟩, set_heap h4 1 _, h5.setCell (p := ⟨w.heap.size + 1 + 1, 1, none⟩) (by show w.heap.size ≤ w.heap.size + 1 + 1; omega) _, by simpa using h6⟩
theorem MemL.below {W' : World} (h : MemL w m p hs x y W) (hb : Below (w.heap.size + 1 + 1 + 1) W W') {hs' : List Hd} {hv' : Value} (ho : W'.ownsRow (w.heap.size + 1 + 1 + 1) 82 2 hv' hs'.length (hdCells hs')) : MemL w m p hs' x y (W'.setCell ⟨w.heap.size + 1, 2, none⟩ hv') := by
  obtain ⟨h1, ⟨hv, h2, h3⟩, h4, h5, h6⟩ := h
  have q1 := (hb.block _ (by omega)).trans h1
  have q2 := (hb.block _ (by omega)).trans h2
  have q4 := (hb.block _ (by omega)).trans h4
  exact ⟨set_other q1 (by omega) _, ⟨hv', set_heap q2 2 _, ownsRow_setCell_below ho (by show w.heap.size + 1 < _; omega) _⟩, set_other q4 (by omega) _, (h5.trans (hb.mono (by omega))).setCell (p := ⟨w.heap.size + 1, 2, none⟩) (by show w.heap.size ≤ w.heap.size + 1; omega) _, by have := hb.size; simp; omega⟩
/-- The cells of the boxes, as a walk reads them. -/
theorem MemL.cells (h : MemL w m p hs x y W) : (∃ hv, W.cell? ⟨w.heap.size + 1, 0, none⟩ = some (.string m) ∧ W.cell? ⟨w.heap.size + 1, 1, none⟩ = some (.string p) ∧ W.cell? ⟨w.heap.size + 1, 2, none⟩ = some hv ∧ W.cell? ⟨w.heap.size + 1, 3, none⟩ = some (.string ⟨#[]⟩) ∧ W.ownsRow (w.heap.size + 1 + 1 + 1) 82 2 hv hs.length (hdCells hs)) ∧
    W.cell? ⟨w.heap.size + 1 + 1, 0, none⟩ = some (.string x) ∧ W.cell? ⟨w.heap.size + 1 + 1, 1, none⟩ = some (.string y) ∧ (∀ k, W.frozen? ⟨w.heap.size + 1, k, none⟩ = false) ∧ (∀ k, W.frozen? ⟨w.heap.size + 1 + 1, k, none⟩ = false) := by
  obtain ⟨h1, ⟨hv, h2, h3⟩, h4, h5, h6⟩ := h
  refine ⟨⟨hv, ?_, ?_, ?_, ?_, h3⟩, ?_, ?_, fun k => ?_, fun k => ?_⟩
  · unfold World.cell?; rw [h2]; rfl
  · unfold World.cell?; rw [h2]; rfl
  · unfold World.cell?; rw [h2]; rfl
  · unfold World.cell?; rw [h2]; rfl
  · unfold World.cell?; rw [h4]; rfl
  · unfold World.cell?; rw [h4]; rfl
  · unfold World.frozen?; rw [h2]; simp
  · unfold World.frozen?; rw [h4]; simp
end
theorem rd3_none {m p : ByteArray} {t : List UInt8} (h : cut2 t = none) : rd3 m p t = none := by unfold rd3; rw [h]
theorem rd3_no {m p : ByteArray} {t v b : List UInt8} (h : cut2 t = some (v, b)) (hv : v ≠ proto) : rd3 m p t = none := by unfold rd3; rw [h]; simp [hv]
theorem rd3_on {m p : ByteArray} {t v b : List UInt8} (h : cut2 t = some (v, b)) (hv : v = proto) : rd3 m p t = (headsI (b.length + 1) b).map fun r => (m, p, [] ++ r) := by unfold rd3; rw [h]; simp [hv]
theorem heads_none {f : Nat} {t : List UInt8} (hf : t.length < f) (hne : t ≠ []) (h : cut1 58 t = none) : headsI f t = none := by
  obtain ⟨g, rfl⟩ : ∃ g, f = g + 1 := ⟨f - 1, by omega⟩
  rw [headsI, if_neg hne, h]
theorem heads_on {f : Nat} {t n b : List UInt8} (hf : t.length < f) (hne : t ≠ []) (h : cut1 58 t = some (n, b)) : headsI f t = rd6 (f - 1) n b := by
  obtain ⟨g, rfl⟩ : ∃ g, f = g + 1 := ⟨f - 1, by omega⟩
  rw [headsI, if_neg hne, h]
  rfl
theorem heads_end {f : Nat} (hf : 0 < f) : headsI f [] = some [] := by
  obtain ⟨g, rfl⟩ : ∃ g, f = g + 1 := ⟨f - 1, by omega⟩
  rw [headsI, if_pos rfl]
theorem rd6_none {f : Nat} {n t : List UInt8} (h : cut2 t = none) : rd6 f n t = none := by unfold rd6; rw [h]
theorem rd6_no {f : Nat} {n t v b : List UInt8} (h : cut2 t = some (v, b)) (hb : hdB (mkH n v) = false) : rd6 f n t = none := by unfold rd6; rw [h]; simp [hb]
theorem rd6_on {f : Nat} {n t v b : List UInt8} (h : cut2 t = some (v, b)) (hb : hdB (mkH n v) = true) : rd6 f n t = (headsI f b).map (mkH n v :: ·) := by unfold rd6; rw [h]; simp [hb]
theorem proto_beq (v : List UInt8) : ((bytesOf v).toList == [72, 84, 84, 80, 47, 49, 46, 49]) = decide (v = proto) := by
  rw [ByteArray.toList_eq]
  show (v.toArray.toList == proto) = _
  by_cases h : v = proto <;> simp [h]
theorem req_desc : (Tryz.prog.info? 39).map (·.size) = some 4 := by kernel_rfl
theorem results_read (tmps : Array Value) (N : Nat) (W : World) (v0 v1 v2 v3 : Value) (b : Bool) (h2 : tmps.getD 2 undef = .pointer (some ⟨N, 0, none⟩)) (h3 : tmps.getD 3 undef = .bool b) (hg : W.heap[N]? = some (Obj.cells #[v0, v1, v2, v3] 39)) :
    (results Tryz.f183 tmps).run Tryz.prog W = .ok (.tuple #[.agg #[v0, v1, v2, v3], .bool b]) W := by
  rw [results_cell_tmp rfl]
  have hl := run_loadVar_row (P := Tryz.prog) W N 39 39 #[v0, v1, v2, v3] (0, 0) _ hg Tryz.underlying39 rfl req_desc
  simp at h2 h3
  simp [h2, h3, asAddr, hl]
theorem set4_heap {w : World} {N : Nat} {a0 a1 a2 a3 : Value} {t : TypeId} (h : w.heap[N]? = some (.cells #[a0, a1, a2, a3] t)) (v0 v1 v2 v3 : Value) :
    ((((w.setCell ⟨N, 0, none⟩ v0).setCell ⟨N, 1, none⟩ v1).setCell ⟨N, 2, none⟩ v2).setCell ⟨N, 3, none⟩ v3).heap[N]? = some (.cells #[v0, v1, v2, v3] t) :=
  set_heap (set_heap (set_heap (set_heap h 0 v0) 1 v1) 2 v2) 3 v3
theorem set4_below {w W : World} {C N : Nat} (h : Below C W w) (hN : C ≤ N) (v0 v1 v2 v3 : Value) : Below C W ((((w.setCell ⟨N, 0, none⟩ v0).setCell ⟨N, 1, none⟩ v1).setCell ⟨N, 2, none⟩ v2).setCell ⟨N, 3, none⟩ v3) :=
  (((h.setCell (p := ⟨N, 0, none⟩) hN _).setCell (p := ⟨N, 1, none⟩) hN _).setCell (p := ⟨N, 2, none⟩) hN _).setCell (p := ⟨N, 3, none⟩) hN _
theorem readI_none {t : List UInt8} (h : cut1 32 t = none) : readI t = none := by rw [readI_rd, h]
theorem readI_meth {t m b : List UInt8} (h : cut1 32 t = some (m, b)) (hm : methB (bytesOf m) = false) : readI t = none := by rw [readI_rd, h]; simp [hm]
theorem readI_on {t m b : List UInt8} (h : cut1 32 t = some (m, b)) (hm : methB (bytesOf m) = true) : readI t = rd1 (bytesOf m) b := by rw [readI_rd, h]; simp [hm]
theorem rd1_none {m : ByteArray} {t : List UInt8} (h : cut1 32 t = none) : rd1 m t = none := by unfold rd1; rw [h]
theorem rd1_targ {m : ByteArray} {t p b : List UInt8} (h : cut1 32 t = some (p, b)) (hp : targB (bytesOf p) = false) : rd1 m t = none := by unfold rd1; rw [h]; simp [hp]
theorem rd1_on {m : ByteArray} {t p b : List UInt8} (h : cut1 32 t = some (p, b)) (hp : targB (bytesOf p) = true) : rd1 m t = rd3 m (bytesOf p) b := by unfold rd1; rw [h]; simp [hp]

set_option maxRecDepth 1000000 in
set_option maxHeartbeats 4000000 in
theorem readLines_any (v : Value) (t0 : List UInt8) (B : Nat) (mx : Int) (w : World) (h : Rst w B v t0) (hB : B ≤ w.heap.size) (ht : t0.length ≤ 1048576) (h0 : 0 < w.heap.size) (hmx : w.cell? ⟨0, 0, none⟩ = some (.int .i64 mx)) :
    Calls Tryz.prog 183 #[v] w fun e w' => ReadIs w' (w.heap.size + 1 + 1 + 1) (readI t0) e ∧ Below w.heap.size w w' := by
  have HR0 := hide h
  have HMx := hide hmx
  have HW := hide (fun (W : World) (hc : Below w.heap.size w W) (rv : Value) (t : List UInt8) (sep : ByteArray) (hR : Rst W B rv t) (ht : t.length ≤ 1048576) (hs : sep.size ≤ 16) (hs0 : 0 < sep.size) => wordAhead_any rv t sep B mx W hR (Nat.le_trans hB hc.size) (by omega) hs hs0 (Nat.lt_of_lt_of_le h0 hc.size) ((hc.cell (p := ⟨0, 0, none⟩) h0).trans HMx.out))
  obtain ⟨a0, c0, rfl, _⟩ := h
  clear hmx
  go_enter Tryz.func183, Tryz.ntmps183
  go_wp2
  refine wp_scope_many (JL w B t0) muL ?first ?pass
  case first =>
    go_wp2
    go_step3
    obtain ⟨b4, p1, p2⟩ : Below w.heap.size w (((w.alloc (Obj.cells #[Value.string ⟨#[]⟩, Value.string ⟨#[]⟩, Value.slice none 0 0, Value.string ⟨#[]⟩] 39)).alloc (Obj.cells #[Value.string ⟨#[]⟩, Value.string ⟨#[]⟩, Value.slice none 0 0, Value.string ⟨#[]⟩] 39)).alloc (Obj.cells #[Value.string ⟨#[]⟩, Value.string ⟨#[]⟩] 82)) ∧ True ∧ True := ⟨((((Below.refl _ w).alloc (Nat.le_refl _) _).alloc (by simp) _).alloc (by simp; omega) _), trivial, trivial⟩
    refine (⟨_, ⟨_, _, _, _, _, _, _, _, _, _, _, _, _, _, _, _, _, _, _, _, _, _, _, _, _, _, _, _, _, _, _, _, _, _, _, _, _, _, _, _, _, _, _, _, _, _, _, _, _, _, _, _, _, _, _, _, _, _, _, _, _, _, _, _, _, _, _, _, _, _, _, _, _, _, _, rfl⟩, .inl ⟨rfl, ⟨?_, ⟨_, ?_, World.ownsRow_nil _ _ _ _⟩, ?_, b4, by simp⟩, HR0.out.below b4 hB⟩⟩ : JL w B t0 0 _ _)
    all_goals
      show (((w.heap.push _).push _).push _)[_]? = _
      simp [Array.getElem_push, Nat.add_assoc]
  case pass =>
    rintro l a W ⟨rv, ⟨u1, u6, u7, u8, u9, u10, u11, u12, u13, u14, u15, u16, u17, u18, u19, u20, u21, u22, u23, u24, u25, u26, u27, u28, u29, u30, u31, u32, u33, u34, u35, u36, u37, u38, u39, u40, u41, u42, u43, u44, u45, u46, u47, u48, u49, u50, u51, u52, u53, u54, u55, u56, u57, u58, u59, u60, u61, u62, u63, u64, u65, u66, u67, u68, u69, u70, u71, u72, u73, u74, u75, u76, u77, u78, u79, rfl⟩, hJ⟩
    rcases hJ with ⟨rfl, hM, hR⟩ | ⟨rfl, m, t, hM, hR, hlt, hI⟩ | ⟨rfl, m, p, t, hM, hR, hlt, hI⟩ | ⟨rfl, m, p, hs, x, y, f, t, hM, hR, hlt, hhs, hf, hI⟩ | ⟨rfl, m, p, hs, x, y, f, t, hM, hR, hlt, hhs, hne, hf, hI⟩ | ⟨rfl, m, p, hs, n, y, f, t, hM, hR, hlt, hn, hhs, hf, hI⟩ | ⟨rfl, ⟨m, p, hs, x, y, hM⟩, hI⟩
    · refine ⟨_, rfl, ?_⟩
      have HM := hide hM
      have HC := hide (HW.out W hM.2.2.2.1 rv t0 ⟨#[32]⟩ hR (by omega) (by decide) (by decide))
      obtain ⟨ra, rc, rfl, _⟩ := hR
      clear hM
      go_wp2_with fail
      refine HC.out.mono ?_
      rintro e W1 ⟨⟨word, v', ok, rfl, hw, hwz⟩, b1⟩
      have hM1 := HM.out.next b1
      rw [show cutS (⟨#[32]⟩ : ByteArray).data.toList t0 = cut1 32 t0 from cutS_one 32 t0] at hw
      obtain ⟨⟨hv, k0, k1, k2, k3, hrow⟩, k4, k5, f1, f2⟩ := hM1.cells
      have g0 := f1 0
      have HM2 := hide (hM1.set_m word)
      clear HC HM
      cases hcut : cut1 32 t0 with
      | none =>
        rw [hcut] at hw
        obtain ⟨rfl, rfl⟩ := hw
        go_wp2
        go_step3
        refine (⟨⟨_, ⟨_, _, _, _, _, _, _, _, _, _, _, _, _, _, _, _, _, _, _, _, _, _, _, _, _, _, _, _, _, _, _, _, _, _, _, _, _, _, _, _, _, _, _, _, _, _, _, _, _, _, _, _, _, _, _, _, _, _, _, _, _, _, _, _, _, _, _, _, _, _, _, _, _, _, _, rfl⟩, .inr (.inr (.inr (.inr (.inr (.inr ⟨rfl, ⟨_, _, _, _, _, HM2.out⟩, readI_none hcut⟩)))))⟩, ?_⟩ : JL w B t0 2 _ _ ∧ _)
        show (0 : Nat) < _
        simp [muL, rank]
      | some q =>
        obtain ⟨a, b⟩ := q
        rw [hcut] at hw
        obtain ⟨rfl, rfl, hr⟩ := hw
        have hlen := cutS_len (sep := [32]) (t := t0) (a := a) (b := b) (by rw [cutS_one]; exact hcut)
        have HR2 := hide (hr.below ((Below.refl w.heap.size W1).setCell (p := ⟨w.heap.size + 1, 0, none⟩) (by show w.heap.size ≤ w.heap.size + 1; omega) (.string (bytesOf a))) hB)
        obtain ⟨ra2, rc2, rfl, _⟩ := hr
        have HK := hide (fun W => methodOk_any (bytesOf a) W (by unfold maxLen; show a.toArray.size ≤ _; simp only [List.length_cons, List.length_nil] at hlen; rw [List.size_toArray]; omega))
        cases hmb : methB (bytesOf a)
        · rw [hmb] at HK
          have HN := hide (readI_meth hcut hmb)
          clear hcut
          go_wp2_with fail
          refine (HK.out _).mono ?_
          rintro e W3 ⟨rfl, b3⟩
          have HM3 := hide (HM2.out.next b3)
          go_wp2
          go_step3
          refine (⟨⟨_, ⟨_, _, _, _, _, _, _, _, _, _, _, _, _, _, _, _, _, _, _, _, _, _, _, _, _, _, _, _, _, _, _, _, _, _, _, _, _, _, _, _, _, _, _, _, _, _, _, _, _, _, _, _, _, _, _, _, _, _, _, _, _, _, _, _, _, _, _, _, _, _, _, _, _, _, _, rfl⟩, .inr (.inr (.inr (.inr (.inr (.inr ⟨rfl, ⟨_, _, _, _, _, HM3.out⟩, HN.out⟩)))))⟩, ?_⟩ : JL w B t0 2 _ _ ∧ _)
          show (0 : Nat) < _
          simp [muL, rank]
        · rw [hmb] at HK
          have HN := hide (readI_on hcut hmb)
          clear hcut
          go_wp2_with fail
          refine (HK.out _).mono ?_
          rintro e W3 ⟨rfl, b3⟩
          have HM3 := hide (HM2.out.next b3)
          have HR3 := hide (HR2.out.below b3 (Nat.le_trans hB HM2.out.2.2.2.1.size))
          go_wp2
          go_step3
          refine (⟨⟨_, ⟨_, _, _, _, _, _, _, _, _, _, _, _, _, _, _, _, _, _, _, _, _, _, _, _, _, _, _, _, _, _, _, _, _, _, _, _, _, _, _, _, _, _, _, _, _, _, _, _, _, _, _, _, _, _, _, _, _, _, _, _, _, _, _, _, _, _, _, _, _, _, _, _, _, _, _, rfl⟩, .inr (.inl ⟨rfl, _, _, HM3.out, HR3.out, by simp at hlen; omega, HN.out⟩)⟩, ?_⟩ : JL w B t0 1 _ _ ∧ _)
          simp at hlen
          simp [muL, rank, restLen]
          omega
    · refine ⟨_, rfl, ?_⟩
      have HM := hide hM
      have HC := hide (HW.out W hM.2.2.2.1 rv t ⟨#[32]⟩ hR (by omega) (by decide) (by decide))
      obtain ⟨ra, rc, rfl, _⟩ := hR
      clear hM
      go_wp2_with fail
      refine HC.out.mono ?_
      rintro e W1 ⟨⟨word, v', ok, rfl, hw, hwz⟩, b1⟩
      have hM1 := HM.out.next b1
      rw [show cutS (⟨#[32]⟩ : ByteArray).data.toList t = cut1 32 t from cutS_one 32 t] at hw
      obtain ⟨⟨hv, k0, k1, k2, k3, hrow⟩, k4, k5, f1, f2⟩ := hM1.cells
      have g0 := f1 1
      have HM2 := hide (hM1.set_p word)
      have HI := hide hI
      clear HC HM hI
      cases hcut : cut1 32 t with
      | none =>
        rw [hcut] at hw
        obtain ⟨rfl, rfl⟩ := hw
        go_wp2
        go_step3
        refine (⟨⟨_, ⟨_, _, _, _, _, _, _, _, _, _, _, _, _, _, _, _, _, _, _, _, _, _, _, _, _, _, _, _, _, _, _, _, _, _, _, _, _, _, _, _, _, _, _, _, _, _, _, _, _, _, _, _, _, _, _, _, _, _, _, _, _, _, _, _, _, _, _, _, _, _, _, _, _, _, _, rfl⟩, .inr (.inr (.inr (.inr (.inr (.inr ⟨rfl, ⟨_, _, _, _, _, HM2.out⟩, by rw [HI.out]; exact rd1_none hcut⟩)))))⟩, ?_⟩ : JL w B t0 2 _ _ ∧ _)
        show (0 : Nat) < _
        simp [muL, rank]
      | some q =>
        obtain ⟨a, b⟩ := q
        rw [hcut] at hw
        obtain ⟨rfl, rfl, hr⟩ := hw
        have hlen := cutS_len (sep := [32]) (t := t) (a := a) (b := b) (by rw [cutS_one]; exact hcut)
        have HR2 := hide (hr.below ((Below.refl w.heap.size W1).setCell (p := ⟨w.heap.size + 1, 1, none⟩) (by show w.heap.size ≤ w.heap.size + 1; omega) (.string (bytesOf a))) hB)
        obtain ⟨ra2, rc2, rfl, _⟩ := hr
        have HK := hide (fun W => targetOk_any (bytesOf a) W (by unfold maxLen; show a.toArray.size ≤ _; simp only [List.length_cons, List.length_nil] at hlen; rw [List.size_toArray]; omega))
        cases hmb : targB (bytesOf a)
        · rw [hmb] at HK
          have HN := hide (HI.out.trans (rd1_targ hcut hmb))
          clear hcut
          go_wp2_with fail
          refine (HK.out _).mono ?_
          rintro e W3 ⟨rfl, b3⟩
          have HM3 := hide (HM2.out.next b3)
          go_wp2
          go_step3
          refine (⟨⟨_, ⟨_, _, _, _, _, _, _, _, _, _, _, _, _, _, _, _, _, _, _, _, _, _, _, _, _, _, _, _, _, _, _, _, _, _, _, _, _, _, _, _, _, _, _, _, _, _, _, _, _, _, _, _, _, _, _, _, _, _, _, _, _, _, _, _, _, _, _, _, _, _, _, _, _, _, _, rfl⟩, .inr (.inr (.inr (.inr (.inr (.inr ⟨rfl, ⟨_, _, _, _, _, HM3.out⟩, HN.out⟩)))))⟩, ?_⟩ : JL w B t0 2 _ _ ∧ _)
          show (0 : Nat) < _
          simp [muL, rank]
        · rw [hmb] at HK
          have HN := hide (HI.out.trans (rd1_on hcut hmb))
          clear hcut
          go_wp2_with fail
          refine (HK.out _).mono ?_
          rintro e W3 ⟨rfl, b3⟩
          have HM3 := hide (HM2.out.next b3)
          have HR3 := hide (HR2.out.below b3 (Nat.le_trans hB HM2.out.2.2.2.1.size))
          go_wp2
          go_step3
          refine (⟨⟨_, ⟨_, _, _, _, _, _, _, _, _, _, _, _, _, _, _, _, _, _, _, _, _, _, _, _, _, _, _, _, _, _, _, _, _, _, _, _, _, _, _, _, _, _, _, _, _, _, _, _, _, _, _, _, _, _, _, _, _, _, _, _, _, _, _, _, _, _, _, _, _, _, _, _, _, _, _, rfl⟩, .inr (.inr (.inl ⟨rfl, _, _, _, HM3.out, HR3.out, by simp at hlen; omega, HN.out⟩))⟩, ?_⟩ : JL w B t0 3 _ _ ∧ _)
          simp at hlen
          simp [muL, rank, restLen]
          omega
    · refine ⟨_, rfl, ?_⟩
      have HM := hide hM
      have HC := hide (HW.out W hM.2.2.2.1 rv t ⟨#[13, 10]⟩ hR (by omega) (by decide) (by decide))
      obtain ⟨ra, rc, rfl, _⟩ := hR
      clear hM
      go_wp2_with fail
      refine HC.out.mono ?_
      rintro e W1 ⟨⟨word, v', ok, rfl, hw, hwz⟩, b1⟩
      have hM1 := HM.out.next b1
      rw [show cutS (⟨#[13, 10]⟩ : ByteArray).data.toList t = cut2 t from cutS_two t] at hw
      obtain ⟨⟨hv, k0, k1, k2, k3, hrow⟩, k4, k5, f1, f2⟩ := hM1.cells
      have HM2 := hide hM1
      have HI := hide hI
      clear HC HM hI
      cases hcut : cut2 t with
      | none =>
        rw [hcut] at hw
        obtain ⟨rfl, rfl⟩ := hw
        go_wp2
        go_step3
        refine (⟨⟨_, ⟨_, _, _, _, _, _, _, _, _, _, _, _, _, _, _, _, _, _, _, _, _, _, _, _, _, _, _, _, _, _, _, _, _, _, _, _, _, _, _, _, _, _, _, _, _, _, _, _, _, _, _, _, _, _, _, _, _, _, _, _, _, _, _, _, _, _, _, _, _, _, _, _, _, _, _, rfl⟩, .inr (.inr (.inr (.inr (.inr (.inr ⟨rfl, ⟨_, _, _, _, _, HM2.out⟩, by rw [HI.out]; exact rd3_none hcut⟩)))))⟩, ?_⟩ : JL w B t0 2 _ _ ∧ _)
        show (0 : Nat) < _
        simp [muL, rank]
      | some q =>
        obtain ⟨a, b⟩ := q
        rw [hcut] at hw
        obtain ⟨rfl, rfl, hr⟩ := hw
        have hlen := cutS_len (sep := [13, 10]) (t := t) (a := a) (b := b) (by rw [cutS_two]; exact hcut)
        have HR2 := hide hr
        obtain ⟨ra2, rc2, rfl, _⟩ := hr
        have hpb := proto_beq a
        by_cases hpr : a = proto
        · rw [decide_eq_true hpr] at hpb
          have HN := hide (HI.out.trans (rd3_on hcut hpr))
          clear hcut hpr
          go_wp2
          go_step3
          refine (⟨⟨_, ⟨_, _, _, _, _, _, _, _, _, _, _, _, _, _, _, _, _, _, _, _, _, _, _, _, _, _, _, _, _, _, _, _, _, _, _, _, _, _, _, _, _, _, _, _, _, _, _, _, _, _, _, _, _, _, _, _, _, _, _, _, _, _, _, _, _, _, _, _, _, _, _, _, _, _, _, rfl⟩, .inr (.inr (.inr (.inl ⟨rfl, _, _, [], _, _, b.length + 1, b, HM2.out, HR2.out, by simp at hlen; omega, by simp at hlen ⊢; omega, Nat.lt_succ_self _, HN.out⟩)))⟩, ?_⟩ : JL w B t0 4 _ _ ∧ _)
          simp at hlen
          simp [muL, rank, restLen]
          omega
        · rw [decide_eq_false hpr] at hpb
          have HN := hide (HI.out.trans (rd3_no hcut hpr))
          clear hcut hpr
          go_wp2
          go_step3
          refine (⟨⟨_, ⟨_, _, _, _, _, _, _, _, _, _, _, _, _, _, _, _, _, _, _, _, _, _, _, _, _, _, _, _, _, _, _, _, _, _, _, _, _, _, _, _, _, _, _, _, _, _, _, _, _, _, _, _, _, _, _, _, _, _, _, _, _, _, _, _, _, _, _, _, _, _, _, _, _, _, _, rfl⟩, .inr (.inr (.inr (.inr (.inr (.inr ⟨rfl, ⟨_, _, _, _, _, HM2.out⟩, HN.out⟩)))))⟩, ?_⟩ : JL w B t0 2 _ _ ∧ _)
          show (0 : Nat) < _
          simp [muL, rank]
    · refine ⟨_, rfl, ?_⟩
      have HM := hide hM
      have HI := hide hI
      obtain ⟨⟨hv, k0, k1, k2, k3, hrow⟩, k4, k5, f1, f2⟩ := hM.cells
      have HR := hide hR
      have hNb := hM.1
      obtain ⟨ra, rc, rfl, _⟩ := hR
      clear hI hM
      by_cases hte : t.length = 0
      · have hte' : ((t.length : Int) == 0) = true := by rw [beq_iff_eq]; omega
        have hn0 : W.cell? ⟨w.heap.size, 0, none⟩ = some (.string ⟨#[]⟩) := by unfold World.cell?; rw [hNb]; rfl
        have hn1 : W.cell? ⟨w.heap.size, 1, none⟩ = some (.string ⟨#[]⟩) := by unfold World.cell?; rw [hNb]; rfl
        have hn2 : W.cell? ⟨w.heap.size, 2, none⟩ = some (.slice none 0 0) := by unfold World.cell?; rw [hNb]; rfl
        have hn3 : W.cell? ⟨w.heap.size, 3, none⟩ = some (.string ⟨#[]⟩) := by unfold World.cell?; rw [hNb]; rfl
        have fz : ∀ k, W.frozen? ⟨w.heap.size, k, none⟩ = false := fun k => by unfold World.frozen?; rw [hNb]; simp
        have fz0 := fz 0
        have fz1 := fz 1
        have fz2 := fz 2
        have fz3 := fz 3
        have HRow := hide hrow
        have HNb := hide hNb
        obtain ⟨xa, xn, xc, rfl⟩ : ∃ xa xn xc, hv = .slice xa xn xc := by
          rcases hrow.2 with ⟨e, _⟩ | ⟨g, cap, cur, e, _⟩
          · exact ⟨_, _, _, e⟩
          · exact ⟨_, _, _, e⟩
        have ht0 : t = [] := List.length_eq_zero_iff.1 hte
        have HN : Hid (readI t0 = some (m, p, hs)) := by
          show readI t0 = _
          rw [HI.out, ht0, heads_end (by omega)]
          simp
        clear hNb hrow fz ht0 hte
        go_wp2
        refine jumps_ret ?_
        refine bodyPost_ret (results_read _ w.heap.size _ _ _ _ _ _ rfl rfl (set4_heap HNb.out _ _ _ _)) rfl ?_
        rw [HN.out]
        exact ⟨⟨_, rfl, ownsRow_setCell_below (ownsRow_setCell_below (ownsRow_setCell_below (ownsRow_setCell_below HRow.out (by show w.heap.size < _; omega) _) (by show w.heap.size < _; omega) _) (by show w.heap.size < _; omega) _) (by show w.heap.size < _; omega) _⟩, set4_below HM.out.2.2.2.1 (Nat.le_refl _) _ _ _ _⟩
      · have hte' : ((t.length : Int) == 0) = false := by rw [beq_eq_false_iff_ne]; omega
        go_wp2
        go_step3
        refine (⟨⟨_, ⟨_, _, _, _, _, _, _, _, _, _, _, _, _, _, _, _, _, _, _, _, _, _, _, _, _, _, _, _, _, _, _, _, _, _, _, _, _, _, _, _, _, _, _, _, _, _, _, _, _, _, _, _, _, _, _, _, _, _, _, _, _, _, _, _, _, _, _, _, _, _, _, _, _, _, _, rfl⟩, .inr (.inr (.inr (.inr (.inl ⟨rfl, _, _, hs, _, _, f, t, HM.out, HR.out, hlt, hhs, fun e => hte (by rw [e]; rfl), hf, HI.out⟩))))⟩, ?_⟩ : JL w B t0 5 _ _ ∧ _)
        simp [muL, rank, restLen]
    · refine ⟨_, rfl, ?_⟩
      have HM := hide hM
      have HC := hide (HW.out W hM.2.2.2.1 rv t ⟨#[58]⟩ hR (by omega) (by decide) (by decide))
      obtain ⟨ra, rc, rfl, _⟩ := hR
      clear hM
      go_wp2_with fail
      refine HC.out.mono ?_
      rintro e W1 ⟨⟨word, v', ok, rfl, hw, hwz⟩, b1⟩
      have hM1 := HM.out.next b1
      rw [show cutS (⟨#[58]⟩ : ByteArray).data.toList t = cut1 58 t from cutS_one 58 t] at hw
      obtain ⟨⟨hv, k0, k1, k2, k3, hrow⟩, k4, k5, f1, f2⟩ := hM1.cells
      have HM2 := hide hM1
      have HI := hide hI
      clear HC HM hI
      cases hcut : cut1 58 t with
      | none =>
        rw [hcut] at hw
        obtain ⟨rfl, rfl⟩ := hw
        have HN : Hid (readI t0 = none) := by
          show readI t0 = none
          rw [HI.out, heads_none hf hne hcut]
          rfl
        go_wp2
        go_step3
        refine (⟨⟨_, ⟨_, _, _, _, _, _, _, _, _, _, _, _, _, _, _, _, _, _, _, _, _, _, _, _, _, _, _, _, _, _, _, _, _, _, _, _, _, _, _, _, _, _, _, _, _, _, _, _, _, _, _, _, _, _, _, _, _, _, _, _, _, _, _, _, _, _, _, _, _, _, _, _, _, _, _, rfl⟩, .inr (.inr (.inr (.inr (.inr (.inr ⟨rfl, ⟨_, _, _, _, _, HM2.out⟩, HN.out⟩)))))⟩, ?_⟩ : JL w B t0 2 _ _ ∧ _)
        show (0 : Nat) < _
        simp [muL, rank]
      | some q =>
        obtain ⟨n, b⟩ := q
        rw [hcut] at hw
        obtain ⟨rfl, rfl, hr⟩ := hw
        have hlen := cutS_len (sep := [58]) (t := t) (a := n) (b := b) (by rw [cutS_one]; exact hcut)
        simp only [List.length_cons, List.length_nil] at hlen
        have HR2 := hide hr
        obtain ⟨ra2, rc2, rfl, _⟩ := hr
        have HK := hide (fun W => lower_any (bytesOf n) W (by show n.toArray.size ≤ _; rw [List.size_toArray]; omega))
        have HN : Hid (readI t0 = (rd6 (f - 1) n b).map fun r => (m, p, hs ++ r)) := by
          show readI t0 = _
          rw [HI.out, heads_on hf hne hcut]
        clear hcut hne
        go_wp2_with fail
        refine (HK.out _).mono ?_
        rintro e W3 ⟨rfl, b3⟩
        have hM3 := HM2.out.next b3
        have HR3 := hide (HR2.out.below b3 (Nat.le_trans hB HM2.out.2.2.2.1.size))
        obtain ⟨⟨hv3, z0, z1, z2, z3, zrow⟩, z4, z5, y1, y2⟩ := hM3.cells
        have g0 := y2 0
        have HM4 := hide (hM3.set_x (bytesOf (lowL n)))
        have HR4 := hide (HR3.out.below ((Below.refl w.heap.size W3).setCell (p := ⟨w.heap.size + 1 + 1, 0, none⟩) (by show w.heap.size ≤ w.heap.size + 1 + 1; omega) (.string (bytesOf (lowL n)))) hB)
        clear HK b3 hM3 HR3 HR2 HM2 k0 k1 k2 k3 k4 k5 f1 f2
        go_wp2
        go_step3
        refine (⟨⟨_, ⟨_, _, _, _, _, _, _, _, _, _, _, _, _, _, _, _, _, _, _, _, _, _, _, _, _, _, _, _, _, _, _, _, _, _, _, _, _, _, _, _, _, _, _, _, _, _, _, _, _, _, _, _, _, _, _, _, _, _, _, _, _, _, _, _, _, _, _, _, _, _, _, _, _, _, _, rfl⟩, .inr (.inr (.inr (.inr (.inr (.inl ⟨rfl, _, _, hs, n, _, f - 1, b, HM4.out, HR4.out, by omega, by omega, by omega, by omega, HN.out⟩)))))⟩, ?_⟩ : JL w B t0 6 _ _ ∧ _)
        simp [muL, rank, restLen]
        omega
    · refine ⟨_, rfl, ?_⟩
      have HM := hide hM
      have HC := hide (HW.out W hM.2.2.2.1 rv t ⟨#[13, 10]⟩ hR (by omega) (by decide) (by decide))
      obtain ⟨ra, rc, rfl, _⟩ := hR
      clear hM
      go_wp2_with fail
      refine HC.out.mono ?_
      rintro e W1 ⟨⟨word, v', ok, rfl, hw, hwz⟩, b1⟩
      have hM1 := HM.out.next b1
      rw [show cutS (⟨#[13, 10]⟩ : ByteArray).data.toList t = cut2 t from cutS_two t] at hw
      obtain ⟨⟨hv, k0, k1, k2, k3, hrow⟩, k4, k5, f1, f2⟩ := hM1.cells
      have HM2 := hide hM1
      have HI := hide hI
      clear HC HM hI
      have HK := hide (fun W => trim_any word W (by omega))
      obtain ⟨ra2, rn2, rc2, hv2⟩ : ∃ ra2 rn2 rc2, v' = .slice ra2 rn2 rc2 := by
        cases hcut : cut2 t with
        | none => rw [hcut] at hw; exact ⟨_, _, _, hw.2⟩
        | some q => obtain ⟨a, b⟩ := q; rw [hcut] at hw; obtain ⟨_, _, ra, rc, e, _⟩ := hw; exact ⟨_, _, _, e⟩
      subst hv2
      go_wp2_with fail
      refine (HK.out _).mono ?_
      rintro e W3 ⟨⟨tt, rfl, htt⟩, b3⟩
      have hM3 := HM2.out.next b3
      obtain ⟨⟨hv3, z0, z1, z2, z3, zrow⟩, z4, z5, y1, y2⟩ := hM3.cells
      have g0 := y2 1
      have hM4 := hM3.set_y tt
      obtain ⟨⟨hv4, x0, x1, x2, x3, xrow⟩, x4, x5, j1, j2⟩ := hM4.cells
      have HM4 := hide hM4
      clear HK k0 k1 k2 k3 k4 k5 f1 f2
      cases hcut : cut2 t with
      | none =>
        rw [hcut] at hw
        obtain ⟨rfl, hv2⟩ := hw
        have HN : Hid (readI t0 = none) := by
          show readI t0 = none
          rw [HI.out, rd6_none hcut]
          rfl
        clear hcut hv2
        go_wp2
        go_step3
        refine (⟨⟨_, ⟨_, _, _, _, _, _, _, _, _, _, _, _, _, _, _, _, _, _, _, _, _, _, _, _, _, _, _, _, _, _, _, _, _, _, _, _, _, _, _, _, _, _, _, _, _, _, _, _, _, _, _, _, _, _, _, _, _, _, _, _, _, _, _, _, _, _, _, _, _, _, _, _, _, _, _, rfl⟩, .inr (.inr (.inr (.inr (.inr (.inr ⟨rfl, ⟨_, _, _, _, _, HM4.out⟩, HN.out⟩)))))⟩, ?_⟩ : JL w B t0 2 _ _ ∧ _)
        show (0 : Nat) < _
        simp [muL, rank]
      | some q =>
        obtain ⟨a, b⟩ := q
        rw [hcut] at hw
        obtain ⟨rfl, rfl, hr⟩ := hw
        have hlen := cutS_len (sep := [13, 10]) (t := t) (a := a) (b := b) (by rw [cutS_two]; exact hcut)
        simp only [List.length_cons, List.length_nil] at hlen
        have htz : tt = bytesOf (trimL a) := by
          apply ByteArray.ext
          apply Array.toList_inj.1
          rw [htt]
          rfl
        subst htz
        have hrl : rn2 = b.length := by obtain ⟨_, _, e, _⟩ := hr; cases e; rfl
        subst hrl
        have HR4 := hide ((hr.below b3 (Nat.le_trans hB HM2.out.2.2.2.1.size)).below ((Below.refl w.heap.size W3).setCell (p := ⟨w.heap.size + 1 + 1, 1, none⟩) (by show w.heap.size ≤ w.heap.size + 1 + 1; omega) (.string (bytesOf (trimL a)))) hB)
        have htl : (trimL a).length ≤ a.length := by
          have e1 := (List.dropWhile_suffix bl (l := a)).length_le
          have e2 := (List.dropWhile_suffix bl (l := (a.dropWhile bl).reverse)).length_le
          rw [List.length_reverse] at e2
          unfold trimL
          rw [List.length_reverse]
          omega
        have hll : (lowL n).length = n.length := by unfold lowL; rw [List.length_map]
        have HK := hide (fun W => headOk_any (bytesOf (lowL n)) (bytesOf (trimL a)) W (by unfold maxLen; show (lowL n).toArray.size ≤ _; rw [List.size_toArray]; omega) (by unfold maxLen; show (trimL a).toArray.size ≤ _; rw [List.size_toArray]; omega) (by show (trimL a).toArray.size ≤ _; rw [List.size_toArray]; omega))
        rw [show ((bytesOf (lowL n), bytesOf (trimL a)) : Hd) = mkH n a from rfl] at HK
        clear hr b3 hM3 hM4
        cases hhb : hdB (mkH n a)
        · rw [hhb] at HK
          have HN : Hid (readI t0 = none) := by
            show readI t0 = none
            rw [HI.out, rd6_no hcut hhb]
            rfl
          clear hcut
          go_wp2_with fail
          refine (HK.out _).mono ?_
          rintro e W5 ⟨rfl, b5⟩
          have HM5 := hide (HM4.out.next b5)
          go_wp2
          go_step3
          refine (⟨⟨_, ⟨_, _, _, _, _, _, _, _, _, _, _, _, _, _, _, _, _, _, _, _, _, _, _, _, _, _, _, _, _, _, _, _, _, _, _, _, _, _, _, _, _, _, _, _, _, _, _, _, _, _, _, _, _, _, _, _, _, _, _, _, _, _, _, _, _, _, _, _, _, _, _, _, _, _, _, rfl⟩, .inr (.inr (.inr (.inr (.inr (.inr ⟨rfl, ⟨_, _, _, _, _, HM5.out⟩, HN.out⟩)))))⟩, ?_⟩ : JL w B t0 2 _ _ ∧ _)
          show (0 : Nat) < _
          simp [muL, rank]
        · rw [hhb] at HK
          have HN : Hid (readI t0 = (headsI f b).map fun r => (m, p, (hs ++ [mkH n a]) ++ r)) := by
            show readI t0 = _
            rw [HI.out, rd6_on hcut hhb, Option.map_map]
            congr 1
            funext r
            simp
          clear hcut
          go_wp2_with fail
          refine (HK.out _).mono ?_
          rintro e W5 ⟨rfl, b5⟩
          have hM5 := HM4.out.next b5
          have HR5 := hide (HR4.out.below b5 (Nat.le_trans hB HM4.out.2.2.2.1.size))
          have HM5 := hide hM5
          obtain ⟨⟨hv5, x50, x51, x52, x53, xrow5⟩, x54, x55, j51, j52⟩ := hM5.cells
          have g5 := j51 2
          have hz5 := hM5.2.2.2.2
          clear HK b5 hM5 HR4 HM4 z0 z1 z2 z3 z4 z5 x0 x1 x2 x3 x4 x5 HM2 y1 y2 j1 j2 zrow xrow hrow
          have BH := BoxH.made W5 (bytesOf (lowL n)) (bytesOf (trimL a)) 82
          have hba := (Below.refl W5.heap.size W5).alloc (Nat.le_refl _) (Obj.cells #[Value.string (bytesOf (lowL n)), Value.string (bytesOf (trimL a))] 82)
          go_wp2_with (at_builtin; refine wp_append_head rfl _ _ rfl (w.heap.size + 1 + 1 + 1) hv5 hs.length hs rfl (ownsH_below xrow5 hba) W5.heap.size (mkH n a) rfl BH.2.1 BH.2.2 ?c1 ?c2 ?_)
          case c1 => omega
          case c2 => simp; omega
          intro g cap W6 ho6 hb6
          have hM6 := HM5.out.below ((hba.mono (by omega)).trans hb6) (hs' := hs ++ [mkH n a]) (hv' := .slice (some ⟨g, 0, none⟩) (hs.length + 1) cap) (by rw [List.length_append]; exact ho6)
          have HM6 := hide hM6
          have h61 : W6.heap[w.heap.size + 1]? = _ := ((hba.mono (show w.heap.size + 1 + 1 + 1 ≤ W5.heap.size by omega)).trans hb6).block (w.heap.size + 1) (by omega)
          have c62 : W6.cell? ⟨w.heap.size + 1, 2, none⟩ = some hv5 := (World.cell?_of_block (a := ⟨w.heap.size + 1, 2, none⟩) h61).trans x52
          have d62 : W6.frozen? ⟨w.heap.size + 1, 2, none⟩ = false := by
            have := g5
            unfold World.frozen? at this ⊢
            rw [h61]; exact this
          have HR6 := hide ((HR5.out.below ((hba.mono (show w.heap.size ≤ W5.heap.size by omega)).trans (hb6.mono (by omega))) hB).below ((Below.refl w.heap.size W6).setCell (p := ⟨w.heap.size + 1, 2, none⟩) (by show w.heap.size ≤ w.heap.size + 1; omega) (.slice (some ⟨g, 0, none⟩) (hs.length + 1) cap)) hB)
          clear hM6 ho6 hb6 h61 HR5 HM5 x50 x51 x52 x53 x54 x55 BH hba
          go_wp2
          go_step3
          refine (⟨⟨_, ⟨_, _, _, _, _, _, _, _, _, _, _, _, _, _, _, _, _, _, _, _, _, _, _, _, _, _, _, _, _, _, _, _, _, _, _, _, _, _, _, _, _, _, _, _, _, _, _, _, _, _, _, _, _, _, _, _, _, _, _, _, _, _, _, _, _, _, _, _, _, _, _, _, _, _, _, rfl⟩, .inr (.inr (.inr (.inl ⟨rfl, _, _, hs ++ [mkH n a], _, _, f, b, HM6.out, HR6.out, by omega, by rw [List.length_append]; simp only [List.length_cons, List.length_nil]; omega, by omega, HN.out⟩)))⟩, ?_⟩ : JL w B t0 4 _ _ ∧ _)
          simp [muL, rank, restLen]
          omega
    · refine ⟨_, rfl, ?_⟩
      have HM := hide hM
      have HI := hide hI
      have hNb := hM.1
      have hn0 : W.cell? ⟨w.heap.size, 0, none⟩ = some (.string ⟨#[]⟩) := by unfold World.cell?; rw [hNb]; rfl
      have hn1 : W.cell? ⟨w.heap.size, 1, none⟩ = some (.string ⟨#[]⟩) := by unfold World.cell?; rw [hNb]; rfl
      have hn2 : W.cell? ⟨w.heap.size, 2, none⟩ = some (.slice none 0 0) := by unfold World.cell?; rw [hNb]; rfl
      have hn3 : W.cell? ⟨w.heap.size, 3, none⟩ = some (.string ⟨#[]⟩) := by unfold World.cell?; rw [hNb]; rfl
      have fz : ∀ k, W.frozen? ⟨w.heap.size, k, none⟩ = false := fun k => by unfold World.frozen?; rw [hNb]; simp
      have fz0 := fz 0
      have fz1 := fz 1
      have fz2 := fz 2
      have fz3 := fz 3
      have HNb := hide hNb
      clear hNb hM hI fz
      go_wp2
      refine jumps_ret ?_
      refine bodyPost_ret (results_read _ w.heap.size _ _ _ _ _ _ rfl rfl (set4_heap HNb.out _ _ _ _)) rfl ?_
      rw [HI.out]
      exact ⟨rfl, set4_below HM.out.2.2.2.1 (Nat.le_refl _) _ _ _ _⟩
end Go.Proofs.YtanebchmeaomgaaGreatDoor
