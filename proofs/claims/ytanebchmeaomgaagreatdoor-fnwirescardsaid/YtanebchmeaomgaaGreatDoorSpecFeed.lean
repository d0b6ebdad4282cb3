/-
  What the specification's Feed does.
-/
import Derived.Test.YtanebchmeaomgaaGreatDoorStrs
import Derived.Test.YtanebchmeaomgaaGreatDoorSpecGetReq
import Derived.Deep.RegionHeld3
namespace Go.Proofs.YtanebchmeaomgaaGreatDoor
open Go.RowKit M
set_option linter.unusedVariables false

theorem step_append_any {ops : Array Oper} {o : Oper} {a : Act} {w : World} {K : Act → World → Prop} {Q : Exit → Act → World → Prop} {E : Prop} (hgd : o.guard = none) (sl x : Operand)
    (ho : o.op = .call { callee := .builtin .append, args := #[sl, x], argTypes := #[22, 22] })
    (B : Nat) (v : Value) (l : List UInt8) (hs : a.eval sl = v) (hown : OwnY w B v l) (am : Option Addr) (m : List UInt8) (c C : Nat) (hx : a.eval x = .slice am m.length c) (hy : Byt w C am m) (hlen : l.length + m.length ≤ 4398046511104) (hB : B ≤ w.heap.size)
    (h : ∀ v' w', OwnY w' B v' (l ++ m) → w.grownBy w' v.ownBlock → (v'.ownBlock = v.ownBlock ∨ v'.ownBlock = some w.heap.size) → K (a.put o.dst v') w') :
    if Region.wanted o (yielded ops a.tmps) = true then Oper.wp Tryz.prog o a w K Q else E := by
  have hwt : Region.wanted o (yielded ops a.tmps) = true := by simp [Region.wanted, hgd]
  rw [if_pos hwt]
  obtain ⟨v', w', hr, h2, h3, h4⟩ := run_append_any w B v l o.type hown am m c C hy hlen hB
  unfold Oper.wp execOp
  simp only [ho, resolve, invoke, builtin, Sem.run_bind, Sem.run_pure, Result.andThen_ok, List.map_toArray, List.map_cons, List.map_nil, hs, hx, hr]
  exact h v' w' h2 h3 h4
theorem OwnY.bareN {w : World} {B N : Nat} (h : w.heap[N]? = some (Obj.cells #[] 5)) (hB : B ≤ N) : OwnY w B (.slice (some ⟨N, 0, none⟩) 0 0) [] :=
  ⟨N, 0, #[], (0, 0), rfl, hB, h, .inl rfl, Nat.le_refl _, Nat.zero_le _, rfl, rfl⟩
theorem OwnY.of {w w' : World} {B : Nat} {v : Value} {l : List UInt8} (h : OwnY w B v l) (hb : ∀ g, v.ownBlock = some g → w'.heap[g]? = w.heap[g]?) : OwnY w' B v l := by
  obtain ⟨g, cap, cur, fz, rfl, hB, hg, hr⟩ := h
  exact ⟨g, cap, cur, fz, rfl, hB, (hb g rfl).trans hg, hr⟩
theorem results_sfeed (tmps : Array Value) (N : Nat) (W : World) (v0 v1 x : Value) (h2 : tmps.getD 4 undef = .pointer (some ⟨N, 0, none⟩)) (h3 : tmps.getD 5 undef = x) (hg : W.heap[N]? = some (Obj.cells #[v0, v1] 27)) :
    (results Tryz.f13 tmps).run Tryz.prog W = .ok (.tuple #[.agg #[v0, v1], x]) W := by
  have hl := run_loadVar_row (P := Tryz.prog) W N 27 27 #[v0, v1] (0, 0) _ hg Tryz.underlying27 rfl (by kernel_rfl)
  simp at h2 h3
  simp [results, Tryz.results13, h2, h3, asAddr, hl]

theorem heapA (w : World) (o p : Obj) : ((w.alloc o).alloc p).heap[w.heap.size]? = some o :=
  (((Below.refl (w.alloc o).heap.size (w.alloc o)).alloc (Nat.le_refl _) p).block w.heap.size (by simp)).trans (heap_alloc_new w o)
theorem heapB (w : World) (o p : Obj) : ((w.alloc o).alloc p).heap[w.heap.size + 1]? = some p := by
  have h := heap_alloc_new (w.alloc o) p
  have e : (w.alloc o).heap.size = w.heap.size + 1 := by simp
  rwa [e] at h
/-- What the specification's Feed hands back: a wire, and requests. -/
def SFedIs (w : World) (B : Nat) (d : List Rq × List UInt8 × Int) (e : Ending) : Prop :=
  ∃ a c qv qs, e = .returned (.tuple #[.agg #[.slice a d.2.1.length c, .int .i64 d.2.2], qv]) ∧ Byt w w.heap.size a d.2.1 ∧ RowsQ w B qv qs ∧ qs.map Prod.fst = d.1 ∧ (0 < d.2.1.length → ∃ g, a = some ⟨g, 0, none⟩ ∧ B ≤ g)
/-- A wire in its box, and what was read of it. -/
structure SBox (w : World) (B N : Nat) (bad : Int) (bv : Value) (l : List UInt8) (gv : Value) (ps : List Rv) : Prop where
  box : w.heap[N]? = some (Obj.cells #[bv, .int .i64 bad] 27)
  buf : OwnY w B bv l
  row : RowsQ w B gv ps
  sep : SepN N bv gv ps
  apart : ∀ g, bv.ownBlock = some g → gv.ownBlock ≠ some g ∧ ∀ q ∈ ps, q.2.ownBlock ≠ some g
theorem SBox.lt {w : World} {B N : Nat} {bad : Int} {bv gv : Value} {l : List UInt8} {ps : List Rv} (h : SBox w B N bad bv l gv ps) : N < w.heap.size := (Array.getElem?_eq_some_iff.1 h.box).1
theorem SBox.next {w w' : World} {B N : Nat} {bad : Int} {bv gv : Value} {l : List UInt8} {ps : List Rv} (h : SBox w B N bad bv l gv ps) (hb : Below w.heap.size w w') : SBox w' B N bad bv l gv ps :=
  ⟨(hb.block N h.lt).trans h.box, h.buf.next hb, h.row.next hb, h.sep, h.apart⟩
theorem SBox.unread {w : World} {B N : Nat} {bad : Int} {bv gv : Value} {l : List UInt8} {ps : List Rv} (h : SBox w B N bad bv l gv ps) : unreadLen w N = l.length := by
  obtain ⟨g, c, rfl, _⟩ := h.buf.byt
  unfold unreadLen
  rw [(cells2 h.box).1]
/-- Other bytes are put into it. -/
theorem SBox.put {w w1 : World} {B N : Nat} {bad : Int} {bv bv' gv : Value} {l l' : List UInt8} {ps : List Rv} (h : SBox w B N bad bv l gv ps) (ho : OwnY w1 B bv' l') (hk : ∀ k, k < w.heap.size → some k ≠ bv.ownBlock → w1.heap[k]? = w.heap[k]?) (hv : bv'.ownBlock = bv.ownBlock ∨ ∀ g, bv'.ownBlock = some g → w.heap.size ≤ g) :
    w1.heap[N]? = some (Obj.cells #[bv, .int .i64 bad] 27) ∧ SBox (w1.setCell ⟨N, 0, none⟩ bv') B N bad bv' l' gv ps := by
  have hN1 : w1.heap[N]? = some (Obj.cells #[bv, .int .i64 bad] 27) := (hk N h.lt (fun e => h.sep.u e.symm)).trans h.box
  have hu : bv'.ownBlock ≠ some N := fun e => by
    rcases hv with e2 | e2
    · exact h.sep.u (by rw [← e2]; exact e)
    · have := e2 N e; have := h.lt; omega
  refine ⟨hN1, set_heap hN1 0 _, ho.of (fun g hg => Below.heap_setCell _ _ _ _ (fun e => hu (by rw [hg, show g = N from e]))), h.row.of (fun g hg => ?_), ⟨hu, h.sep.r, h.sep.q⟩, fun g hg => ?_⟩
  · rw [Below.heap_setCell _ _ _ _ (h.sep.row g hg)]
    refine hk g (h.row.lt g hg).2 (fun e => ?_)
    rcases hg with hg | ⟨q, hq, hg⟩
    · exact (h.apart g e.symm).1 hg
    · exact (h.apart g e.symm).2 q hq hg
  · rcases hv with e2 | e2
    · exact h.apart g (by rw [← e2]; exact hg)
    · have h1 := e2 g hg
      refine ⟨fun e => ?_, fun q hq e => ?_⟩
      · have := (h.row.lt g (.inl e)).2; omega
      · have := (h.row.lt g (.inr ⟨q, hq, e⟩)).2; omega
/-- One request more. -/
theorem SBox.pushed {w w4 : World} {B N : Nat} {bad : Int} {bv gv : Value} {l : List UInt8} {ps : List Rv} {q : Rv} {g cap : Nat} (h : SBox w B N bad bv l gv ps)
    (ho : RowsQ w4 B (.slice (some ⟨g, 0, none⟩) (ps.length + 1) cap) (ps ++ [q])) (hg : w.grownBy w4 gv.ownBlock) (hwh : gv.ownBlock = some g ∨ g = w.heap.size) (hq : ∀ x, bv.ownBlock = some x → q.2.ownBlock ≠ some x) (hqN : q.2.ownBlock ≠ some N) :
    SBox w4 B N bad bv l (.slice (some ⟨g, 0, none⟩) (ps.length + 1) cap) (ps ++ [q]) := by
  have hgN : g ≠ N := by
    rintro rfl
    rcases hwh with e | e
    · exact h.sep.r e
    · have := h.lt; omega
  refine ⟨(hg.block N h.lt (fun e => h.sep.r e.symm)).trans h.box, h.buf.of (fun x hx => hg.block x (h.buf.lt x hx).2 (fun e => (h.apart x hx).1 e.symm)), ho, ⟨h.sep.u, fun e => hgN (Option.some.inj e), fun p hp => ?_⟩, fun x hx => ⟨fun e => ?_, fun p hp => ?_⟩⟩
  · rcases List.mem_append.1 hp with hp | hp
    · exact h.sep.q p hp
    · simp at hp; subst hp; exact hqN
  · have e' : g = x := Option.some.inj e
    subst e'
    rcases hwh with e | e
    · exact (h.apart g hx).1 e
    · have := (h.buf.lt g hx).2; omega
  · rcases List.mem_append.1 hp with hp | hp
    · exact (h.apart x hx).2 p hp
    · simp at hp; subst hp; exact hq x hx
/-- The box was there, and is written now. -/
theorem way_setW {w0 w1 : World} {N : Nat} {v a0 a1 : Value} {l : List UInt8} {bad : Int} (o : OwnY w1 w0.heap.size v l) (b : Below w0.heap.size w0 w1) (hz : w1.heap[N]? = some (Obj.cells #[a0, a1] 27)) (hN : w0.heap.size ≤ N) (hv : v.ownBlock ≠ some N) :
    ∃ W, (w1.setCell ⟨N, 0, none⟩ v).setCell ⟨N, 1, none⟩ (.int .i64 bad) = W ∧ W.heap[N]? = some (Obj.cells #[v, .int .i64 bad] 27) ∧ OwnY W w0.heap.size v l ∧ Below w0.heap.size w0 W :=
  ⟨_, rfl, set2_heap hz _ _, (o.of (fun g hg => by
    have hgN : g ≠ N := fun e => hv (by rw [hg, e])
    rw [Below.heap_setCell _ _ _ _ hgN, Below.heap_setCell _ _ _ _ hgN])), (b.setCell (p := ⟨N, 0, none⟩) hN _).setCell (p := ⟨N, 1, none⟩) hN _⟩
/-- The box is made now. -/
theorem way_allocW {w0 w1 : World} {v : Value} {l : List UInt8} {bad : Int} (o : OwnY w1 w0.heap.size v l) (b : Below w0.heap.size w0 w1) :
    ∃ W, w1.alloc (Obj.cells #[v, .int .i64 bad] 27) = W ∧ W.heap[w1.heap.size]? = some (Obj.cells #[v, .int .i64 bad] 27) ∧ OwnY W w0.heap.size v l ∧ Below w0.heap.size w0 W :=
  ⟨_, rfl, heap_alloc_new w1 _, o.next ((Below.refl _ _).alloc (Nat.le_refl _) _), b.alloc b.size _⟩

theorem SBox.fin {w : World} {B N M C : Nat} {bad : Int} {bv gv : Value} {l : List UInt8} {ps : List Rv} (h : SBox w B N bad bv l gv ps) (hM : M < B) (hC : C ≤ B) (v0 v1 : Value) : SFedIs ((w.setCell ⟨M, 0, none⟩ v0).setCell ⟨M, 1, none⟩ v1) C (ps.map Prod.fst, l, bad) (.returned (.tuple #[.agg #[bv, .int .i64 bad], gv])) := by
  have keep : ∀ k, k ≠ M → ((w.setCell ⟨M, 0, none⟩ v0).setCell ⟨M, 1, none⟩ v1).heap[k]? = w.heap[k]? := fun k hkM => by
    rw [Below.heap_setCell _ _ _ _ hkM, Below.heap_setCell _ _ _ _ hkM]
  have hO := h.buf.of (w' := (w.setCell ⟨M, 0, none⟩ v0).setCell ⟨M, 1, none⟩ v1) (fun g hg => keep g (by have := (h.buf.lt g hg).1; omega))
  obtain ⟨g, c, rfl, hgB, _, _, _, hy⟩ := hO.byt
  exact ⟨_, c, gv, ps, rfl, hy, (h.row.same (fun k hk _ => keep k (by omega))).base hC, rfl, fun _ => ⟨g, rfl, Nat.le_trans hC hgB⟩⟩
theorem SBox.fin0 {w : World} {B N M C : Nat} {bad : Int} {bv gv : Value} {l : List UInt8} {ps : List Rv} (h : SBox w B N bad bv l gv ps) (hM : M < B) (hC : C ≤ B) (v0 v1 : Value) (a : Option Addr) (c : Nat) (code : Int) : SFedIs ((w.setCell ⟨M, 0, none⟩ v0).setCell ⟨M, 1, none⟩ v1) C (ps.map Prod.fst, [], code) (.returned (.tuple #[.agg #[.slice a 0 c, .int .i64 code], gv])) := by
  have keep : ∀ k, k ≠ M → ((w.setCell ⟨M, 0, none⟩ v0).setCell ⟨M, 1, none⟩ v1).heap[k]? = w.heap[k]? := fun k hkM => by
    rw [Below.heap_setCell _ _ _ _ hkM, Below.heap_setCell _ _ _ _ hkM]
  exact ⟨a, c, gv, ps, rfl, Byt.nil _ _ _, (h.row.same (fun k hk _ => keep k (by omega))).base hC, rfl, fun h => absurd h (Nat.lt_irrefl _)⟩

set_option maxRecDepth 100000 in
set_option maxHeartbeats 8000000 in
theorem specFeed_any (a : Option Addr) (l : List UInt8) (c : Nat) (bad : Int) (a2 : Option Addr) (m : List UInt8) (c2 : Nat) (w : World) (hy : Byt w w.heap.size a l) (hy2 : Byt w w.heap.size a2 m) (hs : l.length + m.length ≤ 4194304) :
    Calls Tryz.prog 13 #[.agg #[.slice a l.length c, .int .i64 bad], .slice a2 m.length c2] w fun e w' => SFedIs w' w.heap.size (feedM l bad m) e ∧ Below w.heap.size w w' := by
  obtain ⟨w0, hw0⟩ : ∃ w0, (w.alloc (Obj.cells #[.slice a l.length c, .int .i64 bad] 27)).alloc (Obj.cells #[.slice none 0 0, .int .i64 0] 27) = w0 := ⟨_, rfl⟩
  have n0 : (w.alloc (Obj.cells #[.slice a l.length c, .int .i64 bad] 27)).heap.size = w.heap.size + 1 := by simp
  have c0 : Below w.heap.size w w0 := by rw [← hw0]; exact ((Below.refl _ _).alloc (Nat.le_refl _) _).alloc (by rw [n0]; omega) _
  have s0 : w.heap.size + 1 < w0.heap.size := by rw [← hw0]; simp
  have z0 : w0.heap[w.heap.size]? = some (Obj.cells #[.slice a l.length c, .int .i64 bad] 27) := by
    rw [← hw0, Below.heap_alloc _ _ _ (by rw [n0]; omega)]; exact heap_alloc_new w _
  have z1 : w0.heap[w.heap.size + 1]? = some (Obj.cells #[.slice none 0 0, .int .i64 0] 27) := by
    have := heap_alloc_new (w.alloc (Obj.cells #[.slice a l.length c, .int .i64 bad] 27)) (Obj.cells #[.slice none 0 0, .int .i64 0] 27)
    rw [n0] at this
    rw [← hw0]; exact this
  obtain ⟨x0, x1, _, _⟩ := cells2 z0
  have HY := hide ((hy.below c0 (Nat.le_refl _)).mono c0.size)
  have HY2 := hide hy2
  have C0 := hide c0
  have Z0 := hide z0
  have Z1 := hide z1
  have HK := hide (fun (W : World) (hb : Below w0.heap.size w0 W) => (⟨(hb.cell (p := ⟨w.heap.size, 0, none⟩) (show w.heap.size < w0.heap.size by omega)).trans x0, (hb.cell (p := ⟨w.heap.size, 1, none⟩) (show w.heap.size < w0.heap.size by omega)).trans x1⟩ : W.cell? ⟨w.heap.size, 0, none⟩ = some (.slice a l.length c) ∧ W.cell? ⟨w.heap.size, 1, none⟩ = some (.int .i64 bad)))
  clear hy hy2 c0 z0 z1 n0
  go_enter Tryz.func13, Tryz.ntmps13
  go_wp2_with fail
  try rw [hw0]
  go_region_held3 (fun W => W.cell? ⟨w.heap.size, 0, none⟩ = some (.slice a l.length c) ∧ W.cell? ⟨w.heap.size, 1, none⟩ = some (.int .i64 bad)) (first | exact ⟨x0, x1⟩ | exact HK.out _ ((Below.refl _ w0).alloc (Nat.le_refl _) _).drew | exact HK.out _ (((Below.refl _ w0).alloc (Nat.le_refl _) _).alloc (by simp) _).drew | exact HK.out _ b1 | exact HK.out _ (b1.alloc b1.size _) | exact HK.out _ ((b1.setCell (p := ⟨w0.heap.size, 0, none⟩) (Nat.le_refl _) _).setCell (p := ⟨w0.heap.size, 1, none⟩) (Nat.le_refl _) _) | exact HK.out _ ((b1.setCell (p := ⟨w0.heap.size + 1, 0, none⟩) (Nat.le_succ _) _).setCell (p := ⟨w0.heap.size + 1, 1, none⟩) (Nat.le_succ _) _) | exact HK.out _ (((b1.alloc b1.size _).setCell (p := ⟨w1.heap.size, 0, none⟩) b1.size _).setCell (p := ⟨w1.heap.size, 1, none⟩) b1.size _))
    ((
      (first
        | (refine step_append_any rfl _ _ rfl w0.heap.size (.slice (some ⟨w0.heap.size, 0, none⟩) 0 0) [] rfl (OwnY.bareN (by first | exact heap_alloc_new _ _ | exact heapA _ _ _) (Nat.le_refl _)) a l c w0.heap.size rfl (HY.out.below (by first | exact ((Below.refl _ w0).alloc (Nat.le_refl _) _).drew | exact (((Below.refl _ w0).alloc (Nat.le_refl _) _).alloc (by simp) _).drew) (Nat.le_refl _)) (by simp; omega) (by first | (simp; done) | (simp; omega)) ?_
           intro v1 w1 o1 g1 wh1
           have b1 : Below w0.heap.size w0 w1 := Below.grown (by first | exact ((Below.refl _ w0).alloc (Nat.le_refl _) _).drew | exact (((Below.refl _ w0).alloc (Nat.le_refl _) _).alloc (by simp) _).drew) g1 (by first | (simp; done) | (simp; omega)) (fun k hk => Nat.le_of_eq (Option.some.inj hk)))
        | (refine step_append_any rfl _ _ rfl w0.heap.size (.slice (some ⟨w0.heap.size + 1, 0, none⟩) 0 0) [] rfl (OwnY.bareN (heapB _ _ _) (Nat.le_succ _)) a l c w0.heap.size rfl (HY.out.below (((Below.refl _ w0).alloc (Nat.le_refl _) _).alloc (by simp) _).drew (Nat.le_refl _)) (by simp; omega) (by first | (simp; done) | (simp; omega)) ?_
           intro v1 w1 o1 g1 wh1
           have b1 : Below w0.heap.size w0 w1 := Below.grown (((Below.refl _ w0).alloc (Nat.le_refl _) _).alloc (by simp) _).drew g1 (by first | (simp; done) | (simp; omega)) (fun k hk => Nat.le_trans (Nat.le_succ _) (Nat.le_of_eq (Option.some.inj hk)))))
      have hvl := o1.lt
      obtain ⟨gv, cv, rfl, _, _, _, _, _⟩ := o1.byt
      simp only [List.nil_append] at o1 hvl ⊢
      first
        | (have hz := (g1.block w0.heap.size (by simp; omega) (by simp [Value.ownBlock])).trans (heapA w0 (Obj.cells #[.slice none 0 0, .int .i64 0] 27) (Obj.cells #[] 5)); obtain ⟨u0, u1, t0, t1⟩ := cells2 hz; have hgv : gv ≠ w0.heap.size := (by rcases wh1 with e | e <;> (have e' := Option.some.inj e; simp at e'; omega)))
        | (have hz := (g1.block (w0.heap.size + 1) (by simp) (by simp [Value.ownBlock])).trans (heapB w0 (Obj.cells #[] 5) (Obj.cells #[.slice none 0 0, .int .i64 0] 27)); obtain ⟨u0, u1, t0, t1⟩ := cells2 hz; have hgv : gv ≠ w0.heap.size + 1 := (by rcases wh1 with e | e <;> (have e' := Option.some.inj e; simp at e'; omega)))
        | skip))
  all_goals
    have hgl := hvl gv rfl
    first
      | (obtain ⟨W, hW, hbox, hO, hB⟩ := way_setW (N := w0.heap.size) (bad := bad) o1 b1 hz (Nat.le_refl _) (fun e => hgv (Option.some.inj e)); have hNo : w0.heap.size ≤ w0.heap.size := Nat.le_refl _; have hsN : (Value.slice (some ⟨gv, 0, none⟩) l.length cv).ownBlock ≠ some w0.heap.size := (fun e => hgv (Option.some.inj e)); rw [hW]; obtain ⟨No, hN⟩ : ∃ No, w0.heap.size = No := ⟨_, rfl⟩; rw [hN] at hbox hsN ⊢; have hNo' : w0.heap.size ≤ No := Nat.le_of_eq hN)
      | (obtain ⟨W, hW, hbox, hO, hB⟩ := way_setW (N := w0.heap.size + 1) (bad := bad) o1 b1 hz (Nat.le_succ _) (fun e => hgv (Option.some.inj e)); have hsN : (Value.slice (some ⟨gv, 0, none⟩) l.length cv).ownBlock ≠ some (w0.heap.size + 1) := (fun e => hgv (Option.some.inj e)); rw [hW]; obtain ⟨No, hN⟩ : ∃ No, w0.heap.size + 1 = No := ⟨_, rfl⟩; rw [hN] at hbox hsN ⊢; have hNo' : w0.heap.size ≤ No := (by omega))
      | (obtain ⟨W, hW, hbox, hO, hB⟩ := way_allocW (bad := bad) o1 b1; have hsN : (Value.slice (some ⟨gv, 0, none⟩) l.length cv).ownBlock ≠ some w1.heap.size := (fun e => by have e' : gv = w1.heap.size := Option.some.inj e; omega); have hzz := b1.size; rw [hW]; obtain ⟨No, hN⟩ : ∃ No, w1.heap.size = No := ⟨_, rfl⟩; rw [hN] at hbox hsN hzz ⊢; have hNo' : w0.heap.size ≤ No := hzz)
  all_goals
    have hcl : Below w.heap.size w W := C0.out.trans (hB.mono (by omega))
    have z1W := (hB.block (w.heap.size + 1) s0).trans Z1.out
    have k1W := (HK.out W hB).2
    have hBW := hB.size
    have hNW : No < W.heap.size := (Array.getElem?_eq_some_iff.1 hbox).1
    have hgW := (hO.lt gv rfl).2
    obtain ⟨W2, hW2⟩ : ∃ W2, W.alloc (Obj.cells #[] 39) = W2 := ⟨_, rfl⟩
    have b2 : Below W.heap.size W W2 := by rw [← hW2]; exact (Below.refl _ _).alloc (Nat.le_refl _) _
    have r2 : W2.heap[W.heap.size]? = some (Obj.cells #[] 39) := by rw [← hW2]; exact heap_alloc_new W _
    have S2 : SBox W2 w0.heap.size No bad (.slice (some ⟨gv, 0, none⟩) l.length cv) l (.slice (some ⟨W.heap.size, 0, none⟩) 0 0) [] := ⟨(b2.block No hNW).trans hbox, hO.next b2, RowsQ.bare r2 hBW, ⟨hsN, fun e => by have e1 : W.heap.size = No := Option.some.inj e; omega, fun q h => by cases h⟩, fun g hg => ⟨fun e => by have e1 : gv = g := Option.some.inj hg; have e2 : W.heap.size = g := Option.some.inj e; omega, fun q h => by cases h⟩⟩
    have C2 := hide (hcl.trans (b2.mono hcl.size))
    have ZW := hide ((b2.block _ (by omega)).trans z1W)
    have k2 := (b2.cell (p := ⟨w.heap.size, 1, none⟩) (show w.heap.size < W.heap.size by omega)).trans k1W
    obtain ⟨q0, q1, f0, f1⟩ := cells2 S2.box
    obtain ⟨m0, m1, n0, n1⟩ := cells2 ZW.out
    have HS2 := hide S2
    have hBW2 : w0.heap.size ≤ W2.heap.size := Nat.le_trans hBW b2.size
    clear hbox hO hB hcl z1W k1W hNW hgW b2 r2 S2 hsN o1 b1 g1 wh1 hvl hgl hW hN
    by_cases hb : bad = 0
    · subst hb
      have HF := hide (feedM_good l m)
      go_wp2_with (at_builtin; refine wp_append_any rfl _ _ rfl w0.heap.size (.slice (some ⟨gv, 0, none⟩) l.length cv) l rfl HS2.out.buf a2 m c2 w.heap.size rfl (HY2.out.below C2.out (Nat.le_refl _)) (by omega) hBW2 ?_)
      intro v3 w3 o3 g3 wh3
      have hLs : (l ++ m).length ≤ 4194304 := by rw [List.length_append]; exact hs
      obtain ⟨L, hL⟩ : ∃ L, l ++ m = L := ⟨_, rfl⟩
      rw [hL] at o3 HF hLs
      clear hL
      obtain ⟨hb3, S3⟩ := HS2.out.put o3 (fun k hk hne => g3.block k hk hne) (by
        rcases wh3 with e | e
        · exact .inl e
        · exact .inr (fun g hg => by rw [hg] at e; exact Nat.le_of_eq (Option.some.inj e).symm))
      have hbuf := HS2.out.buf.lt
      have c3 : Below w.heap.size w w3 := C2.out.grown g3 C2.out.size (fun k hk => by have := (hbuf k hk).1; omega)
      have z3 := (g3.block (w.heap.size + 1) (by omega) (fun e => by have := (hbuf _ e.symm).1; omega)).trans ZW.out
      obtain ⟨gw, cw, rfl, _, _, _, _, _⟩ := o3.byt
      obtain ⟨p0, p1, t0, t1⟩ := cells2 hb3
      obtain ⟨W4, hW4⟩ : ∃ W4, w3.setCell ⟨No, 0, none⟩ (.slice (some ⟨gw, 0, none⟩) L.length cw) = W4 := ⟨_, rfl⟩
      rw [hW4] at S3
      have C4 : Hid (Below w.heap.size w W4) := by rw [← hW4]; exact c3.setCell (p := ⟨No, 0, none⟩) (show w.heap.size ≤ No by omega) _
      have Z4 : Hid (W4.heap[w.heap.size + 1]? = some (Obj.cells #[.slice none 0 0, .int .i64 0] 27)) := by rw [← hW4]; exact set_other z3 (by omega) _
      have HS4 := hide S3
      clear o3 g3 wh3 S3 hb3 c3 z3 HS2 C2 ZW q0 q1 f0 f1 m0 m1 n0 n1 hbuf
      go_wp2
      go_loopw [7] (fun gv wr => ∃ (bv : Value) (l' : List UInt8) (ps : List Rv), SBox wr w0.heap.size No 0 bv l' gv ps ∧ ps.map Prod.fst ++ (drainL l').1 = (drainL L).1 ∧ (drainL l').2 = (drainL L).2 ∧ ps.length + l'.length ≤ 4194304 ∧ Below w.heap.size w wr ∧ wr.heap[w.heap.size + 1]? = some (Obj.cells #[.slice none 0 0, .int .i64 0] 27)) (fun _ wr => unreadLen wr No)
      case atStart => exact ⟨_, _, [], HS4.out, rfl, rfl, by simpa using hLs, C4.out, Z4.out⟩
      case round =>
        obtain ⟨bv, l', ps, hS, hd1, hd2, hpl, hbe, hz⟩ := hrel
        have HU := hide hS.unread
        obtain ⟨gb, cb, hbv, hgb1, hgb2, hlc, hcm, hyb⟩ := hS.buf.byt
        subst hbv
        obtain ⟨ar, cr, hrv, _⟩ := hS.row.rqs
        subst hrv
        have hNlt := hS.lt
        have HG := hide (specGetReq_any gb 0 l' cb wr hyb (by omega) hlc hcm)
        have hgood : (getR l').2.2 = 0 → 0 < (getR l').2.1 ∧ (getR l').2.1 ≤ l'.length := fun hc => ⟨getR_pos hc, (getR_ok hc).2⟩
        have HGood := hide (fun hc => drain_good (l := l') hc)
        have HMore := hide (fun hc => drain_more (l := l') hc)
        have HBad := hide (fun hc hc' => drain_bad (l := l') hc hc')
        obtain ⟨R, n, C, hR⟩ : ∃ R n C, getR l' = (R, n, C) := ⟨_, _, _, rfl⟩
        rw [hR] at HG hgood HGood HMore HBad
        obtain ⟨y0, y1, _, _⟩ := cells2 hS.box
        unfold maxLen at hcm
        have HS := hide hS
        have HD1 := hide hd1
        have HD2 := hide hd2
        have HBe := hide hbe
        have HZ := hide hz
        have HYb := hide hyb
        have hbz := hbe.size
        clear hS hd1 hd2 hbe hz hyb hR HS4 C4 Z4
        go_wp2_with fail
        refine HG.out.mono ?_
        rintro e w1 ⟨⟨hv, rfl, hrow⟩, b1⟩
        obtain ⟨ah, ch, rfl, hdd⟩ := RowsH.hds hrow
        obtain ⟨w2, hw2⟩ : ∃ w2, w1.alloc (Obj.cells #[.string R.m, .string R.p, .slice ah R.hs.length ch, .string R.b] 39) = w2 := ⟨_, rfl⟩
        have b2 : Below w1.heap.size w1 w2 := by rw [← hw2]; exact (Below.refl _ _).alloc (Nat.le_refl _) _
        have r2 : w2.heap[w1.heap.size]? = some (Obj.cells #[.string R.m, .string R.p, .slice ah R.hs.length ch, .string R.b] 39) := by rw [← hw2]; exact heap_alloc_new w1 _
        have s1 := b1.size
        have s2 : w1.heap.size < w2.heap.size := by rw [← hw2]; simp
        have bb := b1.trans (b2.mono b1.size)
        have E2 := HS.out.next bb
        have c2 : Below w.heap.size w w2 := HBe.out.trans (bb.mono HBe.out.size)
        have z2 := (bb.block _ (by omega)).trans HZ.out
        obtain ⟨q0, q1, _, _⟩ := cells2 E2.box
        obtain ⟨p0, p1, p2, p3, _, _, _, _⟩ := ReqB.cells r2
        obtain ⟨m0, m1, n0, n1⟩ := cells2 z2
        have hblk : ∀ x, (Value.slice ah R.hs.length ch).ownBlock = some x → wr.heap.size ≤ x := fun x hx => (RowsH.lt hrow x hx).1
        have hapU : ∀ x, (Value.slice (some ⟨gb, 0, none⟩) l'.length cb).ownBlock = some x → (Value.slice ah R.hs.length ch).ownBlock ≠ some x := fun x hx e => by
          have h1 := hblk x e
          have h2 := (HS.out.buf.lt x hx).2
          omega
        have hapR : ∀ v : Value, (∀ x, v.ownBlock = some x → x < wr.heap.size) → ApartV v (.slice ah R.hs.length ch) := fun v hv => by
          cases e : v.ownBlock with
          | none => exact .inl e
          | some x =>
            right
            intro e2
            have h1 := hblk x (by rw [← e2, e])
            have h2 := hv x e
            omega
        have hhN : (Value.slice ah R.hs.length ch).ownBlock ≠ some No := fun e => by have := hblk No e; omega
        have HHN := hide hhN
        have HR2 := hide (RowsH.base (ownsH_below hrow b2) (show w0.heap.size ≤ wr.heap.size by omega))
        have HQA := hide (hapR _ (fun x hx => (HS.out.row.lt x (.inl hx)).2))
        have HQS : Hid (∀ p ∈ ps, ApartV p.2 (.slice ah R.hs.length ch)) := hide (fun p hp => hapR _ (fun x hx => (HS.out.row.lt x (.inr ⟨p, hp, hx⟩)).2))
        have HAU := hide hapU
        have EE := hide E2
        have HC2 := hide c2
        have HZ2 := hide z2
        clear HG hrow hdd b1 b2 r2 bb E2 c2 z2 hblk hapU hapR hhN y0 y1
        by_cases hC1 : C = 1
        · subst hC1
          have HDr := hide (HMore.out rfl)
          have HFin : Hid (∀ v0 v1, SFedIs ((w2.setCell ⟨w.heap.size + 1, 0, none⟩ v0).setCell ⟨w.heap.size + 1, 1, none⟩ v1) w.heap.size (feedM l 0 m) (.returned (.tuple #[.agg #[.slice (some ⟨gb, 0, none⟩) l'.length cb, .int .i64 0], .slice ar ps.length cr])) ∧ Below w.heap.size w ((w2.setCell ⟨w.heap.size + 1, 0, none⟩ v0).setCell ⟨w.heap.size + 1, 1, none⟩ v1)) := by
            intro v0 v1
            have e : drainL L = (ps.map Prod.fst, l', 0) := by
              rw [show drainL L = ((drainL L).1, (drainL L).2) from rfl, ← HD1.out, ← HD2.out, HDr.out]
              simp
            rw [HF.out, e]
            exact ⟨EE.out.fin (M := w.heap.size + 1) s0 (by omega) v0 v1, (HC2.out.setCell (p := ⟨w.heap.size + 1, 0, none⟩) (Nat.le_succ _) _).setCell (p := ⟨w.heap.size + 1, 1, none⟩) (Nat.le_succ _) _⟩
          clear hgood HGood HMore HBad HDr
          go_wp2
          refine bodyPost_ret (results_sfeed _ (w.heap.size + 1) _ _ _ _ rfl rfl (set2_heap HZ2.out _ _)) rfl ?_
          exact HFin.out _ _
        · have hCb1 : (C == 1) = false := by simpa using hC1
          by_cases hC : C = 0
          · subst hC
            obtain ⟨hn1, hn2⟩ := hgood rfl
            have HDr := hide (HGood.out rfl)
            obtain ⟨w3, hw3⟩ : ∃ w3, w2.alloc (Obj.cells #[.string R.m, .string R.p, .slice ah R.hs.length ch, .string R.b] 39) = w3 := ⟨_, rfl⟩
            have b3 : Below w2.heap.size w2 w3 := by rw [← hw3]; exact (Below.refl _ _).alloc (Nat.le_refl _) _
            have r3 : w3.heap[w2.heap.size]? = some (Obj.cells #[.string R.m, .string R.p, .slice ah R.hs.length ch, .string R.b] 39) := by rw [← hw3]; exact heap_alloc_new w2 _
            have hz3 : w0.heap.size ≤ w3.heap.size := by have := b3.size; omega
            have ED := hide (EE.out.next b3)
            have HRD := hide (ownsH_below HR2.out b3)
            have HCD := hide (HC2.out.trans (b3.mono HC2.out.size))
            have HZD := hide ((b3.block _ (by omega)).trans HZ2.out)
            obtain ⟨k0, k1, k2', k3, _, _, _, _⟩ := ReqB.cells r3
            have K0 := hide k0
            have K1 := hide k1
            have K2 := hide k2'
            have K3 := hide k3
            have hlen1 : ps.length + 1 ≤ 1000000000 := by omega
            clear hgood HGood HMore HBad b3 r3 k0 k1 k2' k3
            go_wp2_with (at_builtin; refine wp_append_req rfl _ _ rfl w0.heap.size (.slice ar ps.length cr) ps rfl ED.out.row w2.heap.size (R, .slice ah R.hs.length ch) rfl K0.out K1.out K2.out K3.out HRD.out HQA.out.symm HQS.out hlen1 hz3 ?_)
            intro g4 cap4 w4 ho hg hwh
            have S4 := ED.out.pushed ho hg hwh HAU.out HHN.out
            have hrl := ED.out.row.lt
            have c4 : Below w.heap.size w w4 := HCD.out.grown hg HCD.out.size (fun k hk => by have := (hrl k (.inl hk)).1; omega)
            have z4 := (hg.block (w.heap.size + 1) (by have := HCD.out.size; omega) (fun e => by have := (hrl _ (.inl e.symm)).1; omega)).trans HZD.out
            have hN4 := S4.lt
            obtain ⟨w5, hw5⟩ : ∃ w5, w4.alloc (Obj.cells #[] 5) = w5 := ⟨_, rfl⟩
            have b5 : Below w4.heap.size w4 w5 := by rw [← hw5]; exact (Below.refl _ _).alloc (Nat.le_refl _) _
            have s5 : w5.heap.size = w4.heap.size + 1 := by rw [← hw5]; simp
            have o5 : OwnY w5 w4.heap.size (.slice (some ⟨w4.heap.size, 0, none⟩) 0 0) [] := by rw [← hw5]; exact OwnY.bare w4
            obtain ⟨g0', c0', e0, _, _, hlc4, hcm4, hy4⟩ := S4.buf.byt
            cases e0
            obtain ⟨x5, _, _, _⟩ := cells2 ((b5.block No hN4).trans S4.box)
            obtain ⟨xv, hxv⟩ : ∃ xv, (if cb = n then some (⟨gb, 0, none⟩ : Addr) else some ⟨gb, n, none⟩) = xv := ⟨_, rfl⟩
            obtain ⟨ld, hld⟩ : ∃ ld, l'.drop n = ld := ⟨_, rfl⟩
            have hdl : ld.length = l'.length - n := by rw [← hld, List.length_drop]
            have hyd : Byt w5 w4.heap.size xv ld := by
              rw [← hxv, ← hld]
              split
              · have e0 : l'.drop n = [] := List.drop_eq_nil_of_le (by omega)
                rw [e0]
                exact Byt.nil _ _ _
              · have := (hy4.below b5 (Nat.le_refl _)).drop n
                rwa [Nat.zero_add] at this
            have hni : (n : Int) ≤ (l'.length : Int) := by omega
            have hnc : (n : Int) ≤ (cb : Int) := by omega
            have hlci : (l'.length : Int) ≤ (cb : Int) := by omega
            have HYD := hide hyd
            have HS4 := hide S4
            have HC4 := hide c4
            have HZ4 := hide z4
            have HO5 := hide o5
            have HS5 := hide s5
            have HB5 := hide b5
            have HDl := hide hdl
            have HLd := hide hld
            have hz5 : w4.heap.size ≤ w5.heap.size := b5.size
            have hld2 : ld.length ≤ 4194304 := by omega
            clear ho hg hwh S4 hrl c4 z4 b5 s5 o5 hlc4 hcm4 hy4 hyd hdl hld ED HRD HCD HZD K0 K1 K2 K3 hw3
            go_wp2_with (at_builtin; refine wp_append_any rfl _ _ rfl w4.heap.size (.slice (some ⟨w4.heap.size, 0, none⟩) 0 0) [] rfl HO5.out xv ld (cb - n) w4.heap.size (by rw [HDl.out]; rfl) HYD.out (by simp; omega) hz5 ?_)
            intro v6 w6 o6 g6 wh6
            have o6' : OwnY w6 w0.heap.size v6 ld := OwnY.base o6 (by omega)
            obtain ⟨hb6, S6⟩ := HS4.out.put o6' (fun k hk _ => (g6.block k (by omega) (fun e => by have e' : k = w4.heap.size := Option.some.inj e; omega)).trans (HB5.out.block k hk)) (.inr (fun g hg => by
              rcases wh6 with e | e
              · rw [hg] at e; exact Nat.le_of_eq (Option.some.inj e).symm
              · rw [hg] at e; have := Option.some.inj e; omega))
            have c6 : Below w.heap.size w w6 := (HC4.out.trans (HB5.out.mono HC4.out.size)).grown g6 (by have := HC4.out.size; omega) (fun k hk => by have e' : w4.heap.size = k := Option.some.inj hk; have := HC4.out.size; omega)
            have z6 := ((g6.block (w.heap.size + 1) (by omega) (fun e => by have e' : w.heap.size + 1 = w4.heap.size := Option.some.inj e; omega)).trans (HB5.out.block _ (by omega))).trans HZ4.out
            obtain ⟨g7, c7, rfl, _, _, _, _, _⟩ := o6'.byt
            obtain ⟨_, _, t0', t1'⟩ := cells2 hb6
            obtain ⟨u0', u1', _, _⟩ := cells2 hb6
            obtain ⟨W7, hW7⟩ : ∃ W7, w6.setCell ⟨No, 0, none⟩ (.slice (some ⟨g7, 0, none⟩) ld.length c7) = W7 := ⟨_, rfl⟩
            rw [hW7] at S6
            have HFin : Hid ((∃ (bv : Value) (l'' : List UInt8) (ps' : List Rv), SBox W7 w0.heap.size No 0 bv l'' (.slice (some ⟨g4, 0, none⟩) (ps.length + 1) cap4) ps' ∧ ps'.map Prod.fst ++ (drainL l'').1 = (drainL L).1 ∧ (drainL l'').2 = (drainL L).2 ∧ ps'.length + l''.length ≤ 4194304 ∧ Below w.heap.size w W7 ∧ W7.heap[w.heap.size + 1]? = some (Obj.cells #[.slice none 0 0, .int .i64 0] 27)) ∧ unreadLen W7 No < unreadLen wr No) := by
              refine ⟨⟨_, ld, _, S6, ?_, ?_, ?_, ?_, ?_⟩, ?_⟩
              · rw [← HD1.out, HDr.out, ← HLd.out]; simp
              · rw [← HD2.out, HDr.out, ← HLd.out]
              · have := HDl.out; rw [List.length_append]; simp only [List.length_cons, List.length_nil]; omega
              · rw [← hW7]; exact c6.setCell (p := ⟨No, 0, none⟩) (show w.heap.size ≤ No by omega) _
              · rw [← hW7]; exact set_other z6 (by omega) _
              · rw [HU.out, S6.unread, HDl.out]; omega
            clear o6 o6' g6 wh6 S6 c6 z6 hb6 HS4 HC4 HZ4 HO5 HB5 HYD
            go_wp2
            go_roundw
            case rel => exact HFin.out.1
            case measure => exact HFin.out.2
          · have HDr := hide (HBad.out hC hC1)
            have hCb : (C != 0) = true := by simpa using hC
            obtain ⟨w3, hw3⟩ : ∃ w3, w2.alloc (Obj.cells #[] 5) = w3 := ⟨_, rfl⟩
            have b3 : Below w2.heap.size w2 w3 := by rw [← hw3]; exact (Below.refl _ _).alloc (Nat.le_refl _) _
            have ED := hide (EE.out.next b3)
            have HCD := hide (HC2.out.trans (b3.mono HC2.out.size))
            have z3 := (b3.block _ (by omega)).trans HZ2.out
            obtain ⟨m0', m1', n0', n1'⟩ := cells2 z3
            have HZ3 := hide z3
            have HFin : Hid (∀ v0 v1 a c, SFedIs ((w3.setCell ⟨w.heap.size + 1, 0, none⟩ v0).setCell ⟨w.heap.size + 1, 1, none⟩ v1) w.heap.size (feedM l 0 m) (.returned (.tuple #[.agg #[.slice a 0 c, .int .i64 C], .slice ar ps.length cr])) ∧ Below w.heap.size w ((w3.setCell ⟨w.heap.size + 1, 0, none⟩ v0).setCell ⟨w.heap.size + 1, 1, none⟩ v1)) := by
              intro v0 v1 a c
              have e : drainL L = (ps.map Prod.fst, [], C) := by
                rw [show drainL L = ((drainL L).1, (drainL L).2) from rfl, ← HD1.out, ← HD2.out, HDr.out]
                simp
              rw [HF.out, e]
              exact ⟨ED.out.fin0 (M := w.heap.size + 1) s0 (by omega) v0 v1 a c C, (HCD.out.setCell (p := ⟨w.heap.size + 1, 0, none⟩) (Nat.le_succ _) _).setCell (p := ⟨w.heap.size + 1, 1, none⟩) (Nat.le_succ _) _⟩
            clear hgood HGood HMore HBad HDr b3 z3
            go_wp2
            refine bodyPost_ret (results_sfeed _ (w.heap.size + 1) _ _ _ _ rfl rfl (set2_heap HZ3.out _ _)) rfl ?_
            exact HFin.out _ _ _ _
    · have hbb : (bad != 0) = true := by simpa using hb
      have HZ : Hid (∀ v0 v1, SFedIs ((W2.setCell ⟨w.heap.size + 1, 0, none⟩ v0).setCell ⟨w.heap.size + 1, 1, none⟩ v1) w.heap.size (feedM l bad m) (.returned (.tuple #[.agg #[.slice (some ⟨gv, 0, none⟩) l.length cv, .int .i64 bad], .slice (some ⟨W.heap.size, 0, none⟩) 0 0])) ∧ Below w.heap.size w ((W2.setCell ⟨w.heap.size + 1, 0, none⟩ v0).setCell ⟨w.heap.size + 1, 1, none⟩ v1)) := by
        intro v0 v1
        rw [feedM_bad hb]
        exact ⟨HS2.out.fin (M := w.heap.size + 1) s0 (by omega) v0 v1, (C2.out.setCell (p := ⟨w.heap.size + 1, 0, none⟩) (Nat.le_succ _) _).setCell (p := ⟨w.heap.size + 1, 1, none⟩) (Nat.le_succ _) _⟩
      clear HS2 C2 hb
      go_wp2
      refine bodyPost_ret (results_sfeed _ (w.heap.size + 1) _ _ _ _ rfl rfl (set2_heap ZW.out _ _)) rfl ?_
      exact HZ.out _ _
end Go.Proofs.YtanebchmeaomgaaGreatDoor
