/-
  'append' of bytes onto a row of bytes that the call made, as a step of a region that draws; what stands in the course of it.
-/
import Derived.Test.YtanebchmeaomgaaGreatDoorMathResp
import Derived.Test.YtanebchmeaomgaaGreatDoorMathSmall
import Derived.Test.YtanebchmeaomgaaGreatDoorDrawI
import Derived.Deep.RegionLaw
import Derived.Laws.MakeOwn
namespace Go.Proofs.YtanebchmeaomgaaGreatDoor
open Go.RowKit M
set_option linter.unusedVariables false

theorem OwnY.slice {w : World} {B : Nat} {v : Value} {l : List UInt8} (h : OwnY w B v l) : ∃ g c, v = .slice (some ⟨g, 0, none⟩) l.length c ∧ OwnY w B (.slice (some ⟨g, 0, none⟩) l.length c) l := by
  have h2 := h
  obtain ⟨g, cap, cur, fz, rfl, hr⟩ := h
  exact ⟨g, cap, rfl, h2⟩
theorem OwnY.bd {w : World} {B g n c : Nat} {l : List UInt8} (h : OwnY w B (.slice (some ⟨g, 0, none⟩) n c) l) : l.length = n ∧ n ≤ c ∧ c ≤ maxLen ∧ B ≤ g ∧ g < w.heap.size := by
  obtain ⟨g', cap, cur, fz, hv, hB, hg, _, h1, h2, _⟩ := h
  cases hv
  exact ⟨rfl, h1, h2, hB, (Array.getElem?_eq_some_iff.1 hg).1⟩
theorem OwnY.bytAt {w : World} {B g n c C : Nat} {l : List UInt8} (h : OwnY w B (.slice (some ⟨g, 0, none⟩) n c) l) (hC : g < C) : Byt w C (some ⟨g, 0, none⟩) l := by
  obtain ⟨g', c', hv, _, _, _, _, hb⟩ := h.byt
  cases hv
  intro h0
  obtain ⟨b, o, e, _, hc⟩ := hb h0
  cases e
  exact ⟨_, _, rfl, hC, hc⟩
/-- What the slice's first bytes are. -/
theorem OwnY.take {w : World} {B g n c : Nat} {l : List UInt8} (h : OwnY w B (.slice (some ⟨g, 0, none⟩) n c) l) (k : Nat) (hk : k ≤ l.length) : OwnY w B (.slice (some ⟨g, 0, none⟩) k c) (l.take k) := by
  obtain ⟨g', cap, cur, fz, hv, hB, hg, hf, h1, h2, h3, h4⟩ := h
  cases hv
  have hl : (l.take k).length = k := by rw [List.length_take]; omega
  refine ⟨g, c, cur, fz, by rw [hl], hB, hg, hf, by omega, h2, h3, ?_⟩
  rw [hl]
  have e : cur.toList.take k = (cur.toList.take l.length).take k := by rw [List.take_take]; congr 1; omega
  rw [e, h4]
  simp [Lib.byteCells, List.map_take]
theorem OwnY.same {w w' : World} {B g n c : Nat} {l : List UInt8} (h : OwnY w B (.slice (some ⟨g, 0, none⟩) n c) l) (hb : w'.heap[g]? = w.heap[g]?) : OwnY w' B (.slice (some ⟨g, 0, none⟩) n c) l := by
  obtain ⟨g', cap, cur, fz, hv, hB, hg, hr⟩ := h
  cases hv
  exact ⟨g, c, cur, fz, rfl, hB, hb.trans hg, hr⟩
theorem OwnY.bareAt {w : World} {B g : Nat} (hg : w.heap[g]? = some (.cells #[] 5)) (hB : B ≤ g) : OwnY w B (.slice (some ⟨g, 0, none⟩) 0 0) [] :=
  ⟨g, 0, #[], (0, 0), rfl, hB, hg, .inl rfl, Nat.le_refl _, Nat.zero_le _, rfl, rfl⟩
theorem OwnY.zeros (w : World) (n : Nat) (hn : n ≤ 1048576) : OwnY (w.alloc (.cells (madeCells #[.int .u8 0] n) 5)) w.heap.size (.slice (some ⟨w.heap.size, 0, none⟩) n n) (List.replicate n 0) := by
  have hm : (madeCells #[Value.int .u8 0] n).toList = List.replicate n (.int .u8 0) := by
    apply List.ext_getElem
    · simp [madeCells]
    · intro i h1 h2
      simp [madeCells, Nat.mod_one]
  have hs : (madeCells #[Value.int .u8 0] n).size = n := by rw [← Array.length_toList, hm, List.length_replicate]
  refine ⟨w.heap.size, n, _, (0, 0), by rw [List.length_replicate], Nat.le_refl _, heap_alloc_new w _, .inl rfl, by rw [List.length_replicate]; exact Nat.le_refl _, by unfold maxLen; omega, hs, ?_⟩
  rw [List.length_replicate, hm, List.take_of_length_le (by rw [List.length_replicate]; exact Nat.le_refl _)]
  simp [Lib.byteCells]

/-- 'append' of bytes, as one step of a region that draws. -/
theorem step_append_byts {ops : Array Oper} {o : Oper} {a : Act} {W : World} {K : Act → World → Prop} {Q : Exit → Act → World → Prop} {E : Prop} (hg : o.guard = none) (s x : Operand)
    (ho : o.op = .call { callee := .builtin .append, args := #[s, x], argTypes := #[22, 22] })
    (B g n c : Nat) (l : List UInt8) (hs : a.eval s = .slice (some ⟨g, 0, none⟩) n c) (hown : OwnY W B (.slice (some ⟨g, 0, none⟩) n c) l)
    (A : Option Addr) (k k' c0 : Nat) (m : List UInt8) (hx : a.eval x = .slice A k c0) (hA : ∃ g0 o0, A = some ⟨g0, o0, none⟩) (hk : m.length = k) (hm : Byt W W.heap.size A m) (hlen : n + k = k') (hlen2 : k' ≤ 4398046511104) (hB : B ≤ W.heap.size)
    (hK : ∀ g' c' w', OwnY w' B (.slice (some ⟨g', 0, none⟩) k' c') (l ++ m) → W.grownBy w' (some g) → K (a.put o.dst (.slice (some ⟨g', 0, none⟩) k' c')) w') :
    if Region.wanted o (yielded ops a.tmps) = true then Oper.wp Tryz.prog o a W K Q else E := by
  have hw : Region.wanted o (yielded ops a.tmps) = true := by simp [Region.wanted, hg]
  rw [if_pos hw]
  have hbd := hown.bd
  subst hk
  obtain ⟨g0, o0, rfl⟩ := hA
  have hcell : ∀ j (hj : j < m.length), W.cell? ⟨g0, o0 + j, none⟩ = some (.int .u8 m[j].toNat) := by
    intro j hj
    obtain ⟨b, o', e, _, hc⟩ := hm (by omega)
    cases e
    exact hc j hj
  obtain ⟨v', w', hr, h2, h3, h4⟩ := run_append_from W B _ l o.type hown g0 o0 m c0 hcell (by omega) hB
  obtain ⟨g', c', rfl, h5⟩ := h2.slice
  have hl : (l ++ m).length = k' := by rw [List.length_append]; omega
  rw [hl] at h5 hr
  unfold Oper.wp execOp
  simp only [ho, resolve, invoke, builtin, Sem.run_bind, Sem.run_pure, Result.andThen_ok, List.map_toArray, List.map_cons, List.map_nil, hs, hx, hr]
  exact hK g' c' w' h5 h3

/-- What stands in the course of a step that puts bytes together behind the world w0: the cursor, the bytes that are read of. -/
structure Ins (w0 W : World) (N : Nat) (a : Option Addr) (len cap : Nat) (zs : List Int) (gb : Nat) (lb : List UInt8) : Prop where
  dx : DX W N a len cap zs
  byt : Byt W w0.heap.size (some ⟨gb, 0, none⟩) lb
  gr : w0.grownBy W (some N)
  hN : N < w0.heap.size
  hb : gb < w0.heap.size
  hne : gb ≠ N
section
variable {w0 W : World} {N : Nat} {a : Option Addr} {len cap : Nat} {zs : List Int} {gb : Nat} {lb : List UInt8}
theorem Ins.start {B n c : Nat} (hd : DX w0 N a len cap zs) (ho : OwnY w0 B (.slice (some ⟨gb, 0, none⟩) n c) lb) (hB : N < B) : Ins w0 w0 N a len cap zs gb lb :=
  ⟨hd, ho.bytAt ho.bd.2.2.2.2, grown_refl _ _, hd.lt, ho.bd.2.2.2.2, by have := ho.bd.2.2.2.1; omega⟩
theorem Ins.drew (h : Ins w0 W N a len cap zs gb lb) : Ins w0 W.drew N a len cap zs gb lb :=
  ⟨h.dx.other (Nat.le_refl _) (fun _ _ => rfl), h.byt, ⟨h.gr.os, h.gr.tape, h.gr.output, h.gr.size, h.gr.block⟩, h.hN, h.hb, h.hne⟩
theorem Ins.alloc (h : Ins w0 W N a len cap zs gb lb) (o : Obj) : Ins w0 (W.alloc o) N a len cap zs gb lb :=
  ⟨h.dx.alloc o, h.byt.below ((Below.refl w0.heap.size W).alloc h.gr.size o) (Nat.le_refl _), grown_alloc h.gr o, h.hN, h.hb, h.hne⟩
theorem Ins.app {W' : World} {B g n c : Nat} {l : List UInt8} (h : Ins w0 W N a len cap zs gb lb) (ho : OwnY W w0.heap.size (.slice (some ⟨g, 0, none⟩) n c) l) (hg : W.grownBy W' (some g)) : Ins w0 W' N a len cap zs gb lb := by
  have hgl := ho.bd.2.2.2.1
  have hb : Below w0.heap.size W W' := ⟨hg.os, hg.tape, hg.output, hg.size, fun k hk => hg.block k (Nat.lt_of_lt_of_le hk h.gr.size) (by simp; omega)⟩
  exact ⟨h.dx.other hg.size (fun k hk => hb.block k (by have := h.hN; omega)), h.byt.below hb (Nat.le_refl _), grown_past h.gr hb, h.hN, h.hb, h.hne⟩
theorem Ins.front (h : Ins w0 W N a len cap zs gb lb) (m : Nat) : Byt W W.heap.size (some ⟨gb, 0, none⟩) (lb.take m) := (h.byt.take m).mono h.gr.size
theorem Ins.back (h : Ins w0 W N a len cap zs gb lb) (m cb : Nat) (hc : lb.length ≤ cb) : Byt W W.heap.size (if cb = m then some ⟨gb, 0, none⟩ else some ⟨gb, m, none⟩) (lb.drop m) := by
  split
  · have e : lb.drop m = [] := List.drop_of_length_le (by omega)
    rw [e]
    exact Byt.nil _ _ _
  · have := (h.byt.drop m).mono h.gr.size
    rw [Nat.zero_add] at this
    exact this
theorem Ins.append {ops : Array Oper} {o : Oper} {b : Act} {K : Act → World → Prop} {Q : Exit → Act → World → Prop} {E : Prop} (hI : Ins w0 W N a len cap zs gb lb) (hg : o.guard = none) (s x : Operand)
    (ho : o.op = .call { callee := .builtin .append, args := #[s, x], argTypes := #[22, 22] })
    (g n c : Nat) (l : List UInt8) (hs : b.eval s = .slice (some ⟨g, 0, none⟩) n c) (hown : OwnY W w0.heap.size (.slice (some ⟨g, 0, none⟩) n c) l)
    (A : Option Addr) (k k' c0 : Nat) (m : List UInt8) (hx : b.eval x = .slice A k c0) (hA : ∃ g0 o0, A = some ⟨g0, o0, none⟩) (hk : m.length = k) (hm : Ins w0 W N a len cap zs gb lb → Byt W W.heap.size A m) (hlen : n + k = k') (hlen2 : k' ≤ 4398046511104)
    (hK : ∀ g' c' w', OwnY w' w0.heap.size (.slice (some ⟨g', 0, none⟩) k' c') (l ++ m) → Ins w0 w' N a len cap zs gb lb → W.grownBy w' (some g) → K (b.put o.dst (.slice (some ⟨g', 0, none⟩) k' c')) w') :
    if Region.wanted o (yielded ops b.tmps) = true then Oper.wp Tryz.prog o b W K Q else E :=
  step_append_byts hg s x ho w0.heap.size g n c l hs hown A k k' c0 m hx hA hk (hm hI) hlen hlen2 hI.gr.size (fun g' c' w' h1 h2 => hK g' c' w' h1 (hI.app (B := 0) hown h2) h2)
theorem Ins.int (h : Ins w0 W N a len cap zs gb lb) (ss : List Int) (C : Array Value) (T : TypeId) (n b : Nat) (hb : w0.heap.size ≤ b) (hC : C = (ss.map (Value.int .i64)).toArray) (hn : ss.length = n) (h0 : 0 < n) (h1 : n ≤ 256) (hz : ∀ s ∈ ss, 0 ≤ s ∧ s ≤ 255)
    (hls : W.heap[b]? = some (.cells C T)) :
    Calls Tryz.prog 48 #[.pointer (some ⟨N, 0, none⟩), .slice (some ⟨b, 0, none⟩) n n] W fun e w' => (∃ s : UInt8, e = .returned (.int .i64 s.toNat)) ∧ Ins w0 w' N a len cap zs gb lb ∧ W.grownBy w' (some N) := by
  obtain ⟨cu, hd⟩ := h.dx
  have hN := h.hN
  refine (l1Int_any N b a len cap n zs ss cu W hd.cur hd.code hd.bN hd.hlen h0 h1 (by omega) ?_).mono ?_
  · subst hC hn
    intro j hj
    simp [World.cell?, hls, List.getD_eq_getElem?_getD, List.getElem?_eq_getElem hj]
  · rintro e w1 ⟨rfl, hc1, hg1⟩
    refine ⟨?_, ⟨⟨_, hd.grown hg1 hc1⟩, ?_, grown_trans h.gr hg1, hN, h.hb, h.hne⟩, hg1⟩
    · have hx := getD_mem ss (pick zs len cu n) 0 (fun s => 0 ≤ s ∧ s ≤ 255) hz (by decide)
      refine ⟨UInt8.ofNat (ss.getD (pick zs len cu n) 0).toNat, ?_⟩
      rw [UInt8.toNat_ofNat_of_lt' (by show _ < 256; omega), Int.toNat_of_nonneg hx.1]
    · intro h0
      obtain ⟨b', o, e, hbB, hc⟩ := h.byt h0
      cases e
      exact ⟨_, _, rfl, hbB, fun j hj => (World.cell?_of_block (a := ⟨gb, 0 + j, none⟩) (hg1.block gb (Nat.lt_of_lt_of_le h.hb h.gr.size) (by simp; exact h.hne))).trans (hc j hj)⟩
end
theorem tail_some (gb m cb : Nat) : ∃ g0 o0, (if cb = m then some (⟨gb, 0, none⟩ : Addr) else some ⟨gb, m, none⟩) = some ⟨g0, o0, none⟩ := by
  split
  · exact ⟨_, _, rfl⟩
  · exact ⟨_, _, rfl⟩
theorem heap_first (w : World) (o p : Obj) : ((w.alloc o).alloc p).heap[w.heap.size]? = some o :=
  (((Below.refl (w.alloc o).heap.size (w.alloc o)).alloc (Nat.le_refl _) p).block w.heap.size (by simp)).trans (heap_alloc_new w o)
theorem heap_second (w : World) (o p : Obj) : ((w.alloc o).alloc p).heap[w.heap.size + 1]? = some p := by
  have h := heap_alloc_new (w.alloc o) p
  have e : (w.alloc o).heap.size = w.heap.size + 1 := by simp
  rw [e] at h
  exact h
theorem byt_one (W : World) (x : UInt8) : Byt (W.alloc (Obj.cells #[.int .u8 x.toNat] 5)) (W.alloc (Obj.cells #[.int .u8 x.toNat] 5)).heap.size (some ⟨W.heap.size, 0, none⟩) [x] := fun _ =>
  ⟨_, _, rfl, by simp, fun j hj => by
    have : j = 0 := by simp at hj; omega
    subst this
    simp⟩
theorem wrap_u8 (x : UInt8) : IntKind.u8.wrap (x.toNat : Int) = x.toNat := by
  have := x.toNat_lt
  rw [IntKind.wrap_u8]; omega
theorem OwnY.drew {w : World} {B : Nat} {v : Value} {l : List UInt8} (h : OwnY w B v l) : OwnY w.drew B v l := h
theorem OwnY.alloc {w : World} {B : Nat} {v : Value} {l : List UInt8} (h : OwnY w B v l) (o : Obj) : OwnY (w.alloc o) B v l := h.next ((Below.refl _ _).alloc (Nat.le_refl _) o)
end Go.Proofs.YtanebchmeaomgaaGreatDoor
