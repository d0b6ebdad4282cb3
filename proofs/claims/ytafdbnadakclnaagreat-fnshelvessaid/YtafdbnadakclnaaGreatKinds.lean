/-
  A cursor, wherever it stands: what is drawn by it, and that all else stays.
  What spec.l1Once does.
  'append([]impl.Prop{}, l...)' of whatever slice of what is known.
  Rows of what is known that the call itself made: one more behind, and what they hold.
  Plain facts on the order of texts and of lists of texts: no program in sight.
  Plain facts on bytes, their kinds, and texts of them: no program in sight.
  Plain facts on small names: no program in sight.
  Which lists of what is known are right: no program in sight.
  What is known by its space and its name, and how sets turn it: no program in sight.
  Slices of sets: what they hold, and that it stays.
  Two answers that are the same.
  What the program's calls on kinds of bytes do: isOf, isOneOf: each computes, and turns nothing in memory.
-/
import Derived.Test.YtafdbnadakclnaaGreatDrawC
import Derived.Laws.OwnMore
import GoSem.Op.String
import Derived.Test.YtafdbnadakclnaaGreatRows
import Derived.WalkKit
import Derived.WalkSpells
import Derived.WalkLawsBesides
import Derived.Deep.Light
namespace Go.Proofs.YtafdbnadakclnaaGreat
open Go.RowKit M
set_option linter.unusedVariables false

/-- A cursor in block N, wherever it stands. -/
def DX (w : World) (N : Nat) (a : Option Addr) (len cap : Nat) (zs : List Int) : Prop := ∃ c, DC w N a len cap zs c

theorem DX.alloc {w : World} {N : Nat} {a : Option Addr} {len cap : Nat} {zs : List Int} (h : DX w N a len cap zs) (o : Obj) : DX (w.alloc o) N a len cap zs := by
  obtain ⟨c, h⟩ := h; exact ⟨c, h.alloc o⟩

theorem l1BelowX {w : World} {N : Nat} {a : Option Addr} {len cap : Nat} {zs : List Int} (h : DX w N a len cap zs) (n : Int) (hn : 0 < n) (hn2 : n ≤ 1000000) :
    Calls Tryz.prog 83 #[.pointer (some ⟨N, 0, none⟩), .int .i64 n] w fun e w' => (∃ k : Nat, e = .returned (.int .i64 k) ∧ (k : Int) < n) ∧ DX w' N a len cap zs ∧ w.grownBy w' (some N) := by
  obtain ⟨c, h⟩ := h
  refine (l1Below_any N a len cap zs c n w h.cur h.code h.bN h.hlen hn hn2).mono ?_
  rintro e w1 ⟨rfl, hc1, hg1⟩
  have hb := belowV_bd zs len c n hn
  exact ⟨⟨(belowV zs len c n).toNat, by rw [Int.toNat_of_nonneg hb.1], by rw [Int.toNat_of_nonneg hb.1]; exact hb.2⟩, ⟨_, h.grown hg1 hc1⟩, hg1⟩

/-- The cursor stands where another row of the call's own has grown. -/
theorem DX.other {w w' : World} {N : Nat} {a : Option Addr} {len cap : Nat} {zs : List Int} (h : DX w N a len cap zs) (hs : w.heap.size ≤ w'.heap.size) (hk : ∀ k, k ≤ N → w'.heap[k]? = w.heap[k]?) : DX w' N a len cap zs := by
  obtain ⟨c, h⟩ := h
  have hc : ∀ p : Addr, p.block ≤ N → w'.cell? p = w.cell? p := fun p hp => World.cell?_of_block (w := w) (hk p.block hp)
  have hf : ∀ p : Addr, p.block ≤ N → w'.frozen? p = w.frozen? p := fun p hp => World.frozen?_of_block (w := w) (hk p.block hp)
  refine ⟨c, ⟨⟨?_, ?_, ?_, ?_, ?_⟩, ?_, h.bN, h.hlen, Nat.lt_of_lt_of_le h.lt hs⟩⟩
  · rw [hc _ (Nat.le_refl _)]; exact h.cur.c0
  · rw [hc _ (Nat.le_refl _)]; exact h.cur.c1
  · rw [hc _ (Nat.le_refl _)]; exact h.cur.c2
  · rw [hf _ (Nat.le_refl _)]; exact h.cur.f1
  · rw [hf _ (Nat.le_refl _)]; exact h.cur.f2
  · refine ⟨h.code.le, h.code.bd, fun h0 => ?_⟩
    obtain ⟨b, off, e, hcc⟩ := h.code.at0 h0
    have hb := h.bN h0 b off e
    exact ⟨b, off, e, fun j hj => by rw [hc ⟨b, off + j, none⟩ (by show b ≤ N; omega)]; exact hcc j hj⟩

theorem grown_past {w w1 w2 : World} {r : Option Nat} (h : w.grownBy w1 r) (hb : Below w.heap.size w1 w2) : w.grownBy w2 r :=
  ⟨hb.os.trans h.os, hb.tape.trans h.tape, hb.output.trans h.output, Nat.le_trans h.size hb.size, fun k hk hne => (hb.block k hk).trans (h.block k hk hne)⟩

theorem strNewX {w : World} {N : Nat} {a : Option Addr} {len cap : Nat} {zs : List Int} (h : DX w N a len cap zs) (ss : List ByteArray) (C : Array Value) (T : TypeId) (n M : Nat) (hM : M = w.heap.size) (hC : C = (ss.map Value.string).toArray) (hn : ss.length = n) (h0 : 0 < n) (h1 : n ≤ 256) (hz : ∀ s ∈ ss, s.size ≤ 20) :
    Calls Tryz.prog 82 #[.pointer (some ⟨N, 0, none⟩), .slice (some ⟨M, 0, none⟩) n n] (w.alloc (.cells C T)) fun e w' => (∃ s : ByteArray, e = .returned (.string s) ∧ s.size ≤ 20) ∧ DX w' N a len cap zs ∧ w.grownBy w' (some N) := by
  obtain ⟨c, h⟩ := h
  refine (strNew h ss C T n M hM hC hn h0 h1).mono ?_
  rintro e w1 ⟨rfl, hd, hg⟩
  exact ⟨⟨_, rfl, getD_mem ss _ _ (fun s => s.size ≤ 20) hz (by decide)⟩, ⟨_, hd⟩, hg⟩

theorem DX.lt {w : World} {N : Nat} {a : Option Addr} {len cap : Nat} {zs : List Int} (h : DX w N a len cap zs) : N < w.heap.size := by obtain ⟨c, h⟩ := h; exact h.lt

theorem newDX {w : World} {B : Nat} {a : Option Addr} {len : Nat} {zs : List Int} (h : CodeIn w B a len zs) (cap : Nat) :
    Calls Tryz.prog 52 #[.slice a len cap] w fun e w' => e = .returned (.pointer (some ⟨w.heap.size, 0, none⟩)) ∧ DX w' w.heap.size a len cap zs ∧ Below w.heap.size w w' := by
  refine (newDC h cap).mono ?_
  rintro e w1 ⟨rfl, hd, hb⟩
  exact ⟨rfl, ⟨_, hd⟩, hb⟩
end Go.Proofs.YtafdbnadakclnaaGreat
namespace Go.Proofs.YtafdbnadakclnaaGreat
open Go.RowKit M

set_option maxHeartbeats 400000 in
theorem l1Once_any (N : Nat) (a : Option Addr) (len cap : Nat) (zs : List Int) (c : St) (n : Int) (w : World) (hc : Cur w N (.slice a len cap) c) (hd : CodeAt w a len zs) (hbN : 0 < len → ∀ b off, a = some ⟨b, off, none⟩ → b < N) (hlen : len ≤ 1048576) (hn : 0 < n) (hn2 : n ≤ 1000000) :
    Calls Tryz.prog 78 #[.pointer (some ⟨N, 0, none⟩), .int .i64 n] w fun e w' => e = .returned (.bool (belowV zs len c n == 0)) ∧ Cur w' N (.slice a len cap) (belowS len c n) ∧ w.grownBy w' (some N) := by
  have HB : Hid (∀ W, Cur W N (.slice a len cap) c → CodeAt W a len zs → Calls Tryz.prog 83 #[.pointer (some ⟨N, 0, none⟩), .int .i64 n] W fun e w' => e = .returned (.int .i64 (belowV zs len c n)) ∧ Cur w' N (.slice a len cap) (belowS len c n) ∧ W.grownBy w' (some N)) :=
    fun W h1 h2 => l1Below_any N a len cap zs c n W h1 h2 hbN hlen hn hn2
  have HC : Hid (Cur w N (.slice a len cap) c) := hc
  have HD : Hid (CodeAt w a len zs) := hd
  clear hbN hc hd
  generalize belowV zs len c n = v at *
  go_enter Tryz.func78, Tryz.ntmps78
  go_wp2_with (go_at_call 83; refine (HB.out _ HC.out HD.out).mono ?_; rintro e w1 ⟨rfl, hc1, hg1⟩)
  go_ret
  exact ⟨rfl, hc1, hg1⟩
end Go.Proofs.YtafdbnadakclnaaGreat
namespace Go.Proofs.YtafdbnadakclnaaGreat
open Go.RowKit M
set_option linter.unusedVariables false

def ppCells (ps : List Pp) : List Value := ps.flatMap fun p => [.string p.1, .string p.2.1, .string p.2.2]
theorem ppCells_length (ps : List Pp) : (ppCells ps).length = ps.length * 3 := by
  induction ps with
  | nil => rfl
  | cons t l ih => simp only [ppCells, List.flatMap_cons, List.length_append, List.length_cons] at *; rw [ih]; simp only [List.length_nil]; omega
theorem ppCells_at (ps : List Pp) : ∀ j (hj : j < ps.length), (ppCells ps)[j * 3]? = some (.string ps[j].1) ∧ (ppCells ps)[j * 3 + 1]? = some (.string ps[j].2.1) ∧ (ppCells ps)[j * 3 + 2]? = some (.string ps[j].2.2) := by
  induction ps with
  | nil => intro j hj; exact absurd hj (Nat.not_lt_zero _)
  | cons t l ih =>
    intro j hj
    have e : ppCells (t :: l) = [.string t.1, .string t.2.1, .string t.2.2] ++ ppCells l := by simp [ppCells]
    rw [e]
    match j, hj with
    | 0, _ => simp
    | j + 1, hj =>
      have h1 := ih j (by simpa using hj)
      have hl : ([.string t.1, .string t.2.1, .string t.2.2] : List Value).length = 3 := rfl
      rw [List.getElem?_append_right (by rw [hl]; omega), List.getElem?_append_right (by rw [hl]; omega), List.getElem?_append_right (by rw [hl]; omega), hl]
      rw [show (j + 1) * 3 - 3 = j * 3 by omega, show (j + 1) * 3 + 1 - 3 = j * 3 + 1 by omega, show (j + 1) * 3 + 2 - 3 = j * 3 + 2 by omega]
      simpa using h1
theorem frozenP {w : World} {g : Nat} {cur : Array Value} {e : TypeId} (hh : w.heap[g]? = some (.cells cur e (0, 0))) (i : Nat) : w.frozen? ⟨g, i, none⟩ = false := by
  simp only [World.frozen?, hh, Bool.and_eq_false_iff, decide_eq_false_iff_not]
  right
  omega
theorem below_grownP {w w' : World} {B n : Nat} {v : Value} {xs : List Value} (hown : w.ownsRow B 87 3 v n xs) (hB : B ≤ w.heap.size) (hg : w.grownBy w' v.ownBlock) : Below B w w' :=
  ⟨hg.os, hg.tape, hg.output, hg.size, fun k hk => hg.block k (by omega) (fun e => by have := (World.ownsRow.lt hown k e.symm).1; omega)⟩
theorem owns_rowP {w : World} {B g n cap : Nat} {ps : List Pp} (h : w.ownsRow B 87 3 (.slice (some ⟨g, 0, none⟩) n cap) n (ppCells ps)) (hn : ps.length = n) : RowP w g ps ∧ B ≤ g ∧ n ≤ cap ∧ cap ≤ maxLen := by
  subst hn
  have hlt := h.lt g rfl
  rcases h.2 with ⟨e, _⟩ | ⟨g', cap', cur, hv, hB, hh, h1, h2, _⟩
  · cases e
  · cases hv
    refine ⟨⟨hlt.2, fun j hj => ?_, fun i => frozenP hh i⟩, hlt.1, h1, h2⟩
    obtain ⟨c0, c1, c2⟩ := ppCells_at ps j hj
    have hl := ppCells_length ps
    refine ⟨?_, ?_, ?_⟩
    · rw [h.cellAt (j * 3) (by omega)]; exact c0
    · rw [h.cellAt (j * 3 + 1) (by omega)]; exact c1
    · rw [h.cellAt (j * 3 + 2) (by omega)]; exact c2

/-- The same, in a new row. -/
theorem wp_append_props {w : World} {ops : Array Oper} {rest : List Oper} {o : Oper} {a : Act} {Q : Exit → Act → World → Prop} (hgd : o.guard = none) (s x : Operand)
    (ho : o.op = .call { callee := .builtin .append, args := #[s, x], argTypes := #[33, 33] })
    (B g0 : Nat) (l : List Pp) (n : Nat) (hn : n = l.length) (hs : a.eval s = .slice (some ⟨g0, 0, none⟩) 0 0) (hown : w.ownsRow B 87 3 (.slice (some ⟨g0, 0, none⟩) 0 0) 0 [])
    (C : Nat) (pa : Option Addr) (pc : Nat) (hx : a.eval x = .slice pa n pc) (hst : Pps w C pa l) (hpn : pa = none → pc = 0) (hlen : n ≤ 1048576) (hB : B ≤ w.heap.size)
    (h : ∀ g cap w', RowP w' g l → B ≤ g → n ≤ cap → cap ≤ maxLen → Below B w w' → wpList Tryz.prog ops Q rest (a.put o.dst (.slice (some ⟨g, 0, none⟩) n cap)) w') : wpList Tryz.prog ops Q (o :: rest) a w := by
  obtain ⟨i0, hi, hz0, hz1, hz2⟩ := info_parts info_prop
  cases pa with
  | none =>
    have h0 : n = 0 := by
      rw [hn]
      by_cases e : 0 < l.length
      · obtain ⟨_, _, e', _⟩ := hst e; cases e'
      · omega
    have hl : l = [] := List.length_eq_zero_iff.1 (by omega)
    subst hl h0
    rw [hpn rfl] at hx
    have hr := run_append_owned_none (P := Tryz.prog) (w := w) B 33 o.type 87 i0 3 Tryz.underlying33 hi _ _ _ hown
    refine wpList_plain hgd fun K hK => ?_
    unfold Oper.wp execOp
    simp only [ho, resolve, invoke, builtin, Sem.run_bind, Sem.run_pure, Result.andThen_ok, List.map_toArray, List.map_cons, List.map_nil, hs, hx, hr]
    obtain ⟨r1, r2, r3, r4⟩ := owns_rowP (ps := []) (n := 0) hown rfl
    exact hK _ _ (h g0 0 w r1 r2 r3 r4 (Below.refl _ _))
  | some ad =>
    refine wpList_append_own w hgd s x 33 ho B 87 i0 _ 3 48 Tryz.underlying33 hi hz0 hz1 hz2 rfl (by decide) _ 0 _ hs hown ad n pc (ppCells l) hx (by rw [ppCells_length, hn]) ?_ ?_ ?_ ?_ hB ?_
    · intro j u hj
      have hjl : j < l.length * 3 := by have := (List.getElem?_eq_some_iff.1 hj).1; rwa [ppCells_length] at this
      obtain ⟨b, o', e, _, hc⟩ := hst (by omega)
      have e' : ad = ⟨b, o', none⟩ := by cases e; rfl
      subst e'
      have e2 : (⟨b, o', none⟩ : Addr).add j = ⟨b, o' + j, none⟩ := by unfold Addr.add; split <;> simp_all
      rw [e2]
      obtain ⟨d0, d1, d2⟩ := hc (j / 3) (by omega)
      obtain ⟨c0, c1, c2⟩ := ppCells_at l (j / 3) (by omega)
      have e3 : j = j / 3 * 3 ∨ j = j / 3 * 3 + 1 ∨ j = j / 3 * 3 + 2 := by omega
      rcases e3 with e3 | e3 | e3
      · rw [← e3] at c0 d0; rw [d0, ← c0]; exact hj
      · rw [← e3] at c1; rw [show o' + j = o' + j / 3 * 3 + 1 by omega, d1, ← c1]; exact hj
      · rw [← e3] at c2; rw [show o' + j = o' + j / 3 * 3 + 2 by omega, d2, ← c2]; exact hj
    · intro u hu
      unfold ppCells at hu
      obtain ⟨y, _, hy⟩ := List.mem_flatMap.1 hu
      simp only [List.mem_cons, List.not_mem_nil, or_false] at hy
      rcases hy with rfl | rfl | rfl <;> rfl
    · unfold maxLen; omega
    · omega
    · intro v' w' ho' hg hnn
      rw [Nat.zero_add] at ho'
      obtain ⟨g, cap, rfl⟩ : ∃ g cap, v' = .slice (some ⟨g, 0, none⟩) n cap := by
        rcases ho'.2 with ⟨e, h0⟩ | ⟨g, cap, cur, hv, _⟩
        · have := (hnn.1 e).1; cases this
        · exact ⟨g, cap, hv⟩
      have ho2 : w'.ownsRow B 87 3 (.slice (some ⟨g, 0, none⟩) n cap) n (ppCells l) := ho'
      obtain ⟨r1, r2, r3, r4⟩ := owns_rowP ho2 hn.symm
      exact h g cap w' r1 r2 r3 r4 (below_grownP hown hB hg)
end Go.Proofs.YtafdbnadakclnaaGreat
namespace Go.Proofs.YtafdbnadakclnaaGreat
open Go.RowKit M
set_option linter.unusedVariables false

theorem ppCells_append (ps ts : List Pp) : ppCells (ps ++ ts) = ppCells ps ++ ppCells ts := by simp [ppCells]
/-- A row that the call owns, or nil. -/
def OwnQ (w : World) (B : Nat) (v : Value) (ps : List Pp) : Prop := w.ownsRow B 87 3 v ps.length (ppCells ps)
theorem OwnQ.made (w : World) (B : Nat) (hB : B ≤ w.heap.size) : OwnQ (w.alloc (Obj.cells #[] 87)) B (.slice (some ⟨w.heap.size, 0, none⟩) 0 0) [] :=
  ⟨rfl, .inr ⟨w.heap.size, 0, #[], rfl, hB, heap_alloc_new w _, Nat.le_refl _, Nat.zero_le _, rfl, rfl⟩⟩
theorem OwnQ.nil (w : World) (B : Nat) : OwnQ w B (.slice none 0 0) [] := ⟨rfl, .inl ⟨rfl, rfl⟩⟩
theorem OwnQ.alloc {w : World} {B : Nat} {v : Value} {ps : List Pp} (h : OwnQ w B v ps) (o : Obj) : OwnQ (w.alloc o) B v ps := World.ownsRow.alloc h o
theorem OwnQ.next {w w' : World} {B : Nat} {v : Value} {ps : List Pp} (h : OwnQ w B v ps) (hb : Below w.heap.size w w') : OwnQ w' B v ps :=
  World.ownsRow.kept (row := none) h ⟨hb.os, hb.tape, hb.output, hb.size, fun k hk _ => hb.block k hk⟩ (Classical.em _)
theorem OwnQ.slice {w : World} {B : Nat} {v : Value} {ps : List Pp} (h : OwnQ w B v ps) : ∃ a cap, v = .slice a ps.length cap ∧ (a = none → cap = 0) ∧ Pps w w.heap.size a ps ∧ cap ≤ maxLen := by
  rcases h.2 with ⟨e, h0⟩ | ⟨g, cap, cur, hv, hB, hh, h1, h2, _⟩
  · have hl : ps = [] := List.length_eq_zero_iff.1 h0
    subst hl
    exact ⟨none, 0, e, fun _ => rfl, Pps.nil _ _ _, Nat.zero_le _⟩
  · subst hv
    refine ⟨some ⟨g, 0, none⟩, cap, rfl, (fun e => by cases e), fun h0 => ⟨g, 0, rfl, (World.ownsRow.lt h g rfl).2, fun j hj => ?_⟩, h2⟩
    obtain ⟨c0, c1, c2⟩ := ppCells_at ps j hj
    have hl := ppCells_length ps
    rw [Nat.zero_add]
    refine ⟨?_, ?_, ?_⟩
    · rw [World.ownsRow.cellAt h (j * 3) (by omega)]; exact c0
    · rw [World.ownsRow.cellAt h (j * 3 + 1) (by omega)]; exact c1
    · rw [World.ownsRow.cellAt h (j * 3 + 2) (by omega)]; exact c2
theorem OwnQ.base {w : World} {B C : Nat} {v : Value} {ps : List Pp} (h : OwnQ w B v ps) (hC : C ≤ B) : OwnQ w C v ps := by
  refine ⟨h.1, ?_⟩
  rcases h.2 with h | ⟨g, cap, cur, e, hB, hr⟩
  · exact .inl h
  · exact .inr ⟨g, cap, cur, e, Nat.le_trans hC hB, hr⟩
/-- A row with an address. -/
theorem OwnQ.row {w : World} {B : Nat} {g n cap : Nat} {ps : List Pp} (h : OwnQ w B (.slice (some ⟨g, 0, none⟩) n cap) ps) (hn : n = ps.length) : RowP w g ps ∧ B ≤ g ∧ n ≤ cap ∧ cap ≤ maxLen := by
  subst hn
  exact owns_rowP h rfl

/-- 'l = append(l, p)' on a row that the call owns. -/
theorem wp_append_prop {w : World} {ops : Array Oper} {rest : List Oper} {o : Oper} {a : Act} {Q : Exit → Act → World → Prop} (hgd : o.guard = none) (s x : Operand)
    (ho : o.op = .call { callee := .builtin .append, args := #[s, x], argTypes := #[33, 33] })
    (B : Nat) (v : Value) (l : List Pp) (hs : a.eval s = v) (hown : OwnQ w B v l)
    (N : Nat) (c : Pp) (hx : a.eval x = .slice (some ⟨N, 0, none⟩) 1 1) (hc0 : w.cell? ⟨N, 0, none⟩ = some (.string c.1)) (hc1 : w.cell? ⟨N, 1, none⟩ = some (.string c.2.1)) (hc2 : w.cell? ⟨N, 2, none⟩ = some (.string c.2.2)) (hlen : l.length + 1 ≤ 1099511627776) (hB : B ≤ w.heap.size)
    (h : ∀ g n cap w', n = (l ++ [c]).length → OwnQ w' B (.slice (some ⟨g, 0, none⟩) n cap) (l ++ [c]) → Below B w w' → wpList Tryz.prog ops Q rest (a.put o.dst (.slice (some ⟨g, 0, none⟩) n cap)) w') : wpList Tryz.prog ops Q (o :: rest) a w := by
  obtain ⟨i0, hi, hz0, hz1, hz2⟩ := info_parts info_prop
  refine wpList_append_own w hgd s x 33 ho B 87 i0 _ 3 48 Tryz.underlying33 hi hz0 hz1 hz2 rfl (by decide) v l.length _ hs hown ⟨N, 0, none⟩ 1 1 [.string c.1, .string c.2.1, .string c.2.2] hx rfl ?_ ?_ ?_ ?_ hB ?_
  · intro j u hj
    have e : ∀ k, (⟨N, 0, none⟩ : Addr).add k = ⟨N, k, none⟩ := fun k => by unfold Addr.add; split <;> simp_all
    rw [e]
    match j, hj with
    | 0, hj => simp at hj; subst hj; exact hc0
    | 1, hj => simp at hj; subst hj; exact hc1
    | 2, hj => simp at hj; subst hj; exact hc2
  · intro u hu; simp at hu; rcases hu with rfl | rfl | rfl <;> rfl
  · unfold maxLen; omega
  · omega
  · intro v' w' ho' hg _
    obtain ⟨g, cap, rfl⟩ : ∃ g cap, v' = .slice (some ⟨g, 0, none⟩) (l.length + 1) cap := by
      rcases ho'.2 with ⟨_, h0⟩ | ⟨g, cap, cur, hv, _⟩
      · omega
      · exact ⟨g, cap, hv⟩
    refine h g (l.length + 1) cap w' (by simp) ?_ (below_grownP hown hB hg)
    unfold OwnQ
    rw [ppCells_append, show (l ++ [c]).length = l.length + 1 by simp]
    exact ho'

/-- 'append([]impl.Prop{}, l...)', as a row that the call owns. -/
theorem wp_append_propsO {w : World} {ops : Array Oper} {rest : List Oper} {o : Oper} {a : Act} {Q : Exit → Act → World → Prop} (hgd : o.guard = none) (s x : Operand)
    (ho : o.op = .call { callee := .builtin .append, args := #[s, x], argTypes := #[33, 33] })
    (B g0 : Nat) (l : List Pp) (n : Nat) (hn : n = l.length) (hs : a.eval s = .slice (some ⟨g0, 0, none⟩) 0 0) (hown : w.ownsRow B 87 3 (.slice (some ⟨g0, 0, none⟩) 0 0) 0 [])
    (C : Nat) (pa : Option Addr) (pc : Nat) (hx : a.eval x = .slice pa n pc) (hst : Pps w C pa l) (hpn : pa = none → pc = 0) (hlen : n ≤ 1048576000) (hB : B ≤ w.heap.size)
    (h : ∀ g cap w', OwnQ w' B (.slice (some ⟨g, 0, none⟩) n cap) l → Below B w w' → wpList Tryz.prog ops Q rest (a.put o.dst (.slice (some ⟨g, 0, none⟩) n cap)) w') : wpList Tryz.prog ops Q (o :: rest) a w := by
  obtain ⟨i0, hi, hz0, hz1, hz2⟩ := info_parts info_prop
  cases pa with
  | none =>
    have h0 : n = 0 := by
      rw [hn]
      by_cases e : 0 < l.length
      · obtain ⟨_, _, e', _⟩ := hst e; cases e'
      · omega
    have hl : l = [] := List.length_eq_zero_iff.1 (by omega)
    subst hl h0
    rw [hpn rfl] at hx
    have hr := run_append_owned_none (P := Tryz.prog) (w := w) B 33 o.type 87 i0 3 Tryz.underlying33 hi _ _ _ hown
    refine wpList_plain hgd fun K hK => ?_
    unfold Oper.wp execOp
    simp only [ho, resolve, invoke, builtin, Sem.run_bind, Sem.run_pure, Result.andThen_ok, List.map_toArray, List.map_cons, List.map_nil, hs, hx, hr]
    exact hK _ _ (h g0 0 w hown (Below.refl _ _))
  | some ad =>
    refine wpList_append_own w hgd s x 33 ho B 87 i0 _ 3 48 Tryz.underlying33 hi hz0 hz1 hz2 rfl (by decide) _ 0 _ hs hown ad n pc (ppCells l) hx (by rw [ppCells_length, hn]) ?_ ?_ ?_ ?_ hB ?_
    · intro j u hj
      have hjl : j < l.length * 3 := by have := (List.getElem?_eq_some_iff.1 hj).1; rwa [ppCells_length] at this
      obtain ⟨b, o', e, _, hc⟩ := hst (by omega)
      have e' : ad = ⟨b, o', none⟩ := by cases e; rfl
      subst e'
      have e2 : (⟨b, o', none⟩ : Addr).add j = ⟨b, o' + j, none⟩ := by unfold Addr.add; split <;> simp_all
      rw [e2]
      obtain ⟨d0, d1, d2⟩ := hc (j / 3) (by omega)
      obtain ⟨c0, c1, c2⟩ := ppCells_at l (j / 3) (by omega)
      have e3 : j = j / 3 * 3 ∨ j = j / 3 * 3 + 1 ∨ j = j / 3 * 3 + 2 := by omega
      rcases e3 with e3 | e3 | e3
      · rw [← e3] at c0 d0; rw [d0, ← c0]; exact hj
      · rw [← e3] at c1; rw [show o' + j = o' + j / 3 * 3 + 1 by omega, d1, ← c1]; exact hj
      · rw [← e3] at c2; rw [show o' + j = o' + j / 3 * 3 + 2 by omega, d2, ← c2]; exact hj
    · intro u hu
      unfold ppCells at hu
      obtain ⟨y, _, hy⟩ := List.mem_flatMap.1 hu
      simp only [List.mem_cons, List.not_mem_nil, or_false] at hy
      rcases hy with rfl | rfl | rfl <;> rfl
    · unfold maxLen; omega
    · omega
    · intro v' w' ho' hg hnn
      rw [Nat.zero_add] at ho'
      obtain ⟨g, cap, rfl⟩ : ∃ g cap, v' = .slice (some ⟨g, 0, none⟩) n cap := by
        rcases ho'.2 with ⟨e, h0⟩ | ⟨g, cap, cur, hv, _⟩
        · have := (hnn.1 e).1; cases this
        · exact ⟨g, cap, hv⟩
      have ho2 : OwnQ w' B (.slice (some ⟨g, 0, none⟩) n cap) l := by
        unfold OwnQ
        rw [← hn]
        exact ho'
      exact h g cap w' ho2 (below_grownP hown hB hg)
end Go.Proofs.YtafdbnadakclnaaGreat
namespace Go.Proofs.YtafdbnadakclnaaGreat.M

/-- Whether a text comes ahead of another. -/
def lessT (a b : ByteArray) : Bool := Op.bytesLess a.toList b.toList

theorem bytesLess_irr : ∀ l : List UInt8, Op.bytesLess l l = false
  | [] => by simp [Op.bytesLess]
  | a :: l => by
    have := bytesLess_irr l
    simp [Op.bytesLess, this]
theorem lessT_irr (a : ByteArray) : lessT a a = false := bytesLess_irr _

theorem bytesLess_asym : ∀ l r : List UInt8, Op.bytesLess l r = true → Op.bytesLess r l = false
  | [], [], h => by simp [Op.bytesLess] at h
  | [], b :: r, _ => by simp [Op.bytesLess]
  | a :: l, [], h => by simp [Op.bytesLess] at h
  | a :: l, b :: r, h => by
    have ih := bytesLess_asym l r
    simp only [Op.bytesLess, Bool.or_eq_true, Bool.and_eq_true, decide_eq_true_eq, beq_iff_eq, Bool.or_eq_false_iff, decide_eq_false_iff_not, Bool.and_eq_false_iff] at *
    rcases h with h | ⟨rfl, h⟩
    · refine ⟨fun h' => ?_, .inl ?_⟩
      · have h1 : a.toNat < b.toNat := h
        have h2 : b.toNat < a.toNat := h'
        omega
      · rw [beq_eq_false_iff_ne]; rintro rfl; exact absurd h (by have : ¬ b.toNat < b.toNat := Nat.lt_irrefl _; exact this)
    · exact ⟨by have : ¬ a.toNat < a.toNat := Nat.lt_irrefl _; exact this, .inr (ih h)⟩
theorem lessT_asym (a b : ByteArray) (h : lessT a b = true) : lessT b a = false := bytesLess_asym _ _ h

theorem bytesLess_tri : ∀ l r : List UInt8, Op.bytesLess l r = false → Op.bytesLess r l = false → l = r
  | [], [], _, _ => rfl
  | [], b :: r, h, _ => by simp [Op.bytesLess] at h
  | a :: l, [], _, h => by simp [Op.bytesLess] at h
  | a :: l, b :: r, h, h' => by
    have ih := bytesLess_tri l r
    simp only [Op.bytesLess, Bool.or_eq_false_iff, decide_eq_false_iff_not, Bool.and_eq_false_iff] at h h'
    have e : a = b := by
      have h1 : ¬ a.toNat < b.toNat := h.1
      have h2 : ¬ b.toNat < a.toNat := h'.1
      exact UInt8.toNat_inj.1 (by omega)
    subst e
    rcases h.2 with h1 | h1
    · simp at h1
    · rcases h'.2 with h2 | h2
      · simp at h2
      · rw [ih h1 h2]

/-- How two texts stand: -1, 0 or 1. -/
def cmpT (a b : ByteArray) : Int := if lessT a b then -1 else if a = b then 0 else 1
theorem cmpT_same (a : ByteArray) : cmpT a a = 0 := by unfold cmpT; rw [lessT_irr]; simp
theorem cmpT_zero (a b : ByteArray) (h : cmpT a b = 0) : a = b := by
  unfold cmpT at h
  by_cases h1 : lessT a b = true
  · rw [if_pos h1] at h; omega
  · rw [if_neg h1] at h
    by_cases h2 : a = b
    · exact h2
    · rw [if_neg h2] at h; omega
theorem cmpT_neg (a b : ByteArray) : decide (cmpT a b < 0) = lessT a b := by
  unfold cmpT
  cases h : lessT a b
  · by_cases h2 : a = b
    · simp [h2]
    · simp [h2]
  · simp

/-- Whether a list of texts comes ahead of another: text by text, a beginning ahead. -/
def lessL : List ByteArray → List ByteArray → Bool
  | [], [] => false
  | [], _ :: _ => true
  | _ :: _, [] => false
  | x :: a, y :: b => if x = y then lessL a b else lessT x y

theorem lessL_irr : ∀ l, lessL l l = false
  | [] => rfl
  | x :: a => by rw [lessL, if_pos rfl]; exact lessL_irr a
theorem lessL_asym : ∀ a b, lessL a b = true → lessL b a = false
  | [], [], h => by simp [lessL] at h
  | [], _ :: _, _ => by simp [lessL]
  | _ :: _, [], h => by simp [lessL] at h
  | x :: a, y :: b, h => by
    rw [lessL] at h ⊢
    by_cases e : x = y
    · subst e; rw [if_pos rfl] at *; exact lessL_asym a b h
    · rw [if_neg e] at h; rw [if_neg (fun e' => e e'.symm)]; exact lessT_asym _ _ h

theorem lessL_step {a b : List ByteArray} (k : Nat) (h1 : k < a.length) (h2 : k < b.length) (e : a[k] = b[k]) : lessL (a.drop k) (b.drop k) = lessL (a.drop (k + 1)) (b.drop (k + 1)) := by
  rw [List.drop_eq_getElem_cons h1, List.drop_eq_getElem_cons h2, lessL, if_pos e]
theorem lessL_at {a b : List ByteArray} (k : Nat) (h1 : k < a.length) (h2 : k < b.length) (e : ¬ a[k] = b[k]) : lessL (a.drop k) (b.drop k) = lessT a[k] b[k] := by
  rw [List.drop_eq_getElem_cons h1, List.drop_eq_getElem_cons h2, lessL, if_neg e]
theorem lessL_end {a b : List ByteArray} (k : Nat) (h : ¬ (k < a.length ∧ k < b.length)) (ha : k ≤ a.length) (hb : k ≤ b.length) : lessL (a.drop k) (b.drop k) = decide (a.length < b.length) := by
  by_cases h1 : k < a.length
  · have e : k = b.length := by omega
    subst e
    rw [List.drop_eq_getElem_cons h1, List.drop_of_length_le (Nat.le_refl _), lessL]
    have : ¬ a.length < b.length := by omega
    simp [this]
  · have e : k = a.length := by omega
    subst e
    rw [List.drop_of_length_le (Nat.le_refl _)]
    by_cases h2 : a.length < b.length
    · rw [List.drop_eq_getElem_cons h2, lessL]; simp [h2]
    · rw [List.drop_of_length_le (by omega), lessL]; simp [h2]
end Go.Proofs.YtafdbnadakclnaaGreat.M
namespace Go.Proofs.YtafdbnadakclnaaGreat.M

/-- Whether a byte is of a kind, as the document has it. -/
def isB (c k : Int) : Bool :=
  if k = 0 then decide (32 ≤ c) && decide (c ≤ 126)
  else if k = 1 then (c == 32) || (c == 9)
  else if k = 2 then decide (97 ≤ c) && decide (c ≤ 122)
  else if k = 3 then decide (65 ≤ c) && decide (c ≤ 90)
  else if k = 4 then decide (48 ≤ c) && decide (c ≤ 57)
  else if k = 5 then decide (97 ≤ c) && decide (c ≤ 102)
  else if k = 6 then decide (65 ≤ c) && decide (c ≤ 70)
  else if k = 7 then c == 45
  else false

def anyB (c : Int) (ks : List Int) : Bool := ks.any (isB c)
def allB (l : List UInt8) (ks : List Int) : Bool := l.all fun c => anyB (c.toNat : Int) ks

theorem take_snoc (s : ByteArray) (k : Nat) (h : k < s.size) : s.data.toList.take (k + 1) = s.data.toList.take k ++ [s[k]] := by
  rw [List.take_succ_eq_append_getElem (by simpa using h)]; rfl

theorem take_all (s : ByteArray) (k : Nat) (h : ¬ k < s.size) : s.data.toList.take k = s.data.toList := by
  rw [List.take_of_length_le]
  have : s.data.toList.length = s.size := Array.length_toList
  omega

theorem anyB_snoc (c : Int) (ks : List Int) (k : Nat) (h : k < ks.length) (h0 : anyB c (ks.take k) = false) (h1 : isB c ks[k] = false) : anyB c (ks.take (k + 1)) = false := by
  unfold anyB at *
  rw [List.take_succ_eq_append_getElem h, List.any_append, h0]
  simp [h1]

theorem anyB_of (c : Int) (ks : List Int) (k : Nat) (h : k < ks.length) (h1 : isB c ks[k] = true) : anyB c ks = true := by
  unfold anyB
  rw [List.any_eq_true]
  exact ⟨_, List.getElem_mem h, h1⟩

theorem allB_snoc (s : ByteArray) (ks : List Int) (k : Nat) (h : k < s.size) (h0 : allB (s.data.toList.take k) ks = true) (h2 : (!anyB (s[k].toNat : Int) ks) = false) : allB (s.data.toList.take (k + 1)) ks = true := by
  have h1 : anyB (s[k].toNat : Int) ks = true := by simpa using h2
  rw [take_snoc s k h]
  unfold allB at *
  rw [List.all_append, h0]
  simp [h1]

theorem allB_not (s : ByteArray) (ks : List Int) (k : Nat) (h : k < s.size) (h2 : (!anyB (s[k].toNat : Int) ks) = true) : allB s.data.toList ks = false := by
  have h1 : anyB (s[k].toNat : Int) ks = false := by simpa using h2
  have hm : s[k] ∈ s.data.toList := by
    have e : s.data.toList.length = s.size := Array.length_toList
    have h' : k < s.data.toList.length := by omega
    exact List.getElem_mem h'
  unfold allB
  rw [List.all_eq_false]
  exact ⟨_, hm, by simp [h1]⟩

/-- Whether a number lies between two. -/
def inB (x a b : Int) : Bool := decide (a ≤ x) && decide (x ≤ b)
theorem inB_plain (c : Int) : inB c 32 126 = anyB c [0] := by simp [inB, anyB, isB]
theorem inB_small (c : Int) : inB c 97 122 = isB c 2 := by simp [inB, isB]
theorem inB_large (c : Int) : inB c 65 90 = isB c 3 := by simp [inB, isB]
theorem inB_digit (c : Int) : inB c 48 57 = isB c 4 := by simp [inB, isB]
theorem inB_hexs (c : Int) : inB c 97 102 = isB c 5 := by simp [inB, isB]
theorem inB_hexl (c : Int) : inB c 65 70 = isB c 6 := by simp [inB, isB]
theorem anyB_one (c k : Int) : anyB c [k] = isB c k := by simp [anyB]

theorem set_last (pre t : List UInt8) (n : Nat) (h : pre.length = n + 1) (c : UInt8) : ∃ q : List UInt8, q.length = n ∧ (pre ++ t).set n c = q ++ c :: t := by
  refine ⟨pre.take n, by rw [List.length_take]; omega, ?_⟩
  have e : pre = pre.take n ++ [pre[n]] := by
    conv => lhs; rw [← List.take_append_drop n pre]
    rw [List.drop_eq_getElem_cons (by omega), List.drop_of_length_le (by omega)]
  have e2 : pre ++ t = pre.take n ++ (pre[n] :: t) := by
    conv => lhs; rw [e]
    rw [List.append_assoc]; rfl
  have l2 : (pre.take n).length = n := by rw [List.length_take]; omega
  rw [e2, List.set_append_right _ _ (by omega), l2, Nat.sub_self, List.set_cons_zero]

/-- A large letter as a small one. -/
def lowB (c : UInt8) : UInt8 := if isB (c.toNat : Int) 3 then c + 32 else c
def lowL (l : List UInt8) : List UInt8 := l.map lowB

theorem lowB_yes (c : UInt8) (h : isB (c.toNat : Int) 3 = true) : (lowB c).toNat = c.toNat + 32 := by
  have h' : 65 ≤ c.toNat ∧ c.toNat ≤ 90 := by simp [isB] at h; omega
  unfold lowB
  rw [if_pos h, UInt8.toNat_add]
  have : (32 : UInt8).toNat = 32 := rfl
  omega

theorem lowB_no (c : UInt8) (h : isB (c.toNat : Int) 3 = false) : lowB c = c := by
  unfold lowB
  rw [if_neg (by simp [h])]

theorem isB3 {c : Int} (h : isB c 3 = true) : 65 ≤ c ∧ c ≤ 90 := by simp [isB] at h; omega

theorem lowL_snoc (s : ByteArray) (k : Nat) (h : k < s.size) : lowL (s.data.toList.take (k + 1)) = lowL (s.data.toList.take k) ++ [lowB s[k]] := by
  rw [take_snoc s k h]; simp [lowL]

/-- The first k made small, the rest as it was. -/
def mixL (l : List UInt8) (k : Nat) : List UInt8 := lowL (l.take k) ++ l.drop k
theorem mixL_length (l : List UInt8) (k : Nat) : (mixL l k).length = l.length := by
  simp only [mixL, lowL, List.length_append, List.length_map, List.length_take, List.length_drop]; omega
theorem mixL_zero (l : List UInt8) : mixL l 0 = l := by simp [mixL, lowL]
theorem mixL_all (l : List UInt8) (k : Nat) (h : l.length ≤ k) : mixL l k = lowL l := by
  simp [mixL, List.take_of_length_le h, List.drop_of_length_le h]
theorem mixL_get (l : List UInt8) (k : Nat) (h : k < l.length) (h' : k < (mixL l k).length) : (mixL l k)[k] = l[k] := by
  have e : (lowL (l.take k)).length = k := by simp only [lowL, List.length_map, List.length_take]; omega
  simp only [mixL]
  rw [List.getElem_append_right (by omega)]
  simp only [e, Nat.sub_self, List.getElem_drop, Nat.add_zero]
theorem mixL_succ (l : List UInt8) (k : Nat) (h : k < l.length) : mixL l (k + 1) = (mixL l k).set k (lowB l[k]) := by
  have e : (lowL (l.take k)).length = k := by simp only [lowL, List.length_map, List.length_take]; omega
  simp only [mixL]
  rw [List.set_append_right _ _ (by omega), e, Nat.sub_self, List.drop_eq_getElem_cons h, List.set_cons_zero, List.take_succ_eq_append_getElem h]
  simp only [lowL, List.map_append, List.map_cons, List.map_nil, List.append_assoc, List.singleton_append]

end Go.Proofs.YtafdbnadakclnaaGreat.M
namespace Go.Proofs.YtafdbnadakclnaaGreat.M

/-- A small name: a small letter, then small letters, digits and hyphens, at most 20 in all. -/
def smB : List UInt8 → Bool
  | [] => false
  | c :: r => decide ((c :: r).length ≤ 20) && isB (c.toNat : Int) 2 && allB (c :: r) [2, 4, 7]

/-- What the specification asks of the byte at place i. -/
def okAt (i : Nat) (c : Int) : Bool := isB c 2 || (i != 0 && (isB c 4 || c == 45))

theorem anyB_3 (c : Int) : anyB c [2, 4, 7] = (isB c 2 || (isB c 4 || c == 45)) := by
  simp [anyB, isB]

theorem okAt_any {i : Nat} {c : Int} (h : okAt i c = true) : anyB c [2, 4, 7] = true := by
  rw [anyB_3]
  unfold okAt at h
  cases h1 : isB c 2 <;> simp_all

theorem ok1 {k : Nat} {c : Int} (h : isB c 2 = true) : okAt k c = true := by simp [okAt, h]
theorem no2 {k : Nat} {c : Int} (h : ¬ isB c 2 = true) (h1 : k = 0) : okAt k c = false := by simp [okAt, h1]; simpa using h
theorem ok3 {k : Nat} {c : Int} (h1 : ¬ k = 0) (h2 : isB c 4 = true) : okAt k c = true := by simp [okAt, h1, h2]
theorem no4 {k : Nat} {c : Int} (h : ¬ isB c 2 = true) (h1 : ¬ k = 0) (h2 : ¬ isB c 4 = true) (h3 : ((k : Int) == 0) = true ∨ (c != 45) = true) : okAt k c = false := by
  rcases h3 with h3 | h3
  · simp at h3; exact absurd h3 h1
  · simp at h h2 h3; simp [okAt, h, h2, h3]
theorem ok5 {k : Nat} {c : Int} (h1 : ¬ k = 0) (h3 : ((k : Int) == 0) = false ∧ (c != 45) = false) : okAt k c = true := by
  obtain ⟨_, h3⟩ := h3
  simp at h3
  simp [okAt, h1, h3]

theorem smB_notL (l : List UInt8) (k : Nat) (h' : k < l.length) (h1 : okAt k (l[k].toNat : Int) = false) : smB l = false := by
  match l, k, h', h1 with
  | c :: r, 0, h', h1 =>
    have h2 : okAt 0 (c.toNat : Int) = false := h1
    simp [okAt] at h2
    simp [smB, h2]
  | c :: r, k + 1, h', h1 =>
    simp only [List.getElem_cons_succ] at h1
    have h2 : anyB (r[k]'(by simpa using h')).toNat [2, 4, 7] = false := by
      rw [anyB_3]; simpa [okAt] using h1
    have h3 : allB (c :: r) [2, 4, 7] = false := by
      unfold allB
      rw [List.all_eq_false]
      exact ⟨_, List.mem_cons_of_mem _ (List.getElem_mem (by simpa using h')), by simp [h2]⟩
    simp [smB, h3]

theorem smB_not (s : ByteArray) (k : Nat) (h : k < s.size) (h1 : okAt k (s[k].toNat : Int) = false) : smB s.data.toList = false := by
  have e : s.data.toList.length = s.size := Array.length_toList
  exact smB_notL s.data.toList k (by omega) h1

theorem smB_allL (l : List UInt8) (h2 : ∀ i (hi : i < l.length), okAt i (l[i].toNat : Int) = true) : smB l = inB (l.length : Int) 1 20 := by
  match l, h2 with
  | [], _ => simp [smB, inB]
  | c :: r, h2 =>
    have h0 : okAt 0 (c.toNat : Int) = true := h2 0 (by simp)
    have h3 : isB (c.toNat : Int) 2 = true := by simpa [okAt] using h0
    have h4 : allB (c :: r) [2, 4, 7] = true := by
      unfold allB
      rw [List.all_eq_true]
      intro x hx
      obtain ⟨i, hi, rfl⟩ := List.mem_iff_getElem.1 hx
      exact okAt_any (h2 i hi)
    simp only [smB, h3, h4, inB]
    rw [Bool.and_true, Bool.and_true, Bool.eq_iff_iff]
    simp
    omega

theorem smB_all (s : ByteArray) (h : ∀ i (hi : i < s.size), okAt i (s[i].toNat : Int) = true) : smB s.data.toList = inB (s.size : Int) 1 20 := by
  have e : s.data.toList.length = s.size := Array.length_toList
  rw [← e]
  exact smB_allL s.data.toList fun i hi => h i (by omega)

theorem smB_implL (l : List UInt8) (h0 : 0 < l.length) (h1 : l.length ≤ 20) : smB l = (isB (l[0].toNat : Int) 2 && allB l [2, 4, 7]) := by
  match l, h0, h1 with
  | c :: r, h0, h1 =>
    have h1' : r.length + 1 ≤ 20 := by simpa using h1
    show smB (c :: r) = (isB (c.toNat : Int) 2 && allB (c :: r) [2, 4, 7])
    simp [smB, h1']

/-- The program's own way to it. -/
theorem smB_impl (s : ByteArray) (h0 : 0 < s.size) (h1 : s.size ≤ 20) : smB s.data.toList = (isB ((s[0]).toNat : Int) 2 && allB s.data.toList [2, 4, 7]) := by
  have e : s.data.toList.length = s.size := Array.length_toList
  exact smB_implL s.data.toList (by omega) (by omega)

theorem smB_longL (l : List UInt8) (h : l.length < 1 ∨ 20 < l.length) : smB l = false := by
  match l, h with
  | [], _ => rfl
  | c :: r, h =>
    have h' : ¬ r.length + 1 ≤ 20 := by simp at h; omega
    simp [smB, h']

theorem smB_long (s : ByteArray) (h : s.size < 1 ∨ 20 < s.size) : smB s.data.toList = false := by
  have e : s.data.toList.length = s.size := Array.length_toList
  exact smB_longL _ (by omega)

end Go.Proofs.YtafdbnadakclnaaGreat.M
namespace Go.Proofs.YtafdbnadakclnaaGreat.M

def propB (p : Pp) : Bool := decide (p.1.size ≤ 20) && (allB p.1.data.toList [0] && (smB p.2.1.data.toList && (decide (p.2.2.size ≤ 20) && allB p.2.2.data.toList [0])))
def lessP (a b : Pp) : Bool := if a.1 = b.1 then lessT a.2.1 b.2.1 else lessT a.1 b.1
def ascB {α : Type} (f : α → α → Bool) : List α → Bool
  | a :: b :: r => f a b && ascB f (b :: r)
  | _ => true
theorem ascB_not {α : Type} (f : α → α → Bool) : ∀ (l : List α) (i : Nat) (h : i + 1 < l.length), f l[i] l[i + 1] = false → ascB f l = false
  | a :: b :: r, 0, h, e => by
    have e' : f a b = false := e
    rw [ascB, e']; rfl
  | a :: b :: r, i + 1, h, e => by
    rw [ascB, ascB_not f (b :: r) i (by simpa using h) (by simpa using e)]
    simp
theorem ascB_all {α : Type} (f : α → α → Bool) : ∀ (l : List α), (∀ (i : Nat) (h : i + 1 < l.length), f l[i] l[i + 1] = true) → ascB f l = true
  | [], _ => rfl
  | [a], _ => rfl
  | a :: b :: r, h => by
    have h0 : f a b = true := h 0 (by simp)
    rw [ascB, h0, ascB_all f (b :: r) (fun i hi => h (i + 1) (by simpa using hi))]
    rfl
def propsB (ps : List Pp) : Bool := decide (ps.length ≤ 4) && (ps.all propB && ascB lessP ps)
theorem propsB_long {ps : List Pp} (h : ¬ ps.length ≤ 4) : propsB ps = false := by unfold propsB; rw [decide_eq_false h]; rfl
theorem propsB_bad {ps : List Pp} (k : Nat) (h : k < ps.length) (e : propB ps[k] = false) : propsB ps = false := by
  unfold propsB
  have : ps.all propB = false := by
    rw [List.all_eq_false]
    exact ⟨_, List.getElem_mem h, by simp [e]⟩
  rw [this]; simp
theorem propsB_desc {ps : List Pp} (k : Nat) (h : k + 1 < ps.length) (e : lessP ps[k] ps[k + 1] = false) : propsB ps = false := by
  unfold propsB
  rw [ascB_not lessP ps k h e]; simp
theorem propsB_of {ps : List Pp} (h : ∀ j (hj : j < ps.length), propB ps[j] = true) : propsB ps = (decide (ps.length ≤ 4) && ascB lessP ps) := by
  unfold propsB
  have : ps.all propB = true := by
    rw [List.all_eq_true]
    intro p hp
    obtain ⟨j, hj, rfl⟩ := List.mem_iff_getElem.1 hp
    exact h j hj
  rw [this]; simp
/-- The first of two that is not nought. -/
def orI (x y : Int) : Int := if x ≠ 0 then x else y
theorem orI_yes {x y : Int} (h : ¬ x = 0) : orI x y = x := by unfold orI; rw [if_pos h]
theorem orI_no {x y : Int} (h : x = 0) : orI x y = y := by unfold orI; rw [if_neg (by simp [h])]
theorem lessP_cmp (a b : Pp) : decide (orI (cmpT a.1 b.1) (cmpT a.2.1 b.2.1) < 0) = lessP a b := by
  unfold lessP orI
  by_cases e : a.1 = b.1
  · rw [if_pos e, e, cmpT_same, if_neg (by simp)]
    exact cmpT_neg _ _
  · rw [if_neg e, if_pos (fun h => e (cmpT_zero _ _ h))]
    exact cmpT_neg _ _
end Go.Proofs.YtafdbnadakclnaaGreat.M
namespace Go.Proofs.YtafdbnadakclnaaGreat.M

/-- Whether it is of this space and this name. -/
def isP (x y : ByteArray) (p : Pp) : Bool := decide (p.1 = x) && decide (p.2.1 = y)
theorem isP_yes {x y : ByteArray} {p : Pp} (h1 : p.1 = x) (h2 : p.2.1 = y) : isP x y p = true := by simp [isP, h1, h2]
theorem isP_no1 {x y : ByteArray} {p : Pp} (h : ¬ p.1 = x) : isP x y p = false := by simp [isP, h]
theorem isP_no2 {x y : ByteArray} {p : Pp} (h : ¬ p.2.1 = y) : isP x y p = false := by simp [isP, h]
theorem isP_iff {x y : ByteArray} {p : Pp} : isP x y p = true ↔ p.1 = x ∧ p.2.1 = y := by simp [isP]
def knowL (ps : List Pp) (x y : ByteArray) : Option Pp := ps.find? (isP x y)
def valP : Option Pp → ByteArray
  | some p => p.2.2
  | none => ByteArray.empty
theorem know_at {ps : List Pp} {x y : ByteArray} {k : Nat} (hk : k < ps.length) (h : ∀ j (hj : j < ps.length), j < k → isP x y ps[j] = false) (e : isP x y ps[k] = true) : knowL ps x y = some ps[k] := by
  unfold knowL
  rw [List.find?_eq_some_iff_getElem]
  exact ⟨e, k, hk, rfl, fun j hj => by rw [h j (by omega) hj]; rfl⟩
theorem know_none {ps : List Pp} {x y : ByteArray} (h : ∀ j (hj : j < ps.length), isP x y ps[j] = false) : knowL ps x y = none := by
  unfold knowL
  rw [List.find?_eq_none]
  intro p hp
  obtain ⟨j, hj, rfl⟩ := List.mem_iff_getElem.1 hp
  rw [h j hj]; simp
theorem know_next {ps : List Pp} {k : Nat} (hk : k < ps.length) (x y : ByteArray) : knowL (ps.take (k + 1)) x y = (knowL (ps.take k) x y).or (if isP x y ps[k] then some ps[k] else none) := by
  unfold knowL
  rw [List.take_succ_eq_append_getElem hk, List.find?_append]
  congr 1
  simp only [List.find?_cons, List.find?_nil]
  cases isP x y ps[k] <;> simp

/-- A set: whether it is taken, and what. -/
abbrev Sx := Bool × Pp
/-- Of another space or name. -/
def neP (p x : Pp) : Bool := !isP p.1 p.2.1 x
/-- What is known behind one set, from a place on ('d': whether it came, or is not to come). -/
def oneF (d : Bool) (p : Pp) : List Pp → List Pp
  | [] => if d then [] else [p]
  | x :: r => (if d || lessP x p then [] else [p]) ++ ((if neP p x then [x] else []) ++ oneF (d || !lessP x p) p r)
def oneL (l : List Pp) (s : Sx) : List Pp := oneF s.1 s.2 l
theorem less_ne {p x : Pp} (h : lessP x p = true) : neP p x = true := by
  unfold neP
  cases e : isP p.1 p.2.1 x
  · rfl
  · obtain ⟨e1, e2⟩ := isP_iff.1 e
    unfold lessP at h
    rw [if_pos e1, e2, lessT_irr] at h
    cases h
theorem oneF_true (p : Pp) : ∀ l : List Pp, oneF true p l = l.filter (neP p)
  | [] => rfl
  | x :: r => by
    simp only [oneF, Bool.true_or, if_true, List.nil_append, oneF_true p r, List.filter_cons]
    cases neP p x <;> simp
/-- The place ahead of which it comes. -/
def plcL (p : Pp) : List Pp → Nat
  | [] => 0
  | x :: r => if lessP x p then plcL p r + 1 else 0
theorem plc_le (p : Pp) : ∀ l : List Pp, plcL p l ≤ l.length
  | [] => Nat.le_refl _
  | x :: r => by
    unfold plcL
    split
    · have := plc_le p r; simp only [List.length_cons]; omega
    · exact Nat.zero_le _
theorem plc_at (p : Pp) : ∀ (l : List Pp) (k : Nat) (hk : k < l.length), (∀ j (hj : j < l.length), j < k → lessP l[j] p = true) → lessP l[k] p = false → plcL p l = k
  | x :: r, 0, _, _, e => by
    have e' : lessP x p = false := e
    unfold plcL; rw [e']; rfl
  | x :: r, k + 1, hk, h, e => by
    have e0 : lessP x p = true := h 0 (by simp) (by omega)
    unfold plcL
    rw [e0, if_pos rfl, plc_at p r k (by simpa using hk) (fun j hj hjk => by have := h (j + 1) (by simpa using hj) (by omega); simpa using this) (by simpa using e)]
theorem plc_none (p : Pp) : ∀ (l : List Pp), (∀ j (hj : j < l.length), lessP l[j] p = true) → plcL p l = l.length
  | [], _ => rfl
  | x :: r, h => by
    have e0 : lessP x p = true := h 0 (by simp)
    unfold plcL
    rw [e0, if_pos rfl, plc_none p r (fun j hj => by have := h (j + 1) (by simpa using hj); simpa using this)]
    rfl
theorem oneF_plc (p : Pp) (d : Bool) : ∀ l : List Pp, oneF d p l = l.take (plcL p l) ++ ((if d then [] else [p]) ++ (l.drop (plcL p l)).filter (neP p))
  | [] => by cases d <;> simp [oneF, plcL]
  | x :: r => by
    unfold plcL oneF
    cases e : lessP x p
    · simp only [Bool.or_false, Bool.not_false, Bool.or_true, Bool.false_eq_true, if_false, List.take_zero, List.drop_zero, List.nil_append, oneF_true, List.filter_cons]
      cases neP p x <;> simp
    · simp only [Bool.or_true, if_true, List.nil_append, Bool.not_true, Bool.or_false, oneF_plc p d r, less_ne e, List.take_succ_cons, List.drop_succ_cons, List.cons_append]
theorem oneL_eq (l : List Pp) (s : Sx) : oneL l s = l.take (plcL s.2 l) ++ ((if s.1 then [] else [s.2]) ++ (l.drop (plcL s.2 l)).filter (neP s.2)) := oneF_plc s.2 s.1 l
theorem oneF_len (p : Pp) : ∀ (l : List Pp) (d : Bool), (oneF d p l).length ≤ l.length + (if d then 0 else 1)
  | [], d => by cases d <;> simp [oneF]
  | x :: r, d => by
    have h := oneF_len p r (d || !lessP x p)
    have e : (oneF d p (x :: r)).length = (if d || lessP x p then [] else [p]).length + ((if neP p x then [x] else []).length + (oneF (d || !lessP x p) p r).length) := by
      rw [oneF, List.length_append, List.length_append]
    rw [e]
    generalize (oneF (d || !lessP x p) p r).length = n at *
    generalize lessP x p = u at *
    generalize neP p x = v at *
    cases d <;> cases u <;> cases v <;> simp at * <;> omega
theorem oneL_len (l : List Pp) (s : Sx) : (oneL l s).length ≤ l.length + 1 := by
  have := oneF_len s.2 l s.1
  unfold oneL
  split at this <;> omega
theorem oneF_mem (p : Pp) : ∀ (l : List Pp) (d : Bool) (q : Pp), q ∈ oneF d p l → q = p ∨ q ∈ l
  | [], d, q, h => by cases d <;> simp [oneF] at h; exact .inl h
  | x :: r, d, q, h => by
    unfold oneF at h
    rw [List.mem_append, List.mem_append] at h
    rcases h with h | h | h
    · split at h
      · cases h
      · exact .inl (by simpa using h)
    · split at h
      · exact .inr (by simp at h; simp [h])
      · cases h
    · rcases oneF_mem p r _ q h with h | h
      · exact .inl h
      · exact .inr (List.mem_cons_of_mem _ h)
theorem oneL_mem {l : List Pp} {s : Sx} {q : Pp} (h : q ∈ oneL l s) : q = s.2 ∨ q ∈ l := oneF_mem s.2 l s.1 q h
/-- What is known behind all sets. -/
def turnL (l : List Pp) (ss : List Sx) : List Pp := ss.foldl oneL l
theorem turn_next (l : List Pp) (ss : List Sx) (k : Nat) (hk : k < ss.length) : turnL l (ss.take (k + 1)) = oneL (turnL l (ss.take k)) ss[k] := by
  unfold turnL
  rw [List.take_succ_eq_append_getElem hk, List.foldl_append]
  rfl
theorem turn_len (l : List Pp) (ss : List Sx) (k : Nat) : (turnL l (ss.take k)).length ≤ l.length + k := by
  induction k with
  | zero => simp [turnL]
  | succ k ih =>
    by_cases hk : k < ss.length
    · rw [turn_next l ss k hk]
      have := oneL_len (turnL l (ss.take k)) ss[k]
      omega
    · rw [List.take_of_length_le (by omega)]
      rw [List.take_of_length_le (by omega)] at ih
      omega
theorem turn_mem (l : List Pp) (ss : List Sx) (k : Nat) (q : Pp) (h : q ∈ turnL l (ss.take k)) : q ∈ l ∨ ∃ s ∈ ss, q = s.2 := by
  induction k with
  | zero => exact .inl (by simpa [turnL] using h)
  | succ k ih =>
    by_cases hk : k < ss.length
    · rw [turn_next l ss k hk] at h
      rcases oneL_mem h with h | h
      · exact .inr ⟨_, List.getElem_mem hk, h⟩
      · exact ih h
    · rw [List.take_of_length_le (by omega)] at h
      rw [List.take_of_length_le (by omega)] at ih
      exact ih h
def setsB (l : List Pp) (ss : List Sx) : Bool := ss.all (fun s => propB s.2) && propsB (turnL l ss)
def setsL (l : List Pp) (ss : List Sx) : List Pp := if setsB l ss then turnL l ss else l
theorem sets_bad {l : List Pp} {ss : List Sx} (k : Nat) (hk : k < ss.length) (e : propB ss[k].2 = false) : setsB l ss = false ∧ setsL l ss = l := by
  have h : setsB l ss = false := by
    unfold setsB
    have : ss.all (fun s => propB s.2) = false := by
      rw [List.all_eq_false]
      exact ⟨_, List.getElem_mem hk, by simp [e]⟩
    rw [this]; rfl
  exact ⟨h, by unfold setsL; rw [h]; rfl⟩
theorem sets_all {l : List Pp} {ss : List Sx} (h : ∀ j (hj : j < ss.length), propB ss[j].2 = true) : setsB l ss = propsB (turnL l ss) := by
  unfold setsB
  have : ss.all (fun s => propB s.2) = true := by
    rw [List.all_eq_true]
    intro p hp
    obtain ⟨j, hj, rfl⟩ := List.mem_iff_getElem.1 hp
    exact h j hj
  rw [this]; simp
theorem sets_no {l : List Pp} {ss : List Sx} (h : setsB l ss = false) : setsL l ss = l := by unfold setsL; rw [h]; rfl
theorem sets_yes {l : List Pp} {ss : List Sx} (h : setsB l ss = true) : setsL l ss = turnL l ss := by unfold setsL; rw [h]; rfl

def szT (s : Sx) : Nat := szP s.2
def sumT (ss : List Sx) : Nat := (ss.map szT).sum
theorem sumT_snoc (ps : List Sx) (k : Nat) (hk : k < ps.length) : sumT (ps.take (k + 1)) = sumT (ps.take k) + szT ps[k] := by
  unfold sumT
  rw [List.take_succ_eq_append_getElem hk, List.map_append, List.sum_append]
  simp only [List.map_cons, List.map_nil, List.sum_cons, List.sum_nil, Nat.add_zero]
theorem sumT_mem (ps : List Sx) (p : Sx) (h : p ∈ ps) : szT p ≤ sumT ps := by
  induction ps with
  | nil => cases h
  | cons x l ih =>
    simp only [sumT, List.map_cons, List.sum_cons] at *
    rcases List.mem_cons.1 h with rfl | h
    · omega
    · have := ih h; omega
def sameS (ss tt : List Sx) : Bool := decide (ss = tt)
theorem sameS_refl (ss : List Sx) : sameS ss ss = true := by simp [sameS]
theorem sameS_len {ss tt : List Sx} (h : ¬ ss.length = tt.length) : sameS ss tt = false := by
  simp only [sameS, decide_eq_false_iff_not]; intro e; exact h (by rw [e])
theorem sameS_not {ss tt : List Sx} (k : Nat) (h1 : k < ss.length) (h2 : k < tt.length) (h : ¬ ss[k] = tt[k]) : sameS ss tt = false := by
  simp only [sameS, decide_eq_false_iff_not]; intro e; subst e; exact h rfl
theorem sameS_all {ss tt : List Sx} (hl : ss.length = tt.length) (k : Nat) (hk : ¬ k < ss.length) (h : ss.take k = tt.take k) : sameS ss tt = true := by
  rw [List.take_of_length_le (by omega), List.take_of_length_le (by omega)] at h
  simp [sameS, h]
theorem take_sameS {ss tt : List Sx} (k : Nat) (h1 : k < ss.length) (h2 : k < tt.length) (h0 : ss.take k = tt.take k) (h : ss[k] = tt[k]) : ss.take (k + 1) = tt.take (k + 1) := by
  rw [List.take_succ_eq_append_getElem h1, List.take_succ_eq_append_getElem h2, h0, h]
end Go.Proofs.YtafdbnadakclnaaGreat.M
namespace Go.Proofs.YtafdbnadakclnaaGreat
open Go.RowKit M

/-- One of them, at a place. -/
def StAt (w : World) (b o : Nat) (p : Sx) : Prop := w.cell? ⟨b, o, none⟩ = some (.bool p.1) ∧ w.cell? ⟨b, o + 1, none⟩ = some (.string p.2.1) ∧ w.cell? ⟨b, o + 2, none⟩ = some (.string p.2.2.1) ∧ w.cell? ⟨b, o + 3, none⟩ = some (.string p.2.2.2)
/-- What a slice of them holds, in a block below B. -/
def Sts (w : World) (B : Nat) (a : Option Addr) (ps : List Sx) : Prop :=
  0 < ps.length → ∃ b o, a = some ⟨b, o, none⟩ ∧ b < B ∧ ∀ j (hj : j < ps.length), StAt w b (o + j * 4) ps[j]

theorem StAt.of {w w' : World} {b o : Nat} {p : Sx} (h : StAt w b o p) (e : ∀ o', w'.cell? ⟨b, o', none⟩ = w.cell? ⟨b, o', none⟩) : StAt w' b o p := by
  unfold StAt at *
  simp only [e]
  exact h
theorem Sts.of {w w' : World} {B : Nat} {a : Option Addr} {ps : List Sx} (h : Sts w B a ps) (e : ∀ b o, b < B → w'.cell? ⟨b, o, none⟩ = w.cell? ⟨b, o, none⟩) : Sts w' B a ps := fun h0 => by
  obtain ⟨b, o, ea, hb, hc⟩ := h h0
  exact ⟨b, o, ea, hb, fun j hj => (hc j hj).of (fun o' => e b o' hb)⟩
theorem Sts.below {w w' : World} {B C : Nat} {a : Option Addr} {ps : List Sx} (h : Sts w B a ps) (hb : Below C w w') (hB : B ≤ C) : Sts w' B a ps :=
  h.of (fun b o hbB => hb.cell (p := ⟨b, o, none⟩) (Nat.lt_of_lt_of_le hbB hB))
theorem Sts.mono {w : World} {B C : Nat} {a : Option Addr} {ps : List Sx} (h : Sts w B a ps) (hB : B ≤ C) : Sts w C a ps := fun h0 => by
  obtain ⟨b, o, e, hbB, hc⟩ := h h0
  exact ⟨b, o, e, Nat.lt_of_lt_of_le hbB hB, hc⟩
theorem Sts.nil (w : World) (B : Nat) (a : Option Addr) : Sts w B a [] := fun h => absurd h (Nat.lt_irrefl _)

/-- A row of them in block g, none of them frozen. -/
def RowU (w : World) (g : Nat) (ps : List Sx) : Prop := g < w.heap.size ∧ (∀ j (hj : j < ps.length), StAt w g (j * 4) ps[j]) ∧ ∀ i, w.frozen? ⟨g, i, none⟩ = false
theorem RowU.of {w w' : World} {g : Nat} {ps : List Sx} (h : RowU w g ps) (hz : g < w'.heap.size) (e : ∀ o', w'.cell? ⟨g, o', none⟩ = w.cell? ⟨g, o', none⟩) (f : ∀ o', w'.frozen? ⟨g, o', none⟩ = w.frozen? ⟨g, o', none⟩) : RowU w' g ps :=
  ⟨hz, fun j hj => (h.2.1 j hj).of e, fun i => by rw [f]; exact h.2.2 i⟩
theorem RowU.below {w w' : World} {g : Nat} {ps : List Sx} (h : RowU w g ps) (hb : Below w.heap.size w w') : RowU w' g ps :=
  h.of (Nat.lt_of_lt_of_le h.1 hb.size) (fun o => hb.cell (p := ⟨g, o, none⟩) h.1) (fun o => hb.frozen (p := ⟨g, o, none⟩) h.1)
theorem RowU.sts {w : World} {g C : Nat} {ps : List Sx} (h : RowU w g ps) (hC : g < C) : Sts w C (some ⟨g, 0, none⟩) ps := fun _ =>
  ⟨g, 0, rfl, hC, fun j hj => by rw [Nat.zero_add]; exact h.2.1 j hj⟩

/-- All of them short enough. -/
def ShortSs (ps : List Sx) : Prop := ∀ p ∈ ps, p.2.1.size ≤ maxLen ∧ p.2.2.1.size ≤ maxLen ∧ p.2.2.2.size ≤ maxLen
theorem ShortSs.at {ps : List Sx} (h : ShortSs ps) (k : Nat) (hk : k < ps.length) : (ps[k]).2.1.size ≤ maxLen ∧ (ps[k]).2.2.1.size ≤ maxLen ∧ (ps[k]).2.2.2.size ≤ maxLen := h _ (List.getElem_mem hk)

theorem info_set : (Tryz.prog.info? 120).map (fun i => (i.zero, i.size, i.bytes)) = some (some (.agg #[.bool false, .string ByteArray.empty, .string ByteArray.empty, .string ByteArray.empty]), 4, 56) := by kernel_rfl
theorem run_make_sets (n : Nat) (hn : n ≤ 1048576) (w : World) :
    (Instr.makeSlice 121 (.int .i64 (n : Int)) (.int .i64 (n : Int))).run Tryz.prog w = .ok (.slice (some ⟨w.heap.size, 0, none⟩) n n) (w.alloc (.cells (madeCells #[.bool false, .string ByteArray.empty, .string ByteArray.empty, .string ByteArray.empty] (n * 4)) 120)) := by
  obtain ⟨i, hi, hz, hs, hb⟩ := info_parts info_set
  have hr := run_make (P := Tryz.prog) w 121 120 i _ Tryz.underlying121 hi hz .i64 .i64 n n (by omega) (Int.le_refl _) (by rw [hb]; omega) (by omega)
  simp only [Int.toNat_natCast, hs] at hr
  exact hr

/-- What is made so far of a row of them. -/
def MadeU (w : World) (g : Nat) (ps : List Sx) (k : Nat) : Prop := ∃ F : Nat → Value, w.rowIs g 120 (ps.length * 4) F ∧ ∀ j (hj : j < ps.length), j < k → F (j * 4) = .bool ps[j].1 ∧ F (j * 4 + 1) = .string ps[j].2.1 ∧ F (j * 4 + 2) = .string ps[j].2.2.1 ∧ F (j * 4 + 3) = .string ps[j].2.2.2
theorem MadeU.start (w : World) (ps : List Sx) : MadeU (w.alloc (.cells (madeCells #[.bool false, .string ByteArray.empty, .string ByteArray.empty, .string ByteArray.empty] (ps.length * 4)) 120)) w.heap.size ps 0 := by
  have hr := World.rowIs_alloc w (madeCells #[.bool false, .string ByteArray.empty, .string ByteArray.empty, .string ByteArray.empty] (ps.length * 4)) 120 (fun i => ((madeCells #[.bool false, .string ByteArray.empty, .string ByteArray.empty, .string ByteArray.empty] (ps.length * 4))[i]?).getD (.bool false)) (fun i hi => by rw [Array.getElem?_eq_getElem hi]; rfl)
  rw [size_madeCells] at hr
  exact ⟨_, hr, fun j _ hj => absurd hj (Nat.not_lt_zero _)⟩
theorem MadeU.below {w w1 : World} {g : Nat} {ps : List Sx} {k : Nat} (m : MadeU w g ps k) (hb : Below w.heap.size w w1) : MadeU w1 g ps k := by
  obtain ⟨F, hr, hj⟩ := m
  exact ⟨F, hr.of_block (w' := w1) (hb.block _ hr.lt), hj⟩
theorem MadeU.lt {w : World} {g : Nat} {ps : List Sx} {k : Nat} (m : MadeU w g ps k) : g < w.heap.size := by obtain ⟨F, hr, _⟩ := m; exact hr.lt
theorem MadeU.cells {w : World} {g : Nat} {ps : List Sx} {k : Nat} (m : MadeU w g ps k) (hk : k < ps.length) : ∃ v0 v1 v2 v3, w.cell? ⟨g, k * 4, none⟩ = some v0 ∧ w.cell? ⟨g, k * 4 + 1, none⟩ = some v1 ∧ w.cell? ⟨g, k * 4 + 2, none⟩ = some v2 ∧ w.cell? ⟨g, k * 4 + 3, none⟩ = some v3 ∧ w.frozen? ⟨g, k * 4, none⟩ = false ∧ w.frozen? ⟨g, k * 4 + 1, none⟩ = false ∧ w.frozen? ⟨g, k * 4 + 2, none⟩ = false ∧ w.frozen? ⟨g, k * 4 + 3, none⟩ = false := by
  obtain ⟨F, hr, _⟩ := m
  exact ⟨_, _, _, _, hr.cell (by omega), hr.cell (by omega), hr.cell (by omega), hr.cell (by omega), hr.frozen _, hr.frozen _, hr.frozen _, hr.frozen _⟩
theorem MadeU.next {w : World} {g : Nat} {ps : List Sx} {k : Nat} (m : MadeU w g ps k) (hk : k < ps.length) : MadeU ((((w.setCell ⟨g, k * 4, none⟩ (.bool ps[k].1)).setCell ⟨g, k * 4 + 1, none⟩ (.string ps[k].2.1)).setCell ⟨g, k * 4 + 2, none⟩ (.string ps[k].2.2.1)).setCell ⟨g, k * 4 + 3, none⟩ (.string ps[k].2.2.2)) g ps (k + 1) := by
  obtain ⟨F, hr, hj⟩ := m
  refine ⟨_, (((hr.set (k * 4) (.bool ps[k].1)).set (k * 4 + 1) (.string ps[k].2.1)).set (k * 4 + 2) (.string ps[k].2.2.1)).set (k * 4 + 3) (.string ps[k].2.2.2), fun j hjl hjk => ?_⟩
  by_cases e : j = k
  · subst e
    refine ⟨?_, ?_, ?_, ?_⟩ <;> simp
  · obtain ⟨e0, e1, e2, e3⟩ := hj j hjl (by omega)
    refine ⟨?_, ?_, ?_, ?_⟩
    · simp only [show ¬ j * 4 = k * 4 + 3 by omega, show ¬ j * 4 = k * 4 + 2 by omega, show ¬ j * 4 = k * 4 + 1 by omega, show ¬ j * 4 = k * 4 by omega, if_false]; exact e0
    · simp only [show ¬ j * 4 + 1 = k * 4 + 3 by omega, show ¬ j * 4 + 1 = k * 4 + 2 by omega, show ¬ j * 4 + 1 = k * 4 + 1 by omega, show ¬ j * 4 + 1 = k * 4 by omega, if_false]; exact e1
    · simp only [show ¬ j * 4 + 2 = k * 4 + 3 by omega, show ¬ j * 4 + 2 = k * 4 + 2 by omega, show ¬ j * 4 + 2 = k * 4 + 1 by omega, show ¬ j * 4 + 2 = k * 4 by omega, if_false]; exact e2
    · simp only [show ¬ j * 4 + 3 = k * 4 + 3 by omega, show ¬ j * 4 + 3 = k * 4 + 2 by omega, show ¬ j * 4 + 3 = k * 4 + 1 by omega, show ¬ j * 4 + 3 = k * 4 by omega, if_false]; exact e3
theorem MadeU.done {w : World} {g : Nat} {ps : List Sx} {k : Nat} (m : MadeU w g ps k) (hk : ¬ k < ps.length) : RowU w g ps := by
  obtain ⟨F, hr, hj⟩ := m
  refine ⟨hr.lt, fun j hjl => ?_, fun i => hr.frozen i⟩
  obtain ⟨e0, e1, e2, e3⟩ := hj j hjl (by omega)
  exact ⟨by rw [hr.cell (by omega), e0], by rw [hr.cell (by omega), e1], by rw [hr.cell (by omega), e2], by rw [hr.cell (by omega), e3]⟩
end Go.Proofs.YtafdbnadakclnaaGreat
namespace Go.Proofs.YtafdbnadakclnaaGreat

theorem ret_bool {a b : Bool} (h : a = b) : Ending.returned (.bool a) = .returned (.bool b) := by rw [h]
end Go.Proofs.YtafdbnadakclnaaGreat
namespace Go.Proofs.YtafdbnadakclnaaGreat
open Go.RowKit M

set_option maxHeartbeats 400000 in
theorem isOf_any (c k : Int) (w : World) :
    Calls Tryz.prog 151 #[.int .u8 c, .int .i64 k] w fun e w' => e = .returned (.bool (isB c k)) ∧ w' = w := by
  go_enter Tryz.func151, Tryz.ntmps151
  go_wp2
  all_goals
    go_ret
    refine ⟨ret_bool ?_, rfl⟩
    go_light
    unfold isB
    simp_all
    try omega

set_option maxHeartbeats 400000 in
theorem isOneOf_any (c : Int) (ks : List Int) (n b o cap : Nat) (w : World) (hn : ks.length = n) (hl : ks.length ≤ maxLen)
    (hc : ∀ i, i < ks.length → w.cell? ⟨b, o + i, none⟩ = some (.int .i64 (ks.getD i 0))) :
    Calls Tryz.prog 137 #[.int .u8 c, .slice (some ⟨b, o, none⟩) n cap] w fun e w' => e = .returned (.bool (anyB c ks)) ∧ w' = w := by
  subst hn
  unfold maxLen at hl
  go_enter Tryz.func137, Tryz.ntmps137
  go_wp2
  go_loop [9] (fun i => ∃ k : Nat, k ≤ ks.length ∧ i = .int .i64 k ∧ anyB c (ks.take k) = false) (fun i => ks.length - (intOf i).toNat)
  case atStart => exact ⟨0, Nat.zero_le _, rfl, rfl⟩
  case round =>
    obtain ⟨k, hk, rfl, hn⟩ := hrel
    have HN : Hid (anyB c (ks.take k) = false) := hn; clear hn
    by_cases hlt : k < ks.length
    · have hcx := hc k hlt
      go_wp2_with (go_at_call 151; refine (isOf_any _ _ _).mono ?_; rintro e w' ⟨rfl, rfl⟩)
      · go_ret
        exact ⟨ret_bool (by rw [anyB_of c ks k hlt (by assumption)]), rfl⟩
      · go_round
        case rel => exact ⟨k + 1, by omega, by go_num, anyB_snoc c ks k hlt HN.out (by assumption)⟩
        case measure => simp [intOf]; omega
    · go_wp2
      go_ret
      exact ⟨ret_bool (by rw [← HN.out, List.take_of_length_le (by omega)]), rfl⟩
theorem cells1 (w : World) (a : Int) (T : TypeId) : ∀ i, i < [a].length → (w.alloc (Obj.cells #[.int .i64 a] T)).cell? ⟨w.heap.size, 0 + i, none⟩ = some (.int .i64 ([a].getD i 0)) := by
  intro i hi
  match i, hi with
  | 0, _ => simp

theorem cells3 (w : World) (n : Nat) (a b c : Int) (T : TypeId) (hn : w.heap.size = n) : ∀ i, i < [a, b, c].length → (w.alloc (Obj.cells #[.int .i64 a, .int .i64 b, .int .i64 c] T)).cell? ⟨n, 0 + i, none⟩ = some (.int .i64 ([a, b, c].getD i 0)) := by
  subst hn
  intro i hi
  match i, hi with
  | 0, _ => simp
  | 1, _ => simp
  | 2, _ => simp
end Go.Proofs.YtafdbnadakclnaaGreat
