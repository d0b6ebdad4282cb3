/-
  Locks that are drawn, and a path: spec.DrawTokensAt.
  What FnLocksBent draws: spec.DrawDropLock, spec.DrawLiveLocks.
  Rows that a call makes by append, of whatever elements: each has the same number of cells.
  A row of the call's own stays where another block alone grows.
  The leafs of texts and numbers.
  Rows of numbers that a call makes.
  Tokens that are drawn, and what is asked of lists.
  What FnLocksBent draws: spec.DrawMayTurn.
  Whether two slices of texts hold the same: what slices.Equal[[]string,string] does.
  What the program's Under does.
  What the program's SamePath does.
  What impl.Covers does.
-/
import Derived.Test.YtclnpfpaabmkcabAnyLk
import Derived.Test.YtclnpfpaabmkcabDrawNI
import Derived.Test.YtclnpfpaabmkcabGenPick
import Derived.Test.YtclnpfpaabmkcabTurn
import Derived.Maps.AppendAt
import Derived.WalkKit
import Derived.Deep.OwnRows
import Derived.Test.YtclnpfpaabmkcabRows
import Derived.Test.YtclnpfpaabmkcabGenOwn
import Derived.Test.YtclnpfpaabmkcabProg
import Derived.Deep.Onto
import Derived.Test.YtclnpfpaabmkcabSpecPl
namespace Go.Proofs.Ytclnpfpaabmkcab
open Go.RowKit M
set_option linter.unusedVariables false

/-- Locks, and a path. -/
def AnyT (B : Nat) (e : Ending) (w' : World) : Prop := ∃ (l : List Lk) (g n c : Nat) (ss : List ByteArray) (p m k : Nat), e = .returned (.tuple #[.slice (some ⟨g, 0, none⟩) n c, .slice (some ⟨p, 0, none⟩) m k]) ∧ FewM 6 l ∧ n = l.length ∧ n ≤ c ∧ c ≤ maxLen ∧ RowC w' B g c l ∧ Few 3 ss ∧ m = ss.length ∧ RowS w' p ss ∧ ss.length ≤ k ∧ k ≤ maxLen ∧ B ≤ p
set_option maxHeartbeats 1000000 in
theorem drawTokensAt_any {w : World} {B : Nat} {a : Option Addr} {len : Nat} {zs : List Int} (h : CodeIn w B a len zs) (cap : Nat) :
    Calls Try.prog 13 #[.slice a len cap] w fun e w' => AnyT w.heap.size e w' ∧ Below w.heap.size w w' := by
  have HC := hide h
  clear h
  go_enter Try.func13, Try.ntmps13
  go_wp2_with fail
  refine (newDX HC.out cap).mono ?_
  rintro e w1 ⟨rfl, hd1, b1⟩
  have hN1 : w.heap.size < w1.heap.size := hd1.lt
  have HB1 := hide b1
  have HD1 := hide hd1
  clear hd1 b1
  go_wp2_with fail
  refine (l13Any_any HD1.out).mono ?_
  rintro e w2 ⟨⟨l, g, n, c, rfl, hf, hn, hc1, hc2, hr⟩, hd2, hg2⟩
  have HK := hide (And.intro hf (And.intro hn (And.intro hc1 hc2)))
  have HR2 := hide hr
  have HD2 := hide hd2
  have HG2 := hide hg2
  clear hf hn hc1 hc2 hr hd2 hg2 HD1
  go_wp2_with fail
  refine (l2Draw_any HD2.out).mono ?_
  rintro e w3 ⟨⟨ss, m, p, k, hf3, hm, rfl, ho⟩, dx3, g3⟩
  obtain ⟨q1, q2, q3, q4⟩ := rowS_of ho hm
  have hz2 := HG2.out.size
  have HR := hide (show AnyT w.heap.size (.returned (.tuple #[.slice (some ⟨g, 0, none⟩) n c, .slice (some ⟨p, 0, none⟩) m k])) w3 ∧ Below w.heap.size w w3 from
    ⟨⟨l, g, n, c, ss, p, m, k, rfl, HK.out.1, HK.out.2.1, HK.out.2.2.1, HK.out.2.2.2, (HR2.out.grown g3 hN1).mono (by omega), hf3, hm, q1, q2, q3, by omega⟩, HB1.out.trans (grown_below (grown_trans HG2.out g3) (Nat.le_refl _) (by omega))⟩)
  clear hf3 hm ho dx3 g3 q1 q2 q3 q4
  go_wp2
  refine bodyPost_ret (v := .tuple #[.slice (some ⟨g, 0, none⟩) n c, .slice (some ⟨p, 0, none⟩) m k]) ?_ rfl HR.out
  simp [results, Try.results13, go_sem]
end Go.Proofs.Ytclnpfpaabmkcab
namespace Go.Proofs.Ytclnpfpaabmkcab
open Go.RowKit M
set_option linter.unusedVariables false

/-- Locks, and a number. -/
def AnyN (B : Nat) (e : Ending) (w' : World) : Prop := ∃ (l : List Lk) (g n c : Nat) (t : Int), e = .returned (.tuple #[.slice (some ⟨g, 0, none⟩) n c, .int .i64 t]) ∧ FewM 6 l ∧ n = l.length ∧ n ≤ c ∧ c ≤ maxLen ∧ RowC w' B g c l ∧ -1000000 ≤ t ∧ t ≤ 1000000

set_option maxHeartbeats 1000000 in
theorem drawDropLock_any {w : World} {B : Nat} {a : Option Addr} {len : Nat} {zs : List Int} (h : CodeIn w B a len zs) (cap : Nat) :
    Calls Try.prog 9 #[.slice a len cap] w fun e w' => AnyN w.heap.size e w' ∧ Below w.heap.size w w' := by
  have HC := hide h
  clear h
  go_enter Try.func9, Try.ntmps9
  go_wp2_with fail
  refine (newDX HC.out cap).mono ?_
  rintro e w1 ⟨rfl, hd1, b1⟩
  have hN1 : w.heap.size < w1.heap.size := hd1.lt
  have HB1 := hide b1
  have HD1 := hide hd1
  clear hd1 b1
  go_wp2_with fail
  refine (l13Any_any HD1.out).mono ?_
  rintro e w2 ⟨⟨l, g, n, c, rfl, hf, hn, hc1, hc2, hr⟩, hd2, hg2⟩
  have HK := hide (And.intro hf (And.intro hn (And.intro hc1 hc2)))
  have HR2 := hide hr
  have HD2 := hide hd2
  have HG2 := hide hg2
  clear hf hn hc1 hc2 hr hd2 hg2 HD1
  go_wp2_with fail
  refine (l1BelowX HD2.out 9 (by decide) (by decide)).mono ?_
  rintro e w3 ⟨⟨k, rfl, hk⟩, dx3, g3⟩
  have hz2 := HG2.out.size
  have HR := hide (show AnyN w.heap.size (.returned (.tuple #[.slice (some ⟨g, 0, none⟩) n c, .int .i64 (1 + (k : Int))])) w3 ∧ Below w.heap.size w w3 from
    ⟨⟨l, g, n, c, 1 + (k : Int), rfl, HK.out.1, HK.out.2.1, HK.out.2.2.1, HK.out.2.2.2, (HR2.out.grown g3 hN1).mono (by omega), by omega, by omega⟩, HB1.out.trans (grown_below (grown_trans HG2.out g3) (Nat.le_refl _) (by omega))⟩)
  have hk9 : (k : Int) < 9 := hk
  clear dx3 g3 hz2 hk
  go_wp2
  refine bodyPost_ret (v := .tuple #[.slice (some ⟨g, 0, none⟩) n c, .int .i64 (1 + (k : Int))]) ?_ rfl HR.out
  simp [results, Try.results9, go_sem]

set_option maxHeartbeats 1000000 in
theorem drawLiveLocks_any {w : World} {B : Nat} {a : Option Addr} {len : Nat} {zs : List Int} (h : CodeIn w B a len zs) (cap : Nat) :
    Calls Try.prog 12 #[.slice a len cap] w fun e w' => AnyN w.heap.size e w' ∧ Below w.heap.size w w' := by
  have HC := hide h
  clear h
  go_enter Try.func12, Try.ntmps12
  go_wp2_with fail
  refine (newDX HC.out cap).mono ?_
  rintro e w1 ⟨rfl, hd1, b1⟩
  have hN1 : w.heap.size < w1.heap.size := hd1.lt
  have HB1 := hide b1
  have HD1 := hide hd1
  clear hd1 b1
  go_wp2_with fail
  refine (l13Any_any HD1.out).mono ?_
  rintro e w2 ⟨⟨l, g, n, c, rfl, hf, hn, hc1, hc2, hr⟩, hd2, hg2⟩
  have HK := hide (And.intro hf (And.intro hn (And.intro hc1 hc2)))
  have HR2 := hide hr
  have HD2 := hide hd2
  have HG2 := hide hg2
  have bA := (Below.refl w2.heap.size w2).alloc (Nat.le_refl _) (Obj.cells #[.int .i64 4, .int .i64 5, .int .i64 9, .int .i64 10, .int .i64 99, .int .i64 100, .int .i64 (-1)] 3)
  have HQ := hide (intNewP HD2.out [4, 5, 9, 10, 99, 100, -1] #[.int .i64 4, .int .i64 5, .int .i64 9, .int .i64 10, .int .i64 99, .int .i64 100, .int .i64 (-1)] 3 7 w2.heap.size rfl (by simp) rfl (by decide) (by decide) (fun x => -1000000 ≤ x ∧ x ≤ 1000000) (fun i hi => by have h7 : i = 0 ∨ i = 1 ∨ i = 2 ∨ i = 3 ∨ i = 4 ∨ i = 5 ∨ i = 6 := (by omega); rcases h7 with rfl | rfl | rfl | rfl | rfl | rfl | rfl <;> decide))
  clear hf hn hc1 hc2 hr hd2 hg2 HD1 bA
  go_wp2_with fail
  refine HQ.out.mono ?_
  rintro e w3 ⟨⟨t, rfl, ht⟩, dx3, g3⟩
  have hz2 := HG2.out.size
  have HR := hide (show AnyN w.heap.size (.returned (.tuple #[.slice (some ⟨g, 0, none⟩) n c, .int .i64 t])) w3 ∧ Below w.heap.size w w3 from
    ⟨⟨l, g, n, c, t, rfl, HK.out.1, HK.out.2.1, HK.out.2.2.1, HK.out.2.2.2, (HR2.out.grown g3 hN1).mono (by omega), ht.1, ht.2⟩, HB1.out.trans (grown_below (grown_trans HG2.out g3) (Nat.le_refl _) (by omega))⟩)
  clear dx3 g3 hz2 ht
  go_wp2
  refine bodyPost_ret (v := .tuple #[.slice (some ⟨g, 0, none⟩) n c, .int .i64 t]) ?_ rfl HR.out
  simp [results, Try.results12, go_sem]
end Go.Proofs.Ytclnpfpaabmkcab
namespace Go.Proofs.Ytclnpfpaabmkcab
open Go.RowKit
set_option linter.unusedVariables false

section
variable {α : Type} {cs : α → List Value} {K : Nat} {tE : TypeId}
/-- A row that the call owns from block B on. -/
def OwnG (tE : TypeId) (K : Nat) (cs : α → List Value) (w : World) (B : Nat) (v : Value) (l : List α) : Prop := w.ownsRow B tE K v l.length (l.flatMap cs)
theorem flat_length (hK : ∀ x, (cs x).length = K) (l : List α) : (l.flatMap cs).length = l.length * K := by
  induction l with
  | nil => simp
  | cons x l ih => rw [List.flatMap_cons, List.length_append, ih, hK, List.length_cons, Nat.add_mul]; omega
theorem flat_at (hK : ∀ x, (cs x).length = K) (l : List α) : ∀ j (hj : j < l.length) i, i < K → (l.flatMap cs)[j * K + i]? = (cs l[j])[i]? := by
  induction l with
  | nil => intro j hj; exact absurd hj (Nat.not_lt_zero _)
  | cons x l ih =>
    intro j hj i hi
    rw [List.flatMap_cons]
    match j, hj with
    | 0, _ => rw [Nat.zero_mul, Nat.zero_add, List.getElem?_append_left (by rw [hK]; omega)]; rfl
    | j + 1, hj =>
      rw [List.getElem?_append_right (by rw [hK, Nat.add_mul]; omega), hK, show (j + 1) * K + i - K = j * K + i by rw [Nat.add_mul]; omega]
      simpa using ih j (by simpa using hj) i hi
theorem OwnG.made (w : World) (B : Nat) (hB : B ≤ w.heap.size) : OwnG tE K cs (w.alloc (Obj.cells #[] tE)) B (.slice (some ⟨w.heap.size, 0, none⟩) 0 0) [] :=
  ⟨by simp, .inr ⟨w.heap.size, 0, #[], rfl, hB, heap_alloc_new w _, Nat.le_refl _, Nat.zero_le _, by simp, by simp⟩⟩
theorem OwnG.next {w w' : World} {B : Nat} {v : Value} {l : List α} (h : OwnG tE K cs w B v l) (hb : Below w.heap.size w w') : OwnG tE K cs w' B v l :=
  World.ownsRow.kept (row := none) h ⟨hb.os, hb.tape, hb.output, hb.size, fun k hk _ => hb.block k hk⟩ (Classical.em _)
theorem OwnG.keepB {w w' : World} {B g n c : Nat} {l : List α} (h : OwnG tE K cs w B (.slice (some ⟨g, 0, none⟩) n c) l) (e : w'.heap[g]? = w.heap[g]?) : OwnG tE K cs w' B (.slice (some ⟨g, 0, none⟩) n c) l := by
  refine ⟨h.1, ?_⟩
  rcases h.2 with ⟨h0, _⟩ | ⟨g', c', cur, hv, hB, hh, hr⟩
  · cases h0
  · cases hv
    exact .inr ⟨g, c, cur, rfl, hB, e.trans hh, hr⟩
theorem OwnG.row {w : World} {B g n c : Nat} {l : List α} (hK : ∀ x, (cs x).length = K) (h : OwnG tE K cs w B (.slice (some ⟨g, 0, none⟩) n c) l) :
    n = l.length ∧ n ≤ c ∧ c ≤ maxLen ∧ B ≤ g ∧ g < w.heap.size ∧ (∀ i, w.frozen? ⟨g, i, none⟩ = false) ∧ ∀ j (hj : j < l.length) i v, (cs l[j])[i]? = some v → w.cell? ⟨g, j * K + i, none⟩ = some v := by
  have hlt := World.ownsRow.lt h g rfl
  rcases h.2 with ⟨e, _⟩ | ⟨g', c', cur, e, hB, hh, h1, h2, _⟩
  · cases e
  · cases e
    refine ⟨rfl, h1, h2, hB, hlt.2, fun i => ?_, fun j hj i v hv => ?_⟩
    · simp only [World.frozen?, hh, Bool.and_eq_false_iff, decide_eq_false_iff_not]
      right; omega
    · have hi : i < K := by have := (List.getElem?_eq_some_iff.1 hv).1; rwa [hK] at this
      have hjl : j * K + i < l.length * K := by
        have := Nat.mul_le_mul_right K (show j + 1 ≤ l.length from hj)
        rw [Nat.add_mul] at this
        omega
      rw [World.ownsRow.cellAt h (j * K + i) hjl, flat_at hK l j hj i hi]
      exact hv
theorem below_grownG {w w' : World} {B n : Nat} {v : Value} {xs : List Value} (hown : w.ownsRow B tE K v n xs) (hB : B ≤ w.heap.size) (hg : w.grownBy w' v.ownBlock) : Below B w w' :=
  ⟨hg.os, hg.tape, hg.output, hg.size, fun k hk => hg.block k (by omega) (fun e => by have := (hown.lt k e.symm).1; omega)⟩

/-- 'l = append(l, x)' on a row that the call owns. -/
theorem wp_append_gen {P : Program} {w : World} {ops : Array Oper} {rest : List Oper} {o : Oper} {a : Act} {Q : Exit → Act → World → Prop} (T : TypeId) (hu : P.underlying T = some (.slice tE)) (zero : Value) (bytes : Nat) (hinfo : (P.info? tE).map (fun i => (i.zero, i.size, i.bytes)) = some (some zero, K, bytes)) (hz : zero.cells.size = K) (hK0 : 0 < K) (hby : bytes ≤ 512) (hgd : o.guard = none) (s x : Operand)
    (ho : o.op = .call { callee := .builtin .append, args := #[s, x], argTypes := #[T, T] })
    (B : Nat) (v : Value) (l : List α) (hs : a.eval s = v) (hown : OwnG tE K cs w B v l) (hK : ∀ x, (cs x).length = K)
    (N : Nat) (t : α) (hx : a.eval x = .slice (some ⟨N, 0, none⟩) 1 1) (hc : ∀ i v, (cs t)[i]? = some v → w.cell? ⟨N, i, none⟩ = some v) (h1 : ∀ v ∈ cs t, v.oneCell' = true) (hlen : l.length + 1 ≤ 100000000000) (hB : B ≤ w.heap.size)
    (h : ∀ g n cap w', n = (l ++ [t]).length → OwnG tE K cs w' B (.slice (some ⟨g, 0, none⟩) n cap) (l ++ [t]) → Below B w w' → w.grownBy w' v.ownBlock → (v.ownBlock = some g ∨ g = w.heap.size) → wpList P ops Q rest (a.put o.dst (.slice (some ⟨g, 0, none⟩) n cap)) w') : wpList P ops Q (o :: rest) a w := by
  obtain ⟨i0, hi, hz0, hz1, hz2⟩ := info_parts hinfo
  refine wpList_append_own_at w hgd s x T ho B tE i0 zero K bytes hu hi hz0 hz1 hz2 hz hK0 v l.length _ hs hown ⟨N, 0, none⟩ 1 1 (cs t) hx (by rw [hK]; omega) (fun j u hj => by rw [add_pick, Nat.zero_add]; exact hc j u hj) h1 (by unfold maxLen; omega) ?_ hB ?_
  · have := Nat.mul_le_mul hlen hby
    omega
  · intro v' w' ho' hg _ hat
    obtain ⟨g, cap, rfl⟩ : ∃ g cap, v' = .slice (some ⟨g, 0, none⟩) (l.length + 1) cap := by
      rcases ho'.2 with ⟨_, h0⟩ | ⟨g, cap, cur, hv, _⟩
      · omega
      · exact ⟨g, cap, hv⟩
    refine h g (l.length + 1) cap w' (by simp) ?_ (below_grownG hown hB hg) hg (by
      rcases hat with e | e
      · exact .inl e.symm
      · exact .inr (Option.some.inj e))
    unfold OwnG
    rw [List.flatMap_append, show [t].flatMap cs = cs t by simp, show (l ++ [t]).length = l.length + 1 by simp]
    exact ho'
end
end Go.Proofs.Ytclnpfpaabmkcab
namespace Go.Proofs.Ytclnpfpaabmkcab
open Go.RowKit
set_option linter.unusedVariables false

theorem OwnG.grown {α : Type} {cs : α → List Value} {K : Nat} {tE : TypeId} {w w' : World} {B N g n c : Nat} {l : List α} (h : OwnG tE K cs w B (.slice (some ⟨g, 0, none⟩) n c) l) (t : w.grownBy w' (some N)) (hN : N < B) : OwnG tE K cs w' B (.slice (some ⟨g, 0, none⟩) n c) l := by
  have hlt := World.ownsRow.lt h g rfl
  exact h.keepB (t.block g hlt.2 (fun e => by have := Option.some.inj e; omega))
end Go.Proofs.Ytclnpfpaabmkcab
namespace Go.Proofs.Ytclnpfpaabmkcab
open Go.RowKit M
set_option linter.unusedVariables false

def dS (s : ByteArray) : List Lf := [.c (.string s)]
def dI (n : Int) : List Lf := [.c (.int .i64 n)]
def dB (n : Int) : List Lf := [.c (.int .u8 n)]
theorem cntRs_map {α : Type} (f : α → List Lf) (c : Nat) (h : ∀ x, cntR (f x) = c) (l : List α) : cntRs (l.map f) = c * l.length := by
  induction l with
  | nil => simp [cntRs]
  | cons x l ih => rw [List.map_cons, cntRs_cons, ih, h, List.length_cons, Nat.mul_add]; omega
theorem cnt_lenF {α : Type} (f : α → List Lf) (h : ∀ x, 1 ≤ cntR (f x)) (l : List α) : l.length ≤ cntRs (l.map f) := by
  induction l with
  | nil => simp
  | cons x l ih => rw [List.map_cons, cntRs_cons, List.length_cons]; have := h x; omega
theorem szRs_flat {α : Type} (f : α → List Lf) (h : ∀ x, szR (f x) = 0) (l : List α) : szRs (l.map f) = l.length := by
  induction l with
  | nil => simp [szRs]
  | cons x l ih => rw [List.map_cons, szRs_cons, ih, h, List.length_cons]; omega
theorem szRs_sub {a b : List (List Lf)} (h : List.Sublist a b) : szRs a ≤ szRs b := by
  induction h with
  | slnil => exact Nat.le_refl _
  | cons x _ ih => rw [szRs_cons]; omega
  | cons_cons x _ ih => rw [szRs_cons, szRs_cons]; omega
theorem okR_mem {r : List Lf} (h : okR r) (x : Lf) (hx : x ∈ r) : okF x := by
  induction r with
  | nil => cases hx
  | cons y r ih =>
    unfold okR at h
    rcases List.mem_cons.1 hx with rfl | hx
    · exact h.1
    · exact ih h.2 hx
theorem cnt_dS (l : List ByteArray) : cntRs (l.map dS) = l.length := by rw [cntRs_map dS 1 (fun _ => by simp [dS, cntR, cntF])]; omega
theorem cnt_dI (l : List Int) : cntRs (l.map dI) = l.length := by rw [cntRs_map dI 1 (fun _ => by simp [dI, cntR, cntF])]; omega
theorem cnt_dB (l : List Int) : cntRs (l.map dB) = l.length := by rw [cntRs_map dB 1 (fun _ => by simp [dB, cntR, cntF])]; omega
end Go.Proofs.Ytclnpfpaabmkcab
namespace Go.Proofs.Ytclnpfpaabmkcab
open Go.RowKit M
set_option linter.unusedVariables false

def ci (n : Int) : List Value := [.int .i64 n]
theorem ci_len : ∀ x, (ci x).length = 1 := fun _ => rfl
theorem infoI : (Try.prog.info? 3).map (fun i => (i.zero, i.size, i.bytes)) = some (some (.int .i64 0), 1, 8) := by kernel_rfl
theorem view_of_ints {w : World} {B g n c : Nat} {l : List Int} (h : OwnG 3 1 ci w B (.slice (some ⟨g, 0, none⟩) n c) l) : View w w.heap.size (.slice (some ⟨g, 0, none⟩) n c) (.l (l.map dI)) := by
  obtain ⟨e1, e2, e3, e4, e5, e6, e7⟩ := h.row ci_len
  have e : n = (l.map dI).length := by rw [List.length_map]; exact e1
  rw [e]
  refine .row g 0 c 1 _ (fun j i => match l[j]? with | some s => .int .i64 s | none => .bool false) e5 (by rw [← e]; exact e2) e3 (fun r hr => by obtain ⟨x, _, rfl⟩ := List.mem_map.1 hr; rfl) (fun j i x hx => ?_) (fun j i x hx => ?_)
  all_goals
    unfold cellAt at hx
    by_cases hj : j < l.length
    · rw [map_at dI l j hj] at hx
      match i with
      | 0 => cases hx; rw [List.getElem?_eq_getElem hj]; first | exact .c _ | (have := e7 j hj 0 _ rfl; simpa using this)
      | i + 1 => cases hx
    · rw [List.getElem?_eq_none (by simp; omega)] at hx; cases hx

theorem own_of_ints {w : World} {B g n c : Nat} {l : List Int} (h : OwnG 3 1 ci w B (.slice (some ⟨g, 0, none⟩) n c) l) : Own w (.slice (some ⟨g, 0, none⟩) n c) (.l (l.map dI)) (fun y => y = g) := by
  obtain ⟨e1, e2, e3, e4, e5, e6, e7⟩ := h.row ci_len
  have e : n = (l.map dI).length := by rw [List.length_map]; exact e1
  rw [e]
  refine .row g 0 c 1 _ (fun j i => match l[j]? with | some s => .int .i64 s | none => .bool false) (fun _ _ _ => False) _ rfl e5 (by rw [← e]; exact e2) e3 (fun r hr => by obtain ⟨x, _, rfl⟩ := List.mem_map.1 hr; rfl) (fun j i x hx => ?_) (fun j i x hx => ?_) (fun j i y hy => hy.elim) (fun j i j' i' y _ hy => hy.elim)
  all_goals
    unfold cellAt at hx
    by_cases hj : j < l.length
    · rw [map_at dI l j hj] at hx
      match i with
      | 0 => cases hx; rw [List.getElem?_eq_getElem hj]; first | exact .c _ _ | (have := e7 j hj 0 _ rfl; exact ⟨by simpa using this, e6 _⟩)
      | i + 1 => cases hx
    · rw [List.getElem?_eq_none (by simp; omega)] at hx; cases hx
end Go.Proofs.Ytclnpfpaabmkcab
namespace Go.Proofs.Ytclnpfpaabmkcab
open Go.RowKit M
set_option linter.unusedVariables false

theorem infoId : (Try.prog.info? 3).map (fun i => (i.zero, i.size, i.bytes)) = some (some (.int .i64 0), 1, 8) := by kernel_rfl

set_option maxRecDepth 100000 in
set_option maxHeartbeats 4000000 in
theorem l13Tokens_any {w : World} {N : Nat} {a : Option Addr} {len cap : Nat} {zs : List Int} (h : DX w N a len cap zs) :
    Calls Try.prog 51 #[.pointer (some ⟨N, 0, none⟩)] w fun e w' => (∃ (ks : List Int) (g n c : Nat), e = .returned (.slice (some ⟨g, 0, none⟩) n c) ∧ ks.length ≤ 6 ∧ OwnG 3 1 ci w' w.heap.size (.slice (some ⟨g, 0, none⟩) n c) ks) ∧ DX w' N a len cap zs ∧ w.grownBy w' (some N) := by
  have hNl := h.lt
  have DA := hide (h.alloc (Obj.cells #[] 3))
  have OA := hide (OwnG.made (tE := 3) (K := 1) (cs := ci) w w.heap.size (Nat.le_refl _))
  have GA := hide (grown_alloc (grown_refl w (some N)) (Obj.cells #[] 3))
  obtain ⟨wA, hwA⟩ : ∃ wA, w.alloc (Obj.cells #[] 3) = wA := ⟨_, rfl⟩
  rw [hwA] at DA OA GA
  clear h
  go_enter Try.func51, Try.ntmps51
  go_wp2_with fail
  clear hwA
  refine (l1BelowX DA.out 6 (by decide) (by decide)).mono ?_
  rintro e w1 ⟨⟨k1, rfl, hk1⟩, dx1, g1⟩
  have D1 := hide dx1
  have G1 := hide (grown_trans GA.out g1)
  have O1 := hide (OA.out.grown g1 hNl)
  clear dx1 g1 DA GA OA
  go_wp2
  go_loopw [3, 4] (fun v i wr => ∃ (k m : Nat) (ks : List Int) (g n c : Nat), i = .int .i64 k ∧ v = .slice (some ⟨g, 0, none⟩) n c ∧ m + k ≤ 6 ∧ Hid (ks.length = m) ∧ Hid (OwnG 3 1 ci wr w.heap.size (.slice (some ⟨g, 0, none⟩) n c) ks) ∧ Hid (DX wr N a len cap zs) ∧ Hid (w.grownBy wr (some N))) (fun _ i _ => (intOf i).toNat)
  case atStart => exact ⟨k1, 0, [], _, _, _, rfl, rfl, by omega, hide rfl, O1, D1, G1⟩
  case round =>
    obtain ⟨k, m, ks, g, n, c, rfl, rfl, hmk, HL, HO, HD, HG⟩ := hrel
    by_cases h0 : 0 < k
    · have h0' : (0 : Int) < k := by omega
      go_wp2_with fail
      refine (l1BelowX HD.out 9 (by decide) (by decide)).mono ?_
      rintro e w2 ⟨⟨x, rfl, hx⟩, dx2, g2⟩
      have bA := (Below.refl w2.heap.size w2).alloc (Nat.le_refl _) (Obj.cells #[.int .i64 (1 + (x : Int))] 3)
      have hg2 := grown_trans HG.out g2
      have hzw := hg2.size
      have O7 := hide ((HO.out.grown g2 hNl).next bA)
      have D7 := hide (dx2.below bA)
      have G7 := hide (grown_belowQ hg2 bA hg2.size)
      have hz7 := G7.out.size
      have hN7 := D7.out.lt
      have hln : ks.length + 1 ≤ 100000000000 := by have := HL.out; omega
      clear bA dx2 g2 hg2 HO HD HG
      go_wp2_with (at_builtin; refine wp_append_gen 39 Try.underlying39 (.int .i64 0) 8 infoId rfl (by decide) (by decide) rfl _ _ rfl w.heap.size _ ks rfl O7.out ci_len _ (1 + (x : Int)) rfl (fun i v hv => by match i with | 0 => (cases hv; simp) | i + 1 => cases hv) (fun v hv => by simp only [ci, List.mem_cons, List.not_mem_nil, or_false] at hv; subst hv; rfl) hln hz7 ?_)
      intro g9 n9 c9 w9 hn9 hO9 hb9 hg9 _
      have O9 := hide hO9
      have D9 := hide (D7.out.other hb9.size (fun i hi => hb9.block i (by omega)))
      have G9 := hide (grown_belowQ G7.out hb9 (Nat.le_refl _))
      have HLE := hide (show (ks ++ [1 + (x : Int)]).length = m + 1 from by rw [List.length_append, HL.out]; rfl)
      clear hO9 hb9 hg9 hn9 O7 D7 G7
      go_wp2
      go_roundw
      case rel => exact ⟨k - 1, m + 1, _, g9, n9, c9, by go_num, rfl, by omega, HLE, O9, D9, G9⟩
      case measure => simp [intOf]; omega
    · have h0' : ¬ (0 : Int) < k := by omega
      go_wp2
      go_ret
      exact ⟨⟨ks, g, n, c, rfl, by have := HL.out; omega, HO.out⟩, HD.out, HG.out⟩
end Go.Proofs.Ytclnpfpaabmkcab
namespace Go.Proofs.Ytclnpfpaabmkcab
open Go.RowKit M
set_option linter.unusedVariables false

/-- Locks, a path, a flag and numbers. -/
def AnyM (B : Nat) (e : Ending) (w' : World) : Prop := ∃ (l : List Lk) (g n c : Nat) (ss : List ByteArray) (p m k : Nat) (dp : Bool) (ks : List Int) (q r s : Nat), e = .returned (.tuple #[.slice (some ⟨g, 0, none⟩) n c, .slice (some ⟨p, 0, none⟩) m k, .bool dp, .slice (some ⟨q, 0, none⟩) r s]) ∧ FewM 6 l ∧ n = l.length ∧ n ≤ c ∧ c ≤ maxLen ∧ RowC w' B g c l ∧ Few 3 ss ∧ m = ss.length ∧ RowS w' p ss ∧ ss.length ≤ k ∧ k ≤ maxLen ∧ ks.length ≤ 6 ∧ OwnG 3 1 ci w' B (.slice (some ⟨q, 0, none⟩) r s) ks

set_option maxHeartbeats 2000000 in
theorem drawMayTurn_any {w : World} {B : Nat} {a : Option Addr} {len : Nat} {zs : List Int} (h : CodeIn w B a len zs) (cap : Nat) :
    Calls Try.prog 14 #[.slice a len cap] w fun e w' => AnyM w.heap.size e w' ∧ Below w.heap.size w w' := by
  have HC := hide h
  clear h
  go_enter Try.func14, Try.ntmps14
  go_wp2_with fail
  refine (newDX HC.out cap).mono ?_
  rintro e w1 ⟨rfl, hd1, b1⟩
  have hN1 : w.heap.size < w1.heap.size := hd1.lt
  have HB1 := hide b1
  have HD1 := hide hd1
  clear hd1 b1
  go_wp2_with fail
  refine (l13Any_any HD1.out).mono ?_
  rintro e w2 ⟨⟨l, g, n, c, rfl, hf, hn, hc1, hc2, hr⟩, hd2, hg2⟩
  have HK := hide (And.intro hf (And.intro hn (And.intro hc1 hc2)))
  have HR2 := hide hr
  have HD2 := hide hd2
  have HG2 := hide hg2
  clear hf hn hc1 hc2 hr hd2 hg2 HD1
  go_wp2_with fail
  refine (l2Draw_any HD2.out).mono ?_
  rintro e w3 ⟨⟨ss, m, p, k, hf3, hm, rfl, ho⟩, dx3, g3⟩
  obtain ⟨q1, q2, q3, q4⟩ := rowS_of ho hm
  have hz2 := HG2.out.size
  have HP := hide (And.intro hf3 (And.intro hm (And.intro q2 q3)))
  have RS3 := hide q1
  have HR3 := hide (HR2.out.grown g3 hN1)
  have HD3 := hide dx3
  have HG3 := hide (grown_trans HG2.out g3)
  have hp4 : w.heap.size < p := by omega
  clear hf3 hm ho dx3 g3 q1 q2 q3 q4 HR2 HD2
  go_wp2_with fail
  refine (l1OnceQ HD3.out 2 (by decide) (by decide)).mono ?_
  rintro e w4 ⟨⟨dp, rfl⟩, dx4, g4⟩
  have HR4 := hide (HR3.out.grown g4 hN1)
  have RS4 := hide (RS3.out.hp g4.size (g4.block p RS3.out.1 (fun e => by have := Option.some.inj e; omega)))
  have HD4 := hide dx4
  have HG4 := hide (grown_trans HG3.out g4)
  clear dx4 g4 HR3 RS3 HD3 HG3
  go_wp2_with fail
  refine (l13Tokens_any HD4.out).mono ?_
  rintro e w5 ⟨⟨ks, q, r, s, rfl, hk6, ho⟩, dx5, g5⟩
  have hz4 := HG4.out.size
  have HR := hide (show AnyM w.heap.size (.returned (.tuple #[.slice (some ⟨g, 0, none⟩) n c, .slice (some ⟨p, 0, none⟩) m k, .bool dp, .slice (some ⟨q, 0, none⟩) r s])) w5 ∧ Below w.heap.size w w5 from
    ⟨⟨l, g, n, c, ss, p, m, k, dp, ks, q, r, s, rfl, HK.out.1, HK.out.2.1, HK.out.2.2.1, HK.out.2.2.2, (HR4.out.grown g5 hN1).mono (by omega), HP.out.1, HP.out.2.1, RS4.out.hp g5.size (g5.block p RS4.out.1 (fun e => by have := Option.some.inj e; omega)), HP.out.2.2.1, HP.out.2.2.2, hk6, World.ownsRow.mono ho (by omega)⟩, HB1.out.trans (grown_below (grown_trans HG4.out g5) (Nat.le_refl _) (by omega))⟩)
  clear hk6 ho dx5 g5 hz4 hz2 hp4
  go_wp2
  refine bodyPost_ret (v := .tuple #[.slice (some ⟨g, 0, none⟩) n c, .slice (some ⟨p, 0, none⟩) m k, .bool dp, .slice (some ⟨q, 0, none⟩) r s]) ?_ rfl HR.out
  simp [results, Try.results14, go_sem]
end Go.Proofs.Ytclnpfpaabmkcab
namespace Go.Proofs.Ytclnpfpaabmkcab
open Go.RowKit
set_option linter.unusedVariables false

set_option maxHeartbeats 400000 in
theorem slicesEqual_any (a b : Option Addr) (ss tt : List ByteArray) (cap cap' B C : Nat) (w : World) (h : Strs w B a ss) (h' : Strs w C b tt) (hl : ss.length ≤ maxLen) (hl' : tt.length ≤ maxLen) :
    Calls Try.prog 91 #[.slice a ss.length cap, .slice b tt.length cap'] w fun e w' => e = .returned (.bool (sameL ss tt)) ∧ ∀ D, Below D w w' := by
  unfold maxLen at hl hl'
  by_cases hlen : ss.length = tt.length
  · have HL : Hid (ss.length = tt.length) := hlen
    go_enter Try.func91, Try.ntmps91
    rw [← hlen]
    clear hlen
    go_wp2
    go_loopw [13] (fun i wr => ∃ k n : Nat, k ≤ ss.length ∧ i = .int .i64 k ∧ ss.take k = tt.take k ∧ wr = w.drewN n) (fun i _ => ss.length - (intOf i).toNat)
    case atStart => exact ⟨0, 0, Nat.zero_le _, rfl, rfl, rfl⟩
    case round =>
      obtain ⟨k, n, hk, rfl, ht, rfl⟩ := hrel
      have HT : Hid (ss.take k = tt.take k) := ht
      clear ht
      by_cases hlt : k < ss.length
      · have hlt' : k < tt.length := by have := HL.out; omega
        obtain ⟨b1, o1, rfl, hb1, hc1⟩ := h (by omega)
        obtain ⟨b2, o2, rfl, hb2, hc2⟩ := h' (by have := HL.out; omega)
        have hcx := hc1 k hlt
        have hcy := hc2 k hlt'
        go_wp2
        go_quiet (fail)
        go_wp2
        · rename_i hne
          have hne' : ¬ ss[k] = tt[k] := fun e => by rw [e] at hne; simp at hne
          go_ret
          exact ⟨ret_bool (sameL_not k hlt hlt' hne').symm, fun D => below_drewN (below_drewN (Below.refl _ _) _) _⟩
        · rename_i he
          have he' : ss[k] = tt[k] := str_inj (by simpa using he)
          go_roundw
          case rel => exact ⟨k + 1, n + nq, by omega, by go_num, take_same k hlt hlt' HT.out he', by simp⟩
          case measure => simp [intOf]; omega
      · go_wp2
        go_ret
        exact ⟨ret_bool (sameL_all HL.out k hlt HT.out).symm, fun D => below_drewN (Below.refl _ _) _⟩
  · have HS := sameL_len hlen
    go_enter Try.func91, Try.ntmps91
    go_wp2
    go_ret
    exact ⟨ret_bool HS.symm, fun D => Below.refl _ _⟩
end Go.Proofs.Ytclnpfpaabmkcab
namespace Go.Proofs.Ytclnpfpaabmkcab
open Go.RowKit
set_option linter.unusedVariables false

set_option maxHeartbeats 400000 in
theorem under_any (a b : Option Addr) (ss tt : List ByteArray) (cap cap' B C : Nat) (w : World) (h : Strs w B a ss) (h' : Strs w C b tt) (hl : ss.length ≤ maxLen) (hl' : tt.length ≤ maxLen) (hc : ss.length ≤ cap) (hc' : cap ≤ maxLen) :
    Calls Try.prog 58 #[.slice a ss.length cap, .slice b tt.length cap'] w fun e w' => e = .returned (.bool (underB ss tt)) ∧ ∀ D, Below D w w' := by
  have hl1 := hl
  have hl2 := hl'
  have hc2 := hc'
  unfold maxLen at hl hl' hc'
  by_cases hlt : tt.length < ss.length
  · have ht : (ss.take tt.length).length = tt.length := by rw [List.length_take]; omega
    have cE := fun w1 cap1 (hh : Strs w1 B a ss) (hh' : Strs w1 C b tt) => slicesEqual_any a b (ss.take tt.length) tt cap1 cap' B C w1 (hh.take _) hh' (by omega) hl2
    rw [ht] at cE
    obtain ⟨b1, o1, rfl, _, _⟩ := h (by omega)
    go_enter Try.func58, Try.ntmps58
    go_wp2_with fail
    refine (cE _ _ h h').mono ?_
    rintro e w1 ⟨rfl, hb⟩
    go_wp2
    go_ret
    exact ⟨ret_bool (by simp [underB, hlt]), hb⟩
  · go_enter Try.func58, Try.ntmps58
    go_wp2
    go_ret
    exact ⟨ret_bool (by simp [underB, hlt]), fun D => Below.refl _ _⟩

end Go.Proofs.Ytclnpfpaabmkcab
namespace Go.Proofs.Ytclnpfpaabmkcab
open Go.RowKit
set_option linter.unusedVariables false

set_option maxHeartbeats 400000 in
theorem samePath_any (a b : Option Addr) (ss tt : List ByteArray) (cap cap' B C : Nat) (w : World) (h : Strs w B a ss) (h' : Strs w C b tt) (hl : ss.length ≤ maxLen) (hl' : tt.length ≤ maxLen) :
    Calls Try.prog 57 #[.slice a ss.length cap, .slice b tt.length cap'] w fun e w' => e = .returned (.bool (sameL ss tt)) ∧ ∀ D, Below D w w' := by
  go_enter Try.func57, Try.ntmps57
  go_wp2_with fail
  refine (slicesEqual_any a b ss tt cap cap' B C w h h' hl hl').mono ?_
  rintro e w1 ⟨rfl, hb⟩
  go_wp2
  go_ret
  exact ⟨rfl, hb⟩
end Go.Proofs.Ytclnpfpaabmkcab
namespace Go.Proofs.Ytclnpfpaabmkcab
open Go.RowKit M
set_option linter.unusedVariables false

set_option maxHeartbeats 1000000 in
theorem covers_any (r : Lk) (pa : Option Addr) (pc : Nat) (a : Option Addr) (ss : List ByteArray) (cap B C : Nat) (w : World) (h : LkIn w B r pa pc) (hB : B ≤ w.heap.size) (h' : Strs w C a ss) (hC : C ≤ w.heap.size) (hl : ss.length ≤ cap) (hm : cap ≤ maxLen) :
    Calls Try.prog 17 #[.agg #[.int .i64 r.tk, .slice pa r.pa.length pc, .bool r.de, .bool r.sh, .int .i64 r.un], .slice a ss.length cap] w fun e w' => e = .returned (.bool (covB r ss)) ∧ Below w.heap.size w w' := by
  have l1 := h.len
  have p1 := h.ph
  have l2 : ss.length ≤ maxLen := Nat.le_trans hl hm
  have F1 : Hid (sameL r.pa ss = true → covB r ss = true) := fun e => by unfold covB; rw [e]; rfl
  have F2 : Hid (sameL r.pa ss = false → r.de = false → covB r ss = false) := fun e e' => by unfold covB; rw [e, e']; rfl
  have F3 : Hid (sameL r.pa ss = false → r.de = true → covB r ss = underB ss r.pa) := fun e e' => by unfold covB; rw [e, e']; rfl
  generalize covB r ss = dd at *
  clear h
  obtain ⟨tk, tt, de, sh, un⟩ := r
  simp only at *
  have hb0 : Below w.heap.size w (w.alloc (Obj.cells #[.int .i64 tk, .slice pa tt.length pc, .bool de, .bool sh, .int .i64 un] 26)) := (Below.refl _ _).alloc (Nat.le_refl _) _
  have hS := samePath_any pa a tt ss pc cap B C _ (p1.below hb0 hB) (h'.below hb0 hC) l1 l2
  have HU := hide (fun w1 (hb : ∀ D, Below D (w.alloc (Obj.cells #[.int .i64 tk, .slice pa tt.length pc, .bool de, .bool sh, .int .i64 un] 26)) w1) => under_any a pa ss tt cap pc C B w1 ((h'.below hb0 hC).below (hb _) (Nat.le_refl _)) ((p1.below hb0 hB).below (hb _) (Nat.le_refl _)) l2 l1 hl hm)
  have HB0 := hide hb0
  clear hb0 p1 h'
  obtain ⟨z, hz⟩ : ∃ z, sameL tt ss = z := ⟨_, rfl⟩
  rw [hz] at hS
  have HS := hide hS
  clear hS
  cases z
  · cases de
    · rw [F2.out hz rfl]
      clear hz
      go_enter Try.func17, Try.ntmps17
      go_wp2_with fail
      refine HS.out.mono ?_
      rintro e w1 ⟨rfl, hb1⟩
      have hcl : ∀ b o, w1.cell? ⟨b, o, none⟩ = _ := fun b o => (hb1 (b + 1)).cell (p := ⟨b, o, none⟩) (Nat.lt_succ_self _)
      have HC1 := hide (HB0.out.trans (hb1 _))
      clear hb1
      go_wp2
      go_ret
      exact ⟨rfl, HC1.out⟩
    · rw [F3.out hz rfl]
      clear hz
      go_enter Try.func17, Try.ntmps17
      go_wp2_with fail
      refine HS.out.mono ?_
      rintro e w1 ⟨rfl, hb1⟩
      have hcl : ∀ b o, w1.cell? ⟨b, o, none⟩ = _ := fun b o => (hb1 (b + 1)).cell (p := ⟨b, o, none⟩) (Nat.lt_succ_self _)
      have HC1 := hide (HB0.out.trans (hb1 _))
      have HU1 := hide (HU.out w1 hb1)
      clear hb1
      go_wp2_with fail
      refine HU1.out.mono ?_
      rintro e w2 ⟨rfl, hb2⟩
      have c2 := HC1.out.trans (hb2 _)
      go_wp2
      go_ret
      exact ⟨rfl, c2⟩
  · rw [F1.out hz]
    clear hz
    go_enter Try.func17, Try.ntmps17
    go_wp2_with fail
    refine HS.out.mono ?_
    rintro e w1 ⟨rfl, hb1⟩
    have HC1 := hide (HB0.out.trans (hb1 _))
    clear hb1
    go_wp2
    go_ret
    exact ⟨rfl, HC1.out⟩
end Go.Proofs.Ytclnpfpaabmkcab
