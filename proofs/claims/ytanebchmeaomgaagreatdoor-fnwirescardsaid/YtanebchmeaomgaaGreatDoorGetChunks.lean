/-
  What the program's GetChunks does.
-/
import Derived.Test.YtanebchmeaomgaaGreatDoorChunksOf
import Derived.Test.YtanebchmeaomgaaGreatDoorPutHead
namespace Go.Proofs.YtanebchmeaomgaaGreatDoor
open Go.RowKit Go.Shelf M
set_option linter.unusedVariables false
attribute [local go_sem] Oper.semAt_some

/-- Eight blocks, one behind the other. -/
theorem chain8 (w : World) (o0 o1 o2 o3 o4 o5 o6 o7 W : _) (h : (((((((w.alloc o0).alloc o1).alloc o2).alloc o3).alloc o4).alloc o5).alloc o6).alloc o7 = W) :
    W.heap.size = w.heap.size + 8 ∧ Below w.heap.size w W ∧ W.heap[w.heap.size]? = some o0 ∧ W.heap[w.heap.size + 1]? = some o1 ∧ W.heap[w.heap.size + 1 + 1]? = some o2 ∧ W.heap[w.heap.size + 1 + 1 + 1]? = some o3 ∧ W.heap[w.heap.size + 1 + 1 + 1 + 1]? = some o4 ∧ W.heap[w.heap.size + 1 + 1 + 1 + 1 + 1]? = some o5 ∧ W.heap[w.heap.size + 1 + 1 + 1 + 1 + 1 + 1]? = some o6 ∧ W.heap[w.heap.size + 1 + 1 + 1 + 1 + 1 + 1 + 1]? = some o7 := by
  subst h
  have b : ∀ (C : Nat) (A : World) (o : Obj), C ≤ A.heap.size → Below C w A → Below C w (A.alloc o) := fun C A o hC h => h.alloc hC o
  refine ⟨by simp, ?_, ?_, ?_, ?_, ?_, ?_, ?_, ?_, ?_⟩
  · refine b _ _ _ ?_ (b _ _ _ ?_ (b _ _ _ ?_ (b _ _ _ ?_ (b _ _ _ ?_ (b _ _ _ ?_ (b _ _ _ ?_ (b _ _ _ ?_ (Below.refl _ _)))))))) <;> simp <;> omega
  all_goals
    show ((((((((w.heap.push o0).push o1).push o2).push o3).push o4).push o5).push o6).push o7)[_]? = _
    simp [Array.getElem_push, Nat.add_assoc]

/-- Four blocks, one behind the other. -/
theorem chain4 (w : World) (o0 o1 o2 o3 : Obj) : let W := (((w.alloc o0).alloc o1).alloc o2).alloc o3
    Below w.heap.size w W ∧ W.heap[w.heap.size + 1]? = some o1 ∧ W.heap[w.heap.size + 1 + 1]? = some o2 ∧ W.heap[w.heap.size + 1 + 1 + 1]? = some o3 := by
  have b : ∀ (C : Nat) (A : World) (o : Obj), C ≤ A.heap.size → Below C w A → Below C w (A.alloc o) := fun C A o hC h => h.alloc hC o
  refine ⟨?_, ?_, ?_, ?_⟩
  · refine b _ _ _ ?_ (b _ _ _ ?_ (b _ _ _ ?_ (b _ _ _ ?_ (Below.refl _ _)))) <;> simp <;> omega
  all_goals
    show ((((w.heap.push o0).push o1).push o2).push o3)[_]? = _
    simp [Array.getElem_push, Nat.add_assoc]

def lastP {w : World} (k0 : Nat) : List (Chk w) → Nat
  | [] => k0
  | [x] => x.p
  | _ :: y :: r => lastP k0 (y :: r)
theorem lastP_snoc {w : World} (k0 : Nat) (pre : List (Chk w)) (x : Chk w) : lastP k0 (pre ++ [x]) = x.p := by
  induction pre with
  | nil => rfl
  | cons y r ih =>
    cases r with
    | nil => rfl
    | cons z q => exact ih

/-- Between two rounds: all that has come was good; boxes hold the bytes, the place, and no answer yet. -/
def ChI (w : World) (k0 : Nat) (bv : Value) (pre : List (Chk w)) (W : World) : Prop :=
  ((∀ x ∈ pre, x.code = 0) ∧ (∃ v, Boxed W (w.heap.size + 1 + 1 + 1 + 1 + 1) 22 v ∧ W.ownsRow w.heap.size 5 1 v (flatC pre).length (Lib.byteCells (flatC pre)) ∧ v ≠ .slice none 0 0) ∧
    Boxed W w.heap.size 3 (.int .i64 (lastP k0 pre)) ∧ Boxed W (w.heap.size + 1) 9 (.string ⟨#[]⟩) ∧ Boxed W (w.heap.size + 1 + 1) 3 (.int .i64 0) ∧ Boxed W (w.heap.size + 1 + 1 + 1) 3 (.int .i64 0) ∧ w.heap.size + 8 ≤ W.heap.size ∧ Boxed W (w.heap.size + 1 + 1 + 1 + 1 + 1 + 1) 22 bv) ∧ Below w.heap.size w W
def ChX (w : World) (c : Code) (pre : List (Chk w)) (W : World) : Prop :=
  (c = .ret ∧ (∃ q x, pre = q ++ [x] ∧ x.code ≠ 0 ∧ Boxed W (w.heap.size + 1) 9 (.string ⟨#[]⟩) ∧ Boxed W (w.heap.size + 1 + 1) 3 (.int .i64 0) ∧ Boxed W (w.heap.size + 1 + 1 + 1) 3 (.int .i64 x.code))) ∧ Below w.heap.size w W
theorem boxed_kept {W W' : World} {row : Option Nat} {B : Nat} {t : TypeId} {v : Value} (h : Boxed W B t v) (hg : W.grownBy W' row) (hr : ∀ r, row = some r → ∃ o : Obj, W.heap[r]? = some o ∧ o.isCells = false) : Boxed W' B t v :=
  h.kept hg (fun e => by obtain ⟨o, h1, h2⟩ := hr B e.symm; rw [show W.heap[B]? = _ from h] at h1; cases h1; cases h2)
theorem ChI.own (w : World) (k0 C : Nat) (bv : Value) (hC : w.heap.size ≤ C) : OwnFrom C (ChI w k0 bv) := by
  refine OwnFrom.and (Own.from ?_ _) (ownFrom_below (Nat.le_refl _) hC)
  rintro s X Y row ⟨h1, h2, h3, h4, h5, h6, h7, h8⟩ hg hr
  exact ⟨h1, holdsRow_own w.heap.size (w.heap.size + 1 + 1 + 1 + 1 + 1) 22 5 1 (fun pre : List (Chk w) => (flatC pre).length) (fun pre => Lib.byteCells (flatC pre)) (fun _ v => v ≠ .slice none 0 0) s X Y row h2 hg hr, boxed_kept h3 hg hr, boxed_kept h4 hg hr, boxed_kept h5 hg hr, boxed_kept h6 hg hr, Nat.le_trans h7 hg.size, boxed_kept h8 hg hr⟩
theorem ChX.own (w : World) (C : Nat) (hC : w.heap.size ≤ C) (c : Code) : OwnFrom C (ChX w c) := by
  refine OwnFrom.and (Own.from ?_ _) (ownFrom_below (Nat.le_refl _) hC)
  rintro s X Y row ⟨h1, q, x, h2, h3, h4, h5, h6⟩ hg hr
  exact ⟨h1, q, x, h2, h3, boxed_kept h4 hg hr, boxed_kept h5 hg hr, boxed_kept h6 hg hr⟩
theorem KpC.grown {n₀ bx : Nat} {W W' : World} {row : Option Nat} (hg : W.grownBy W' row) (hn : n₀ ≤ W.heap.size) (hbx : bx < W.heap.size) (h : ∀ r, row = some r → n₀ ≤ r ∧ (∀ (cur : Array Value) (fz : Nat × Nat), W.heap[r]? ≠ some (Obj.cells cur 252 fz)) ∧ r ≠ bx) : KpC n₀ bx W W' :=
  ⟨⟨hg.os, hg.tape, hg.output, hg.size, fun k hk => hg.block k (by omega) (fun e => by have := (h k e.symm).1; omega)⟩, fun g cur fz hh => hg.block g (Array.getElem?_eq_some_iff.1 hh).1 (fun e => (h g e.symm).2.1 cur fz hh), hg.block bx hbx (fun e => (h bx e.symm).2.2 rfl)⟩
theorem KpC.box {n₀ bx B : Nat} {W : World} {t : TypeId} {v : Value} (hv : Boxed W B t v) (ht : t ≠ 252) (u : Value) (hn : n₀ ≤ W.heap.size) (hbx : bx < W.heap.size) (hB : n₀ ≤ B) (hne : B ≠ bx) : KpC n₀ bx W (W.setCell ⟨B, 0, none⟩ u) :=
  KpC.grown (grownBy_setCell' W B u) hn hbx (fun r e => by cases e; exact ⟨hB, fun cur fz h => by rw [show W.heap[B]? = _ from hv] at h; cases h; exact ht rfl, hne⟩)
/-- The round's own piece lies in a block of its own. -/
def CellsC (W : World) (Bc : Nat) (x : Array Value) : Prop := W.heap[Bc]? = some (Obj.cells x 252 (0, 0))

theorem results3 (tmps : Array Value) (S : Nat) (W : World) (s : ByteArray) (x y : Int) (h4 : tmps.getD 4 undef = .pointer (some ⟨S + 1, 0, none⟩)) (h5 : tmps.getD 5 undef = .pointer (some ⟨S + 1 + 1, 0, none⟩)) (h6 : tmps.getD 6 undef = .pointer (some ⟨S + 1 + 1 + 1, 0, none⟩))
    (x1 : Boxed W (S + 1) 9 (.string s)) (x2 : Boxed W (S + 1 + 1) 3 (.int .i64 x)) (x3 : Boxed W (S + 1 + 1 + 1) 3 (.int .i64 y)) :
    (results Tryz.f201 tmps).run Tryz.prog W = .ok (.tuple #[.string s, .int .i64 x, .int .i64 y]) W := by
  have c1 := x1.cell
  have c2 := x2.cell
  have c3 := x3.cell
  simp at h4 h5 h6
  simp [results, Tryz.results201, go_sem, c1, c2, c3, h4, h5, h6]

set_option maxRecDepth 100000 in
set_option maxHeartbeats 4000000 in
theorem getChunks_any (a : Option Addr) (l : List UInt8) (cap : Nat) (at0 : Int) (w : World) (h : Byt w w.heap.size a l) (hl : l.length ≤ 4194304) (hlc : l.length ≤ cap) (hcm : cap ≤ maxLen) :
    Calls Tryz.prog 201 #[.slice a l.length cap, .int .i64 at0] w fun e w' => e = .returned (.tuple #[.string ⟨(chunksC l at0).1.toArray⟩, .int .i64 (chunksC l at0).2.1, .int .i64 (chunksC l at0).2.2]) ∧ Below w.heap.size w w' := by
  by_cases hin : 0 ≤ at0 ∧ at0 ≤ l.length
  · obtain ⟨k0, rfl⟩ := Int.eq_ofNat_of_zero_le hin.1
    have hk0 : k0 ≤ l.length := by have := hin.2; omega
    have h1' : ¬ ((l.length : Int) < (k0 : Int)) := by omega
    refine (callsIn_wide (n := 3)).1 ?_
    refine callsIn_of_wp_marks Tryz.func201 rfl trivial ?_ rfl
    simp only [Tryz.ntmps201, List.size_toArray, List.length_cons, List.length_nil, Nat.reduceAdd, Nat.reduceSub, Array.replicate_succ, Array.replicate_zero, List.push_toArray, List.append_toArray, List.nil_append, List.cons_append]
    gi_wp2_with (refine ⟨trivial, ?_⟩; gi_at_call 213; refine (chunksOf_in _ a l.length cap k0 _).mono ?_; rintro e w' ⟨rfl, rfl⟩)
    obtain ⟨W0, hW0⟩ : ∃ W0, ((((((((w.alloc (Obj.cells #[Value.int .i64 k0] 3)).alloc (Obj.cells #[Value.string ⟨#[]⟩] 9)).alloc (Obj.cells #[Value.int .i64 0] 3)).alloc (Obj.cells #[Value.int .i64 0] 3)).alloc (Obj.cells #[] 5)).alloc (Obj.cells #[Value.slice (some ⟨w.heap.size + 1 + 1 + 1 + 1, 0, none⟩) 0 0] 22)).alloc (Obj.cells #[Value.slice a l.length cap] 22)).alloc (Obj.cells #[Value.int .i64 k0] 3)) = W0 := ⟨_, rfl⟩
    obtain ⟨hz, hb0, p0, p1, p2, p3, p4, p5, p6, p7⟩ := chain8 w _ _ _ _ _ _ _ _ W0 hW0
    rw [hW0]
    clear hW0
    have P6 : Boxed W0 (w.heap.size + 1 + 1 + 1 + 1 + 1 + 1) 22 (.slice a l.length cap) := p6
    have P7 : Boxed W0 (w.heap.size + 1 + 1 + 1 + 1 + 1 + 1 + 1) 3 (.int .i64 k0) := p7
    have hrow0 : W0.ownsRow w.heap.size 5 1 (.slice (some ⟨w.heap.size + 1 + 1 + 1 + 1, 0, none⟩) 0 0) 0 (Lib.byteCells []) := by
      exact ⟨rfl, .inr ⟨_, 0, #[], rfl, by omega, p4, Nat.zero_le _, Nat.zero_le _, rfl, rfl⟩⟩
    have hI0 : ChI w k0 (.slice a l.length cap) [] W0 := ⟨⟨fun x hx => absurd hx (by simp), ⟨_, p5, hrow0, by simp⟩, p0, p1, p2, p3, by omega, P6⟩, hb0⟩
    refine wpIn_rangeFunc_ownH rfl (by omega) (gf := 223) (lb := #[.pointer (some ⟨w.heap.size + 1 + 1 + 1 + 1 + 1 + 1 + 1, 0, none⟩), .pointer (some ⟨w.heap.size + 1 + 1 + 1 + 1 + 1 + 1, 0, none⟩)]) rfl trivial (enters_of Tryz.func223 (by kernel_rfl) rfl)
      (chunks_stops _ (by omega) (w.heap.size + 1 + 1 + 1 + 1 + 1 + 1 + 1) (w.heap.size + 1 + 1 + 1 + 1 + 1 + 1) k0 cap w a l hl hlc hcm hk0 h W0 hb0 (by omega) (by omega) P7.cell P6.cell) KpC.t (KpC.b (by omega) (by omega)) (Below.refl _ _) (fun _ => rfl)
      (ChI w k0 (.slice a l.length cap)) (ChX w) (ChI.own w k0 _ _ (by omega)) (ChX.own w _ (by omega))
      hI0
      (fun x a' W => ∃ Bc, CellsC W Bc #[.slice x.a x.data.length x.c, .int .i64 x.p, .int .i64 x.code] ∧ a' = { tmps := #[.slice a l.length cap, .int .i64 k0, undef, .pointer (some ⟨w.heap.size, 0, none⟩), .pointer (some ⟨w.heap.size + 1, 0, none⟩), .pointer (some ⟨w.heap.size + 1 + 1, 0, none⟩), .pointer (some ⟨w.heap.size + 1 + 1 + 1, 0, none⟩), .pointer (some ⟨w.heap.size + 1 + 1 + 1 + 1 + 1, 0, none⟩), .pointer (some ⟨Bc, 0, none⟩), .int .i64 k0, .bool (decide ((k0 : Int) < 0)), .bool (decide ((k0 : Int) < 0)), .int .i64 k0, .slice a l.length cap, .int .i64 l.length, .bool false, .bool (decide ((k0 : Int) < 0)), .slice (some ⟨w.heap.size + 1 + 1 + 1 + 1, 0, none⟩) 0 0, .slice a l.length cap, .int .i64 k0, .func (.func 223) #[] #[.pointer (some ⟨w.heap.size + 1 + 1 + 1 + 1 + 1 + 1 + 1, 0, none⟩), .pointer (some ⟨w.heap.size + 1 + 1 + 1 + 1 + 1 + 1, 0, none⟩)], encC x, undef, undef, undef, undef, undef, undef, undef, undef, undef, undef, undef, undef, undef, undef], defers := [] })
      ?hax ?assign ?body ?done ?stop
    case hax =>
      rintro x a' s X Y row ⟨Bc, hc, rfl⟩ hg hr
      exact ⟨Bc, (hg.block Bc (Array.getElem?_eq_some_iff.1 hc).1 (fun e => by obtain ⟨_, o, h1, h2⟩ := hr Bc e.symm; rw [show X.heap[Bc]? = _ from hc] at h1; cases h1; cases h2)).trans hc, rfl⟩
    case assign =>
      rintro ll pre x W K hi hK
      dsimp only [encC]
      gi_wp2
      have hold : ∀ k, k < W.heap.size → (W.alloc (Obj.cells #[Value.slice x.a x.data.length x.c, Value.int .i64 x.p, Value.int .i64 x.code] 252)).heap[k]? = W.heap[k]? := fun k hk => Below.heap_alloc W _ k hk
      have hbw := hi.2
      refine hK _ _ ((KeepsOthers.alloc _ _).from _) ⟨(Below.refl _ W).alloc hbw.size _, fun g cur fz hg => hold g (Array.getElem?_eq_some_iff.1 hg).1, ?_⟩ ((ChI.own w k0 w.heap.size _ (Nat.le_refl _)).alloc _ hi) ⟨W.heap.size, heap_alloc_new W _, rfl⟩
      exact hold _ (by have := hi.1.2.2.2.2.2.2.1; omega)
    case body =>
      rintro ll pre x a' W hll ⟨r, hr⟩ ⟨⟨hall, ⟨v, hv, hrow, hvn⟩, q0, q1, q2, q3, hsz, q6⟩, hb⟩ ⟨Bc, hc, rfl⟩ hlt
      have m0 : W.cell? ⟨Bc, 0, none⟩ = some (.slice x.a x.data.length x.c) := by unfold World.cell?; rw [show W.heap[Bc]? = _ from hc]; rfl
      have m1 : W.cell? ⟨Bc, 1, none⟩ = some (.int .i64 x.p) := by unfold World.cell?; rw [show W.heap[Bc]? = _ from hc]; rfl
      have m2 : W.cell? ⟨Bc, 2, none⟩ = some (.int .i64 x.code) := by unfold World.cell?; rw [show W.heap[Bc]? = _ from hc]; rfl
      by_cases hcode : x.code = 0
      · have hc' : (x.code != 0) = false := by rw [hcode]; rfl
        obtain ⟨b, o, ha⟩ := x.ha hcode
        have hY := x.hb.below hb (Nat.le_refl _)
        rw [ha] at m0 hY
        obtain ⟨i0, hi, hz0, hz1, hz2⟩ := info_parts info_byte
        have hcells : ∀ j u, (Lib.byteCells x.data)[j]? = some u → W.cell? ((⟨b, o, none⟩ : Addr).add j) = some u := by
          intro j u hu
          have hj : j < x.data.length := by
            have := (List.getElem?_eq_some_iff.1 hu).1
            rwa [Lib.byteCells_length] at this
          have hadd : (⟨b, o, none⟩ : Addr).add j = ⟨b, o + j, none⟩ := by unfold Addr.add; split <;> simp_all
          obtain ⟨b', o', e, _, hcc⟩ := hY (by omega)
          cases e
          rw [hadd, hcc j hj]
          simp [Lib.byteCells, List.getElem?_eq_getElem hj] at hu
          rw [← hu]
        have hone : ∀ u ∈ Lib.byteCells x.data, u.oneCell' = true := by
          intro u hu
          simp only [Lib.byteCells, List.mem_map] at hu
          obtain ⟨c, _, rfl⟩ := hu
          rfl
        have hfl := flatC_len pre
        have hxd := x.hd
        have a5 := hv.cell
        have d5 := hv.frozen
        have a0 := q0.cell
        have d0 := q0.frozen
        obtain ⟨g, gc, rfl⟩ : ∃ g gc, v = .slice (some ⟨g, 0, none⟩) (flatC pre).length gc := by
          rcases hrow.2 with ⟨e, _⟩ | ⟨g, cap, cur, e, _⟩
          · exact absurd e hvn
          · exact ⟨g, cap, e⟩
        dsimp only [encC]
        gi_wp2_with (gi_at_builtin; refine wpListIn_append_own W rfl _ _ 22 rfl w.heap.size 5 i0 (.int .u8 0) 1 1 Tryz.underlying22 hi hz0 hz1 hz2 rfl (by decide) _ (flatC pre).length _ rfl hrow ⟨b, o, none⟩ x.data.length x.c (Lib.byteCells x.data) rfl (by rw [Lib.byteCells_length]; omega) hcells hone (by unfold maxLen; omega) (by omega) hb.size ?_)
        intro v' w1 hown' hgrow hiff
        obtain ⟨g', gc', rfl⟩ : ∃ g' gc', v' = .slice (some ⟨g', 0, none⟩) ((flatC pre).length + x.data.length) gc' := by
          rcases hown'.2 with ⟨e, _⟩ | ⟨g, cap, cur, e, _⟩
          · first | exact absurd e hiff | (have := (hiff.1 e).1; cases this)
          · exact ⟨g, cap, e⟩
        have hv1 := hv.kept hgrow (hv.not_row (by decide) hrow)
        have q01 := q0.kept hgrow (q0.not_row (by decide) hrow)
        have q11 := q1.kept hgrow (q1.not_row (by decide) hrow)
        have q21 := q2.kept hgrow (q2.not_row (by decide) hrow)
        have q31 := q3.kept hgrow (q3.not_row (by decide) hrow)
        have hneR : ∀ (cur : Array Value) (fz : Nat × Nat), W.heap[g]? ≠ some (Obj.cells cur 252 fz) := by
          intro cur fz e
          rcases hrow.2 with ⟨e', _⟩ | ⟨g2, cap2, cur2, e', _, hg2, _⟩
          · cases e'
          · cases e'
            rw [hg2] at e
            cases e
        have hc1 : CellsC w1 Bc _ := (hgrow.block Bc (Array.getElem?_eq_some_iff.1 hc).1 (fun e => by simp [Value.ownBlock] at e; subst e; exact hneR _ _ hc)).trans hc
        have hne5 : ¬ Bc = w.heap.size + 1 + 1 + 1 + 1 + 1 := by
          intro e
          subst e
          rw [CellsC, show W.heap[w.heap.size + 1 + 1 + 1 + 1 + 1]? = _ from hv] at hc
          simp at hc
        have m1' : (w1.setCell ⟨w.heap.size + 1 + 1 + 1 + 1 + 1, 0, none⟩ (.slice (some ⟨g', 0, none⟩) ((flatC pre).length + x.data.length) gc')).cell? ⟨Bc, 1, none⟩ = some (.int .i64 x.p) := by
          rw [World.cell?_setCell_other _ _ _ _ (fun e => hne5 (congrArg Addr.block e).symm)]
          unfold World.cell?; rw [show w1.heap[Bc]? = _ from hc1]; rfl
        have a5' := hv1.cell
        have d5' := hv1.frozen
        have q02 := q01.other (B' := w.heap.size + 1 + 1 + 1 + 1 + 1) (by omega) (.slice (some ⟨g', 0, none⟩) ((flatC pre).length + x.data.length) gc')
        have a0' := q02.cell
        have d0' := q02.frozen
        gi_wp2
        have hgb : w.heap.size ≤ g := (hrow.lt g rfl).1
        have q61 := q6.kept hgrow (q6.not_row (by decide) hrow)
        have hk1 : KpC w.heap.size (w.heap.size + 1 + 1 + 1 + 1 + 1 + 1) W w1 := KpC.grown hgrow hb.size (by omega) (fun r e => by
          simp [Value.ownBlock] at e
          subst e
          exact ⟨hgb, hneR, fun e => q6.not_row (by decide) hrow (by rw [e]; rfl)⟩)
        have hz1 := hgrow.size
        have hk2 := (hk1.t (KpC.box hv1 (by decide) (.slice (some ⟨g', 0, none⟩) ((flatC pre).length + x.data.length) gc') (by omega) (by omega) (by omega) (by omega))).t (KpC.box q02 (by decide) (.int .i64 x.p) (by simp; omega) (by simp; omega) (Nat.le_refl _) (by omega))
        have n5 := hv1.not_row (by decide) hown'
        have n0 := q01.not_row (by decide) hown'
        have ho2 := ownsRow_setCell_other (a := ⟨w.heap.size, 0, none⟩) (ownsRow_setCell_other (a := ⟨w.heap.size + 1 + 1 + 1 + 1 + 1, 0, none⟩) hown' (fun e => n5 e.symm) (.slice (some ⟨g', 0, none⟩) ((flatC pre).length + x.data.length) gc')) (fun e => n0 e.symm) (.int .i64 x.p)
        have ho3 : World.ownsRow ((w1.setCell ⟨w.heap.size + 1 + 1 + 1 + 1 + 1, 0, none⟩ (.slice (some ⟨g', 0, none⟩) ((flatC pre).length + x.data.length) gc')).setCell ⟨w.heap.size, 0, none⟩ (.int .i64 x.p)) w.heap.size 5 1 (.slice (some ⟨g', 0, none⟩) ((flatC pre).length + x.data.length) gc') (flatC (pre ++ [x])).length (Lib.byteCells (flatC (pre ++ [x]))) := by
          rw [flatC_snoc, List.length_append, Lib.byteCells_append]
          exact ho2
        have oth : ∀ {B : Nat} {t : TypeId} {u : Value}, Boxed w1 B t u → B ≠ w.heap.size + 1 + 1 + 1 + 1 + 1 → B ≠ w.heap.size → Boxed ((w1.setCell ⟨w.heap.size + 1 + 1 + 1 + 1 + 1, 0, none⟩ (.slice (some ⟨g', 0, none⟩) ((flatC pre).length + x.data.length) gc')).setCell ⟨w.heap.size, 0, none⟩ (.int .i64 x.p)) B t u := fun hh e1 e2 => (hh.other e1 _).other e2 _
        refine ⟨(((KeepsOthers.of_grownBy hgrow (fun j o e ho => by
          simp [Value.ownBlock] at e
          subst e
          rcases hrow.2 with ⟨e', _⟩ | ⟨g2, cap2, cur2, e', _, hg2, _⟩
          · cases e'
          · cases e'
            rw [hg2] at ho
            cases ho
            rfl)).trans (KeepsOthers.setCell _ _ _)).trans (KeepsOthers.setCell _ _ _)).from _, hk2, ⟨?_, ⟨_, (hv1.set _).other (by omega) _, ho3, by simp⟩, ?_, oth q11 (by omega) (by omega), oth q21 (by omega) (by omega), oth q31 (by omega) (by omega), by simp; omega, oth q61 (by omega) (by omega)⟩, hb.trans hk2.1⟩
        · intro y hy
          rcases List.mem_append.1 hy with hy | hy
          · exact hall y hy
          · simp at hy; rw [hy]; exact hcode
        · rw [lastP_snoc]; exact q02.set _
      · have hc' : (x.code != 0) = true := by rw [bne_iff_ne]; exact hcode
        have a1 := q1.cell
        have a2 := q2.cell
        have a3 := q3.cell
        have d1 := q1.frozen
        have d2 := q2.frozen
        have d3 := q3.frozen
        have hmx : Tryz.prog.follows .mixedOrders = true := by kernel_rfl
        dsimp only [encC]
        gi_wp2
        gi_region_with_o (fail)
        all_goals gi_wp2
        all_goals
          have x1 := ((q1.set (.string ⟨#[]⟩)).other (B' := w.heap.size + 1 + 1) (by omega) (.int .i64 0)).other (B' := w.heap.size + 1 + 1 + 1) (by omega) (.int .i64 x.code)
          have x2 := ((q2.other (B' := w.heap.size + 1) (by omega) (.string ⟨#[]⟩)).set (.int .i64 0)).other (B' := w.heap.size + 1 + 1 + 1) (by omega) (.int .i64 x.code)
          have x3 := ((q3.other (B' := w.heap.size + 1) (by omega) (.string ⟨#[]⟩)).other (B' := w.heap.size + 1 + 1) (by omega) (.int .i64 0)).set (.int .i64 x.code)
          have xb := ((hb.setCell (p := ⟨w.heap.size + 1, 0, none⟩) (by show w.heap.size ≤ w.heap.size + 1; omega) (.string ⟨#[]⟩)).setCell (p := ⟨w.heap.size + 1 + 1, 0, none⟩) (by show w.heap.size ≤ w.heap.size + 1 + 1; omega) (.int .i64 0)).setCell (p := ⟨w.heap.size + 1 + 1 + 1, 0, none⟩) (by show w.heap.size ≤ w.heap.size + 1 + 1 + 1; omega) (.int .i64 x.code)
          exact ⟨((((KeepsOthers.setCell _ _ _).trans (KeepsOthers.setCell _ _ _)).trans (KeepsOthers.setCell _ _ _)).trans (KeepsOthers.drew _)).from _, ⟨rfl, pre, x, rfl, hcode, x1, x2, x3⟩, below_drewN xb 1⟩
    case done =>
      rintro D ys W hD ⟨pre, x, k, room, rfl, hat, hx, hd⟩ ⟨⟨hall, ⟨v, hv, hrow, hvn⟩, q0, q1, q2, q3, hsz, q6⟩, hb⟩ hK
      have hcode : x.code = 0 := hall x (by simp)
      obtain ⟨hx1, _, hx3⟩ := hx
      obtain ⟨hy1, hy2, hy3⟩ := hx3 hcode
      obtain ⟨hg1, hg2, hg3⟩ := hat.get
      have hN : szN l k = 0 := by rw [← hy2, hd]; rfl
      have hG : chunksC l (k0 : Int) = (flatC (pre ++ [x]), lastP k0 (pre ++ [x]), 0) := by
        unfold chunksC
        rw [if_pos hin, Int.toNat_natCast, hg3, flatC_snoc, lastP_snoc, hd, List.append_nil, hy3, hN]
        obtain ⟨f, hf⟩ : ∃ f, 201 - pre.length = f + 1 := ⟨200 - pre.length, by omega⟩
        rw [hf, getC, if_neg (by rw [show 200 - (flatC pre).length = room by omega, ← hx1, hcode]; decide), if_pos hN]
      have HG := hide hG
      have hcv := conv_own (w := W.drew) hrow
      have a0 := q0.cell
      have a1 := q1.cell
      have a2 := q2.cell
      have a3 := q3.cell
      have a5 := hv.cell
      have d1 := q1.frozen
      have d2 := q2.frozen
      have d3 := q3.frozen
      have hmx : Tryz.prog.follows .mixedOrders = true := by kernel_rfl
      obtain ⟨g, gc, rfl⟩ : ∃ g gc, v = .slice (some ⟨g, 0, none⟩) (flatC (pre ++ [x])).length gc := by
        rcases hrow.2 with ⟨e, _⟩ | ⟨g, cap, cur, e, _⟩
        · exact absurd e hvn
        · exact ⟨g, cap, e⟩
      have hfl := flatC_len (pre ++ [x])
      have hplen : pre.length ≤ 200 := by omega
      have hfl2 : (flatC (pre ++ [x])).length ≤ 100000 := by simp at hfl; omega
      obtain ⟨FL, hFL⟩ : ∃ FL, flatC (pre ++ [x]) = FL := ⟨_, rfl⟩
      obtain ⟨LP, hLP⟩ : ∃ LP, lastP k0 (pre ++ [x]) = LP := ⟨_, rfl⟩
      rw [hFL] at hcv a5 hfl2
      rw [hFL, hLP] at HG
      rw [hLP] at a0
      clear hG hg3 hy3 hx3 hx1 hd hy1 hN hfl
      gi_wp2
      gi_region_with_o (fail)
      all_goals gi_wp2
      all_goals
        have x1 := ((q1.set (.string ⟨FL.toArray⟩)).other (B' := w.heap.size + 1 + 1) (by omega) (.int .i64 LP)).other (B' := w.heap.size + 1 + 1 + 1) (by omega) (.int .i64 0)
        have x2 := ((q2.other (B' := w.heap.size + 1) (by omega) (.string ⟨FL.toArray⟩)).set (.int .i64 LP)).other (B' := w.heap.size + 1 + 1 + 1) (by omega) (.int .i64 0)
        have x3 := ((q3.other (B' := w.heap.size + 1) (by omega) (.string ⟨FL.toArray⟩)).other (B' := w.heap.size + 1 + 1) (by omega) (.int .i64 LP)).set (.int .i64 0)
        have xb := ((hb.setCell (p := ⟨w.heap.size + 1, 0, none⟩) (by show w.heap.size ≤ w.heap.size + 1; omega) (.string ⟨FL.toArray⟩)).setCell (p := ⟨w.heap.size + 1 + 1, 0, none⟩) (by show w.heap.size ≤ w.heap.size + 1 + 1; omega) (.int .i64 LP)).setCell (p := ⟨w.heap.size + 1 + 1 + 1, 0, none⟩) (by show w.heap.size ≤ w.heap.size + 1 + 1 + 1; omega) (.int .i64 0)
        have hK1 := (((KeepsOthers.setCell W ⟨w.heap.size + 1, 0, none⟩ (.string ⟨FL.toArray⟩)).trans (KeepsOthers.setCell _ ⟨w.heap.size + 1 + 1, 0, none⟩ (.int .i64 LP))).trans (KeepsOthers.setCell _ ⟨w.heap.size + 1 + 1 + 1, 0, none⟩ (.int .i64 0))).same D _ hK rfl
        have xb1 := below_drewN xb 1
        refine ⟨by simp, .inl ⟨_, _, rfl, run_takeDeferred hK1, ?_⟩⟩
        have kept : ∀ {B : Nat} {t : TypeId} {u : Value}, Boxed (((W.setCell ⟨w.heap.size + 1, 0, none⟩ (.string ⟨FL.toArray⟩)).setCell ⟨w.heap.size + 1 + 1, 0, none⟩ (.int .i64 LP)).setCell ⟨w.heap.size + 1 + 1 + 1, 0, none⟩ (.int .i64 0)).drew B t u → Boxed ((((W.setCell ⟨w.heap.size + 1, 0, none⟩ (.string ⟨FL.toArray⟩)).setCell ⟨w.heap.size + 1 + 1, 0, none⟩ (.int .i64 LP)).setCell ⟨w.heap.size + 1 + 1 + 1, 0, none⟩ (.int .i64 0)).drew.putObj D (.deferred none)) B t u := fun hh => boxed_kept hh (grownBy_putObj' _ D _) (fun r e => by cases e; exact ⟨_, hK1, rfl⟩)
        refine ⟨_, results3 _ w.heap.size _ _ _ _ rfl rfl rfl (kept x1) (kept x2) (kept x3), by rw [HG.out], xb1.trans (belowK_b (w := w) (Nat.le_refl _) _ D _ _ (by omega) hK1 rfl rfl)⟩
    case stop =>
      rintro D c ys W hD ⟨pre, x, k, room, rfl, hat, hx⟩ ⟨⟨rfl, q, x', he, hcode, q1, q2, q3⟩, hb⟩ hK
      obtain ⟨rfl, hxx⟩ := List.append_inj' he rfl
      obtain rfl : x = x' := by simpa using hxx
      obtain ⟨hx1, _⟩ := hx
      obtain ⟨hg1, hg2, hg3⟩ := hat.get
      have hG : chunksC l (k0 : Int) = ([], 0, x.code) := by
        unfold chunksC
        rw [if_pos hin, Int.toNat_natCast, hg3]
        obtain ⟨f, hf⟩ : ∃ f, 201 - pre.length = f + 1 := ⟨200 - pre.length, by omega⟩
        rw [hf, getC, if_pos (by rw [show 200 - (flatC pre).length = room by omega, ← hx1]; exact hcode), show 200 - (flatC pre).length = room by omega, ← hx1]
      have HG := hide hG
      clear hG hg3 hxx he hx1 hat
      gi_wp2
      refine ⟨by simp, .inl ⟨_, _, rfl, run_takeDeferred hK, ?_⟩⟩
      have kept : ∀ {B : Nat} {t : TypeId} {u : Value}, Boxed W B t u → Boxed (W.putObj D (.deferred none)) B t u := fun hh => boxed_kept hh (grownBy_putObj' _ D _) (fun r e => by cases e; exact ⟨_, hK, rfl⟩)
      refine ⟨_, results3 _ w.heap.size _ _ _ _ rfl rfl rfl (kept q1) (kept q2) (kept q3), by rw [HG.out]; rfl, hb.trans (belowK_b (w := w) (Nat.le_refl _) _ D _ _ (by omega) hK rfl rfl)⟩
  · have HC : Hid (chunksC l at0 = ([], 0, 400)) := by show chunksC l _ = _; unfold chunksC; rw [if_neg hin]
    have hw : at0 < 0 ∨ (¬ at0 < 0 ∧ (l.length : Int) < at0) := by omega
    have HF := hide (chain4 w (Obj.cells #[Value.int .i64 at0] 3) (Obj.cells #[Value.string ⟨#[]⟩] 9) (Obj.cells #[Value.int .i64 0] 3) (Obj.cells #[Value.int .i64 400] 3))
    clear hin
    rcases hw with hw | ⟨hw1, hw2⟩
    · go_enter Tryz.func201, Tryz.ntmps201
      go_wp2
      obtain ⟨xb, x1, x2, x3⟩ := HF.out
      exact bodyPost_ret (results3 _ w.heap.size _ _ _ _ rfl rfl rfl x1 x2 x3) rfl ⟨by rw [HC.out]; rfl, xb⟩
    · go_enter Tryz.func201, Tryz.ntmps201
      go_wp2
      obtain ⟨xb, x1, x2, x3⟩ := HF.out
      exact bodyPost_ret (results3 _ w.heap.size _ _ _ _ rfl rfl rfl x1 x2 x3) rfl ⟨by rw [HC.out]; rfl, xb⟩
end Go.Proofs.YtanebchmeaomgaaGreatDoor
