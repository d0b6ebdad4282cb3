/-
  Rows of things that one call makes, one by one.
  What impl.copyTree does.
  What a turn of the program hands back; one path as a list of paths.
  Whether a list of texts stands under another.
  What stands right on a path, and what is deep there.
  What the program's Under does.
  What impl.isDeep does.
  Rows of things that grow.
  Growing rows of things whose lists have no room besides.
  What stands on a path of right things: no program in sight.
  What stays, what comes, and all of it in order: no program in sight.
  What impl.without does.
-/
import Derived.Test.YtepdfppbnepamabMathFind
import Derived.Test.YtepdfppbnepamabCopyRes
import Derived.Test.YtepdfppbnepamabAskRef
import Derived.Test.YtepdfppbnepamabSliceEq
import Derived.Test.YtepdfppbnepamabSamePathI
import Derived.Maps.AppendAt
import Derived.Test.YtepdfppbnepamabMathPutR
import Derived.Test.YtepdfppbnepamabMathOps
namespace Go.Proofs.Ytepdfppbnepamab
open Go.RowKit M
set_option linter.unusedVariables false

theorem run_make_ress (n : Nat) (hn : n ≤ 1048576) (w : World) :
    (Instr.makeSlice 26 (.int .i64 (n : Int)) (.int .i64 (n : Int))).run Try.prog w = .ok (.slice (some ⟨w.heap.size, 0, none⟩) n n) (w.alloc (.cells (madeCells #[.slice none 0 0, .bool false, .string ByteArray.empty, .int .i64 0, .slice none 0 0] (n * 5)) 47)) := by
  obtain ⟨i, hi, hz, hs, hb⟩ := info_parts info_res
  have hr := run_make (P := Try.prog) w 26 47 i _ Try.underlying26 hi hz .i64 .i64 n n (by omega) (Int.le_refl _) (by rw [hb]; omega) (by omega)
  simp only [Int.toNat_natCast, hs] at hr
  exact hr

/-- What is made so far. -/
def MadeR (w : World) (g : Nat) (rs : List Rs) (k : Nat) : Prop :=
  ∃ F : Nat → Value, w.rowIs g 47 (rs.length * 5) F ∧ ∃ pb qb : Nat → Nat, ∀ j (hj : j < rs.length), j < k →
    F (j * 5) = .slice (some ⟨pb j, 0, none⟩) rs[j].pa.length rs[j].pa.length ∧ F (j * 5 + 1) = .bool rs[j].co ∧ F (j * 5 + 2) = .string rs[j].bo ∧ F (j * 5 + 3) = .int .i64 rs[j].ve ∧ F (j * 5 + 4) = .slice (some ⟨qb j, 0, none⟩) rs[j].ps.length rs[j].ps.length ∧
    RowS w (pb j) rs[j].pa ∧ RowP w (qb j) rs[j].ps ∧ g < pb j ∧ pb j < qb j ∧ ∀ i, i < j → qb i < pb j

theorem MadeR.start (w : World) (rs : List Rs) : MadeR (w.alloc (.cells (madeCells #[.slice none 0 0, .bool false, .string ByteArray.empty, .int .i64 0, .slice none 0 0] (rs.length * 5)) 47)) w.heap.size rs 0 := by
  have hr := World.rowIs_alloc w (madeCells #[.slice none 0 0, .bool false, .string ByteArray.empty, .int .i64 0, .slice none 0 0] (rs.length * 5)) 47 (fun i => ((madeCells #[.slice none 0 0, .bool false, .string ByteArray.empty, .int .i64 0, .slice none 0 0] (rs.length * 5))[i]?).getD (.string ByteArray.empty)) (fun i hi => by rw [Array.getElem?_eq_getElem hi]; rfl)
  rw [size_madeCells] at hr
  exact ⟨_, hr, fun _ => 0, fun _ => 0, fun j _ hj => absurd hj (Nat.not_lt_zero _)⟩
theorem MadeR.below {w w1 : World} {g : Nat} {rs : List Rs} {k : Nat} (m : MadeR w g rs k) (hb : Below w.heap.size w w1) : MadeR w1 g rs k := by
  obtain ⟨F, hr, pb, qb, hj⟩ := m
  refine ⟨F, hr.of_block (w' := w1) (hb.block _ hr.lt), pb, qb, fun j hjl hjk => ?_⟩
  obtain ⟨e0, e1, e2, e3, e4, e5, e6, e7⟩ := hj j hjl hjk
  exact ⟨e0, e1, e2, e3, e4, e5.below hb, e6.below hb, e7⟩
theorem MadeR.lt {w : World} {g : Nat} {rs : List Rs} {k : Nat} (m : MadeR w g rs k) : g < w.heap.size := by obtain ⟨F, hr, _⟩ := m; exact hr.lt
theorem MadeR.cells {w : World} {g : Nat} {rs : List Rs} {k : Nat} (m : MadeR w g rs k) (hk : k < rs.length) : ∃ v0 v1 v2 v3 v4, w.cell? ⟨g, k * 5, none⟩ = some v0 ∧ w.cell? ⟨g, k * 5 + 1, none⟩ = some v1 ∧ w.cell? ⟨g, k * 5 + 2, none⟩ = some v2 ∧ w.cell? ⟨g, k * 5 + 3, none⟩ = some v3 ∧ w.cell? ⟨g, k * 5 + 4, none⟩ = some v4 ∧ w.frozen? ⟨g, k * 5, none⟩ = false ∧ w.frozen? ⟨g, k * 5 + 1, none⟩ = false ∧ w.frozen? ⟨g, k * 5 + 2, none⟩ = false ∧ w.frozen? ⟨g, k * 5 + 3, none⟩ = false ∧ w.frozen? ⟨g, k * 5 + 4, none⟩ = false := by
  obtain ⟨F, hr, _⟩ := m
  exact ⟨_, _, _, _, _, hr.cell (by omega), hr.cell (by omega), hr.cell (by omega), hr.cell (by omega), hr.cell (by omega), hr.frozen _, hr.frozen _, hr.frozen _, hr.frozen _, hr.frozen _⟩
theorem MadeR.next {w w1 : World} {g : Nat} {rs : List Rs} {k : Nat} (m : MadeR w g rs k) (hb : Below w.heap.size w w1) (hk : k < rs.length) (p q : Nat) (hp : w.heap.size ≤ p) (hpq : p < q) (rp : RowS w1 p rs[k].pa) (rq : RowP w1 q rs[k].ps) :
    MadeR (((((w1.setCell ⟨g, k * 5, none⟩ (.slice (some ⟨p, 0, none⟩) rs[k].pa.length rs[k].pa.length)).setCell ⟨g, k * 5 + 1, none⟩ (.bool rs[k].co)).setCell ⟨g, k * 5 + 2, none⟩ (.string rs[k].bo)).setCell ⟨g, k * 5 + 3, none⟩ (.int .i64 rs[k].ve)).setCell ⟨g, k * 5 + 4, none⟩ (.slice (some ⟨q, 0, none⟩) rs[k].ps.length rs[k].ps.length)) g rs (k + 1) := by
  have m1 := m.below hb
  have hgl := m.lt
  obtain ⟨F0, hr0, pb0, qb0, hj0⟩ := m
  have hlast : ∀ (pb qb : Nat → Nat), True := fun _ _ => trivial
  clear hlast
  refine ⟨_, (((((hr0.of_block (w' := w1) (hb.block _ hr0.lt)).set (k * 5) (.slice (some ⟨p, 0, none⟩) rs[k].pa.length rs[k].pa.length)).set (k * 5 + 1) (.bool rs[k].co)).set (k * 5 + 2) (.string rs[k].bo)).set (k * 5 + 3) (.int .i64 rs[k].ve)).set (k * 5 + 4) (.slice (some ⟨q, 0, none⟩) rs[k].ps.length rs[k].ps.length), fun i => if i = k then p else pb0 i, fun i => if i = k then q else qb0 i, fun j hjl hjk => ?_⟩
  by_cases e : j = k
  · subst e
    refine ⟨by simp, by simp, by simp, by simp, by simp, ?_, ?_, by simp; omega, by simpa using hpq, fun i hi => ?_⟩
    · simp only [if_true]
      exact ((((rp.setCell _ _ (by simp; omega)).setCell _ _ (by simp; omega)).setCell _ _ (by simp; omega)).setCell _ _ (by simp; omega)).setCell _ _ (by simp; omega)
    · simp only [if_true]
      exact ((((rq.setCell _ _ (by simp; omega)).setCell _ _ (by simp; omega)).setCell _ _ (by simp; omega)).setCell _ _ (by simp; omega)).setCell _ _ (by simp; omega)
    · simp only [show ¬ i = j by omega, if_true, if_false]
      have := (hj0 i (by omega) hi).2.2.2.2.2.2.1.1
      omega
  · obtain ⟨e0, e1, e2, e3, e4, e5, e6, e7, e8, e9⟩ := hj0 j hjl (by omega)
    have f5 := e5.below hb
    have f6 := e6.below hb
    simp only [e, if_false]
    refine ⟨?_, ?_, ?_, ?_, ?_, ?_, ?_, e7, e8, fun i hi => ?_⟩
    · simp only [show ¬ j * 5 = k * 5 + 4 by omega, show ¬ j * 5 = k * 5 + 3 by omega, show ¬ j * 5 = k * 5 + 2 by omega, show ¬ j * 5 = k * 5 + 1 by omega, show ¬ j * 5 = k * 5 by omega, if_false]; exact e0
    · simp only [show ¬ j * 5 + 1 = k * 5 + 4 by omega, show ¬ j * 5 + 1 = k * 5 + 3 by omega, show ¬ j * 5 + 1 = k * 5 + 2 by omega, show ¬ j * 5 + 1 = k * 5 + 1 by omega, show ¬ j * 5 + 1 = k * 5 by omega, if_false]; exact e1
    · simp only [show ¬ j * 5 + 2 = k * 5 + 4 by omega, show ¬ j * 5 + 2 = k * 5 + 3 by omega, show ¬ j * 5 + 2 = k * 5 + 2 by omega, show ¬ j * 5 + 2 = k * 5 + 1 by omega, show ¬ j * 5 + 2 = k * 5 by omega, if_false]; exact e2
    · simp only [show ¬ j * 5 + 3 = k * 5 + 4 by omega, show ¬ j * 5 + 3 = k * 5 + 3 by omega, show ¬ j * 5 + 3 = k * 5 + 2 by omega, show ¬ j * 5 + 3 = k * 5 + 1 by omega, show ¬ j * 5 + 3 = k * 5 by omega, if_false]; exact e3
    · simp only [show ¬ j * 5 + 4 = k * 5 + 4 by omega, show ¬ j * 5 + 4 = k * 5 + 3 by omega, show ¬ j * 5 + 4 = k * 5 + 2 by omega, show ¬ j * 5 + 4 = k * 5 + 1 by omega, show ¬ j * 5 + 4 = k * 5 by omega, if_false]; exact e4
    · exact ((((f5.setCell _ _ (by simp; omega)).setCell _ _ (by simp; omega)).setCell _ _ (by simp; omega)).setCell _ _ (by simp; omega)).setCell _ _ (by simp; omega)
    · exact ((((f6.setCell _ _ (by simp; omega)).setCell _ _ (by simp; omega)).setCell _ _ (by simp; omega)).setCell _ _ (by simp; omega)).setCell _ _ (by simp; omega)
    · simp only [show ¬ i = k by omega, if_false]
      exact e9 i hi
theorem MadeR.done {w : World} {g : Nat} {rs : List Rs} {k : Nat} (m : MadeR w g rs k) (hk : ¬ k < rs.length) : ∃ pb qb, OwnR w g w.heap.size g rs pb qb := by
  obtain ⟨F, hr, pb, qb, hj⟩ := m
  refine ⟨pb, qb, Nat.le_refl _, hr.lt, hr.lt, fun i => hr.frozen i, fun j hjl => ?_, fun j hjl => (hj j hjl (by omega)).2.2.2.2.2.1, fun j hjl => (hj j hjl (by omega)).2.2.2.2.2.2.1, fun j hjl => ?_, fun i j hij hjl => .inl ((hj j hjl (by omega)).2.2.2.2.2.2.2.2.2 i hij)⟩
  · obtain ⟨e0, e1, e2, e3, e4, _⟩ := hj j hjl (by omega)
    exact ⟨by rw [hr.cell (by omega), e0], by rw [hr.cell (by omega), e1], by rw [hr.cell (by omega), e2], by rw [hr.cell (by omega), e3], by rw [hr.cell (by omega), e4]⟩
  · obtain ⟨_, _, _, _, _, e5, e6, e7, e8, _⟩ := hj j hjl (by omega)
    have := e6.1
    omega

end Go.Proofs.Ytepdfppbnepamab
namespace Go.Proofs.Ytepdfppbnepamab
open Go.RowKit M
set_option linter.unusedVariables false

/-- How long what a thing has may be. -/
abbrev SzT (rs : List Rs) : Prop := ∀ r ∈ rs, r.pa.length ≤ 1048576 ∧ r.ps.length ≤ 1048576 ∧ (∀ s ∈ r.pa, s.size ≤ 281474976710656) ∧ r.bo.size ≤ 281474976710656 ∧ ∀ p ∈ r.ps, p.1.size ≤ 281474976710656 ∧ p.2.1.size ≤ 281474976710656 ∧ p.2.2.size ≤ 281474976710656

set_option maxRecDepth 100000 in
set_option maxHeartbeats 2000000 in
theorem copyTree_any (a : Option Addr) (rs : List Rs) (cap B : Nat) (w : World) (h : Rss w B a rs) (hB : B ≤ w.heap.size) (hl : rs.length ≤ 1048576) (hs : SzT rs) :
    Calls Try.prog 25 #[.slice a rs.length cap] w fun e w' => e = .returned (.slice (some ⟨w.heap.size, 0, none⟩) rs.length rs.length) ∧ (∃ pb qb, OwnR w' w.heap.size w'.heap.size w.heap.size rs pb qb) ∧ Below w.heap.size w w' := by
  have HS := hide hs
  clear hs
  have hmk := run_make_ress rs.length hl w
  go_enter Try.func25, Try.ntmps25
  go_wp2
  clear hmk
  go_loopw [11] (fun i wr => ∃ k : Nat, k ≤ rs.length ∧ i = .int .i64 k ∧ MadeR wr w.heap.size rs k ∧ Below w.heap.size w wr) (fun i _ => rs.length - (intOf i).toNat)
  case atStart => exact ⟨0, Nat.zero_le _, rfl, MadeR.start w rs, (Below.refl _ _).alloc (Nat.le_refl _) _⟩
  case round =>
    obtain ⟨k, hk, rfl, hrow, hbe⟩ := hrel
    by_cases hlt : k < rs.length
    · obtain ⟨b, o, rfl, hb, hc⟩ := (h.below hbe hB) (by omega)
      obtain ⟨pa, pc, qa, qc, ⟨hc0, hc1, hc2, hc3, hc4⟩, hin⟩ := hc k hlt
      clear hc
      have HSK := hide (HS.out _ (List.getElem_mem hlt))
      have hBA := (Below.refl wr.heap.size wr).alloc (Nat.le_refl _) (Obj.cells #[.slice pa (rs[k]).pa.length pc, .bool (rs[k]).co, .string (rs[k]).bo, .int .i64 (rs[k]).ve, .slice qa (rs[k]).ps.length qc] 47)
      have HC := hide (copyRes_any rs[k] pa pc qa qc B (wr.alloc (Obj.cells #[.slice pa (rs[k]).pa.length pc, .bool (rs[k]).co, .string (rs[k]).bo, .int .i64 (rs[k]).ve, .slice qa (rs[k]).ps.length qc] 47)) (hin.below hBA (Nat.le_trans hB hbe.size)) (by have := hbe.size; simp; omega) HSK.out.1 HSK.out.2.1 HSK.out.2.2.1 HSK.out.2.2.2.1 HSK.out.2.2.2.2)
      have HBA := hide hBA
      have hr0 := hrow.below hBA
      have HR0 := hide hr0
      clear hin hBA hr0 hrow
      go_wp2_with fail
      refine HC.out.mono ?_
      rintro e w1 ⟨⟨p, q, rfl, hp, hpq, rp, rq⟩, hb1⟩
      have c1 := (hbe.trans (HBA.out.mono hbe.size)).trans (hb1.mono (by have := hbe.size; simp; omega))
      obtain ⟨v0, v1, v2, v3, v4, hd0, hd1, hd2, hd3, hd4, hf0, hf1, hf2, hf3, hf4⟩ := (HR0.out.below hb1).cells hlt
      have HR := hide (HR0.out.next hb1 hlt p q hp hpq rp rq)
      clear rp rq hp hpq HC HBA HR0
      go_wp2
      go_roundw
      case rel => exact ⟨k + 1, by omega, by go_num, HR.out, ((((c1.setCell (Nat.le_refl _) _).setCell (Nat.le_refl _) _).setCell (Nat.le_refl _) _).setCell (Nat.le_refl _) _).setCell (Nat.le_refl _) _⟩
      case measure => simp [intOf]; omega
    · go_wp2
      go_ret
      exact ⟨rfl, hrow.done hlt, hbe⟩
end Go.Proofs.Ytepdfppbnepamab
namespace Go.Proofs.Ytepdfppbnepamab
open Go.RowKit M
/-- Things handed back that one call made, and a code. -/
def GaveIs (w w' : World) (e : Ending) (rs : List Rs) (c : Int) : Prop := ∃ (g cap : Nat) (pb qb : Nat → Nat), e = .returned (.tuple #[.slice (some ⟨g, 0, none⟩) rs.length cap, .int .i64 c]) ∧ OwnR w' w.heap.size w'.heap.size g rs pb qb

theorem PathsAt.one {w : World} {b : Option Addr} {p : List ByteArray} {cap C : Nat} (h : Strs w C b p) (hC : C ≤ w.heap.size) (hs : Short p) (hl : p.length ≤ maxLen) : PathsAt (w.alloc (Obj.cells #[.slice b p.length cap] 23)) w.heap.size [(p, b, cap)] := by
  have hb := (Below.refl w.heap.size w).alloc (Nat.le_refl _) (Obj.cells #[.slice b p.length cap] 23)
  refine ⟨by simp, fun j hj => ?_, fun j hj => ?_⟩
  · obtain rfl : j = 0 := by simp at hj; omega
    simp
  · obtain rfl : j = 0 := by simp at hj; omega
    exact ⟨(h.below hb hC).mono (by simp; omega), hs, hl⟩

theorem OwnR.down {w : World} {lo lo' hi g : Nat} {rs : List Rs} {pb qb : Nat → Nat} (h : OwnR w lo hi g rs pb qb) (hl : lo' ≤ lo) : OwnR w lo' hi g rs pb qb :=
  ⟨Nat.le_trans hl h.gl, h.gh, h.gs, h.fz, h.cl, h.rp, h.rq, fun j hj => by obtain ⟨k1, k2⟩ := h.bnd j hj; exact ⟨Nat.le_trans hl k1, k2⟩, h.ord⟩
end Go.Proofs.Ytepdfppbnepamab
namespace Go.Proofs.Ytepdfppbnepamab

/-- Whether the first list stands under the second. -/
def underB (ss tt : List ByteArray) : Bool := decide (tt.length < ss.length) && sameL (ss.take tt.length) tt

end Go.Proofs.Ytepdfppbnepamab
namespace Go.Proofs.Ytepdfppbnepamab
open M

def kidB (p : List ByteArray) (r : Rs) : Bool := decide (r.pa.length = p.length + 1) && underB r.pa p
def kidsL (rs : List Rs) (p : List ByteArray) : List (List ByteArray) := (rs.filter (kidB p)).map (·.pa)
def deepB (p : List ByteArray) (r : Rs) : Bool := sameL r.pa p || underB r.pa p
def deepL (rs : List Rs) (p : List ByteArray) : List Rs := rs.filter (deepB p)

theorem filter_yes {q : Rs → Bool} {rs : List Rs} {k : Nat} (hk : k < rs.length) (h : q rs[k] = true) : (rs.take (k + 1)).filter q = (rs.take k).filter q ++ [rs[k]] := by
  rw [List.take_succ_eq_append_getElem hk, List.filter_append]; simp [h]
theorem filter_no {q : Rs → Bool} {rs : List Rs} {k : Nat} (hk : k < rs.length) (h : q rs[k] = false) : (rs.take (k + 1)).filter q = (rs.take k).filter q := by
  rw [List.take_succ_eq_append_getElem hk, List.filter_append]; simp [h]
theorem filter_end {q : Rs → Bool} {rs : List Rs} {k : Nat} (hk : ¬ k < rs.length) : (rs.take k).filter q = rs.filter q := by rw [List.take_of_length_le (by omega)]
theorem filter_len {q : Rs → Bool} (rs : List Rs) (k : Nat) : ((rs.take k).filter q).length ≤ rs.length := by
  have h1 := List.length_filter_le q (rs.take k)
  rw [List.length_take] at h1
  omega
end Go.Proofs.Ytepdfppbnepamab
namespace Go.Proofs.Ytepdfppbnepamab
open Go.RowKit
set_option linter.unusedVariables false

set_option maxHeartbeats 400000 in
theorem under_any (a b : Option Addr) (ss tt : List ByteArray) (cap cap' B C : Nat) (w : World) (h : Strs w B a ss) (h' : Strs w C b tt) (hl : ss.length ≤ maxLen) (hl' : tt.length ≤ maxLen) (hc : ss.length ≤ cap) (hc' : cap ≤ maxLen) :
    Calls Try.prog 60 #[.slice a ss.length cap, .slice b tt.length cap'] w fun e w' => e = .returned (.bool (underB ss tt)) ∧ ∀ D, Below D w w' := by
  have hl1 := hl
  have hl2 := hl'
  have hc2 := hc'
  unfold maxLen at hl hl' hc'
  by_cases hlt : tt.length < ss.length
  · have ht : (ss.take tt.length).length = tt.length := by rw [List.length_take]; omega
    have cE := fun w1 cap1 (hh : Strs w1 B a ss) (hh' : Strs w1 C b tt) => slicesEqual_any a b (ss.take tt.length) tt cap1 cap' B C w1 (hh.take _) hh' (by omega) hl2
    rw [ht] at cE
    obtain ⟨b1, o1, rfl, _, _⟩ := h (by omega)
    go_enter Try.func60, Try.ntmps60
    go_wp2_with fail
    refine (cE _ _ h h').mono ?_
    rintro e w1 ⟨rfl, hb⟩
    go_wp2
    go_ret
    exact ⟨ret_bool (by simp [underB, hlt]), hb⟩
  · go_enter Try.func60, Try.ntmps60
    go_wp2
    go_ret
    exact ⟨ret_bool (by simp [underB, hlt]), fun D => Below.refl _ _⟩

end Go.Proofs.Ytepdfppbnepamab
namespace Go.Proofs.Ytepdfppbnepamab
open Go.RowKit M
set_option linter.unusedVariables false

/-- Whether the first is the second, or stands under it. -/
def deepP (ss tt : List ByteArray) : Bool := sameL ss tt || underB ss tt

set_option maxHeartbeats 1000000 in
theorem isDeep_any (a b : Option Addr) (ss tt : List ByteArray) (cap cap' B C : Nat) (w : World) (h : Strs w B a ss) (h' : Strs w C b tt) (hl : ss.length ≤ maxLen) (hl' : tt.length ≤ maxLen) (hc : ss.length ≤ cap) (hm : cap ≤ maxLen) :
    Calls Try.prog 43 #[.slice a ss.length cap, .slice b tt.length cap'] w fun e w' => e = .returned (.bool (deepP ss tt)) ∧ ∀ D, Below D w w' := by
  have HQ1 := hide (samePath_any a b ss tt cap cap' B C w h h' hl hl')
  have HQ2 := hide (fun W (x : Strs W B a ss) (y : Strs W C b tt) => under_any a b ss tt cap cap' B C W x y hl hl' hc hm)
  have HD := hide (show deepP ss tt = (sameL ss tt || underB ss tt) from rfl)
  generalize deepP ss tt = z at *
  generalize sameL ss tt = z1 at *
  generalize underB ss tt = z2 at *
  cases z1
  · go_enter Try.func43, Try.ntmps43
    go_wp2_with fail
    refine HQ1.out.mono ?_
    rintro e w1 ⟨rfl, hb1⟩
    have X1 := hide (HQ2.out w1 (h.below (hb1 B) (Nat.le_refl _)) (h'.below (hb1 C) (Nat.le_refl _)))
    clear HQ1 HQ2
    go_wp2_with fail
    refine X1.out.mono ?_
    rintro e w2 ⟨rfl, hb2⟩
    have HZ := hide (HD.out.trans (Bool.false_or z2))
    clear HD X1
    go_wp2
    go_ret
    exact ⟨by rw [HZ.out]; rfl, fun D => (hb1 D).trans (hb2 D)⟩
  · have HZ := hide (HD.out.trans (Bool.true_or z2))
    clear HD
    go_enter Try.func43, Try.ntmps43
    go_wp2_with fail
    refine HQ1.out.mono ?_
    rintro e w1 ⟨rfl, hb1⟩
    go_wp2
    go_ret
    exact ⟨by rw [HZ.out]; rfl, hb1⟩
end Go.Proofs.Ytepdfppbnepamab
namespace Go.Proofs.Ytepdfppbnepamab
open Go.RowKit M
set_option linter.unusedVariables false

/-- One thing of a growing row: its parts, the blocks of its two lists, their room. -/
structure RsT where
  r : Rs
  p : Nat
  pc : Nat
  q : Nat
  qc : Nat
def rsCells1 (t : RsT) : List Value := [.slice (some ⟨t.p, 0, none⟩) t.r.pa.length t.pc, .bool t.r.co, .string t.r.bo, .int .i64 t.r.ve, .slice (some ⟨t.q, 0, none⟩) t.r.ps.length t.qc]
def rsCells (ts : List RsT) : List Value := ts.flatMap rsCells1
theorem rsCells_length (ts : List RsT) : (rsCells ts).length = ts.length * 5 := by
  induction ts with
  | nil => rfl
  | cons t l ih => simp only [rsCells, List.flatMap_cons, List.length_append, List.length_cons] at *; rw [ih]; simp only [rsCells1, List.length_cons, List.length_nil]; omega
theorem rsCells_at (ts : List RsT) : ∀ j (hj : j < ts.length), (rsCells ts)[j * 5]? = some (.slice (some ⟨ts[j].p, 0, none⟩) ts[j].r.pa.length ts[j].pc) ∧ (rsCells ts)[j * 5 + 1]? = some (.bool ts[j].r.co) ∧ (rsCells ts)[j * 5 + 2]? = some (.string ts[j].r.bo) ∧ (rsCells ts)[j * 5 + 3]? = some (.int .i64 ts[j].r.ve) ∧ (rsCells ts)[j * 5 + 4]? = some (.slice (some ⟨ts[j].q, 0, none⟩) ts[j].r.ps.length ts[j].qc) := by
  induction ts with
  | nil => intro j hj; exact absurd hj (Nat.not_lt_zero _)
  | cons t l ih =>
    intro j hj
    have e : rsCells (t :: l) = rsCells1 t ++ rsCells l := by simp [rsCells]
    rw [e]
    match j, hj with
    | 0, _ => simp [rsCells1]
    | j + 1, hj =>
      have h1 := ih j (by simpa using hj)
      have hl : (rsCells1 t).length = 5 := rfl
      rw [List.getElem?_append_right (by rw [hl]; omega), List.getElem?_append_right (by rw [hl]; omega), List.getElem?_append_right (by rw [hl]; omega), List.getElem?_append_right (by rw [hl]; omega), List.getElem?_append_right (by rw [hl]; omega), hl]
      rw [show (j + 1) * 5 - 5 = j * 5 by omega, show (j + 1) * 5 + 1 - 5 = j * 5 + 1 by omega, show (j + 1) * 5 + 2 - 5 = j * 5 + 2 by omega, show (j + 1) * 5 + 3 - 5 = j * 5 + 3 by omega, show (j + 1) * 5 + 4 - 5 = j * 5 + 4 by omega]
      simpa using h1

/-- A growing row: it is the call's own from B on, and so are its lists. -/
structure GrowR (w : World) (B : Nat) (v : Value) (ts : List RsT) (lo : Nat) : Prop where
  own : w.ownsRow B 47 5 v ts.length (rsCells ts)
  blk : ∃ g cap, v = .slice (some ⟨g, 0, none⟩) ts.length cap ∧ g < lo
  top : lo ≤ w.heap.size
  el : ∀ j (hj : j < ts.length), B ≤ ts[j].p ∧ ts[j].p < ts[j].q ∧ ts[j].q < lo ∧ RowS w ts[j].p ts[j].r.pa ∧ RowP w ts[j].q ts[j].r.ps ∧ some ts[j].p ≠ v.ownBlock ∧ some ts[j].q ≠ v.ownBlock
  ord : ∀ i j (hij : i < j) (hj : j < ts.length), (ts[i]'(by omega)).q < ts[j].p
  caps : ∀ j (hj : j < ts.length), ts[j].r.pa.length ≤ ts[j].pc ∧ ts[j].pc ≤ maxLen ∧ ts[j].r.ps.length ≤ ts[j].qc ∧ ts[j].qc ≤ maxLen

theorem GrowR.made (w : World) (B : Nat) (hB : B ≤ w.heap.size) : GrowR (w.alloc (Obj.cells #[] 47)) B (.slice (some ⟨w.heap.size, 0, none⟩) 0 0) [] (w.heap.size + 1) :=
  ⟨⟨rfl, .inr ⟨w.heap.size, 0, #[], rfl, hB, heap_alloc_new w _, Nat.le_refl _, Nat.zero_le _, rfl, rfl⟩⟩, ⟨_, _, rfl, Nat.lt_succ_self _⟩, by simp, fun j hj => absurd hj (Nat.not_lt_zero _), fun i j _ hj => absurd hj (Nat.not_lt_zero _), fun j hj => absurd hj (Nat.not_lt_zero _)⟩
theorem GrowR.next {w w' : World} {B lo : Nat} {v : Value} {ts : List RsT} (g : GrowR w B v ts lo) (hb : Below w.heap.size w w') : GrowR w' B v ts lo := by
  refine ⟨⟨g.own.1, ?_⟩, g.blk, Nat.le_trans g.top hb.size, fun j hj => ?_, g.ord, g.caps⟩
  · rcases g.own.2 with h | ⟨g, cap, cur, e, hB, hh, hr⟩
    · exact .inl h
    · exact .inr ⟨g, cap, cur, e, hB, (hb.block g (Array.getElem?_eq_some_iff.1 hh).1).trans hh, hr⟩
  · obtain ⟨h1, h2, h3, h4, h5, h6⟩ := g.el j hj
    exact ⟨h1, h2, h3, h4.below hb, h5.below hb, h6⟩
theorem rowsR_frozen {w : World} {g : Nat} {cur : Array Value} {e : TypeId} (hh : w.heap[g]? = some (.cells cur e (0, 0))) (i : Nat) : w.frozen? ⟨g, i, none⟩ = false := by
  simp only [World.frozen?, hh, Bool.and_eq_false_iff, decide_eq_false_iff_not]
  right
  omega
theorem GrowR.at {w : World} {B lo : Nat} {v : Value} {ts : List RsT} (g : GrowR w B v ts lo) {b cap : Nat} (hv : v = .slice (some ⟨b, 0, none⟩) ts.length cap) (j : Nat) (hj : j < ts.length) : RsAt w b (j * 5) ts[j].r (some ⟨ts[j].p, 0, none⟩) ts[j].pc (some ⟨ts[j].q, 0, none⟩) ts[j].qc := by
  subst hv
  obtain ⟨c0, c1, c2, c3, c4⟩ := rsCells_at ts j hj
  have hown := g.own
  refine ⟨?_, ?_, ?_, ?_, ?_⟩
  · rw [hown.cellAt (j * 5) (by omega)]; exact c0
  · rw [hown.cellAt (j * 5 + 1) (by omega)]; exact c1
  · rw [hown.cellAt (j * 5 + 2) (by omega)]; exact c2
  · rw [hown.cellAt (j * 5 + 3) (by omega)]; exact c3
  · rw [hown.cellAt (j * 5 + 4) (by omega)]; exact c4
/-- What was made, as a slice. -/
theorem GrowR.rss {w : World} {B lo C : Nat} {v : Value} {ts : List RsT} (g : GrowR w B v ts lo) (hC : w.heap.size ≤ C) : ∃ b cap, v = .slice (some ⟨b, 0, none⟩) ts.length cap ∧ Rss w C (some ⟨b, 0, none⟩) (ts.map (·.r)) := by
  obtain ⟨b, cap, hv, hb⟩ := g.blk
  have ht := g.top
  refine ⟨b, cap, hv, fun _ => ⟨b, 0, rfl, by omega, fun j hj => ?_⟩⟩
  have hj' : j < ts.length := by simpa using hj
  obtain ⟨h1, h2, h3, h4, h5, h6⟩ := g.el j hj'
  obtain ⟨k1, k2, k3, k4⟩ := g.caps j hj'
  simp only [List.getElem_map]
  exact ⟨_, _, _, _, by rw [Nat.zero_add]; exact g.at hv j hj', ⟨h4.strs' (by omega), h5.pps (by omega), k1, k3, k2, k4, (fun e => by cases e), (fun e => by cases e)⟩⟩
/-- What was made is its own, where each list has no room besides. -/
theorem GrowR.done {w : World} {B lo : Nat} {v : Value} {ts : List RsT} (g : GrowR w B v ts lo) (hc : ∀ j (hj : j < ts.length), ts[j].pc = ts[j].r.pa.length ∧ ts[j].qc = ts[j].r.ps.length) : ∃ b cap, v = .slice (some ⟨b, 0, none⟩) ts.length cap ∧ OwnR w B w.heap.size b (ts.map (·.r)) (fun j => if hj : j < ts.length then ts[j].p else 0) (fun j => if hj : j < ts.length then ts[j].q else 0) := by
  obtain ⟨b, cap, hv, hb⟩ := g.blk
  have hat := fun j hj => g.at hv j hj
  have hlt := g.own.lt b (by rw [hv]; rfl)
  have ht := g.top
  have hfz : ∀ i, w.frozen? ⟨b, i, none⟩ = false := by
    rcases g.own.2 with ⟨e, _⟩ | ⟨b', cap', cur, e, _, hh, _⟩
    · rw [hv] at e; cases e
    · rw [hv] at e; cases e; exact fun i => rowsR_frozen hh i
  refine ⟨b, cap, hv, hlt.1, hlt.2, hlt.2, hfz, fun j hj => ?_, fun j hj => ?_, fun j hj => ?_, fun j hj => ?_, fun i j hij hj => ?_⟩
  · have hj' : j < ts.length := by simpa using hj
    simp only [List.getElem_map, hj', dif_pos]
    have := hat j hj'
    rw [(hc j hj').1, (hc j hj').2] at this
    exact this
  · have hj' : j < ts.length := by simpa using hj
    simp only [List.getElem_map, hj', dif_pos]
    exact (g.el j hj').2.2.2.1
  · have hj' : j < ts.length := by simpa using hj
    simp only [List.getElem_map, hj', dif_pos]
    exact (g.el j hj').2.2.2.2.1
  · have hj' : j < ts.length := by simpa using hj
    obtain ⟨h1, h2, h3, h4, h5, h6, h7⟩ := g.el j hj'
    simp only [hj', dif_pos]
    exact ⟨h1, h2, by omega, fun e => h6 (by rw [e, hv]; rfl), fun e => h7 (by rw [e, hv]; rfl)⟩
  · have hj' : j < ts.length := by simpa using hj
    simp only [hj', show i < ts.length by omega, dif_pos]
    exact .inl (g.ord i j hij hj')

/-- 'l = append(l, x)'. -/
theorem wp_append_res {w : World} {ops : Array Oper} {rest : List Oper} {o : Oper} {a : Act} {Q : Exit → Act → World → Prop} (hgd : o.guard = none) (s x : Operand)
    (ho : o.op = .call { callee := .builtin .append, args := #[s, x], argTypes := #[26, 26] })
    (B lo : Nat) (v : Value) (ts : List RsT) (hs : a.eval s = v) (hown : GrowR w B v ts lo)
    (N : Nat) (t : RsT) (hx : a.eval x = .slice (some ⟨N, 0, none⟩) 1 1) (hc0 : RsAt w N 0 t.r (some ⟨t.p, 0, none⟩) t.pc (some ⟨t.q, 0, none⟩) t.qc)
    (hlen : ts.length + 1 ≤ 1000000000) (hBl : B ≤ lo) (hp : lo ≤ t.p) (hpq : t.p < t.q) (hr : RowS w t.p t.r.pa) (hr2 : RowP w t.q t.r.ps) (hcap : t.r.pa.length ≤ t.pc ∧ t.pc ≤ maxLen ∧ t.r.ps.length ≤ t.qc ∧ t.qc ≤ maxLen)
    (h : ∀ v' w', GrowR w' B v' (ts ++ [t]) w'.heap.size → Below B w w' → wpList Try.prog ops Q rest (a.put o.dst v') w') : wpList Try.prog ops Q (o :: rest) a w := by
  obtain ⟨i0, hi, hz0, hz1, hz2⟩ := info_parts info_res
  have hlt := World.ownsRow.lt hown.own
  obtain ⟨g0, cap0, hv0, hg0⟩ := hown.blk
  have l2 := hown.top
  refine wpList_append_own_at w hgd s x 26 ho B 47 i0 _ 5 80 Try.underlying26 hi hz0 hz1 hz2 rfl (by decide) v ts.length _ hs hown.own ⟨N, 0, none⟩ 1 1 (rsCells1 t) hx rfl ?_ ?_ ?_ ?_ (by omega) ?_
  · intro j u hj
    have e : ∀ k, (⟨N, 0, none⟩ : Addr).add k = ⟨N, k, none⟩ := fun k => by unfold Addr.add; split <;> simp_all
    rw [e]
    obtain ⟨c0, c1, c2, c3, c4⟩ := hc0
    simp only [Nat.zero_add] at c0 c1 c2 c3 c4
    unfold rsCells1 at hj
    match j, hj with
    | 0, hj => simp at hj; subst hj; exact c0
    | 1, hj => simp at hj; subst hj; exact c1
    | 2, hj => simp at hj; subst hj; exact c2
    | 3, hj => simp at hj; subst hj; exact c3
    | 4, hj => simp at hj; subst hj; exact c4
  · intro u hu
    simp only [rsCells1, List.mem_cons, List.not_mem_nil, or_false] at hu
    rcases hu with rfl | rfl | rfl | rfl | rfl <;> rfl
  · unfold maxLen; omega
  · omega
  · intro v' w' ho' hg _ hat
    obtain ⟨g, cap, rfl⟩ : ∃ g cap, v' = .slice (some ⟨g, 0, none⟩) (ts.length + 1) cap := by
      rcases ho'.2 with ⟨_, h0⟩ | ⟨g, cap, cur, hv, _⟩
      · omega
      · exact ⟨g, cap, hv⟩
    subst hv0
    have hat' : g = g0 ∨ g = w.heap.size := by
      rcases hat with e | e
      · exact .inl (Option.some.inj e)
      · exact .inr (Option.some.inj e)
    have hblk : ∀ b, b < w.heap.size → b ≠ g0 → w'.heap[b]? = w.heap[b]? := fun b hb hne => hg.block b hb (fun e => hne (Option.some.inj e))
    have hkS : ∀ b l, RowS w b l → b ≠ g0 → RowS w' b l := fun b l hb hne => by
      have e := hblk b hb.1 hne
      refine ⟨Nat.lt_of_lt_of_le hb.1 hg.size, fun j hj => ?_⟩
      simp only [World.cell?, World.frozen?, e]
      exact hb.2 j hj
    have hkP : ∀ b l, RowP w b l → b ≠ g0 → RowP w' b l := fun b l hb hne => by
      have e := hblk b hb.1 hne
      exact hb.of (Nat.lt_of_lt_of_le hb.1 hg.size) (fun o => by simp only [World.cell?, e]) (fun o => by simp only [World.frozen?, e])
    have hgw : g < w'.heap.size := by
      have ho2 : w'.ownsRow B 47 5 (.slice (some ⟨g, 0, none⟩) (ts.length + 1) cap) (ts.length + 1) (rsCells ts ++ rsCells1 t) := ho'
      exact (ho2.lt g rfl).2
    have hz := hg.size
    have hl' : (ts ++ [t]).length = ts.length + 1 := by simp
    refine h _ w' ⟨?_, ⟨g, cap, by rw [hl'], hgw⟩, Nat.le_refl _, fun j hj => ?_, fun i j hij hj => ?_, fun j hj => ?_⟩ ⟨hg.os, hg.tape, hg.output, hg.size, fun k hk => hg.block k (by omega) (fun e => by have := (hlt k e.symm).1; omega)⟩
    · have e : rsCells (ts ++ [t]) = rsCells ts ++ rsCells1 t := by simp [rsCells]
      rw [e, hl']
      exact ho'
    · by_cases e : j < ts.length
      · rw [List.getElem_append_left e]
        obtain ⟨h1, h2, h3, h4, h5, h6, h7⟩ := hown.el j e
        have hne : ts[j].p ≠ g0 := fun e' => h6 (by rw [e']; rfl)
        have hne2 : ts[j].q ≠ g0 := fun e' => h7 (by rw [e']; rfl)
        have := h4.1
        have := h5.1
        refine ⟨h1, h2, by omega, hkS _ _ h4 hne, hkP _ _ h5 hne2, fun e' => ?_, fun e' => ?_⟩
        · have : ts[j].p = g := Option.some.inj e'
          rcases hat' with e2 | e2 <;> omega
        · have : ts[j].q = g := Option.some.inj e'
          rcases hat' with e2 | e2 <;> omega
      · have ej : j = ts.length := by omega
        subst ej
        rw [List.getElem_append_right (Nat.le_refl _)]
        simp only [Nat.sub_self, List.getElem_cons_zero]
        have hr1 := hr.1
        have hr21 := hr2.1
        refine ⟨by omega, hpq, by omega, hkS _ _ hr (by omega), hkP _ _ hr2 (by omega), fun e' => ?_, fun e' => ?_⟩
        · have : t.p = g := Option.some.inj e'
          rcases hat' with e2 | e2 <;> omega
        · have : t.q = g := Option.some.inj e'
          rcases hat' with e2 | e2 <;> omega
    · by_cases e : j < ts.length
      · rw [List.getElem_append_left e, List.getElem_append_left (by omega)]
        exact hown.ord i j hij e
      · have ej : j = ts.length := by omega
        subst ej
        rw [List.getElem_append_right (Nat.le_refl _), List.getElem_append_left hij]
        simp only [Nat.sub_self, List.getElem_cons_zero]
        have := (hown.el i hij).2.2.1
        omega
    · by_cases e : j < ts.length
      · rw [List.getElem_append_left e]; exact hown.caps j e
      · have ej : j = ts.length := by omega
        subst ej
        rw [List.getElem_append_right (Nat.le_refl _)]
        simp only [Nat.sub_self, List.getElem_cons_zero]
        exact hcap
end Go.Proofs.Ytepdfppbnepamab
namespace Go.Proofs.Ytepdfppbnepamab
open Go.RowKit M
set_option linter.unusedVariables false

theorem GrowR.up {w : World} {B lo lo' : Nat} {v : Value} {ts : List RsT} (g : GrowR w B v ts lo) (h1 : lo ≤ lo') (h2 : lo' ≤ w.heap.size) : GrowR w B v ts lo' := by
  obtain ⟨b, cap, hv, hb⟩ := g.blk
  exact ⟨g.own, ⟨b, cap, hv, Nat.lt_of_lt_of_le hb h1⟩, h2, fun j hj => by obtain ⟨k1, k2, k3, k4⟩ := g.el j hj; exact ⟨k1, k2, Nat.lt_of_lt_of_le k3 h1, k4⟩, g.ord, g.caps⟩
theorem caps_snoc {ts : List RsT} {r : Rs} {p q : Nat} (h : ∀ j (hj : j < ts.length), ts[j].pc = ts[j].r.pa.length ∧ ts[j].qc = ts[j].r.ps.length) : ∀ j (hj : j < (ts ++ [(⟨r, p, r.pa.length, q, r.ps.length⟩ : RsT)]).length), (ts ++ [(⟨r, p, r.pa.length, q, r.ps.length⟩ : RsT)])[j].pc = (ts ++ [(⟨r, p, r.pa.length, q, r.ps.length⟩ : RsT)])[j].r.pa.length ∧ (ts ++ [(⟨r, p, r.pa.length, q, r.ps.length⟩ : RsT)])[j].qc = (ts ++ [(⟨r, p, r.pa.length, q, r.ps.length⟩ : RsT)])[j].r.ps.length := by
  intro j hj
  by_cases e : j < ts.length
  · rw [List.getElem_append_left e]; exact h j e
  · have ej : j = ts.length := by simp at hj; omega
    subst ej
    simp
end Go.Proofs.Ytepdfppbnepamab
namespace Go.Proofs.Ytepdfppbnepamab
open M

theorem kid_above {p : List ByteArray} {r : Rs} (h : kidB p r = true) : aboveL r.pa = p := by
  unfold kidB underB at h
  simp only [Bool.and_eq_true, decide_eq_true_eq] at h
  obtain ⟨h1, _, h3⟩ := h
  unfold sameL at h3
  unfold aboveL
  rw [h1, Nat.add_sub_cancel]
  exact of_decide_eq_true h3
theorem kids_mem {rs : List Rs} {p s : List ByteArray} (h : s ∈ kidsL rs p) : ∃ r ∈ rs, r.pa = s ∧ kidB p r = true := by
  unfold kidsL at h
  obtain ⟨r, hr, rfl⟩ := List.mem_map.1 h
  obtain ⟨h1, h2⟩ := List.mem_filter.1 hr
  exact ⟨r, h1, rfl, h2⟩
theorem kids_above {rs : List Rs} {p s : List ByteArray} (h : s ∈ kidsL rs p) : aboveL s = p := by
  obtain ⟨r, _, rfl, hk⟩ := kids_mem h
  exact kid_above hk
theorem findI_there {rs : List Rs} {r : Rs} (h : r ∈ rs) : 0 ≤ findI rs r.pa := by
  rcases findI_cases rs r.pa with e | ⟨k, hk, e, _⟩
  · exfalso
    unfold findI at e
    by_cases hlt : rs.findIdx (isAt r.pa) < rs.length
    · rw [if_pos hlt] at e; omega
    · exact hlt (List.findIdx_lt_length_of_exists ⟨_, h, by unfold isAt; exact sameL_refl _⟩)
  · rw [e]; omega
theorem kids_found {rs : List Rs} {p s : List ByteArray} (h : s ∈ kidsL rs p) : 0 ≤ findI rs s := by
  obtain ⟨r, hr, rfl, _⟩ := kids_mem h
  exact findI_there hr
theorem kids_asc {rs : List Rs} (h : Asc rs) (p : List ByteArray) : (kidsL rs p).Pairwise fun a b => lessL a b = true := by
  unfold kidsL
  rw [List.pairwise_map]
  exact List.Pairwise.filter _ h
theorem kids_next {rs : List Rs} (h : Asc rs) (p : List ByteArray) (i : Nat) (hi : i + 1 < (kidsL rs p).length) : lessL (kidsL rs p)[i] (kidsL rs p)[i + 1] = true := by
  have := kids_asc h p
  rw [List.pairwise_iff_getElem] at this
  exact this i (i + 1) (by omega) hi (Nat.lt_succ_self _)
/-- As many as are deep there of one name more. -/
theorem kids_count (rs : List Rs) (p : List ByteArray) : (kidsL rs p).length = ((deepL rs p).filter fun r => decide (r.pa.length = p.length + 1)).length := by
  unfold kidsL deepL
  rw [List.length_map, List.filter_filter]
  congr 1
  refine List.filter_congr fun r _ => ?_
  unfold kidB deepB
  by_cases h : r.pa.length = p.length + 1
  · have hs : sameL r.pa p = false := sameL_len (by omega)
    simp [h, hs]
  · simp [h]
theorem kids_shelf {rs : List Rs} (h : treeB rs = true) {p s : List ByteArray} (hk : s ∈ kidsL rs p) : collB rs p = true := by
  obtain ⟨r, hr, _, hb⟩ := kids_mem hk
  unfold treeB at h
  simp only [Bool.and_eq_true, decide_eq_true_eq, List.all_eq_true] at h
  have := h.2.2.2 r hr
  unfold onB at this
  rw [kid_above hb] at this
  exact this
theorem tree_asc {rs : List Rs} (h : treeB rs = true) : Asc rs := by
  unfold treeB at h
  simp only [Bool.and_eq_true, decide_eq_true_eq, List.all_eq_true] at h
  exact asc_of h.2.2.1
end Go.Proofs.Ytepdfppbnepamab
namespace Go.Proofs.Ytepdfppbnepamab
open M

theorem deep_iff {p : List ByteArray} {r : Rs} : deepB p r = true ↔ p <+: r.pa := by
  unfold deepB underB sameL
  rw [Bool.or_eq_true, Bool.and_eq_true, decide_eq_true_eq, decide_eq_true_eq, decide_eq_true_eq]
  constructor
  · rintro (h | ⟨_, h⟩)
    · rw [h]; exact List.prefix_refl _
    · exact ⟨r.pa.drop p.length, by conv => { lhs; lhs; rw [← h] }; exact List.take_append_drop _ _⟩
  · rintro ⟨x, hx⟩
    cases x with
    | nil => left; rw [← hx]; simp
    | cons y l => right; rw [← hx]; simp
theorem under_iff {q p : List ByteArray} : underB q p = true ↔ p <+: q ∧ p.length < q.length := by
  unfold underB sameL
  rw [Bool.and_eq_true, decide_eq_true_eq, decide_eq_true_eq]
  constructor
  · rintro ⟨h1, h⟩
    exact ⟨⟨q.drop p.length, by conv => { lhs; lhs; rw [← h] }; exact List.take_append_drop _ _⟩, h1⟩
  · rintro ⟨⟨x, hx⟩, h1⟩
    exact ⟨h1, by rw [← hx]; simp⟩

/-- What stays where p is gone, with all under it. -/
def withoutL (rs : List Rs) (p : List ByteArray) : List Rs := rs.filter fun r => !deepB p r
/-- All: what comes stands together. -/
def aheadB (to : List ByteArray) (r : Rs) : Bool := lessL r.pa to
def wholeL (st : List Rs) (to : List ByteArray) (cs : List Rs) : List Rs := st.takeWhile (aheadB to) ++ (cs ++ st.dropWhile (aheadB to))

theorem lessL_pre : ∀ (a to x : List ByteArray), lessL a to = true → lessL a (to ++ x) = true
  | [], [], _, h => by simp [lessL] at h
  | [], _ :: _, _, _ => by simp [lessL]
  | _ :: _, [], _, h => by simp [lessL] at h
  | u :: a, v :: to, x, h => by
    rw [List.cons_append, lessL] at *
    by_cases e : u = v
    · rw [if_pos e] at *; exact lessL_pre a to x h
    · rw [if_neg e] at *; exact h
theorem lessL_out : ∀ (b to x : List ByteArray), lessL b to = false → ¬ to <+: b → lessL (to ++ x) b = true
  | _, [], _, _, h => absurd (List.nil_prefix) h
  | [], _ :: _, _, h, _ => by simp [lessL] at h
  | u :: b, v :: to, x, h, hp => by
    rw [List.cons_append, lessL] at *
    by_cases e : u = v
    · subst e
      rw [if_pos rfl] at *
      exact lessL_out b to x h (fun hq => hp (by obtain ⟨y, rfl⟩ := hq; exact ⟨y, rfl⟩))
    · rw [if_neg e] at h
      rw [if_neg (fun e' => e e'.symm)]
      cases h2 : lessT v u
      · exact absurd (str_inj (bytesLess_tri _ _ h h2)) e
      · rfl

theorem putR_split {r : Rs} : ∀ {A B : List Rs}, (∀ a ∈ A, lessL a.pa r.pa = true) → (∀ b ∈ B, lessL b.pa r.pa = false) → putR r false (A ++ B) = A ++ r :: notAt r B
  | [], [], _, _ => by simp [putR, notAt]
  | [], b :: B, _, hb => by
    rw [List.nil_append, putR_here (hb b (List.mem_cons_self ..))]; rfl
  | a :: A, B, ha, hb => by
    rw [List.cons_append, putR_less (ha a (List.mem_cons_self ..)), putR_split (fun x hx => ha x (List.mem_cons_of_mem _ hx)) hb]
    rfl
theorem notAt_all {r : Rs} {B : List Rs} (h : ∀ b ∈ B, lessL r.pa b.pa = true) : notAt r B = B := by
  unfold notAt
  rw [List.filter_eq_self]
  intro b hb
  have := h b hb
  unfold sameL
  rw [Bool.not_eq_true', decide_eq_false_iff_not]
  intro e
  rw [e, lessL_irr] at this
  cases this
theorem putR_mid {r : Rs} {A B : List Rs} (ha : ∀ a ∈ A, lessL a.pa r.pa = true) (hb : ∀ b ∈ B, lessL r.pa b.pa = true) : putR r false (A ++ B) = A ++ r :: B := by
  rw [putR_split ha (fun b h => lessL_asym _ _ (hb b h)), notAt_all hb]
theorem ahead_all {st : List Rs} {to : List ByteArray} : ∀ a ∈ st.takeWhile (aheadB to), lessL a.pa to = true := fun a ha => by
  have := List.all_takeWhile (l := st) (p := aheadB to)
  rw [List.all_eq_true] at this
  exact this a ha
theorem behind_all {to : List ByteArray} : ∀ {st : List Rs}, Asc st → ∀ b ∈ st.dropWhile (aheadB to), lessL b.pa to = false
  | [], _, b, hb => by simp at hb
  | x :: st, h, b, hb => by
    rw [List.dropWhile_cons] at hb
    cases e : aheadB to x
    · rw [e] at hb
      simp only [Bool.false_eq_true, if_false] at hb
      rcases List.mem_cons.1 hb with rfl | hm
      · exact e
      · have h1 := (List.pairwise_cons.1 h).1 b hm
        cases h2 : lessL b.pa to
        · rfl
        · have h3 := lessL_trans _ _ _ h1 h2
          unfold aheadB at e
          rw [e] at h3; cases h3
    · rw [e] at hb
      simp only [if_true] at hb
      exact behind_all (List.pairwise_cons.1 h).2 b hb

theorem fold_step {to : List ByteArray} {A B : List Rs} (ha : ∀ a ∈ A, lessL a.pa to = true) (hb : ∀ b ∈ B, lessL b.pa to = false ∧ ¬ to <+: b.pa) : ∀ (cs c0 : List Rs), (∀ c ∈ c0 ++ cs, to <+: c.pa) → Asc (c0 ++ cs) → cs.foldl (fun acc c => putR c false acc) (A ++ (c0 ++ B)) = A ++ ((c0 ++ cs) ++ B)
  | [], c0, _, _ => by simp
  | c :: cs, c0, hp, hA => by
    have hc := hp c (by simp)
    have e : putR c false (A ++ (c0 ++ B)) = A ++ ((c0 ++ [c]) ++ B) := by
      rw [← List.append_assoc]
      obtain ⟨x, hx⟩ := hc
      rw [putR_mid (r := c) (fun a h => ?_) (fun b h => ?_)]
      · simp
      · rcases List.mem_append.1 h with h | h
        · rw [← hx]; exact lessL_pre _ _ _ (ha a h)
        · have := List.pairwise_append.1 hA
          exact this.2.2 a h c (List.mem_cons_self ..)
      · rw [← hx]; exact lessL_out _ _ _ (hb b h).1 (hb b h).2
    rw [List.foldl_cons, e, fold_step ha hb cs (c0 ++ [c]) (by simpa using hp) (by simpa using hA)]
    simp
/-- What comes, put one by one where all else stays, stands together. -/
theorem whole_fold {st cs : List Rs} {to : List ByteArray} (hs : Asc st) (hn : ∀ y ∈ st, deepB to y = false) (hc : ∀ c ∈ cs, deepB to c = true) (hA : Asc cs) : cs.foldl (fun acc c => putR c false acc) st = wholeL st to cs := by
  have := fold_step (to := to) (A := st.takeWhile (aheadB to)) (B := st.dropWhile (aheadB to)) ahead_all (fun b hb => ⟨behind_all hs b hb, fun h => by
    have := hn b (List.dropWhile_subset _ hb)
    rw [deep_iff.2 h] at this; cases this⟩) cs [] (fun c h => deep_iff.1 (hc c (by simpa using h))) (by simpa using hA)
  rw [List.nil_append, List.takeWhile_append_dropWhile] at this
  rw [this]
  rfl

theorem putR_notAt {r : Rs} {rs : List Rs} (h : Asc rs) : putR r false (notAt r rs) = putR r false rs := by
  have e : rs = rs.takeWhile (aheadB r.pa) ++ rs.dropWhile (aheadB r.pa) := (List.takeWhile_append_dropWhile).symm
  generalize hA : rs.takeWhile (aheadB r.pa) = A at e
  generalize hB : rs.dropWhile (aheadB r.pa) = B at e
  have ha : ∀ a ∈ A, lessL a.pa r.pa = true := by rw [← hA]; exact ahead_all
  have hb : ∀ b ∈ B, lessL b.pa r.pa = false := by rw [← hB]; exact behind_all h
  have e1 : notAt r A = A := by
    unfold notAt
    rw [List.filter_eq_self]
    intro a h
    have := ha a h
    unfold sameL
    rw [Bool.not_eq_true', decide_eq_false_iff_not]
    intro e
    rw [e, lessL_irr] at this
    cases this
  have e2 : notAt r rs = A ++ notAt r B := by
    rw [e]; unfold notAt at *; rw [List.filter_append, e1]
  rw [e2, putR_split ha (fun b h => hb b (notAt_mem.1 h).1)]
  conv => { rhs; rw [e] }
  rw [putR_split ha hb]
  congr 2
  unfold notAt
  rw [List.filter_filter]
  simp

/-- Of right things: what something is under is a shelf. -/
theorem under_coll {rs : List Rs} (h : treeB rs = true) {p : List ByteArray} : ∀ (n : Nat) (y : Rs), y ∈ rs → y.pa.length = n → underB y.pa p = true → collB rs p = true := by
  have ha := tree_asc h
  have ht := h
  unfold treeB at ht
  simp only [Bool.and_eq_true, decide_eq_true_eq, List.all_eq_true] at ht
  intro n
  induction n with
  | zero =>
    intro y _ hl hu
    have := (under_iff.1 hu).2
    omega
  | succ n ih =>
    intro y hy hl hu
    obtain ⟨hp, hlt⟩ := under_iff.1 hu
    have hon := ht.2.2.2 y hy
    unfold onB at hon
    have hal : (aboveL y.pa).length = n := by rw [aboveL_len]; omega
    have hpp : p <+: aboveL y.pa := List.prefix_take_iff.2 ⟨hp, by omega⟩
    by_cases e : p.length = n
    · have : p = aboveL y.pa := by
        obtain ⟨x, hx⟩ := hpp
        have hx0 : x = [] := by
          have := congrArg List.length hx
          rw [List.length_append, hal] at this
          exact List.length_eq_zero_iff.1 (by omega)
        rw [← hx, hx0]; simp
      rw [this]; exact hon
    · have hpl : p.length < n := by omega
      rcases (coll_iff ha _).1 hon with h0 | ⟨r, hr, hrp, _⟩
      · rw [hal] at h0; omega
      · exact ih r hr (by rw [hrp, hal]) (under_iff.2 ⟨by rw [hrp]; exact hpp, by rw [hrp, hal]; exact hpl⟩)
theorem without_notAt {rs : List Rs} (h : treeB rs = true) {r : Rs} (hc : collB rs r.pa = false) : withoutL rs r.pa = notAt r rs := by
  unfold withoutL notAt
  refine List.filter_congr fun y hy => ?_
  have : underB y.pa r.pa = false := by
    cases e : underB y.pa r.pa
    · rfl
    · rw [under_coll h _ y hy rfl e] at hc; cases hc
  unfold deepB
  rw [this, Bool.or_false]
theorem without_asc {rs : List Rs} (h : Asc rs) (p : List ByteArray) : Asc (withoutL rs p) := List.Pairwise.filter _ h
theorem without_not {rs : List Rs} (p : List ByteArray) : ∀ y ∈ withoutL rs p, deepB p y = false := fun y hy => by
  have := (List.mem_filter.1 hy).2
  simpa using this
/-- One thing put where no shelf is: what stays, and it. -/
theorem whole_one {rs : List Rs} (h : treeB rs = true) {r : Rs} (hc : collB rs r.pa = false) : wholeL (withoutL rs r.pa) r.pa [r] = putR r false rs := by
  rw [← whole_fold (without_asc (tree_asc h) _) (without_not _) (fun c hc => by rw [List.mem_singleton.1 hc]; exact deep_iff.2 (List.prefix_refl _)) (by simp [Asc])]
  rw [List.foldl_cons, List.foldl_nil, without_notAt h hc, putR_notAt (tree_asc h)]
end Go.Proofs.Ytepdfppbnepamab
namespace Go.Proofs.Ytepdfppbnepamab
open Go.RowKit M
set_option linter.unusedVariables false
set_option linter.unusedSimpArgs false

set_option maxRecDepth 100000 in
set_option maxHeartbeats 4000000 in
theorem without_grow (a : Option Addr) (rs : List Rs) (cap B : Nat) (b : Option Addr) (p : List ByteArray) (cap' C : Nat) (w : World) (h : Rss w B a rs) (h' : Strs w C b p) (hB : B ≤ w.heap.size) (hC : C ≤ w.heap.size) (hl : rs.length ≤ 1048576) (hl' : p.length ≤ 1048576) (hs : ∀ r ∈ rs, r.pa.length ≤ 1048576 ∧ r.ps.length ≤ 1048576 ∧ (∀ s ∈ r.pa, s.size ≤ 281474976710656) ∧ r.bo.size ≤ 281474976710656 ∧ ∀ p ∈ r.ps, p.1.size ≤ 281474976710656 ∧ p.2.1.size ≤ 281474976710656 ∧ p.2.2.size ≤ 281474976710656) :
    Calls Try.prog 26 #[.slice a rs.length cap, .slice b p.length cap'] w fun e w' => (∃ (v : Value) (ts : List RsT), e = .returned v ∧ GrowR w' w.heap.size v ts w'.heap.size ∧ ts.map (·.r) = withoutL rs p ∧ (∀ j (hj : j < ts.length), ts[j].pc = ts[j].r.pa.length ∧ ts[j].qc = ts[j].r.ps.length)) ∧ Below w.heap.size w w' := by
  have HS := hide hs
  have hpm : p.length ≤ maxLen := by unfold maxLen; omega
  clear hs
  go_enter Try.func26, Try.ntmps26
  go_wp2
  go_loopw [5, 11] (fun v i wr => ∃ (k lo : Nat) (ts : List RsT), k ≤ rs.length ∧ i = .int .i64 k ∧ GrowR wr w.heap.size v ts lo ∧ w.heap.size ≤ lo ∧ ts.map (·.r) = (rs.take k).filter (fun r => !deepB p r) ∧ (∀ j (hj : j < ts.length), ts[j].pc = ts[j].r.pa.length ∧ ts[j].qc = ts[j].r.ps.length) ∧ Below w.heap.size w wr) (fun _ i _ => rs.length - (intOf i).toNat)
  case atStart => exact ⟨0, w.heap.size + 1, [], Nat.zero_le _, rfl, GrowR.made w w.heap.size (Nat.le_refl _), by omega, rfl, fun j hj => absurd hj (Nat.not_lt_zero _), (Below.refl _ _).alloc (Nat.le_refl _) _⟩
  case round =>
    obtain ⟨k, lo, ts, hk, rfl, hG, hlo, hts, hcc, hbe⟩ := hrel
    have HG := hide hG
    have HTS := hide hts
    have HCC := hide hcc
    clear hG hts hcc
    by_cases hlt : k < rs.length
    · obtain ⟨b1, o1, rfl, hb1, hcc⟩ := (h.below hbe hB) (by omega)
      obtain ⟨pa, pc, qa, qc, ⟨hc0, hc1, hc2, hc3, hc4⟩, hin⟩ := hcc k hlt
      clear hcc
      have hsk := HS.out _ (List.getElem_mem hlt)
      have HBA := hide ((Below.refl wr.heap.size wr).alloc (Nat.le_refl _) (Obj.cells #[.slice pa (rs[k]).pa.length pc, .bool (rs[k]).co, .string (rs[k]).bo, .int .i64 (rs[k]).ve, .slice qa (rs[k]).ps.length qc] 47))
      have hin2 := hin.below HBA.out (Nat.le_trans hB hbe.size)
      have hp2 := (h'.below hbe hC).below HBA.out (Nat.le_trans hC hbe.size)
      have hkm : (rs[k]).pa.length ≤ maxLen := Nat.le_trans hin2.pl hin2.pm
      have HQ1 := hide (isDeep_any pa b rs[k].pa p pc cap' B C _ hin2.ph hp2 hkm hpm hin2.pl hin2.pm)
      have HI := hide hin2
      have HSK := hide hsk
      have HD := hide (show deepB p rs[k] = deepP rs[k].pa p from rfl)
      generalize deepP rs[k].pa p = z1 at *
      clear hin hin2 hsk hp2 hkm
      -- the one that is not taken
      have no : z1 = true → Hid ((rs.take (k + 1)).filter (fun r => !deepB p r) = (rs.take k).filter (fun r => !deepB p r)) := fun e1 => filter_no (q := (fun r => !deepB p r)) hlt (by simp only [HD.out, e1, Bool.not_true, Bool.not_false])
      have yes : z1 = false → Hid ((rs.take (k + 1)).filter (fun r => !deepB p r) = (rs.take k).filter (fun r => !deepB p r) ++ [rs[k]]) := fun e1 => filter_yes (q := (fun r => !deepB p r)) hlt (by simp only [HD.out, e1, Bool.not_true, Bool.not_false])
      have NO := hide no
      have YES := hide yes
      have HL := hide (show ts.length ≤ rs.length by
        have e1 : ts.length = ((rs.take k).filter (fun r => !deepB p r)).length := by have := congrArg List.length HTS.out; simpa using this
        rw [e1]; exact filter_len rs k)
      clear no yes HD
      by_cases ez : z1 = true
      · subst ez
        have HF := NO.out rfl
        clear NO YES HSK
        go_wp2_with fail
        refine HQ1.out.mono ?_
        rintro e w1 ⟨rfl, hb3⟩
        have b4 := HBA.out.trans (hb3 _)
        have c1 := hbe.trans (b4.mono hbe.size)
        have HG2 := hide (HG.out.next b4)
        clear hb3 b4 HQ1
        go_wp2
        go_roundw
        case rel => exact ⟨k + 1, lo, ts, by omega, by go_num, HG2.out, hlo, by rw [HF.out]; exact HTS.out, HCC.out, c1⟩
        case measure => simp [intOf]; omega
      · obtain rfl : z1 = false := by cases z1 <;> simp at ez ⊢
        clear ez
        have HF := YES.out rfl
        clear NO YES
        go_wp2_with fail
        refine HQ1.out.mono ?_
        rintro e w2 ⟨rfl, hall⟩
        have b4 := HBA.out.trans (hall _)
        have HI2 := hide (HI.out.below (hall B) (Nat.le_refl _))
        clear HQ1
        have hc5 : ∀ o v, (wr.alloc (Obj.cells #[.slice pa (rs[k]).pa.length pc, .bool (rs[k]).co, .string (rs[k]).bo, .int .i64 (rs[k]).ve, .slice qa (rs[k]).ps.length qc] 47)).cell? ⟨wr.heap.size, o, none⟩ = some v → w2.cell? ⟨wr.heap.size, o, none⟩ = some v := fun o v hv => ((hall (wr.heap.size + 1)).cell (p := ⟨wr.heap.size, o, none⟩) (Nat.lt_succ_self _)).trans hv
        have d0 := hc5 0 (.slice pa (rs[k]).pa.length pc) (by simp)
        have d1 := hc5 1 (.bool (rs[k]).co) (by simp)
        have d2 := hc5 2 (.string (rs[k]).bo) (by simp)
        have d3 := hc5 3 (.int .i64 (rs[k]).ve) (by simp)
        have d4 := hc5 4 (.slice qa (rs[k]).ps.length qc) (by simp)
        have c1 := hbe.trans (b4.mono hbe.size)
        have HG2 := hide (HG.out.next b4)
        have hlo2 : lo ≤ w2.heap.size := Nat.le_trans HG.out.top b4.size
        have HCp := hide (copyRes_any rs[k] pa pc qa qc B w2 HI2.out (Nat.le_trans hB c1.size) HSK.out.1 HSK.out.2.1 HSK.out.2.2.1 HSK.out.2.2.2.1 HSK.out.2.2.2.2)
        have hlen := HL.out
        have hk1 := HSK.out.1
        have hk2 := HSK.out.2.1
        clear hc5 hall b4 HI2
        go_wp2_with fail
        refine HCp.out.mono ?_
        rintro e w3 ⟨⟨pp, qq, rfl, hpp, hpq, r3, q3⟩, b5⟩
        have c3 := c1.trans (b5.mono c1.size)
        have bA := (Below.refl w3.heap.size w3).alloc (Nat.le_refl _) (Obj.cells #[.slice (some ⟨pp, 0, none⟩) (rs[k]).pa.length (rs[k]).pa.length, .bool (rs[k]).co, .string (rs[k]).bo, .int .i64 (rs[k]).ve, .slice (some ⟨qq, 0, none⟩) (rs[k]).ps.length (rs[k]).ps.length] 47)
        have HG4 := hide ((HG2.out.next b5).next bA)
        have HR := hide (r3.below bA)
        have HQ := hide (q3.below bA)
        have HC4 := hide (c3.trans (bA.mono c3.size))
        clear r3 q3 b5 bA c1 c3 d0 d1 d2 d3 d4 HCp
        go_wp2_with (at_builtin; refine wp_append_res rfl _ _ rfl w.heap.size lo _ ts rfl HG4.out w3.heap.size ⟨rs[k], pp, (rs[k]).pa.length, qq, (rs[k]).ps.length⟩ rfl ?_ ?_ hlo (Nat.le_trans hlo2 hpp) hpq HR.out HQ.out ?_ ?_)
        · exact ⟨by simp, by simp, by simp, by simp, by simp⟩
        · omega
        · exact ⟨by unfold maxLen; omega, by unfold maxLen; omega⟩
        · intro v' w' hG' hB'
          have HG' := hide hG'
          have HC' := hide (HC4.out.trans hB')
          clear hG' hB'
          go_wp2
          go_roundw
          case rel => exact ⟨k + 1, _, _, by omega, by go_num, HG'.out, HC'.out.size, by rw [HF.out, List.map_append, HTS.out]; rfl, caps_snoc HCC.out, HC'.out⟩
          case measure => simp [intOf]; omega
    · have HF := hide (filter_end (q := (fun r => !deepB p r)) hlt)
      have HM := hide (show ts.map (·.r) = withoutL rs p by rw [HTS.out, HF.out]; rfl)
      have HG3 := hide (HG.out.up HG.out.top (Nat.le_refl _))
      clear HTS HF
      go_wp2
      go_ret
      exact ⟨⟨_, ts, rfl, HG3.out, HM.out, HCC.out⟩, hbe⟩
end Go.Proofs.Ytepdfppbnepamab
