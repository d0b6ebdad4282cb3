/-
  What the specification's l5End and l5Head do.
  Plain facts on how the specification reads an answer: no program in sight.
  What the specification's l3Lines does: a text, cut at line's ends.
  Two answers that are the same.
  What the program's calls on kinds of bytes do: isOf, isOneOf: each computes, and turns nothing in memory.
  What the specification's l1In does; a byte as an int.
  What the specification's l1Digit does.
  Small facts that what is parsed wants.
  What the specification's ParseNum does.
  What the specification's own Plain does.
  What the specification's l1Blank and Trim do.
  What the specification's l3Val does.
-/
import Derived.Test.YtkhnkockdfmkgaaDoorNums
import Derived.Test.YtkhnkockdfmkgaaDoorExtract
import Derived.Deep.RegionHeld3
import Derived.Laws.ResultCell
import Derived.Test.YtkhnkockdfmkgaaDoorMathGet
import Derived.Test.YtkhnkockdfmkgaaDoorRows
import Derived.WalkKit
import Derived.Test.YtkhnkockdfmkgaaDoorMath
import Derived.WalkSpells
import Derived.WalkLawsBesides
import Derived.Deep.Light
import Derived.Lib.ConvBytes
import Derived.Test.YtkhnkockdfmkgaaDoorMathParse
import Derived.Test.YtkhnkockdfmkgaaDoorMathTrim
namespace Go.Proofs.YtkhnkockdfmkgaaDoor
open Go.RowKit M
set_option linter.unusedVariables false

/-- The place behind the first two line's ends. -/
def endL (l : List UInt8) : Int := if 0 ≤ Lib.index l two4 then Lib.index l two4 + 4 else -1
theorem occ_atU (l : List UInt8) (k : Nat) (h : k + 4 ≤ l.length) : Lib.occAt l two4 k = decide ((l.drop k).take 4 = two4) := by
  rw [Lib.occAt_iff_take l two4 k (by show k + 4 ≤ _; exact h)]
  show ((l.drop k).take 4 == two4) = _
  by_cases e : (l.drop k).take 4 = two4 <;> simp [e]
theorem endL_at {l : List UInt8} {k : Nat} (h : k + 4 ≤ l.length) (h0 : ∀ j, j < k → Lib.occAt l two4 j = false) (h1 : (l.drop k).take 4 = two4) : endL l = k + 4 := by
  have := Lib.index_first (s := l) (sub := two4) (i := k) (by omega) (by rw [occ_atU l k h]; simp [h1]) h0
  unfold endL
  rw [this, if_pos (by omega)]
theorem endL_none {l : List UInt8} {k : Nat} (h : ¬ k + 3 < l.length) (h0 : ∀ j, j < k → Lib.occAt l two4 j = false) : endL l = -1 := by
  have := Lib.index_none (s := l) (sub := two4) (fun j hj => by
    by_cases e : j < k
    · exact h0 j e
    · rw [Bool.eq_false_iff]
      intro ho
      rcases Lib.occAt_room ho with hr | hr
      · have : two4.length = 4 := rfl
        omega
      · cases hr)
  unfold endL
  rw [this, if_neg (by decide)]
theorem endL_bd (l : List UInt8) : endL l = -1 ∨ (4 ≤ endL l ∧ endL l ≤ l.length) := by
  unfold endL
  split
  · rename_i h
    have := Lib.index_room l two4 h
    have e : two4.length = 4 := rfl
    right
    omega
  · exact .inl rfl
theorem RespAt.end5 {r : Rs} {l : List UInt8} (h : RespAt r l) : endL l = ((frontA r).length : Int) := by
  have h1 := h.idx
  have h2 : 4 ≤ (frontA r).length := by
    rw [front_flat]
    simp [linesA, flatE]
    omega
  unfold endL
  rw [if_pos (by omega), h1]

set_option maxRecDepth 100000 in
set_option maxHeartbeats 1000000 in
theorem l5End_any (a : Option Addr) (l : List UInt8) (cap B : Nat) (w : World) (h : Byt w B a l) (hl2 : l.length ≤ 1048576) (hl : l.length ≤ cap) (hm : cap ≤ maxLen) :
    Calls Tryd.prog 25 #[.slice a l.length cap] w fun e w' => e = .returned (.int .i64 (endL l)) ∧ ∀ D, Below D w w' := by
  unfold maxLen at hm
  go_enter Tryd.func25, Tryd.ntmps25
  go_wp2
  go_loopw [3] (fun i wr => ∃ k n : Nat, k ≤ l.length ∧ i = .int .i64 k ∧ (∀ j, j < k → Lib.occAt l two4 j = false) ∧ wr = w.drewN n) (fun i _ => l.length + 1 - (intOf i).toNat)
  case atStart => exact ⟨0, 0, Nat.zero_le _, rfl, fun j hj => absurd hj (Nat.not_lt_zero _), rfl⟩
  case round =>
    obtain ⟨k, n, hk, rfl, hn, rfl⟩ := hrel
    have HN : Hid (∀ j, j < k → Lib.occAt l two4 j = false) := hn
    clear hn
    by_cases h1 : k + 3 < l.length
    · obtain ⟨b, o, rfl, hb, hc⟩ := h (by omega)
      have hby : Byt (w.drewN n) B (some ⟨b, o, none⟩) l := fun _ => ⟨b, o, rfl, hb, hc⟩
      have hcv := conv_byt ((hby.drop k).take 4) 4 (cap - k) (by rw [List.length_take, List.length_drop]; omega)
      have e1 := two4_beq ((l.drop k).take 4)
      have h1' : ((k : Int) + 3 < (l.length : Int)) := by omega
      obtain ⟨q, hq⟩ : ∃ q, (l.drop k).take 4 = q := ⟨_, rfl⟩
      rw [hq] at hcv e1
      by_cases hqq : q = two4
      · rw [decide_eq_true hqq] at e1
        have HE : Hid (endL l = k + 4) := endL_at (by omega) HN.out (by rw [hq]; exact hqq)
        clear hby hc hq hqq
        go_wp2
        go_ret
        exact ⟨ret_intE HE.out.symm, fun D => below_drewN (Below.refl _ _) _⟩
      · rw [decide_eq_false hqq] at e1
        have HE : Hid (∀ j, j < k + 1 → Lib.occAt l two4 j = false) := fun j hj => by
          by_cases e : j < k
          · exact HN.out j e
          · have : j = k := by omega
            subst this
            rw [occ_atU l j (by omega), hq]; simp [hqq]
        clear hby hc hq hqq
        go_wp2
        go_roundw
        case rel => exact ⟨k + 1, n, by omega, by go_num, HE.out, rfl⟩
        case measure => simp [intOf]; omega
    · have HE : Hid (endL l = -1) := endL_none h1 HN.out
      have h1' : ¬ ((k : Int) + 3 < (l.length : Int)) := by omega
      go_wp2
      go_ret
      exact ⟨ret_intE HE.out.symm, fun D => below_drewN (Below.refl _ _) _⟩

theorem two_occ {l : List UInt8} {k : Nat} (h : k + 1 < l.length) : Lib.occAt l [58, 32] k = (decide (l[k] = 58) && decide (l[k + 1] = 32)) := by
  rw [Lib.occAt_iff_take l [58, 32] k (by show k + 2 ≤ _; omega)]
  have e : (l.drop k).take ([58, 32] : List UInt8).length = [l[k], l[k + 1]] := by
    show (l.drop k).take 2 = _
    rw [List.drop_eq_getElem_cons (by omega), List.drop_eq_getElem_cons h]
    rfl
  rw [e]
  by_cases h1 : l[k] = 58 <;> by_cases h2 : l[k + 1] = 32 <;> simp [h1, h2]
theorem cut5_at {l : List UInt8} {k : Nat} (h : k + 1 < l.length) (h0 : ∀ j, j < k → Lib.occAt l [58, 32] j = false) (h1 : Lib.occAt l [58, 32] k = true) : cutS [58, 32] l = some (l.take k, l.drop (k + 2)) := by
  have := Lib.index_first (s := l) (sub := [58, 32]) (i := k) (by omega) h1 h0
  unfold cutS
  rw [this, if_pos (by omega), Int.toNat_natCast]
  rfl
theorem cut5_none {l : List UInt8} {k : Nat} (h : ¬ k + 1 < l.length) (h0 : ∀ j, j < k → Lib.occAt l [58, 32] j = false) : cutS [58, 32] l = none := by
  have := Lib.index_none (s := l) (sub := [58, 32]) (fun j hj => by
    by_cases e : j < k
    · exact h0 j e
    · rw [Bool.eq_false_iff]
      intro ho
      rcases Lib.occAt_room ho with hr | hr
      · have : ([58, 32] : List UInt8).length = 2 := rfl
        omega
      · cases hr)
  unfold cutS
  rw [this, if_neg (by decide)]
/-- What l5Head hands back. -/
def L5Is (r : Option (List UInt8 × List UInt8)) (e : Ending) : Prop :=
  match r with
  | none => e = .returned (.tuple #[.agg #[.string ⟨#[]⟩, .string ⟨#[]⟩], .bool false])
  | some (a, b) => e = .returned (.tuple #[.agg #[.string (bytesOf a), .string (bytesOf b)], .bool true])
theorem head_desc5 : (Tryd.prog.info? 42).map (·.size) = some 2 := by kernel_rfl
theorem results_l5 (tmps : Array Value) (N : Nat) (W : World) (v0 v1 : Value) (y : Bool) (h2 : tmps.getD 2 undef = .pointer (some ⟨N, 0, none⟩)) (h3 : tmps.getD 3 undef = .bool y) (hg : W.heap[N]? = some (Obj.cells #[v0, v1] 42)) :
    (results Tryd.f28 tmps).run Tryd.prog W = .ok (.tuple #[.agg #[v0, v1], .bool y]) W := by
  have hl := run_loadVar_row (P := Tryd.prog) W N 42 42 #[v0, v1] (0, 0) _ hg Tryd.underlying42 rfl head_desc5
  simp at h2 h3
  simp [results, Tryd.results28, h2, h3, asAddr, hl]
theorem set2_heap5 {W : World} {N : Nat} {a0 a1 : Value} {t : TypeId} (h : W.heap[N]? = some (.cells #[a0, a1] t)) (v0 v1 : Value) : ((W.setCell ⟨N, 0, none⟩ v0).setCell ⟨N, 1, none⟩ v1).heap[N]? = some (.cells #[v0, v1] t) := by
  have := set_heap (set_heap h 0 v0) 1 v1
  simpa using this

theorem below_drew5 {w w' : World} {C : Nat} (h : Below C w w') : Below C w w'.drew := ⟨h.os, h.tape, h.output, h.size, h.block⟩
theorem cells2R' {W : World} {N : Nat} {v0 v1 : Value} {t : TypeId} (h : W.heap[N]? = some (.cells #[v0, v1] t)) : W.cell? ⟨N, 0, none⟩ = some v0 ∧ W.cell? ⟨N, 1, none⟩ = some v1 ∧ W.frozen? ⟨N, 0, none⟩ = false ∧ W.frozen? ⟨N, 1, none⟩ = false := by
  refine ⟨?_, ?_, ?_, ?_⟩
  all_goals first | (unfold World.cell?; rw [h]; rfl) | (unfold World.frozen?; rw [h]; rfl)
set_option maxRecDepth 100000 in
set_option maxHeartbeats 2000000 in
theorem l5Head_any (s : ByteArray) (w : World) (hs : s.size ≤ 1048576) :
    Calls Tryd.prog 28 #[.string s] w fun e w' => L5Is (cutS [58, 32] s.data.toList) e ∧ Below w.heap.size w w' := by
  have el : s.data.toList.length = s.size := Array.length_toList
  obtain ⟨w0, hw0⟩ : ∃ w0, w.alloc (Obj.cells #[.string ⟨#[]⟩, .string ⟨#[]⟩] 42) = w0 := ⟨_, rfl⟩
  have c0 : Below w.heap.size w w0 := by rw [← hw0]; exact (Below.refl _ _).alloc (Nat.le_refl _) _
  have g0 : w0.heap[w.heap.size]? = some (Obj.cells #[.string ⟨#[]⟩, .string ⟨#[]⟩] 42) := by rw [← hw0]; exact heap_alloc_new w _
  have C0 := hide c0
  have G0 := hide g0
  have HEl := hide el
  clear c0 g0
  go_enter Tryd.func28, Tryd.ntmps28
  go_wp2
  try rw [hw0]
  go_loopw [4] (fun i wr => ∃ k : Nat, k ≤ s.size ∧ i = .int .i64 k ∧ (∀ j, j < k → Lib.occAt s.data.toList [58, 32] j = false) ∧ wr = w0) (fun i _ => s.size + 1 - (intOf i).toNat)
  case atStart => exact ⟨0, Nat.zero_le _, rfl, fun j hj => absurd hj (Nat.not_lt_zero _), by first | rfl | exact hw0⟩
  case round =>
    obtain ⟨k, hk, rfl, hn, hwr⟩ := hrel
    subst hwr
    have HN := hide hn
    clear hn
    by_cases h1 : k + 1 < s.size
    · have h1' : ((k : Int) + 1 < (s.size : Int)) := by omega
      have hoc := two_occ (l := s.data.toList) (k := k) (by omega)
      have e1 : s.data.toList[k]'(by omega) = s[k] := by simp [ByteArray.getElem_eq_getElem_data]
      have e2 : s.data.toList[k + 1]'(by omega) = s[k + 1] := by simp [ByteArray.getElem_eq_getElem_data]
      rw [e1, e2] at hoc
      have n1 := s[k].toNat_lt
      have n2 := s[k + 1].toNat_lt
      have c1 : ((s[k].toNat : Int) != 58) = !decide (s[k] = 58) := by
        by_cases e : s[k] = 58
        · simp [e]
        · have : ¬ s[k].toNat = 58 := fun h => e (UInt8.toNat_inj.1 h)
          have h2 : ¬ (s[k].toNat : Int) = 58 := by omega
          simp [e, h2]
      have c2 : ((s[k + 1].toNat : Int) != 32) = !decide (s[k + 1] = 32) := by
        by_cases e : s[k + 1] = 32
        · simp [e]
        · have : ¬ s[k + 1].toNat = 32 := fun h => e (UInt8.toNat_inj.1 h)
          have h2 : ¬ (s[k + 1].toNat : Int) = 32 := by omega
          simp [e, h2]
      by_cases h58 : s[k] = 58
      · by_cases h32 : s[k + 1] = 32
        · rw [decide_eq_true h58] at c1 hoc
          rw [decide_eq_true h32] at c2 hoc
          have HCu := hide (cut5_at (k := k) (by omega) HN.out hoc)
          have d1 : ((s[k].toNat : Int) = 58) := by rw [h58]; rfl
          have d2 : ((s[k + 1].toNat : Int) = 32) := by rw [h32]; rfl
          have hlt' : ¬ ((s.size : Int) ≤ (k : Int) + 1) := by omega
          obtain ⟨q0, q1, f0, f1⟩ := cells2R' G0.out
          have x1 := extract_pieceB s 0 k
          have x2 := extract_pieceB s (k + 2) s.size
          have HX : Hid (bytesOf (s.data.toList.take k) = s.extract 0 k ∧ bytesOf (s.data.toList.drop (k + 2)) = s.extract (k + 2) s.size) := hide (by
            constructor
            · rw [x1]; simp
            · rw [x2]
              congr 1
              rw [List.take_of_length_le]
              rw [List.length_drop]; omega)
          have hw2 : IntKind.i64.wrap ((k : Int) + 2) = (k : Int) + 2 := by rw [IntKind.wrap_i64]; omega
          have b1 : (0 : Int) ≤ (k : Int) := by omega
          have b2 : (k : Int) ≤ (s.size : Int) := by omega
          have b3 : (0 : Int) ≤ (k : Int) + 2 := by omega
          have b4 : (k : Int) + 2 ≤ (s.size : Int) := by omega
          have b5 : ((k : Int) + 2).toNat = k + 2 := by omega
          clear h58 h32 hoc e1 e2 x1 x2
          go_wp2
          go_region_held3 (fun _ => True) (trivial) (fail)
          go_wp2
          refine bodyPost_ret (results_l5 _ w.heap.size _ _ _ _ rfl rfl (show _ from set2_heap5 G0.out _ _)) rfl ?_
          rw [HCu.out]
          refine ⟨?_, below_drew5 ((C0.out.setCell (p := ⟨w.heap.size, 0, none⟩) (Nat.le_refl _) _).setCell (p := ⟨w.heap.size, 1, none⟩) (Nat.le_refl _) _)⟩
          show Ending.returned _ = Ending.returned _
          rw [HX.out.1, HX.out.2]
        · rw [decide_eq_true h58] at c1 hoc
          rw [decide_eq_false h32] at c2 hoc
          have HE : Hid (∀ j, j < k + 1 → Lib.occAt s.data.toList [58, 32] j = false) := fun j hj => by
            by_cases e : j < k
            · exact HN.out j e
            · have : j = k := by omega
              subst this
              exact hoc
          have d1 : ((s[k].toNat : Int) = 58) := by rw [h58]; rfl
          clear h58 h32 hoc e1 e2
          go_wp2
          go_roundw
          case rel => exact ⟨k + 1, by omega, by go_num, HE.out, by first | rfl | trivial⟩
          case measure => simp [intOf]; omega
      · rw [decide_eq_false h58] at c1 hoc
        have HE : Hid (∀ j, j < k + 1 → Lib.occAt s.data.toList [58, 32] j = false) := fun j hj => by
          by_cases e : j < k
          · exact HN.out j e
          · have : j = k := by omega
            subst this
            exact hoc
        clear h58 hoc e1 e2 c2 n2
        go_wp2
        go_roundw
        case rel => exact ⟨k + 1, by omega, by go_num, HE.out, by first | rfl | trivial⟩
        case measure => simp [intOf]; omega
    · have h1' : ¬ ((k : Int) + 1 < (s.size : Int)) := by omega
      have h1'' : ((s.size : Int) ≤ (k : Int) + 1) := by omega
      have HCu := hide (cut5_none (k := k) (by have := HEl.out; omega) HN.out)
      obtain ⟨q0, q1, f0, f1⟩ := cells2R' G0.out
      go_wp2
      refine bodyPost_ret (results_l5 _ w.heap.size _ _ _ _ rfl rfl (set2_heap5 G0.out _ _)) rfl ?_
      rw [HCu.out]
      exact ⟨rfl, (C0.out.setCell (p := ⟨w.heap.size, 0, none⟩) (Nat.le_refl _) _).setCell (p := ⟨w.heap.size, 1, none⟩) (Nat.le_refl _) _⟩
end Go.Proofs.YtkhnkockdfmkgaaDoor
namespace Go.Proofs.YtkhnkockdfmkgaaDoor.M

def lineSum (L : List (List UInt8)) : Nat := (L.map List.length).sum
theorem flatE_len (L : List (List UInt8)) : (flatE L).length = lineSum L + 2 * L.length := by
  induction L with
  | nil => rfl
  | cons x L ih =>
    rw [flatE_cons]
    simp only [List.length_append, List.length_cons, ih, lineSum, List.map_cons, List.sum_cons]
    omega
theorem lines_sum (t : List UInt8) : lineSum (linesL t) + 2 * (linesL t).length = t.length + 2 := by
  rw [← flatE_len, (linesL_flat t).1]
  simp
/-- What the specification's reading of an answer has come to where j lines are read behind the first. -/
def LoopA (l : List UInt8) (lr : List (List UInt8)) (c : Int) (hs : List Hd) (sz : Int) (j : Nat) : Prop :=
  ∀ q, RespAt q l → q.c = c ∧ lr = q.hs.map hdLine ++ [hdLine (lenH q.b.size)] ∧ (j ≤ q.hs.length → hs = q.hs.take j ∧ sz = -1) ∧ (q.hs.length < j → hs = q.hs ∧ sz = q.b.size)
/-- The lines are an answer's. -/
def LinesOf (l l0 : List UInt8) (lr : List (List UInt8)) : Prop := ∀ q, RespAt q l → l0 = topA q.c ∧ lr = q.hs.map hdLine ++ [hdLine (lenH q.b.size)]
theorem LinesOf.few {l l0 : List UInt8} {lr : List (List UInt8)} (h : LinesOf l l0 lr) (hn : ¬ (1 ≤ lr.length ∧ l0.length = 12 ∧ l0.take 9 = proto ++ [32])) : ∀ q, ¬ RespAt q l := by
  intro q hq
  obtain ⟨rfl, rfl⟩ := h q hq
  obtain ⟨t1, t2, _⟩ := topA_len (resp_hds hq.1).1
  exact hn ⟨by simp, t1, t2⟩
theorem LoopA.start {l l0 : List UInt8} {lr : List (List UInt8)} (h : LinesOf l l0 lr) : LoopA l lr (parseNum (l0.drop 9) 599).1 [] (-1) 0 := by
  intro q hq
  obtain ⟨rfl, h2⟩ := h q hq
  obtain ⟨_, _, t3⟩ := topA_len (resp_hds hq.1).1
  refine ⟨?_, h2, fun _ => ⟨rfl, rfl⟩, fun h => absurd h (by omega)⟩
  rw [t3, parse_code (resp_hds hq.1).1 599 (by decide)]
theorem line_at {q : Rs} {lr : List (List UInt8)} {j : Nat} (h : lr = q.hs.map hdLine ++ [hdLine (lenH q.b.size)]) (hj : j < lr.length) (hr : respB q = true) :
    (∃ h1 : j < q.hs.length, cutS [58, 32] lr[j] = some ((q.hs[j]).1.data.toList, (q.hs[j]).2.data.toList) ∧ j + 1 < lr.length) ∨ (j = q.hs.length ∧ cutS [58, 32] lr[j] = some (lenName.data.toList, Lib.decDigits q.b.size) ∧ j + 1 = lr.length) := by
  subst h
  by_cases h1 : j < q.hs.length
  · left
    refine ⟨h1, ?_, by simp; omega⟩
    have e : (q.hs.map hdLine ++ [hdLine (lenH q.b.size)])[j] = hdLine q.hs[j] := by
      rw [List.getElem_append_left (by simpa using h1)]
      simp
    rw [e]
    obtain ⟨_, g, _⟩ := resp_hds hr
    exact cut_line (hd_facts (free_hd (g _ (List.getElem_mem h1))).1).2.1
  · right
    have h2 : j = q.hs.length := by simp at hj; omega
    subst h2
    refine ⟨rfl, ?_, by simp⟩
    have e : (q.hs.map hdLine ++ [hdLine (lenH q.b.size)])[q.hs.length]'hj = hdLine (lenH q.b.size) := by
      rw [List.getElem_append_right (by simp)]
      simp
    rw [e]
    exact cut_line lenH_no
theorem LoopA.no {l : List UInt8} {lr : List (List UInt8)} {c : Int} {hs : List Hd} {sz : Int} {j : Nat} (h : LoopA l lr c hs sz j) (hj : j < lr.length) (hc : cutS [58, 32] lr[j] = none) : ∀ q, ¬ RespAt q l := by
  intro q hq
  obtain ⟨_, h2, _⟩ := h q hq
  rcases line_at h2 hj hq.1 with ⟨_, e, _⟩ | ⟨_, e, _⟩ <;> (rw [hc] at e; cases e)
theorem LoopA.more {l : List UInt8} {lr : List (List UInt8)} {c : Int} {hs : List Hd} {sz : Int} {j : Nat} {a b : List UInt8} (h : LoopA l lr c hs sz j) (hj : j < lr.length) (hc : cutS [58, 32] lr[j] = some (a, b)) (hn : ¬ (j + 1 = lr.length ∧ bytesOf a = lenName)) : LoopA l lr c (hs ++ [(bytesOf a, bytesOf b)]) sz (j + 1) := by
  intro q hq
  obtain ⟨h1, h2, h3, _⟩ := h q hq
  rcases line_at h2 hj hq.1 with ⟨hlt, e, _⟩ | ⟨_, e, hl⟩
  · obtain ⟨e1, e2⟩ := h3 (by omega)
    rw [hc] at e
    have e' := Option.some.inj e
    have ea := congrArg Prod.fst e'
    have eb := congrArg Prod.snd e'
    simp only at ea eb
    subst ea eb
    refine ⟨h1, h2, fun _ => ⟨?_, e2⟩, fun h => absurd h (by omega)⟩
    rw [e1, List.take_succ_eq_append_getElem hlt, bytesOf_self, bytesOf_self]
  · rw [hc] at e
    have e' := Option.some.inj e
    have ea := congrArg Prod.fst e'
    simp only at ea
    subst ea
    exact absurd ⟨hl, bytesOf_self _⟩ hn
theorem LoopA.size {l : List UInt8} {lr : List (List UInt8)} {c : Int} {hs : List Hd} {sz n : Int} {j : Nat} {a b : List UInt8} (h : LoopA l lr c hs sz j) (hj : j < lr.length) (hc : cutS [58, 32] lr[j] = some (a, b)) (hl : j + 1 = lr.length) (hp : (parseNum b 400).1 = n) : LoopA l lr c hs n (j + 1) := by
  intro q hq
  obtain ⟨h1, h2, h3, _⟩ := h q hq
  rcases line_at h2 hj hq.1 with ⟨hlt, _, hl2⟩ | ⟨hje, e, _⟩
  · omega
  · subst hje
    obtain ⟨e1, _⟩ := h3 (Nat.le_refl _)
    rw [hc] at e
    have e' := Option.some.inj e
    have eb := congrArg Prod.snd e'
    simp only at eb
    subst eb
    rw [parse_len (resp_hds hq.1).2.2.2] at hp
    refine ⟨h1, h2, fun h => absurd h (by omega), fun _ => ⟨?_, hp.symm⟩⟩
    rw [e1, List.take_of_length_le (Nat.le_refl _)]
theorem LoopA.noSize {l : List UInt8} {lr : List (List UInt8)} {c : Int} {hs : List Hd} {sz : Int} {j : Nat} {a b : List UInt8} (h : LoopA l lr c hs sz j) (hj : j < lr.length) (hc : cutS [58, 32] lr[j] = some (a, b)) (hl : j + 1 = lr.length) (hp : (parseNum b 400).2 = false) : ∀ q, ¬ RespAt q l := by
  intro q hq
  obtain ⟨h1, h2, h3, _⟩ := h q hq
  rcases line_at h2 hj hq.1 with ⟨hlt, _, hl2⟩ | ⟨hje, e, _⟩
  · omega
  · rw [hc] at e
    have e' := Option.some.inj e
    have eb := congrArg Prod.snd e'
    simp only at eb
    subst eb
    rw [parse_len (resp_hds hq.1).2.2.2] at hp
    cases hp
theorem LoopA.done {l : List UInt8} {lr : List (List UInt8)} {c : Int} {hs : List Hd} {sz : Int} {k : Nat} (h : LoopA l lr c hs sz lr.length) (hk : ∀ q, RespAt q l → k = (frontA q).length) : ∀ q, RespAt q l → 0 ≤ sz ∧ k + sz.toNat ≤ l.length ∧ (⟨c, hs, bytesOf ((l.drop k).take sz.toNat)⟩ : Rs) = q ∧ putA q = l.take (k + sz.toNat) ∧ putA q ≠ [] := by
  intro q hq
  obtain ⟨h1, h2, _, h4⟩ := h q hq
  obtain ⟨e1, e2⟩ := h4 (by rw [h2]; simp)
  have e3 := hk q hq
  obtain ⟨b1, b2, b3⟩ := hq.body
  have e4 : sz.toNat = q.b.size := by rw [e2]; simp
  rw [e4, e3]
  refine ⟨by omega, b1, ?_, b3.symm, putA_ne hq.1⟩
  rw [b2, bytesOf_self, e1, ← h1]
theorem getA_of {l : List UInt8} {r : Rs} {n : Nat} (h : putA r = l.take n) (hn : n ≤ l.length) (hne : putA r ≠ []) : getA l = (r, n, true) := by
  have hr : respB r = true := by
    cases e : respB r
    · exact absurd (putA_no e) hne
    · rfl
  have ha : RespAt r l := ⟨hr, l.drop n, by rw [h, List.take_append_drop]⟩
  rw [getA_yes ha, h, List.length_take, Nat.min_eq_left hn]
end Go.Proofs.YtkhnkockdfmkgaaDoor.M
namespace Go.Proofs.YtkhnkockdfmkgaaDoor
open Go.RowKit M
set_option linter.unusedVariables false

def linesB (l : List UInt8) : List ByteArray := (linesL l).map bytesOf
theorem linesL_front : ∀ (a b : List UInt8), (∀ j, j < a.length → ¬ ((a ++ b)[j]? = some 13 ∧ (a ++ b)[j + 1]? = some 10)) → ∀ l q, linesL b = l :: q → linesL (a ++ b) = (a ++ l) :: q := by
  intro a
  induction a with
  | nil => intro b _ l q h; exact h
  | cons x a ih =>
    intro b h l q hb
    have ih' := ih b (fun j hj => by have := h (j + 1) (by simp; omega); simpa using this) l q hb
    cases e : a ++ b with
    | nil =>
      have ha := (List.append_eq_nil_iff.1 e).1
      have hb' := (List.append_eq_nil_iff.1 e).2
      subst ha hb'
      simp [linesL] at hb
      simp [linesL, hb]
    | cons y r =>
      have h0 := h 0 (by simp)
      rw [List.cons_append, e] at h0 ⊢
      rw [linesL]
      rw [e] at ih'
      have hn : ¬ (x = 13 ∧ y = 10) := by simpa using h0
      rw [if_neg hn, ih']
      rfl
theorem hide' {P : Prop} (h : P) : Hid P := h
/-- No line's end begins between two places. -/
def noPair (l : List UInt8) (fr k : Nat) : Prop := ∀ j, fr ≤ j → j < k → ¬ (l[j]? = some 13 ∧ l[j + 1]? = some 10)
theorem noPair.front {l : List UInt8} {fr k : Nat} (h : noPair l fr k) (hk : k ≤ l.length) (hf : fr ≤ k) {x : List UInt8} {q : List (List UInt8)} (hb : linesL (l.drop k) = x :: q) : linesL (l.drop fr) = ((l.drop fr).take (k - fr) ++ x) :: q := by
  have e : l.drop fr = (l.drop fr).take (k - fr) ++ l.drop k := by
    conv => lhs; rw [← List.take_append_drop (k - fr) (l.drop fr)]
    rw [List.drop_drop, show fr + (k - fr) = k by omega]
  have hl : ((l.drop fr).take (k - fr)).length = k - fr := by rw [List.length_take, List.length_drop]; omega
  conv => lhs; rw [e]
  apply linesL_front _ _ _ _ _ hb
  intro j hj
  rw [← e, List.getElem?_drop, List.getElem?_drop]
  rw [hl] at hj
  exact h (fr + j) (by omega) (by omega)
/-- How far a text is cut. -/
def LineAt (l : List UInt8) (k fr : Nat) (done : List (List UInt8)) : Prop :=
  done.length ≤ k ∧ fr ≤ k ∧ ((k ≤ l.length ∧ linesL l = done ++ linesL (l.drop fr) ∧ noPair l fr k) ∨ (k = l.length + 1 ∧ done = linesL l))
theorem LineAt.start (l : List UInt8) : LineAt l 0 0 [] := ⟨Nat.le_refl _, Nat.le_refl _, .inl ⟨Nat.zero_le _, by simp, fun j h1 h2 => absurd h2 (Nat.not_lt_zero _)⟩⟩
theorem LineAt.skip {l : List UInt8} {k fr : Nat} {done : List (List UInt8)} (h : LineAt l k fr done) (hk : k < l.length) (hc : ¬ (l[k]? = some 13 ∧ l[k + 1]? = some 10)) : LineAt l (k + 1) fr done := by
  obtain ⟨h1, h2, h3 | h3⟩ := h
  · refine ⟨by omega, by omega, .inl ⟨by omega, h3.2.1, fun j hj hj2 => ?_⟩⟩
    rcases Nat.lt_or_eq_of_le (Nat.le_of_lt_succ hj2) with h | h
    · exact h3.2.2 j hj h
    · subst h; exact hc
  · exact absurd hk (by omega)
theorem LineAt.cut {l : List UInt8} {k fr : Nat} {done : List (List UInt8)} (h : LineAt l k fr done) (hk : k + 1 < l.length) (hc : l[k]? = some 13) (hd : l[k + 1]? = some 10) : LineAt l (k + 2) (k + 2) (done ++ [(l.drop fr).take (k - fr)]) := by
  obtain ⟨h1, h2, h3 | h3⟩ := h
  · refine ⟨by simp; omega, Nat.le_refl _, .inl ⟨by omega, ?_, fun j hj hj2 => absurd hj (by omega)⟩⟩
    rw [h3.2.1, List.append_assoc]
    congr 1
    have e : l.drop k = 13 :: 10 :: l.drop (k + 2) := by
      rw [List.drop_eq_getElem_cons (by omega : k < l.length), List.drop_eq_getElem_cons (by omega : k + 1 < l.length)]
      rw [List.getElem?_eq_getElem (by omega)] at hc hd
      rw [Option.some.inj hc, Option.some.inj hd]
    have hb : linesL (l.drop k) = [] :: linesL (l.drop (k + 2)) := by rw [e]; simp [linesL]
    rw [h3.2.2.front (by omega) h2 hb, List.append_nil]
    rfl
  · exact absurd hk (by omega)
theorem LineAt.last {l : List UInt8} {k fr : Nat} {done : List (List UInt8)} (h : LineAt l k fr done) (hk : k = l.length) : LineAt l (k + 1) fr (done ++ [(l.drop fr).take (k - fr)]) := by
  obtain ⟨h1, h2, h3 | h3⟩ := h
  · refine ⟨by simp; omega, by omega, .inr ⟨by omega, ?_⟩⟩
    have hb : linesL (l.drop k) = [[]] := by rw [hk, List.drop_length]; rfl
    rw [h3.2.1, h3.2.2.front (by omega) h2 hb, List.append_nil]
  · exact absurd hk (by omega)
theorem u8_num {c : UInt8} {n : Nat} (hn : n < 256) (h : ((c.toNat : Int) == n) = true) : c = UInt8.ofNat n := by
  rw [beq_iff_eq] at h
  have := Int.ofNat.inj h
  exact UInt8.toNat_inj.1 (by rw [this]; simp; omega)
theorem linesL_len (l : List UInt8) : (linesL l).length ≤ l.length + 1 := by
  fun_induction linesL l with
  | case1 => simp
  | case2 => simp
  | case3 => simp; omega
  | case4 => simp
  | case5 => simp_all; omega

set_option maxHeartbeats 4000000 in
theorem l3Lines_any (s : ByteArray) (w : World) (hs : s.size ≤ 1048576) :
    Calls Tryd.prog 26 #[.string s] w fun e w' => (∃ g cap, e = .returned (.slice (some ⟨g, 0, none⟩) (linesB s.data.toList).length cap) ∧ w'.ownsRow w.heap.size 9 1 (.slice (some ⟨g, 0, none⟩) (linesB s.data.toList).length cap) (linesB s.data.toList).length (strCells (linesB s.data.toList))) ∧ Below w.heap.size w w' := by
  have el : s.data.toList.length = s.size := Array.length_toList
  have EL : Hid (s.data.toList.length = s.size) := el
  have hget : ∀ (k : Nat) (h : k < s.size), s.data.toList[k]? = some s[k] := fun k h => by
    rw [List.getElem?_eq_getElem (by rw [el]; exact h)]; rfl
  have HGet : Hid (∀ (k : Nat) (h : k < s.size), s.data.toList[k]? = some s[k]) := hget
  clear el hget
  go_enter Tryd.func26, Tryd.ntmps26
  go_wp2
  go_loopw [3, 4, 5] (fun v f i wr => ∃ (k fr : Nat) (done : List (List UInt8)) (g cap : Nat), i = .int .i64 k ∧ f = .int .i64 fr ∧ v = .slice (some ⟨g, 0, none⟩) done.length cap ∧ k ≤ s.size + 1 ∧ LineAt s.data.toList k fr done ∧ wr.ownsRow w.heap.size 9 1 (.slice (some ⟨g, 0, none⟩) done.length cap) done.length (strCells (done.map bytesOf)) ∧ Below w.heap.size w wr) (fun _ _ i _ => s.size + 1 - (intOf i).toNat)
  case atStart => exact ⟨0, 0, [], w.heap.size, 0, rfl, rfl, rfl, Nat.zero_le _, LineAt.start _, World.ownsRow_made w #[] 0 (Nat.le_refl _) (by decide) rfl, (Below.refl _ _).alloc (Nat.le_refl _) _⟩
  case round =>
    obtain ⟨k, fr, done, g, cap, rfl, rfl, rfl, hk1, hC, hown, hbe⟩ := hrel
    have HC : Hid (LineAt s.data.toList k fr done) := hC
    have hdl : done.length ≤ k := hC.1
    have hfk : fr ≤ k := hC.2.1
    clear hC
    by_cases hout : k ≤ s.size
    · have HE : Hid (s.extract fr k = bytesOf ((s.data.toList.drop fr).take (k - fr))) := extract_pieceB s fr k
      by_cases hlt : k < s.size
      · have hne : ((k : Int) == s.size) = false := by
          apply beq_eq_false_iff_ne.2; omega
        by_cases hl2 : k + 1 < s.size
        · have hl2' : (k : Int) + 1 < s.size := by omega
          by_cases hc : s[k] = 13
          · have hb13 : ((s[k].toNat : Int) == 13) = true := by rw [hc]; rfl
            by_cases hd : s[k + 1] = 10
            · have hb10 : ((s[k + 1].toNat : Int) == 10) = true := by rw [hd]; rfl
              have HN : Hid (LineAt s.data.toList (k + 2) (k + 2) (done ++ [(s.data.toList.drop fr).take (k - fr)])) := HC.out.cut (by rw [EL.out]; exact hl2) (by rw [HGet.out k hlt, hc]) (by rw [HGet.out (k + 1) hl2, hd])
              clear hc hd
              go_wp2_with (at_builtin; refine wp_append_str rfl _ _ rfl w.heap.size _ done.length _ rfl (hown.alloc _) _ (s.extract fr k) rfl ?c1 ?c2 ?c3 ?_)
              case c1 => simp
              case c2 => omega
              case c3 => have := hbe.size; simp; omega
              intro g1 cap1 w1 ho1 hb1
              rw [HE.out] at ho1
              go_wp2
              go_roundw
              case rel => exact ⟨k + 2, k + 2, done ++ [(s.data.toList.drop fr).take (k - fr)], g1, cap1, by go_num, by go_num, by rw [List.length_append]; rfl, by omega, HN.out, by rw [List.length_append, List.map_append]; exact ho1, (hbe.alloc hbe.size _).trans hb1⟩
              case measure => simp [intOf]; omega
            · have hb10 : ((s[k + 1].toNat : Int) == 10) = false := by
                cases h : ((s[k + 1].toNat : Int) == 10)
                · rfl
                · exact absurd (u8_num (n := 10) (by decide) h) hd
              have HN : Hid (LineAt s.data.toList (k + 1) fr done) := HC.out.skip (by rw [EL.out]; exact hlt) (by rw [HGet.out (k + 1) hl2]; exact fun h => hd (Option.some.inj h.2))
              clear hc hd
              go_wp2
              go_roundw
              case rel => exact ⟨k + 1, fr, done, g, cap, by go_num, rfl, rfl, by omega, HN.out, hown, hbe⟩
              case measure => simp [intOf]; omega
          · have hb13 : ((s[k].toNat : Int) == 13) = false := by
              cases h : ((s[k].toNat : Int) == 13)
              · rfl
              · exact absurd (u8_num (n := 13) (by decide) h) hc
            have HN : Hid (LineAt s.data.toList (k + 1) fr done) := HC.out.skip (by rw [EL.out]; exact hlt) (by rw [HGet.out k hlt]; exact fun h => hc (Option.some.inj h.1))
            clear hc
            go_wp2
            go_roundw
            case rel => exact ⟨k + 1, fr, done, g, cap, by go_num, rfl, rfl, by omega, HN.out, hown, hbe⟩
            case measure => simp [intOf]; omega
        · have hl2' : ¬ ((k : Int) + 1 < s.size) := by omega
          have HN : Hid (LineAt s.data.toList (k + 1) fr done) := HC.out.skip (by rw [EL.out]; exact hlt) (by rw [List.getElem?_eq_none (i := k + 1) (by rw [EL.out]; omega)]; exact fun h => by cases h.2)
          go_wp2
          go_roundw
          case rel => exact ⟨k + 1, fr, done, g, cap, by go_num, rfl, rfl, by omega, HN.out, hown, hbe⟩
          case measure => simp [intOf]; omega
      · have hks : k = s.size := by omega
        have hne : ((k : Int) == s.size) = true := by rw [hks]; simp
        have HN : Hid (LineAt s.data.toList (k + 1) fr (done ++ [(s.data.toList.drop fr).take (k - fr)])) := HC.out.last (by rw [EL.out]; exact hks)
        have HE2 : Hid (s.extract fr s.size = bytesOf ((s.data.toList.drop fr).take (k - fr))) := by rw [← hks]; exact HE.out
        clear hks
        go_wp2_with (at_builtin; refine wp_append_str rfl _ _ rfl w.heap.size _ done.length _ rfl (hown.alloc _) _ (s.extract fr s.size) rfl ?c1 ?c2 ?c3 ?_)
        case c1 => simp
        case c2 => omega
        case c3 => have := hbe.size; simp; omega
        intro g1 cap1 w1 ho1 hb1
        rw [HE2.out] at ho1
        go_wp2
        go_roundw
        case rel => exact ⟨k + 1, fr, done ++ [(s.data.toList.drop fr).take (k - fr)], g1, cap1, by go_num, rfl, by rw [List.length_append]; rfl, by omega, HN.out, by rw [List.length_append, List.map_append]; exact ho1, (hbe.alloc hbe.size _).trans hb1⟩
        case measure => simp [intOf]; omega
    · have hd : done = linesL s.data.toList := by
        obtain ⟨_, _, h3 | h3⟩ := HC.out
        · have := h3.1; rw [EL.out] at this; exact absurd this hout
        · exact h3.2
      have HD : Hid (done = linesL s.data.toList) := hd
      clear hd
      go_wp2
      go_ret
      have e : linesB s.data.toList = done.map bytesOf := by rw [HD.out]; rfl
      rw [e, List.length_map]
      exact ⟨⟨g, cap, rfl, hown⟩, hbe⟩
end Go.Proofs.YtkhnkockdfmkgaaDoor
namespace Go.Proofs.YtkhnkockdfmkgaaDoor

theorem ret_bool {a b : Bool} (h : a = b) : Ending.returned (.bool a) = .returned (.bool b) := by rw [h]
end Go.Proofs.YtkhnkockdfmkgaaDoor
namespace Go.Proofs.YtkhnkockdfmkgaaDoor
open Go.RowKit M

set_option maxHeartbeats 400000 in
theorem isOf_any (c k : Int) (w : World) :
    Calls Tryd.prog 80 #[.int .u8 c, .int .i64 k] w fun e w' => e = .returned (.bool (isB c k)) ∧ w' = w := by
  go_enter Tryd.func80, Tryd.ntmps80
  go_wp2
  all_goals
    go_ret
    refine ⟨ret_bool ?_, rfl⟩
    go_light
    unfold isB
    simp_all
    try omega

set_option maxHeartbeats 400000 in
theorem isOneOf_any (c : Int) (ks : List Int) (n b o cap : Nat) (w : World) (hn : ks.length = n) (hl : ks.length ≤ maxLen)
    (hc : ∀ i, i < ks.length → w.cell? ⟨b, o + i, none⟩ = some (.int .i64 (ks.getD i 0))) :
    Calls Tryd.prog 67 #[.int .u8 c, .slice (some ⟨b, o, none⟩) n cap] w fun e w' => e = .returned (.bool (anyB c ks)) ∧ w' = w := by
  subst hn
  unfold maxLen at hl
  go_enter Tryd.func67, Tryd.ntmps67
  go_wp2
  go_loop [9] (fun i => ∃ k : Nat, k ≤ ks.length ∧ i = .int .i64 k ∧ anyB c (ks.take k) = false) (fun i => ks.length - (intOf i).toNat)
  case atStart => exact ⟨0, Nat.zero_le _, rfl, rfl⟩
  case round =>
    obtain ⟨k, hk, rfl, hn⟩ := hrel
    have HN : Hid (anyB c (ks.take k) = false) := hn; clear hn
    by_cases hlt : k < ks.length
    · have hcx := hc k hlt
      go_wp2_with (go_at_call 80; refine (isOf_any _ _ _).mono ?_; rintro e w' ⟨rfl, rfl⟩)
      · go_ret
        exact ⟨ret_bool (by rw [anyB_of c ks k hlt (by assumption)]), rfl⟩
      · go_round
        case rel => exact ⟨k + 1, by omega, by go_num, anyB_snoc c ks k hlt HN.out (by assumption)⟩
        case measure => simp [intOf]; omega
    · go_wp2
      go_ret
      exact ⟨ret_bool (by rw [← HN.out, List.take_of_length_le (by omega)]), rfl⟩
theorem cells1 (w : World) (a : Int) (T : TypeId) : ∀ i, i < [a].length → (w.alloc (Obj.cells #[.int .i64 a] T)).cell? ⟨w.heap.size, 0 + i, none⟩ = some (.int .i64 ([a].getD i 0)) := by
  intro i hi
  match i, hi with
  | 0, _ => simp

theorem cells3 (w : World) (n : Nat) (a b c : Int) (T : TypeId) (hn : w.heap.size = n) : ∀ i, i < [a, b, c].length → (w.alloc (Obj.cells #[.int .i64 a, .int .i64 b, .int .i64 c] T)).cell? ⟨n, 0 + i, none⟩ = some (.int .i64 ([a, b, c].getD i 0)) := by
  subst hn
  intro i hi
  match i, hi with
  | 0, _ => simp
  | 1, _ => simp
  | 2, _ => simp
end Go.Proofs.YtkhnkockdfmkgaaDoor
namespace Go.Proofs.YtkhnkockdfmkgaaDoor
open Go.RowKit M

set_option maxHeartbeats 400000 in
theorem l1In_any (x a b : Int) (w : World) :
    Calls Tryd.prog 34 #[.int .i64 x, .int .i64 a, .int .i64 b] w fun e w' => e = .returned (.bool (inB x a b)) ∧ w' = w := by
  go_enter Tryd.func34, Tryd.ntmps34
  go_wp2
  all_goals
    go_ret
    refine ⟨ret_bool ?_, rfl⟩
    go_light
    unfold inB
    simp_all
    try omega

theorem wrap64_u8 (c : UInt8) : wrap64 (c.toNat : Int) = c.toNat := by
  have := c.toNat_lt
  unfold wrap64
  omega
end Go.Proofs.YtkhnkockdfmkgaaDoor
namespace Go.Proofs.YtkhnkockdfmkgaaDoor
open Go.RowKit M

set_option maxHeartbeats 400000 in
theorem l1Digit_any (c : UInt8) (w : World) :
    Calls Tryd.prog 49 #[.int .u8 c.toNat] w fun e w' => e = .returned (.bool (isB c.toNat 4)) ∧ w' = w := by
  go_enter Tryd.func49, Tryd.ntmps49
  go_wp2_with (go_at_call 34; refine (l1In_any _ _ _ _).mono ?_; rintro e w' ⟨rfl, rfl⟩; rw [wrap64_u8, inB_digit])
  go_ret
  exact ⟨rfl, rfl⟩
end Go.Proofs.YtkhnkockdfmkgaaDoor
namespace Go.Proofs.YtkhnkockdfmkgaaDoor
open Go.RowKit

theorem ret_two {a b : Int} {x y : Bool} (h : (a, x) = (b, y)) : Ending.returned (.tuple #[.int .i64 a, .bool x]) = .returned (.tuple #[.int .i64 b, .bool y]) := by
  cases h; rfl

theorem below_bytes (w : World) (e : TypeId) (s : ByteArray) : Below w.heap.size w (Lib.bytesWorld w e s) :=
  ⟨rfl, rfl, rfl, by rw [Lib.bytesWorld_size]; omega, fun k hk => Lib.bytesWorld_at_old w e s k hk⟩

theorem ret_int {k : IntKind} {a b : Int} (h : a = b) : Ending.returned (.int k a) = .returned (.int k b) := by rw [h]
end Go.Proofs.YtkhnkockdfmkgaaDoor
namespace Go.Proofs.YtkhnkockdfmkgaaDoor
open Go.RowKit M

set_option maxHeartbeats 1000000 in
theorem specParseNum_any (s : ByteArray) (most : Int) (w : World) (hs : s.size ≤ maxLen) :
    Calls Tryd.prog 27 #[.string s, .int .i64 most] w fun e w' => e = .returned (.tuple #[.int .i64 (parseNum s.data.toList most).1, .bool (parseNum s.data.toList most).2]) ∧ w' = w := by
  have ell := len_list s
  have EL : Hid (s.data.toList.length = s.size) := ell
  clear ell
  unfold maxLen at hs
  go_enter Tryd.func27, Tryd.ntmps27
  go_wp2
  go_loop [6, 7] (fun n i => ∃ k : Nat, k ≤ s.size ∧ k ≤ 8 ∧ i = .int .i64 k ∧ n = .int .i64 (decVal (s.data.toList.take k)) ∧ digs (s.data.toList.take k) = true) (fun _ i => s.size - (intOf i).toNat)
  case atStart => exact ⟨0, Nat.zero_le _, Nat.zero_le _, rfl, rfl, rfl⟩
  case round =>
    obtain ⟨k, hk, hk8, rfl, rfl, hn⟩ := hrel
    have HN : Hid (digs (s.data.toList.take k) = true) := hn
    have hv : decVal (s.data.toList.take k) < 100000000 := by
      have h1 := decVal_lt _ hn
      have h2 : (s.data.toList.take k).length ≤ k := List.length_take_le _ _
      have h3 := Nat.pow_le_pow_right (show 0 < 10 by decide) h2
      have h4 := pow_le8 hk8
      omega
    clear hn
    by_cases hlt : k < s.size
    · by_cases hl8 : k < 8
      · cases hb : isB ((s[k]).toNat : Int) 4
        · go_wp2_with (go_at_call 49; refine (l1Digit_any _ _).mono ?_; rintro e w' ⟨rfl, rfl⟩; rw [hb])
          go_ret2
          refine ⟨ret_two ?_, rfl⟩
          rw [parseNum_no (not_digs (digs_not s k hlt hb))]
        · have hc := isB4 hb
          have HV : Hid (decVal (s.data.toList.take (k + 1)) = decVal (s.data.toList.take k) * 10 + (s[k].toNat - 48)) := decVal_step s k hlt
          generalize decVal (s.data.toList.take k) = v at *
          go_wp2_with (go_at_call 49; refine (l1Digit_any _ _).mono ?_; rintro e w' ⟨rfl, rfl⟩; rw [hb])
          go_round
          case rel =>
            refine ⟨k + 1, by omega, by omega, by go_num, ?_, digs_snoc s k hlt HN.out hb⟩
            rw [HV.out]
            congr 1
            omega
          case measure => simp [intOf]; omega
      · have hin : inB (s.size : Int) 1 7 = false := by simp [inB]; omega
        go_wp2_with (go_at_call 34; refine (l1In_any _ _ _ _).mono ?_; rintro e w' ⟨rfl, rfl⟩; rw [hin])
        go_ret2
        exact ⟨ret_two (by rw [parseNum_no (not_size hin)]), rfl⟩
    · have HD : Hid (digs s.data.toList = true) := by
        have := HN.out
        rwa [take_all s k hlt] at this
      rw [take_all s k hlt] at hv ⊢
      cases hin : inB (s.size : Int) 1 7
      · go_wp2_with (go_at_call 34; refine (l1In_any _ _ _ _).mono ?_; rintro e w' ⟨rfl, rfl⟩; rw [hin])
        go_ret2
        exact ⟨ret_two (by rw [parseNum_no (not_size hin)]), rfl⟩
      · have h0 : 0 < s.size := by simp [inB] at hin; omega
        have hk1 : ¬ (k : Int) < s.size := by omega
        by_cases h1 : 1 < s.size
        · have h1' : (1 : Int) < s.size := by omega
          cases hz : (((s[0]).toNat : Int) == 48)
          · by_cases hm : most < (decVal s.data.toList : Int)
            · have HP := parseNum_no (not_most hm)
              have HQ : Hid (parseNum s.data.toList most = (0, false)) := HP
              clear HP
              go_wp2_with (go_at_call 34; refine (l1In_any _ _ _ _).mono ?_; rintro e w' ⟨rfl, rfl⟩; rw [hin])
              go_ret2
              exact ⟨ret_two (by rw [HQ.out]), rfl⟩
            · have HQ : Hid (parseNum s.data.toList most = ((decVal s.data.toList : Int), true)) := parseNum_yes (is_ok h0 hin HD.out (fun _ => hz) hm)
              go_wp2_with (go_at_call 34; refine (l1In_any _ _ _ _).mono ?_; rintro e w' ⟨rfl, rfl⟩; rw [hin])
              go_ret2
              exact ⟨ret_two (by rw [HQ.out]), rfl⟩
          · have HQ : Hid (parseNum s.data.toList most = (0, false)) := parseNum_no (not_nought h0 h1 hz)
            go_wp2_with (go_at_call 34; refine (l1In_any _ _ _ _).mono ?_; rintro e w' ⟨rfl, rfl⟩; rw [hin])
            go_ret2
            exact ⟨ret_two (by rw [HQ.out]), rfl⟩
        · have h1' : ¬ (1 : Int) < s.size := by omega
          by_cases hm : most < (decVal s.data.toList : Int)
          · have HQ : Hid (parseNum s.data.toList most = (0, false)) := parseNum_no (not_most hm)
            go_wp2_with (go_at_call 34; refine (l1In_any _ _ _ _).mono ?_; rintro e w' ⟨rfl, rfl⟩; rw [hin])
            go_ret2
            exact ⟨ret_two (by rw [HQ.out]), rfl⟩
          · have HQ : Hid (parseNum s.data.toList most = ((decVal s.data.toList : Int), true)) := parseNum_yes (is_ok h0 hin HD.out (fun h => absurd h h1) hm)
            go_wp2_with (go_at_call 34; refine (l1In_any _ _ _ _).mono ?_; rintro e w' ⟨rfl, rfl⟩; rw [hin])
            go_ret2
            exact ⟨ret_two (by rw [HQ.out]), rfl⟩
end Go.Proofs.YtkhnkockdfmkgaaDoor
namespace Go.Proofs.YtkhnkockdfmkgaaDoor
open Go.RowKit M

set_option maxHeartbeats 400000 in
theorem specPlain_any (s : ByteArray) (w : World) (hs : s.size ≤ maxLen) :
    Calls Tryd.prog 63 #[.string s] w fun e w' => e = .returned (.bool (allB s.data.toList [0])) ∧ w' = w := by
  unfold maxLen at hs
  go_enter Tryd.func63, Tryd.ntmps63
  go_wp2
  go_loop [3] (fun i => ∃ k : Nat, k ≤ s.size ∧ i = .int .i64 k ∧ allB (s.data.toList.take k) [0] = true) (fun i => s.size - (intOf i).toNat)
  case atStart => exact ⟨0, Nat.zero_le _, rfl, rfl⟩
  case round =>
    obtain ⟨k, hk, rfl, hn⟩ := hrel
    have HN : Hid (allB (s.data.toList.take k) [0] = true) := hn; clear hn
    by_cases hlt : k < s.size
    · go_wp2_with (go_at_call 34; refine (l1In_any _ _ _ _).mono ?_; rintro e w' ⟨rfl, rfl⟩; rw [wrap64_u8, inB_plain])
      · go_ret
        exact ⟨ret_bool (by rw [allB_not s [0] k hlt (by assumption)]), rfl⟩
      · go_round
        case rel => exact ⟨k + 1, by omega, by go_num, allB_snoc s [0] k hlt HN.out (by assumption)⟩
        case measure => simp [intOf]; omega
    · go_wp2
      go_ret
      exact ⟨ret_bool (by rw [← HN.out, take_all s k hlt]), rfl⟩

end Go.Proofs.YtkhnkockdfmkgaaDoor
namespace Go.Proofs.YtkhnkockdfmkgaaDoor
open Go.RowKit M

def strLen : Value → Nat | .string t => t.size | _ => 0

set_option maxHeartbeats 400000 in
theorem l1Blank_any (c : UInt8) (w : World) :
    Calls Tryd.prog 71 #[.int .u8 c.toNat] w fun e w' => e = .returned (.bool (bl c)) ∧ w' = w := by
  go_enter Tryd.func71, Tryd.ntmps71
  go_wp2
  all_goals
    go_ret
    refine ⟨ret_bool ?_, rfl⟩
    go_light
    unfold bl isB
    simp_all

set_option maxHeartbeats 1000000 in
theorem specTrim_any (s : ByteArray) (w : World) (hs : s.size ≤ maxLen) :
    Calls Tryd.prog 64 #[.string s] w fun e w' => (∃ t : ByteArray, e = .returned (.string t) ∧ t.data.toList = trimL s.data.toList) ∧ w' = w := by
  unfold maxLen at hs
  go_enter Tryd.func64, Tryd.ntmps64
  go_wp2
  go_loop [0] (fun v => ∃ t : ByteArray, v = .string t ∧ t.size ≤ s.size ∧ trimL t.data.toList = trimL s.data.toList) (fun v => strLen v)
  case atStart => exact ⟨s, rfl, Nat.le_refl _, rfl⟩
  case round =>
    obtain ⟨t, rfl, ht, hn⟩ := hrel
    have HN : Hid (trimL t.data.toList = trimL s.data.toList) := hn; clear hn
    by_cases h0 : 0 < t.size
    · cases hb : bl t[0]
      · go_wp2_with (go_at_call 71; refine (l1Blank_any _ _).mono ?_; rintro e w' ⟨rfl, rfl⟩; rw [hb])
        go_loop [0] (fun v => ∃ u : ByteArray, v = .string u ∧ u.size ≤ s.size ∧ trimL u.data.toList = trimL s.data.toList ∧ ∀ h : 0 < u.size, bl u[0] = false) (fun v => strLen v)
        case atStart => exact ⟨t, rfl, ht, HN.out, fun _ => hb⟩
        case round =>
          clear hb
          obtain ⟨u, rfl, hu, hn, hf⟩ := hrel
          have HU : Hid (trimL u.data.toList = trimL s.data.toList) := hn; clear hn
          have HF : Hid (∀ h : 0 < u.size, bl u[0] = false) := hf; clear hf
          by_cases h1 : 0 < u.size
          · cases hb1 : bl u[u.size - 1]
            · go_wp2_with (go_at_call 71; refine (l1Blank_any _ _).mono ?_; rintro e w' ⟨rfl, rfl⟩; rw [hb1])
              go_ret
              exact ⟨⟨u, rfl, step_done u _ h1 (HF.out h1) hb1 HU.out⟩, rfl⟩
            · go_wp2_with (go_at_call 71; refine (l1Blank_any _ _).mono ?_; rintro e w' ⟨rfl, rfl⟩; rw [hb1])
              go_round
              case rel => exact ⟨_, rfl, by rw [size_extract _ _ _ (by omega)]; omega, step_back u _ h1 hb1 HU.out, step_back_head u h1 (HF.out h1)⟩
              case measure => simp only [strLen]; rw [size_extract _ _ _ (by omega)]; omega
          · go_wp2
            go_ret
            exact ⟨⟨u, rfl, step_none u _ h1 HU.out⟩, rfl⟩
      · go_wp2_with (go_at_call 71; refine (l1Blank_any _ _).mono ?_; rintro e w' ⟨rfl, rfl⟩; rw [hb])
        go_round
        case rel => exact ⟨_, rfl, by rw [size_extract _ _ _ (Nat.le_refl _)]; omega, step_front t _ h0 hb HN.out⟩
        case measure => simp only [strLen]; rw [size_extract _ _ _ (Nat.le_refl _)]; omega
    · go_wp2
      go_loop [0] (fun v => v = .string t) (fun v => strLen v)
      case atStart => rfl
      case round =>
        subst hrel
        go_wp2
        go_ret
        exact ⟨⟨t, rfl, step_none t _ h0 HN.out⟩, rfl⟩
end Go.Proofs.YtkhnkockdfmkgaaDoor
namespace Go.Proofs.YtkhnkockdfmkgaaDoor
open Go.RowKit M
set_option linter.unusedVariables false

theorem trim_same {t s : ByteArray} (h : t.data.toList = trimL s.data.toList) : (t.toList == s.toList) = decide (trimL s.data.toList = s.data.toList) := by
  rw [ByteArray.toList_eq, ByteArray.toList_eq, h]
  by_cases e : trimL s.data.toList = s.data.toList
  · simp [e]
  · simp [e]

set_option maxHeartbeats 400000 in
theorem l3Val_any (s : ByteArray) (w : World) (hs : s.size ≤ maxLen) :
    Calls Tryd.prog 53 #[.string s] w fun e w' => e = .returned (.bool (valB s)) ∧ w' = w := by
  have hs' := hs
  unfold maxLen at hs'
  by_cases h1 : s.size ≤ 60
  · have h1' : (s.size : Int) ≤ 60 := by omega
    cases h2 : allB s.data.toList [0]
    · have HE : Hid (valB s = false) := by show valB s = false; simp [valB, h2]
      go_enter Tryd.func53, Tryd.ntmps53
      go_wp2_with (go_at_call 63; refine (specPlain_any s _ hs).mono ?_; rintro e w' ⟨rfl, rfl⟩; rw [h2])
      go_ret
      exact ⟨ret_bool HE.out.symm, rfl⟩
    · have HE : Hid (valB s = decide (trimL s.data.toList = s.data.toList)) := by show valB s = _; simp [valB, h2, h1]
      go_enter Tryd.func53, Tryd.ntmps53
      go_wp2_with (first | (go_at_call 63; refine (specPlain_any s _ hs).mono ?_; rintro e w' ⟨rfl, rfl⟩; rw [h2]) | (go_at_call 64; refine (specTrim_any s _ hs).mono ?_; rintro e w' ⟨⟨t, rfl, ht⟩, rfl⟩; have HT := hide ht; clear ht))
      go_ret
      exact ⟨ret_bool (by rw [HE.out, ← trim_same HT.out]), rfl⟩
  · have h1' : ¬ (s.size : Int) ≤ 60 := by omega
    have HE : Hid (valB s = false) := by show valB s = false; simp [valB, h1]
    go_enter Tryd.func53, Tryd.ntmps53
    go_wp2
    go_ret
    exact ⟨ret_bool HE.out.symm, rfl⟩
end Go.Proofs.YtkhnkockdfmkgaaDoor
