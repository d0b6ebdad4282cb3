/-
  Plain facts on requests that are the same, and on texts that are.
  Whether two heads are the same, as the language has it.
  Two lists of heads held against each other by the program.
  What the program's SameReq does.
  Two slices of requests that hold the same, held against each other by the law.
  Two requests one behind the other are read back; a row of requests whose heads are only read.
  A slice of integers as the row hands it in.
  Codes that are too long; what stays below what was there.
  The bytes of a draw as the row hands them in.
-/
import Derived.Test.YtanebchmeaomgaaGreatDoorHeads
import Derived.Test.YtanebchmeaomgaaGreatDoorSpecSm
import Derived.Laws.StructEq
import Derived.Test.YtanebchmeaomgaaGreatDoorStrs
import Derived.Deep.RegionHeld3
import Derived.Test.YtanebchmeaomgaaGreatDoorRows
import Derived.OpenShut
import Derived.WalkKit
import Derived.WalkSpells
import Derived.WalkLawsBesides
namespace Go.Proofs.YtanebchmeaomgaaGreatDoor
open Go.RowKit M
set_option linter.unusedVariables false

theorem sameR_m {a b : Rq} (h : ¬ a.m = b.m) : sameR a b = false := by simp [sameR, h]
theorem sameR_p {a b : Rq} (h : ¬ a.p = b.p) : sameR a b = false := by simp [sameR, h]
theorem sameR_h {a b : Rq} (h : sameH a.hs b.hs = false) : sameR a b = false := by simp [sameR, h]
theorem sameR_b {a b : Rq} (h : ¬ a.b = b.b) : sameR a b = false := by simp [sameR, h]
theorem sameR_all {a b : Rq} (h1 : a.m = b.m) (h2 : a.p = b.p) (h3 : sameH a.hs b.hs = true) (h4 : a.b = b.b) : sameR a b = true := by simp [sameR, h1, h2, h3, h4]

theorem neStr {x y : ByteArray} (h : ¬ x = y) : (x.toList == y.toList) = false := by
  rw [beq_eq_false_iff_ne]; exact fun e => h (strInj e)
theorem eqStr {x y : ByteArray} (h : x = y) : (x.toList == y.toList) = true := by rw [h]; simp
end Go.Proofs.YtanebchmeaomgaaGreatDoor
namespace Go.Proofs.YtanebchmeaomgaaGreatDoor
open Go.RowKit M
set_option linter.unusedVariables false


theorem head_struct : Tryz.prog.underlying 82 = some (.struct (Tryz.prog.fieldsOf 82)) := by kernel_rfl
theorem head_held : Tryz.prog.stoodInHeld 82 = false := by kernel_rfl
theorem head_guard : Tryz.prog.eqGuardType Tryz.prog.depth 82 = false := by kernel_rfl

set_option maxHeartbeats 400000 in
theorem eqIn_head (x y u v : ByteArray) (w : World) : (Op.equalIn 10000 82 (.agg #[.string x, .string y]) (.agg #[.string u, .string v])).run Tryz.prog w = .ok (decide (((x, y) : Hd) = (u, v))) w := by
  have u3 := Tryz.underlying9
  rw [show (10000 : Nat) = 9999 + 1 from rfl, run_equalIn_agg w 9999 82 _ _ head_struct head_held]
  simp only [Program.fieldsOf, Tryz.underlying82]
  go_simp
  by_cases h1 : x = u
  · by_cases h2 : y = v
    · simp [h1, h2]
    · have h3 : ¬ y.toList = v.toList := fun e => h2 (strInj e)
      simp [h1, h2, h3]
  · have h3 : ¬ x.toList = u.toList := fun e => h1 (strInj e)
    simp [h1, h3]

theorem neq_head (x y u v : ByteArray) (w : World) : (binOp .neq 82 (.agg #[.string x, .string y]) (.agg #[.string u, .string v])).run Tryz.prog w = .ok (.bool (!decide (((x, y) : Hd) = (u, v)))) w := by
  rw [run_neq_struct, eqIn_head]
  rfl
end Go.Proofs.YtanebchmeaomgaaGreatDoor
namespace Go.Proofs.YtanebchmeaomgaaGreatDoor
open Go.RowKit M
set_option linter.unusedVariables false

set_option maxHeartbeats 1000000 in
theorem slicesEqualH_any (a b : Option Addr) (ss tt : List Hd) (cap cap' B C : Nat) (w : World) (h : Hds w B a ss) (h' : Hds w C b tt) (hl : ss.length ≤ maxLen) (hl' : tt.length ≤ maxLen) :
    Calls Tryz.prog 83 #[.slice a ss.length cap, .slice b tt.length cap'] w fun e w' => e = .returned (.bool (sameH ss tt)) ∧ ∀ D, Below D w w' := by
  unfold maxLen at hl hl'
  by_cases hlen : ss.length = tt.length
  · have HL : Hid (ss.length = tt.length) := hlen
    go_enter Tryz.func83, Tryz.ntmps83
    rw [← hlen]
    clear hlen
    go_wp2
    go_loopw [13] (fun i wr => ∃ k n : Nat, k ≤ ss.length ∧ i = .int .i64 k ∧ ss.take k = tt.take k ∧ wr = w.drewN n) (fun i _ => ss.length - (intOf i).toNat)
    case atStart => exact ⟨0, 0, Nat.zero_le _, rfl, rfl, rfl⟩
    case round =>
      obtain ⟨k, n, hk, rfl, ht, rfl⟩ := hrel
      have HT : Hid (ss.take k = tt.take k) := ht
      clear ht
      by_cases hlt : k < ss.length
      · have hlt' : k < tt.length := by have := HL.out; omega
        obtain ⟨b1, o1, rfl, hb1, hc1⟩ := h (by omega)
        obtain ⟨b2, o2, rfl, hb2, hc2⟩ := h' (by have := HL.out; omega)
        have hcx := (hc1 k hlt).1
        have hcx2 := (hc1 k hlt).2
        have hcy := (hc2 k hlt').1
        have hcy2 := (hc2 k hlt').2
        have hq := eqIn_head ss[k].1 ss[k].2 tt[k].1 tt[k].2
        have hg := head_guard
        clear hc1 hc2
        by_cases he : ss[k] = tt[k]
        · have hd : decide (((ss[k].1, ss[k].2) : Hd) = (tt[k].1, tt[k].2)) = true := decide_eq_true he
          rw [hd] at hq
          have HE : Hid (ss[k] = tt[k]) := he
          clear hd he
          go_wp2
          go_quiet (fail)
          go_wp2
          go_roundw
          case rel => exact ⟨k + 1, n + nq, by omega, by go_num, take_sameH k hlt hlt' HT.out HE.out, rfl⟩
          case measure => simp [intOf]; omega
        · have hd : decide (((ss[k].1, ss[k].2) : Hd) = (tt[k].1, tt[k].2)) = false := decide_eq_false he
          rw [hd] at hq
          have HE : Hid (sameH ss tt = false) := sameH_not k hlt hlt' he
          clear hd he
          go_wp2
          go_quiet (fail)
          go_wp2
          go_ret
          exact ⟨ret_bool HE.out.symm, fun D => below_drewN (below_drewN (Below.refl _ _) _) _⟩
      · go_wp2
        go_ret
        exact ⟨ret_bool (sameH_all HL.out k hlt HT.out).symm, fun D => below_drewN (Below.refl _ _) _⟩
  · have HS := sameH_len hlen
    go_enter Tryz.func83, Tryz.ntmps83
    go_wp2
    go_ret
    exact ⟨ret_bool HS.symm, fun D => Below.refl _ _⟩
end Go.Proofs.YtanebchmeaomgaaGreatDoor
namespace Go.Proofs.YtanebchmeaomgaaGreatDoor
open Go.RowKit M
set_option linter.unusedVariables false

set_option maxHeartbeats 1000000 in
theorem sameReq_any (a b : Option Addr) (r s : Rq) (cap cap' B C : Nat) (w : World) (h : Hds w B a r.hs) (h' : Hds w C b s.hs) (hB : B ≤ w.heap.size) (hC : C ≤ w.heap.size) (hl : r.hs.length ≤ maxLen) (hl' : s.hs.length ≤ maxLen) :
    Calls Tryz.prog 50 #[.agg #[.string r.m, .string r.p, .slice a r.hs.length cap, .string r.b], .agg #[.string s.m, .string s.p, .slice b s.hs.length cap', .string s.b]] w fun e w' => e = .returned (.bool (sameR r s)) ∧ Below w.heap.size w w' := by
  have HM : Hid (¬ r.m = s.m → sameR r s = false) := sameR_m
  have HP : Hid (¬ r.p = s.p → sameR r s = false) := sameR_p
  have HH : Hid (sameH r.hs s.hs = false → sameR r s = false) := sameR_h
  have HBd : Hid (¬ r.b = s.b → sameR r s = false) := sameR_b
  have HA : Hid (r.m = s.m → r.p = s.p → sameH r.hs s.hs = true → r.b = s.b → sameR r s = true) := sameR_all
  generalize sameR r s = z at *
  obtain ⟨rm, rp, hs, rb⟩ := r
  obtain ⟨sm, sp, ts, sb⟩ := s
  simp only at *
  by_cases h1 : rm = sm
  · by_cases h2 : rp = sp
    · have e1 := eqStr h1
      have e2 := eqStr h2
      have hb0 : Below w.heap.size w ((w.alloc (Obj.cells #[Value.string rm, Value.string rp, Value.slice a hs.length cap, Value.string rb] 39)).alloc (Obj.cells #[Value.string sm, Value.string sp, Value.slice b ts.length cap', Value.string sb] 39)) := ((Below.refl _ _).alloc (Nat.le_refl _) _).alloc (by simp) _
      have hE := slicesEqualH_any a b hs ts cap cap' B C _ (h.below hb0 hB) (h'.below hb0 hC) hl hl'
      have HA' : Hid (sameH hs ts = true → rb = sb → z = true) := fun h3 h4 => HA.out h1 h2 h3 h4
      clear h1 h2 HA
      cases h3 : sameH hs ts
      · have hz := HH.out h3
        rw [h3] at hE
        subst hz
        clear h3
        go_enter Tryz.func50, Tryz.ntmps50
        go_wp2_with fail
        refine hE.mono ?_
        rintro e w1 ⟨rfl, hb1'⟩
        have hb1 := hb1' ((w.alloc (Obj.cells #[Value.string rm, Value.string rp, Value.slice a hs.length cap, Value.string rb] 39)).alloc (Obj.cells #[Value.string sm, Value.string sp, Value.slice b ts.length cap', Value.string sb] 39)).heap.size
        have c1 := hb0.trans (hb1.mono hb0.size)
        go_wp2
        go_ret
        exact ⟨rfl, c1⟩
      · rw [h3] at hE
        by_cases h4 : rb = sb
        · have e4 := eqStr h4
          have hz := HA'.out h3 h4
          subst hz
          clear h3 h4
          go_enter Tryz.func50, Tryz.ntmps50
          go_wp2_with fail
          refine hE.mono ?_
          rintro e w1 ⟨rfl, hb1'⟩
          have hb1 := hb1' ((w.alloc (Obj.cells #[Value.string rm, Value.string rp, Value.slice a hs.length cap, Value.string rb] 39)).alloc (Obj.cells #[Value.string sm, Value.string sp, Value.slice b ts.length cap', Value.string sb] 39)).heap.size
          have c1 := hb0.trans (hb1.mono hb0.size)
          obtain ⟨hc, hf⟩ := bcell hb1
          go_wp2
          go_ret
          exact ⟨rfl, c1⟩
        · have e4 := neStr h4
          have hz := HBd.out h4
          subst hz
          clear h3 h4
          go_enter Tryz.func50, Tryz.ntmps50
          go_wp2_with fail
          refine hE.mono ?_
          rintro e w1 ⟨rfl, hb1'⟩
          have hb1 := hb1' ((w.alloc (Obj.cells #[Value.string rm, Value.string rp, Value.slice a hs.length cap, Value.string rb] 39)).alloc (Obj.cells #[Value.string sm, Value.string sp, Value.slice b ts.length cap', Value.string sb] 39)).heap.size
          have c1 := hb0.trans (hb1.mono hb0.size)
          obtain ⟨hc, hf⟩ := bcell hb1
          go_wp2
          go_ret
          exact ⟨rfl, c1⟩
    · have e1 := eqStr h1
      have e2 := neStr h2
      have hz := HP.out h2
      subst hz
      clear h1 h2
      go_enter Tryz.func50, Tryz.ntmps50
      go_wp2
      go_ret
      exact ⟨rfl, ((Below.refl _ _).alloc (Nat.le_refl _) _).alloc (by simp) _⟩
  · have e1 := neStr h1
    have hz := HM.out h1
    subst hz
    clear h1
    go_enter Tryz.func50, Tryz.ntmps50
    go_wp2
    go_ret
    exact ⟨rfl, ((Below.refl _ _).alloc (Nat.le_refl _) _).alloc (by simp) _⟩
end Go.Proofs.YtanebchmeaomgaaGreatDoor
namespace Go.Proofs.YtanebchmeaomgaaGreatDoor
open Go.RowKit M
set_option linter.unusedVariables false

set_option maxRecDepth 100000 in
set_option maxHeartbeats 2000000 in
theorem sameReqs_same (a b : Option Addr) (rs : List Rq) (cap cap' B C : Nat) (w : World) (h : Rqs w B a rs) (h' : Rqs w C b rs) (hB : B ≤ w.heap.size) (hC : C ≤ w.heap.size) (hl : rs.length ≤ maxLen) (h8 : ∀ r ∈ rs, r.hs.length ≤ maxLen) :
    Calls Tryz.prog 14 #[.slice a rs.length cap, .slice b rs.length cap'] w fun e w' => e = .returned (.bool true) ∧ Below w.heap.size w w' := by
  unfold maxLen at hl
  have H8 := hide h8
  clear h8
  go_enter Tryz.func14, Tryz.ntmps14
  go_wp2
  go_loopw [5] (fun i wr => ∃ k : Nat, k ≤ rs.length ∧ i = .int .i64 k ∧ Below w.heap.size w wr) (fun i _ => rs.length - (intOf i).toNat)
  case atStart => exact ⟨0, Nat.zero_le _, rfl, Below.refl _ _⟩
  case round =>
    obtain ⟨k, hk, rfl, hbe⟩ := hrel
    by_cases hlt : k < rs.length
    · obtain ⟨b1, o1, rfl, hb1, hc1⟩ := h (by omega)
      obtain ⟨b2, o2, rfl, hb2, hc2⟩ := h' (by omega)
      obtain ⟨a1, k1, d0, d1, d2, d3, y1⟩ := hc1 k hlt
      obtain ⟨a2, k2, e0, e1, e2, e3, y2⟩ := hc2 k hlt
      have c1 := fun i => hbe.cell (p := ⟨b1, i, none⟩) (Nat.lt_of_lt_of_le hb1 hB)
      have c2 := fun i => hbe.cell (p := ⟨b2, i, none⟩) (Nat.lt_of_lt_of_le hb2 hC)
      have x0 := (c1 _).trans d0
      have x1 := (c1 _).trans d1
      have x2 := (c1 _).trans d2
      have x3 := (c1 _).trans d3
      have z0 := (c2 _).trans e0
      have z1 := (c2 _).trans e1
      have z2 := (c2 _).trans e2
      have z3 := (c2 _).trans e3
      have hm := H8.out _ (List.getElem_mem hlt)
      have hbd : Below w.heap.size w wr.drew := hbe.drew
      have HE := hide (sameReq_any a1 a2 rs[k] rs[k] k1 k2 B C wr.drew (y1.below hbd hB) (y2.below hbd hC) (Nat.le_trans hB hbd.size) (Nat.le_trans hC hbd.size) hm hm)
      rw [sameR_refl] at HE
      have HBe := hide hbe
      have hs1 : b1 < wr.heap.size := Nat.lt_of_lt_of_le (Nat.lt_of_lt_of_le hb1 hB) hbe.size
      have hs2 : b2 < wr.heap.size := Nat.lt_of_lt_of_le (Nat.lt_of_lt_of_le hb2 hC) hbe.size
      obtain ⟨r, hr⟩ : ∃ r, rs[k] = r := ⟨_, rfl⟩
      rw [hr] at x0 x1 x2 x3 z0 z1 z2 z3 HE
      clear hc1 hc2 d0 d1 d2 d3 y1 e0 e1 e2 e3 y2 hbe hbd c1 c2 hm hr
      go_wp2_with fail
      go_region_held3 (fun W => (W.cell? ⟨b1, o1 + k * 4, none⟩ = some (.string r.m) ∧ W.cell? ⟨b1, o1 + k * 4 + 1, none⟩ = some (.string r.p) ∧ W.cell? ⟨b1, o1 + k * 4 + 2, none⟩ = some (.slice a1 r.hs.length k1) ∧ W.cell? ⟨b1, o1 + k * 4 + 3, none⟩ = some (.string r.b)) ∧ W.cell? ⟨b2, o2 + k * 4, none⟩ = some (.string r.m) ∧ W.cell? ⟨b2, o2 + k * 4 + 1, none⟩ = some (.string r.p) ∧ W.cell? ⟨b2, o2 + k * 4 + 2, none⟩ = some (.slice a2 r.hs.length k2) ∧ W.cell? ⟨b2, o2 + k * 4 + 3, none⟩ = some (.string r.b)) (first | exact ⟨⟨x0, x1, x2, x3⟩, z0, z1, z2, z3⟩ | exact ⟨⟨(bq.cell (p := ⟨b1, o1 + k * 4, none⟩) hs1).trans x0, (bq.cell (p := ⟨b1, o1 + k * 4 + 1, none⟩) hs1).trans x1, (bq.cell (p := ⟨b1, o1 + k * 4 + 2, none⟩) hs1).trans x2, (bq.cell (p := ⟨b1, o1 + k * 4 + 3, none⟩) hs1).trans x3⟩, (bq.cell (p := ⟨b2, o2 + k * 4, none⟩) hs2).trans z0, (bq.cell (p := ⟨b2, o2 + k * 4 + 1, none⟩) hs2).trans z1, (bq.cell (p := ⟨b2, o2 + k * 4 + 2, none⟩) hs2).trans z2, (bq.cell (p := ⟨b2, o2 + k * 4 + 3, none⟩) hs2).trans z3⟩) ((go_at_call 50; refine HE.out.mono ?_; rintro e w1 ⟨rfl, bq⟩))
      go_wp2
      go_roundw
      case rel => exact ⟨k + 1, by omega, by go_num, HBe.out.trans (((Below.refl _ wr).drew.trans bq).mono HBe.out.size)⟩
      case measure => simp [intOf]; omega
    · go_wp2
      go_ret
      exact ⟨rfl, hbe⟩
end Go.Proofs.YtanebchmeaomgaaGreatDoor
namespace Go.Proofs.YtanebchmeaomgaaGreatDoor
open Go.RowKit M
set_option linter.unusedVariables false

theorem drain_one {A C : List UInt8} {r : Rq} (h : getR (A ++ C) = (r, A.length, 0)) : drainL (A ++ C) = (r :: (drainL C).1, (drainL C).2) := by
  rw [drain_good (by rw [h]), h]
  simp only [List.drop_left]
theorem drain_two {A C : List UInt8} {r q : Rq} (h : A ≠ [] → getR (A ++ C) = (r, A.length, 0)) (h2 : C ≠ [] → getR C = (q, C.length, 0)) :
    drainL (A ++ C) = ((if A.length = 0 then [] else [r]) ++ (if C.length = 0 then [] else [q]), [], 0) := by
  have hC : drainL C = ((if C.length = 0 then [] else [q]), [], 0) := by
    by_cases hc : C = []
    · subst hc
      exact drain_nil
    · have hl : ¬ C.length = 0 := fun e => hc (List.length_eq_zero_iff.1 e)
      have h3 := drain_one (A := C) (C := []) (r := q) (by rw [List.append_nil]; exact h2 hc)
      rw [List.append_nil] at h3
      rw [h3, drain_nil, if_neg hl]
  by_cases ha : A = []
  · subst ha
    rw [List.nil_append, hC]
    rfl
  · have hl : ¬ A.length = 0 := fun e => ha (List.length_eq_zero_iff.1 e)
    rw [drain_one (h ha), hC, if_neg hl]
    rfl
theorem feeds_two {A C : List UInt8} {r q : Rq} (h : A ≠ [] → getR (A ++ C) = (r, A.length, 0)) (h2 : C ≠ [] → getR C = (q, C.length, 0)) (ls : List (List UInt8)) (hl : ls.flatten = A ++ C) :
    feedsM ls [] 0 = ((if A.length = 0 then [] else [r]) ++ (if C.length = 0 then [] else [q]), [], 0) := by
  rw [feedsM_flat ls [] (by rw [getR_nil]), List.nil_append, hl]
  exact drain_two h h2

/-- A row of requests that the call made; the heads lie where they will. -/
def OwnR (w : World) (B : Nat) (v : Value) (qs : List Rv) : Prop := w.ownsRow B 39 4 v qs.length (rvCells qs)
theorem OwnR.alloc {w : World} {B : Nat} {v : Value} {qs : List Rv} (h : OwnR w B v qs) (o : Obj) : OwnR (w.alloc o) B v qs := World.ownsRow.alloc h o
theorem OwnR.bare (w : World) : OwnR (w.alloc (Obj.cells #[] 39)) w.heap.size (.slice (some ⟨w.heap.size, 0, none⟩) 0 0) [] :=
  ⟨rfl, .inr ⟨w.heap.size, 0, #[], rfl, Nat.le_refl _, heap_alloc_new w _, Nat.le_refl _, Nat.zero_le _, rfl, rfl⟩⟩
theorem OwnR.next {w w' : World} {B : Nat} {v : Value} {qs : List Rv} (h : OwnR w B v qs) (hb : Below w.heap.size w w') : OwnR w' B v qs := by
  obtain ⟨hn, h⟩ := h
  refine ⟨hn, ?_⟩
  rcases h with h | ⟨g, cap, cur, e, hB, hg, r⟩
  · exact .inl h
  · exact .inr ⟨g, cap, cur, e, hB, (hb.block g (Array.getElem?_eq_some_iff.1 hg).1).trans hg, r⟩
theorem wp_append_rq {w : World} {ops : Array Oper} {rest : List Oper} {o : Oper} {a : Act} {Q : Exit → Act → World → Prop} (hgd : o.guard = none) (s x : Operand)
    (ho : o.op = .call { callee := .builtin .append, args := #[s, x], argTypes := #[28, 28] })
    (B : Nat) (v : Value) (qs : List Rv) (hs : a.eval s = v) (hown : OwnR w B v qs)
    (N : Nat) (r : Rq) (ah : Option Addr) (nh ch : Nat) (hx : a.eval x = .slice (some ⟨N, 0, none⟩) 1 1) (hc0 : w.cell? ⟨N, 0, none⟩ = some (.string r.m)) (hc1 : w.cell? ⟨N, 1, none⟩ = some (.string r.p)) (hc2 : w.cell? ⟨N, 2, none⟩ = some (.slice ah nh ch)) (hc3 : w.cell? ⟨N, 3, none⟩ = some (.string r.b))
    (hlen : qs.length + 1 ≤ 1048576) (hB : B ≤ w.heap.size)
    (h : ∀ g cap w', OwnR w' B (.slice (some ⟨g, 0, none⟩) (qs.length + 1) cap) (qs ++ [(r, .slice ah nh ch)]) → w.grownBy w' v.ownBlock → wpList Tryz.prog ops Q rest (a.put o.dst (.slice (some ⟨g, 0, none⟩) (qs.length + 1) cap)) w') : wpList Tryz.prog ops Q (o :: rest) a w := by
  obtain ⟨i0, hi, hz0, hz1, hz2⟩ := info_parts infoRq
  have hnews : ∀ j u, [Value.string r.m, Value.string r.p, .slice ah nh ch, Value.string r.b][j]? = some u → w.cell? ((⟨N, 0, none⟩ : Addr).add j) = some u := by
    intro j u hj
    have e : ∀ k, (⟨N, 0, none⟩ : Addr).add k = ⟨N, k, none⟩ := fun k => by unfold Addr.add; split <;> simp_all
    rw [e]
    match j, hj with
    | 0, hj => simp at hj; subst hj; exact hc0
    | 1, hj => simp at hj; subst hj; exact hc1
    | 2, hj => simp at hj; subst hj; exact hc2
    | 3, hj => simp at hj; subst hj; exact hc3
  have hone : ∀ u ∈ [Value.string r.m, Value.string r.p, .slice ah nh ch, Value.string r.b], u.oneCell' = true := by
    intro u hu
    simp only [List.mem_cons, List.not_mem_nil, or_false] at hu
    rcases hu with rfl | rfl | rfl | rfl <;> rfl
  refine wpList_append_own w hgd s x 28 ho B 39 i0 _ 4 72 Tryz.underlying28 hi hz0 hz1 hz2 rfl (by decide) v qs.length _ hs hown ⟨N, 0, none⟩ 1 1 [.string r.m, .string r.p, .slice ah nh ch, .string r.b] hx rfl hnews hone (by unfold maxLen; omega) (by omega) hB ?_
  intro v' w' ho' hg _
  obtain ⟨g, cap, rfl⟩ : ∃ g cap, v' = .slice (some ⟨g, 0, none⟩) (qs.length + 1) cap := by
    rcases ho'.2 with ⟨_, h0⟩ | ⟨g, cap, cur, hv, _⟩
    · omega
    · exact ⟨g, cap, hv⟩
  refine h g cap w' ?_ hg
  unfold OwnR
  rw [rvCells_append, List.length_append]
  exact ho'
/-- What is read in such a row. -/
theorem OwnR.rqs {w : World} {B : Nat} {v : Value} {qs : List Rv} (h : OwnR w B v qs) (hh : ∀ q ∈ qs, ∃ aj cj, q.2 = .slice aj q.1.hs.length cj ∧ Hds w w.heap.size aj q.1.hs) : ∃ a c, v = .slice a qs.length c ∧ Rqs w w.heap.size a (qs.map Prod.fst) := by
  rcases h.2 with ⟨e, h0⟩ | ⟨g, cap, cur, e, hB, hg, h1, h2, h3, h4⟩
  · exact ⟨none, 0, by rw [e, h0], fun hl => by rw [List.length_map, h0] at hl; exact absurd hl (Nat.lt_irrefl _)⟩
  · refine ⟨some ⟨g, 0, none⟩, cap, e, fun _ => ⟨g, 0, rfl, (Array.getElem?_eq_some_iff.1 hg).1, fun j hj => ?_⟩⟩
    rw [List.length_map] at hj
    obtain ⟨aj, cj, eq, hd⟩ := hh qs[j] (List.getElem_mem hj)
    obtain ⟨d0, d1, d2, d3⟩ := rvCells_at qs j hj
    have hx : ∀ i u, i < qs.length * 4 → (rvCells qs)[i]? = some u → w.cell? ⟨g, 0 + i, none⟩ = some u := by
      intro i u hi hu
      have : cur.toList[i]? = some u := by rw [← hu, ← h4, List.getElem?_take, if_pos hi]
      rw [Nat.zero_add]
      simp [World.cell?, hg]
      simpa using this
    refine ⟨aj, cj, ?_, ?_, ?_, ?_, ?_⟩
    · rw [hx _ _ (by omega) d0]; simp
    · rw [Nat.add_assoc, hx _ _ (by omega) d1]; simp
    · rw [Nat.add_assoc, hx _ _ (by omega) d2, eq]; simp
    · rw [Nat.add_assoc, hx _ _ (by omega) d3]; simp
    · simpa using hd
end Go.Proofs.YtanebchmeaomgaaGreatDoor
namespace Go.Proofs.YtanebchmeaomgaaGreatDoor
open Go.RowKit

/-- What the walk is told of a slice of integers that came in: it is nil; or it leads to a row of 'cap' cells, the numbers 'zs' (the first 'len' are its elements), each fitting its kind. -/
def IsRow (k : IntKind) (w : World) (a : Option Addr) (len cap : Nat) (zs : List Int) : Prop :=
  (a = none ∧ len = 0 ∧ cap = 0 ∧ zs = []) ∨
  ∃ x, a = some x ∧ len ≤ cap ∧ cap ≤ maxLen ∧ zs.length = cap ∧ (∀ i, i < zs.length → w.cell? (x.add i) = some (.int k (zs.getD i 0))) ∧ ∀ n ∈ zs, (Lit.int k n).wf = true
end Go.Proofs.YtanebchmeaomgaaGreatDoor
namespace Go.Proofs.YtanebchmeaomgaaGreatDoor
open Go.RowKit
set_option linter.unusedVariables false

set_option maxHeartbeats 400000 in
theorem big_any (a : Option Addr) (len cap : Nat) (w : World) (_hl : len ≤ maxLen) :
    Calls Tryz.prog 6 #[.slice a len cap] w fun e w' => e = .returned (.bool (decide ((1048576 : Int) < len))) ∧ w' = w := by
  unfold maxLen at _hl
  go_enter Tryz.func6, Tryz.ntmps6
  go_wp2
  go_ret
  exact ⟨rfl, rfl⟩

theorem row_len {w : World} {a : Option Addr} {len cap : Nat} {zs : List Int} (h : IsRow .u8 w a len cap zs) : len ≤ maxLen := by
  rcases h with ⟨_, rfl, _, _⟩ | ⟨x, _, hl, hm, _⟩
  · exact Nat.zero_le _
  · omega
end Go.Proofs.YtanebchmeaomgaaGreatDoor
namespace Go.Proofs.YtanebchmeaomgaaGreatDoor
open Go.RowKit M

theorem code_of_row {w : World} {a : Option Addr} {len cap : Nat} {zs : List Int} (h : IsRow .u8 w a len cap zs) (hlen : len ≤ 1048576) : CodeIn w w.heap.size a len zs := by
  rcases h with ⟨rfl, rfl, rfl, rfl⟩ | ⟨x, rfl, hl, hm, hz, hcell, hwz⟩
  · exact ⟨⟨Nat.le_refl _, fun j hj => absurd hj (Nat.not_lt_zero _), fun h => absurd h (Nat.lt_irrefl _)⟩, fun h => absurd h (Nat.lt_irrefl _), hlen, Nat.le_refl _⟩
  · obtain ⟨b, off, spot⟩ := x
    by_cases h0 : 0 < len
    · have hc := hcell 0 (by omega)
      have hspot : spot = none := by simpa [Addr.add] using World.cell?_spot hc
      subst hspot
      have hb : b < w.heap.size := by
        have := World.block_lt_of_cell? w _ hc
        simpa [Addr.add] using this
      refine ⟨⟨by omega, fun j hj => ?_, fun _ => ⟨b, off, rfl, fun j hj => ?_⟩⟩, fun _ b' off' e => ?_, hlen, Nat.le_refl _⟩
      · have hj' : j < zs.length := by omega
        refine bounds_u8 (hwz _ ?_)
        rw [List.getD_eq_getElem?_getD, List.getElem?_eq_getElem hj']
        exact List.getElem_mem hj'
      · have h1 := hcell j (by omega)
        have e : (⟨b, off, none⟩ : Addr).add j = ⟨b, off + j, none⟩ := by unfold Addr.add; split <;> simp_all
        rwa [e] at h1
      · cases e; exact hb
    · exact ⟨⟨by omega, fun j hj => absurd hj (by omega), fun h => absurd h h0⟩, fun h => absurd h h0, hlen, Nat.le_refl _⟩
end Go.Proofs.YtanebchmeaomgaaGreatDoor
