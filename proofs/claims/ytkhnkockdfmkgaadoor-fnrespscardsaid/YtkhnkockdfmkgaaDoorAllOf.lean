/-
  What l1Small and SmallName (the specification's) do.
  Names held against the two that tell of a body.
  What the specification's looks at heads do.
  A request that lies in a box of the call's own.
  An answer that lies in a box of the call's own.
  What the specification's RespOk does.
  What the specification's l3HeadsText does; bytes that are made.
  What the specification's NumText does.
  Rows of bytes that the call made, of a text or by appending: a text more behind; what they hold. (Such a row may bear a mark behind its last cell.)
  What the specification's PutResp does.
  What the program's wordAhead does.
  What the program's allOf does: whether all bytes of a text are of one of these kinds.
-/
import Derived.Test.YtkhnkockdfmkgaaDoorSpecVal
import Derived.Test.YtkhnkockdfmkgaaDoorMathSmall
import Derived.Test.YtkhnkockdfmkgaaDoorExtract
import Derived.Test.YtkhnkockdfmkgaaDoorMathPut
import Derived.Test.YtkhnkockdfmkgaaDoorMathEnd
import Derived.Deep.RegionHeld3
import Derived.Lib.ConvBytes
import Derived.Lib.ItoaLen
import Derived.Test.YtkhnkockdfmkgaaDoorMathNum
import Derived.Lib.AppendStr
import Derived.Lib.FrozenHead
import Derived.Test.YtkhnkockdfmkgaaDoorNums
import Derived.Test.YtkhnkockdfmkgaaDoorMathQuote
namespace Go.Proofs.YtkhnkockdfmkgaaDoor
open Go.RowKit M

set_option maxHeartbeats 400000 in
theorem l1Small_any (c : UInt8) (w : World) :
    Calls Tryd.prog 62 #[.int .u8 c.toNat] w fun e w' => e = .returned (.bool (isB c.toNat 2)) ∧ w' = w := by
  go_enter Tryd.func62, Tryd.ntmps62
  go_wp2_with (go_at_call 34; refine (l1In_any _ _ _ _).mono ?_; rintro e w' ⟨rfl, rfl⟩; rw [wrap64_u8, inB_small])
  go_ret
  exact ⟨rfl, rfl⟩

set_option maxHeartbeats 1000000 in
theorem specSmallName_any (s : ByteArray) (w : World) (hs : s.size ≤ maxLen) :
    Calls Tryd.prog 52 #[.string s] w fun e w' => e = .returned (.bool (smB s.data.toList)) ∧ w' = w := by
  unfold maxLen at hs
  go_enter Tryd.func52, Tryd.ntmps52
  go_wp2
  go_loop [3] (fun i => ∃ k : Nat, k ≤ s.size ∧ i = .int .i64 k ∧ ∀ j (hj : j < s.size), j < k → okAt j (s[j].toNat : Int) = true) (fun i => s.size - (intOf i).toNat)
  case atStart => exact ⟨0, Nat.zero_le _, rfl, fun _ _ h => absurd h (Nat.not_lt_zero _)⟩
  case round =>
    obtain ⟨k, hk, rfl, hn⟩ := hrel
    have HN : Hid (∀ j (hj : j < s.size), j < k → okAt j (s[j].toNat : Int) = true) := hn; clear hn
    by_cases hlt : k < s.size
    · have hnext : okAt k (s[k].toNat : Int) = true → ∀ j (hj : j < s.size), j < k + 1 → okAt j (s[j].toNat : Int) = true := by
        intro ho j hj hjk
        by_cases e : j = k
        · subst e; exact ho
        · exact HN.out j hj (by omega)
      have HX : Hid (okAt k (s[k].toNat : Int) = true → ∀ j (hj : j < s.size), j < k + 1 → okAt j (s[j].toNat : Int) = true) := hnext
      clear hnext
      go_wp2_with (first | (go_at_call 62; refine (l1Small_any _ _).mono ?_; rintro e w' ⟨rfl, rfl⟩) | (go_at_call 49; refine (l1Digit_any _ _).mono ?_; rintro e w' ⟨rfl, rfl⟩))
      · go_round
        case rel => exact ⟨k + 1, by omega, by go_num, HX.out (ok1 (by assumption))⟩
        case measure => simp [intOf]; omega
      · go_ret
        exact ⟨ret_bool (smB_not s k hlt (no2 (by assumption) (by assumption))).symm, rfl⟩
      · go_round
        case rel => exact ⟨k + 1, by omega, by go_num, HX.out (ok3 (by assumption) (by assumption))⟩
        case measure => simp [intOf]; omega
      · go_ret
        exact ⟨ret_bool (smB_not s k hlt (no4 (by assumption) (by assumption) (by assumption) (by assumption))).symm, rfl⟩
      · go_round
        case rel => exact ⟨k + 1, by omega, by go_num, HX.out (ok5 (by assumption) (by assumption))⟩
        case measure => simp [intOf]; omega
    · go_wp2_with (go_at_call 34; refine (l1In_any _ _ _ _).mono ?_; rintro e w' ⟨rfl, rfl⟩)
      go_ret
      exact ⟨ret_bool (by rw [smB_all s (fun i hi => HN.out i hi (by omega))]), rfl⟩
end Go.Proofs.YtkhnkockdfmkgaaDoor
namespace Go.Proofs.YtkhnkockdfmkgaaDoor
open Go.RowKit M
set_option linter.unusedVariables false

theorem lenEq (x : ByteArray) : (x.toList == [99, 111, 110, 116, 101, 110, 116, 45, 108, 101, 110, 103, 116, 104]) = decide (x = lenName) := by
  by_cases h : x = lenName
  · subst h; rw [ByteArray.toList_eq]; decide
  · have : ¬ x.toList = [99, 111, 110, 116, 101, 110, 116, 45, 108, 101, 110, 103, 116, 104] := fun e => h (strInj (by rw [e, ByteArray.toList_eq]; rfl))
    simp [h, this]
theorem codEq (x : ByteArray) : (x.toList == [116, 114, 97, 110, 115, 102, 101, 114, 45, 101, 110, 99, 111, 100, 105, 110, 103]) = decide (x = codName) := by
  by_cases h : x = codName
  · subst h; rw [ByteArray.toList_eq]; decide
  · have : ¬ x.toList = [116, 114, 97, 110, 115, 102, 101, 114, 45, 101, 110, 99, 111, 100, 105, 110, 103] := fun e => h (strInj (by rw [e, ByteArray.toList_eq]; rfl))
    simp [h, this]
end Go.Proofs.YtkhnkockdfmkgaaDoor
namespace Go.Proofs.YtkhnkockdfmkgaaDoor
open Go.RowKit M
set_option linter.unusedVariables false

set_option maxHeartbeats 1000000 in
theorem l3Heads_any (a : Option Addr) (hs : List Hd) (cap B : Nat) (w : World) (h : Hds w B a hs) (hsh : ShortH hs) (hl : hs.length ≤ maxLen) :
    Calls Tryd.prog 35 #[.slice a hs.length cap] w fun e w' => e = .returned (.bool (hdsB hs)) ∧ w' = w := by
  unfold maxLen at hl
  go_enter Tryd.func35, Tryd.ntmps35
  go_wp2
  go_loop [3] (fun i => ∃ k : Nat, k ≤ hs.length ∧ i = .int .i64 k ∧ (hs.take k).all hdFree = true) (fun i => hs.length - (intOf i).toNat)
  case atStart => exact ⟨0, Nat.zero_le _, rfl, rfl⟩
  case round =>
    obtain ⟨k, hk, rfl, hn⟩ := hrel
    have HN : Hid ((hs.take k).all hdFree = true) := hn; clear hn
    by_cases hlt : k < hs.length
    · obtain ⟨b, o, rfl, hb, hc⟩ := h (by omega)
      have hcx := (hc k hlt).1
      have hcy := (hc k hlt).2
      have hsz := hsh.at k hlt
      clear hc
      cases h1 : smB hs[k].1.data.toList
      · have HE : Hid (hdsB hs = false) := hdsB_not hs k hlt (by simp [hdFree, hdB, h1])
        go_wp2_with (go_at_call 52; refine (specSmallName_any _ _ hsz.1).mono ?_; rintro e w1 ⟨rfl, hw⟩; obtain rfl := hw.symm; rw [h1])
        go_ret
        exact ⟨ret_bool HE.out.symm, rfl⟩
      · cases h2 : valB hs[k].2
        · have HE : Hid (hdsB hs = false) := hdsB_not hs k hlt (by simp [hdFree, hdB, h2])
          go_wp2_with (first | (go_at_call 52; refine (specSmallName_any _ _ hsz.1).mono ?_; rintro e w1 ⟨rfl, hw⟩; obtain rfl := hw.symm; rw [h1]) | (go_at_call 53; refine (l3Val_any _ _ hsz.2).mono ?_; rintro e w1 ⟨rfl, hw⟩; obtain rfl := hw.symm; rw [h2]))
          go_ret
          exact ⟨ret_bool HE.out.symm, rfl⟩
        · have e3 := lenEq hs[k].1
          have e4 := codEq hs[k].1
          by_cases h3 : hs[k].1 = lenName
          · have HE : Hid (hdsB hs = false) := hdsB_not hs k hlt (by simp [hdFree, h3])
            rw [decide_eq_true h3] at e3
            clear h3 e4
            go_wp2_with (first | (go_at_call 52; refine (specSmallName_any _ _ hsz.1).mono ?_; rintro e w1 ⟨rfl, hw⟩; obtain rfl := hw.symm; rw [h1]) | (go_at_call 53; refine (l3Val_any _ _ hsz.2).mono ?_; rintro e w1 ⟨rfl, hw⟩; obtain rfl := hw.symm; rw [h2]))
            go_ret
            exact ⟨ret_bool HE.out.symm, rfl⟩
          · rw [decide_eq_false h3] at e3
            by_cases h4 : hs[k].1 = codName
            · have HE : Hid (hdsB hs = false) := hdsB_not hs k hlt (by simp [hdFree, h4])
              rw [decide_eq_true h4] at e4
              clear h3 h4
              go_wp2_with (first | (go_at_call 52; refine (specSmallName_any _ _ hsz.1).mono ?_; rintro e w1 ⟨rfl, hw⟩; obtain rfl := hw.symm; rw [h1]) | (go_at_call 53; refine (l3Val_any _ _ hsz.2).mono ?_; rintro e w1 ⟨rfl, hw⟩; obtain rfl := hw.symm; rw [h2]))
              go_ret
              exact ⟨ret_bool HE.out.symm, rfl⟩
            · have HE : Hid ((hs.take (k + 1)).all hdFree = true) := hdsB_snoc hs k hlt HN.out (by simp [hdFree, hdB, h1, h2, h3, h4])
              rw [decide_eq_false h4] at e4
              clear h3 h4
              go_wp2_with (first | (go_at_call 52; refine (specSmallName_any _ _ hsz.1).mono ?_; rintro e w1 ⟨rfl, hw⟩; obtain rfl := hw.symm; rw [h1]) | (go_at_call 53; refine (l3Val_any _ _ hsz.2).mono ?_; rintro e w1 ⟨rfl, hw⟩; obtain rfl := hw.symm; rw [h2]))
              go_round
              case rel => exact ⟨k + 1, by omega, by go_num, HE.out⟩
              case measure => simp [intOf]; omega
    · have HE : Hid (hdsB hs = decide ((hs.length : Int) ≤ 8)) := by
        show hdsB hs = _
        rw [hdsB_all hs k hlt HN.out]
        by_cases e : hs.length ≤ 8
        · have e2 : (hs.length : Int) ≤ 8 := by omega
          simp [e, e2]
        · have e2 : ¬ (hs.length : Int) ≤ 8 := by omega
          simp [e, e2]
      go_wp2
      go_ret
      exact ⟨ret_bool HE.out.symm, rfl⟩
end Go.Proofs.YtkhnkockdfmkgaaDoor
namespace Go.Proofs.YtkhnkockdfmkgaaDoor
open Go.RowKit M

/-- The box N holds this request. -/
def BoxR (w : World) (N : Nat) (a : Option Addr) (cap : Nat) (r : Rq) : Prop :=
  N < w.heap.size ∧ w.cell? ⟨N, 0, none⟩ = some (.string r.m) ∧ w.cell? ⟨N, 1, none⟩ = some (.string r.p) ∧ w.cell? ⟨N, 2, none⟩ = some (.slice a r.hs.length cap) ∧ w.cell? ⟨N, 3, none⟩ = some (.string r.b)

theorem BoxR.below {w w' : World} {N C : Nat} {a : Option Addr} {cap : Nat} {r : Rq} (h : BoxR w N a cap r) (hb : Below C w w') (hC : N < C) : BoxR w' N a cap r := by
  obtain ⟨h0, h1, h2, h3, h4⟩ := h
  exact ⟨Nat.lt_of_lt_of_le h0 hb.size, (hb.cell (p := ⟨N, 0, none⟩) hC).trans h1, (hb.cell (p := ⟨N, 1, none⟩) hC).trans h2, (hb.cell (p := ⟨N, 2, none⟩) hC).trans h3, (hb.cell (p := ⟨N, 3, none⟩) hC).trans h4⟩
theorem BoxR.next {w w' : World} {N : Nat} {a : Option Addr} {cap : Nat} {r : Rq} (h : BoxR w N a cap r) (hb : Below w.heap.size w w') : BoxR w' N a cap r := h.below hb h.1

theorem BoxR.made (w : World) (a : Option Addr) (cap : Nat) (r : Rq) (T : TypeId) : BoxR (w.alloc (Obj.cells #[Value.string r.m, Value.string r.p, Value.slice a r.hs.length cap, Value.string r.b] T)) w.heap.size a cap r := ⟨by simp, by simp, by simp, by simp, by simp⟩
theorem BoxR.alloc {w : World} {N : Nat} {a : Option Addr} {cap : Nat} {r : Rq} (h : BoxR w N a cap r) (o : Obj) : BoxR (w.alloc o) N a cap r := h.next ((Below.refl _ _).alloc (Nat.le_refl _) _)
theorem Hds.alloc {w : World} {B : Nat} {a : Option Addr} {hs : List Hd} (h : Hds w B a hs) (hB : B ≤ w.heap.size) (o : Obj) : Hds (w.alloc o) B a hs := h.below ((Below.refl w.heap.size w).alloc (Nat.le_refl _) o) hB

/-- The cells of two boxes, one by one. -/
theorem keep8 {w : World} {N M : Nat} {a b : Option Addr} {cap cap' : Nat} {r q : Rq} (hx : BoxR w N a cap r) (hy : BoxR w M b cap' q) :
    w.cell? ⟨N, 0, none⟩ = some (.string r.m) ∧ w.cell? ⟨N, 1, none⟩ = some (.string r.p) ∧ w.cell? ⟨N, 2, none⟩ = some (.slice a r.hs.length cap) ∧ w.cell? ⟨N, 3, none⟩ = some (.string r.b) ∧ w.cell? ⟨M, 0, none⟩ = some (.string q.m) ∧ w.cell? ⟨M, 1, none⟩ = some (.string q.p) ∧ w.cell? ⟨M, 2, none⟩ = some (.slice b q.hs.length cap') ∧ w.cell? ⟨M, 3, none⟩ = some (.string q.b) := by
  obtain ⟨_, h1, h2, h3, h4⟩ := hx
  obtain ⟨_, g1, g2, g3, g4⟩ := hy
  exact ⟨h1, h2, h3, h4, g1, g2, g3, g4⟩
theorem keep4 {w : World} {N : Nat} {a : Option Addr} {cap : Nat} {r : Rq} (hx : BoxR w N a cap r) :
    w.cell? ⟨N, 0, none⟩ = some (.string r.m) ∧ w.cell? ⟨N, 1, none⟩ = some (.string r.p) ∧ w.cell? ⟨N, 2, none⟩ = some (.slice a r.hs.length cap) ∧ w.cell? ⟨N, 3, none⟩ = some (.string r.b) := by
  obtain ⟨_, h1, h2, h3, h4⟩ := hx
  exact ⟨h1, h2, h3, h4⟩
theorem BoxR.drew {w : World} {N : Nat} {a : Option Addr} {cap : Nat} {r : Rq} (h : BoxR w N a cap r) : BoxR w.drew N a cap r := h
theorem below_drew {w w' : World} {C : Nat} (h : Below C w w') : Below C w w'.drew := ⟨h.os, h.tape, h.output, h.size, h.block⟩
theorem Hds.drew {w : World} {B : Nat} {a : Option Addr} {hs : List Hd} (h : Hds w B a hs) : Hds w.drew B a hs := h

/-- The box N holds this head. -/
def BoxH (w : World) (N : Nat) (x y : ByteArray) : Prop := N < w.heap.size ∧ w.cell? ⟨N, 0, none⟩ = some (.string x) ∧ w.cell? ⟨N, 1, none⟩ = some (.string y)
theorem BoxH.next {w w' : World} {N : Nat} {x y : ByteArray} (h : BoxH w N x y) (hb : Below w.heap.size w w') : BoxH w' N x y :=
  ⟨Nat.lt_of_lt_of_le h.1 hb.size, (hb.cell (p := ⟨N, 0, none⟩) h.1).trans h.2.1, (hb.cell (p := ⟨N, 1, none⟩) h.1).trans h.2.2⟩
theorem BoxH.made (w : World) (x y : ByteArray) (T : TypeId) : BoxH (w.alloc (Obj.cells #[Value.string x, Value.string y] T)) w.heap.size x y := ⟨by simp, by simp, by simp⟩
end Go.Proofs.YtkhnkockdfmkgaaDoor
namespace Go.Proofs.YtkhnkockdfmkgaaDoor
open Go.RowKit M

def ShortA (r : Rs) : Prop := r.b.size ≤ maxLen ∧ r.hs.length ≤ maxLen ∧ ShortH r.hs
/-- Short enough for a copy of each text. -/
def FitA (r : Rs) : Prop := ShortA r ∧ ∀ x ∈ r.hs, x.2.size ≤ 281474976710656
/-- The box N holds this answer. -/
def BoxA (w : World) (N : Nat) (a : Option Addr) (cap : Nat) (r : Rs) : Prop :=
  N < w.heap.size ∧ w.cell? ⟨N, 0, none⟩ = some (.int .i64 r.c) ∧ w.cell? ⟨N, 1, none⟩ = some (.slice a r.hs.length cap) ∧ w.cell? ⟨N, 2, none⟩ = some (.string r.b)
theorem BoxA.below {w w' : World} {N C : Nat} {a : Option Addr} {cap : Nat} {r : Rs} (h : BoxA w N a cap r) (hb : Below C w w') (hC : N < C) : BoxA w' N a cap r := by
  obtain ⟨h0, h1, h2, h3⟩ := h
  exact ⟨Nat.lt_of_lt_of_le h0 hb.size, (hb.cell (p := ⟨N, 0, none⟩) hC).trans h1, (hb.cell (p := ⟨N, 1, none⟩) hC).trans h2, (hb.cell (p := ⟨N, 2, none⟩) hC).trans h3⟩
theorem BoxA.next {w w' : World} {N : Nat} {a : Option Addr} {cap : Nat} {r : Rs} (h : BoxA w N a cap r) (hb : Below w.heap.size w w') : BoxA w' N a cap r := h.below hb h.1
theorem BoxA.made (w : World) (a : Option Addr) (cap : Nat) (r : Rs) (T : TypeId) : BoxA (w.alloc (Obj.cells #[Value.int .i64 r.c, Value.slice a r.hs.length cap, Value.string r.b] T)) w.heap.size a cap r := ⟨by simp, by simp, by simp, by simp⟩
theorem BoxA.alloc {w : World} {N : Nat} {a : Option Addr} {cap : Nat} {r : Rs} (h : BoxA w N a cap r) (o : Obj) : BoxA (w.alloc o) N a cap r := h.next ((Below.refl _ _).alloc (Nat.le_refl _) _)
theorem BoxA.drew {w : World} {N : Nat} {a : Option Addr} {cap : Nat} {r : Rs} (h : BoxA w N a cap r) : BoxA w.drew N a cap r := h
theorem keep6 {w : World} {N M : Nat} {a b : Option Addr} {cap cap' : Nat} {r q : Rs} (hx : BoxA w N a cap r) (hy : BoxA w M b cap' q) :
    w.cell? ⟨N, 0, none⟩ = some (.int .i64 r.c) ∧ w.cell? ⟨N, 1, none⟩ = some (.slice a r.hs.length cap) ∧ w.cell? ⟨N, 2, none⟩ = some (.string r.b) ∧ w.cell? ⟨M, 0, none⟩ = some (.int .i64 q.c) ∧ w.cell? ⟨M, 1, none⟩ = some (.slice b q.hs.length cap') ∧ w.cell? ⟨M, 2, none⟩ = some (.string q.b) := by
  obtain ⟨_, h1, h2, h3⟩ := hx
  obtain ⟨_, g1, g2, g3⟩ := hy
  exact ⟨h1, h2, h3, g1, g2, g3⟩
theorem sameA_c {a b : Rs} (h : ¬ a.c = b.c) : sameA a b = false := by simp [sameA, h]
theorem sameA_h {a b : Rs} (h : sameH a.hs b.hs = false) : sameA a b = false := by simp [sameA, h]
theorem sameA_b {a b : Rs} (h : ¬ a.b = b.b) : sameA a b = false := by simp [sameA, h]
theorem sameA_all {a b : Rs} (h1 : a.c = b.c) (h3 : sameH a.hs b.hs = true) (h4 : a.b = b.b) : sameA a b = true := by simp [sameA, h1, h3, h4]
theorem sameA_refl (a : Rs) : sameA a a = true := by simp [sameA, sameH]
theorem respB_c {r : Rs} (h : codeB r.c = false) : respB r = false := by simp [respB, h]
theorem respB_h {r : Rs} (h : hdsB r.hs = false) : respB r = false := by simp [respB, h]
theorem respB_b {r : Rs} (h1 : codeB r.c = true) (h3 : hdsB r.hs = true) : respB r = decide ((r.b.size : Int) ≤ 400) := by
  by_cases e : r.b.size ≤ 400
  · have e2 : (r.b.size : Int) ≤ 400 := by omega
    simp [respB, h1, h3, e, e2]
  · have e2 : ¬ (r.b.size : Int) ≤ 400 := by omega
    simp [respB, h1, h3, e, e2]
end Go.Proofs.YtkhnkockdfmkgaaDoor
namespace Go.Proofs.YtkhnkockdfmkgaaDoor
open Go.RowKit M
set_option linter.unusedVariables false

set_option maxHeartbeats 1000000 in
theorem specRespOk_any (a : Option Addr) (r : Rs) (cap B : Nat) (w : World) (h : Hds w B a r.hs) (hB : B ≤ w.heap.size) (hsh : ShortA r) :
    Calls Tryd.prog 14 #[.agg #[.int .i64 r.c, .slice a r.hs.length cap, .string r.b]] w fun e w' => e = .returned (.bool (respB r)) ∧ Below w.heap.size w w' := by
  obtain ⟨q3, q4, q5⟩ := hsh
  have HM : Hid (inB r.c 100 599 = false → respB r = false) := respB_c
  have HH : Hid (hdsB r.hs = false → respB r = false) := respB_h
  have HA : Hid (inB r.c 100 599 = true → hdsB r.hs = true → respB r = decide ((r.b.size : Int) ≤ 400)) := respB_b
  obtain ⟨z, hz⟩ : ∃ z, respB r = z := ⟨_, rfl⟩
  rw [hz] at HM HH HA ⊢
  clear hz
  obtain ⟨rc, hs, rb⟩ := r
  simp only at *
  have q3' := q3
  unfold maxLen at q3'
  have hb0 : Below w.heap.size w (w.alloc (Obj.cells #[Value.int .i64 rc, Value.slice a hs.length cap, Value.string rb] 26)) := (Below.refl _ _).alloc (Nat.le_refl _) _
  have HD := hide (h.below hb0 hB)
  clear h
  cases h1 : inB rc 100 599
  · have hz := HM.out h1
    subst hz
    go_enter Tryd.func14, Tryd.ntmps14
    go_wp2_with (go_at_call 34; refine (l1In_any _ _ _ _).mono ?_; rintro e w1 ⟨rfl, hw⟩; obtain rfl := hw.symm; rw [h1])
    go_ret
    exact ⟨rfl, hb0⟩
  · cases h3 : hdsB hs
    · have hz := HH.out h3
      subst hz
      go_enter Tryd.func14, Tryd.ntmps14
      go_wp2_with (first | (go_at_call 34; refine (l1In_any _ _ _ _).mono ?_; rintro e w1 ⟨rfl, hw⟩; obtain rfl := hw.symm; rw [h1]) | (go_at_call 35; refine (l3Heads_any a hs cap B _ HD.out q5 q4).mono ?_; rintro e w1 ⟨rfl, hw⟩; obtain rfl := hw.symm; rw [h3]))
      go_ret
      exact ⟨rfl, hb0⟩
    · have hz := HA.out h1 h3
      subst hz
      go_enter Tryd.func14, Tryd.ntmps14
      go_wp2_with (first | (go_at_call 34; refine (l1In_any _ _ _ _).mono ?_; rintro e w1 ⟨rfl, hw⟩; obtain rfl := hw.symm; rw [h1]) | (go_at_call 35; refine (l3Heads_any a hs cap B _ HD.out q5 q4).mono ?_; rintro e w1 ⟨rfl, hw⟩; obtain rfl := hw.symm; rw [h3]))
      go_ret
      exact ⟨rfl, hb0⟩
end Go.Proofs.YtkhnkockdfmkgaaDoor
namespace Go.Proofs.YtkhnkockdfmkgaaDoor
open Go.RowKit M
set_option linter.unusedVariables false

theorem ret_string {a b : ByteArray} (h : a = b) : Ending.returned (.string a) = .returned (.string b) := by rw [h]

theorem join_head (l : List UInt8) (x y : ByteArray) : bytesOf l ++ x ++ ⟨#[58, 32]⟩ ++ y ++ ⟨#[13, 10]⟩ = bytesOf (l ++ hdTxt (x, y)) := by
  apply ByteArray.ext
  simp [bytesOf, hdTxt, crlf]

set_option maxHeartbeats 1000000 in
theorem l3HeadsText_any (a : Option Addr) (hs : List Hd) (cap B : Nat) (w : World) (h : Hds w B a hs) (hl : hs.length ≤ 1048576) (hsum : sumH hs ≤ 1048576) :
    Calls Tryd.prog 40 #[.slice a hs.length cap] w fun e w' => e = .returned (.string (bytesOf (hdsTxt hs))) ∧ ∃ n, w' = w.drewN n := by
  go_enter Tryd.func40, Tryd.ntmps40
  go_wp2
  go_loopw [3, 4] (fun s i wr => ∃ (k n : Nat) (t : ByteArray), k ≤ hs.length ∧ i = .int .i64 k ∧ s = .string t ∧ t = bytesOf (hdsTxt (hs.take k)) ∧ wr = w.drewN n) (fun _ i _ => hs.length - (intOf i).toNat)
  case atStart => exact ⟨0, 0, _, Nat.zero_le _, rfl, rfl, rfl, rfl⟩
  case round =>
    obtain ⟨k, n, t, hk, rfl, rfl, ht, rfl⟩ := hrel
    have htz : t.size ≤ 8388608 := by
      rw [ht, bytesOf_size, hdsTxt_len]
      have := sumH_take hs k
      rw [List.length_take]; omega
    have HT := hide ht
    clear ht
    by_cases hlt : k < hs.length
    · obtain ⟨b, o, rfl, hb, hc⟩ := h (by omega)
      have hcx := (hc k hlt).1
      have hcy := (hc k hlt).2
      have HS : Hid (hdsTxt (hs.take (k + 1)) = hdsTxt (hs.take k) ++ hdTxt hs[k]) := hdsTxt_snoc hs k hlt
      have hz1 : (hs[k]).1.size ≤ 1048576 := Nat.le_trans (sumH_mem hs _ (List.getElem_mem hlt)).1 hsum
      have hz2 : (hs[k]).2.size ≤ 1048576 := Nat.le_trans (sumH_mem hs _ (List.getElem_mem hlt)).2 hsum
      have hq1 : ¬ (9223372036854775807 < t.size + (hs[k]).1.size) := by omega
      have hq2 : ¬ (9223372036854775807 < t.size + (hs[k]).1.size + 2) := by omega
      have hq3 : ¬ (9223372036854775807 < t.size + (hs[k]).1.size + 2 + (hs[k]).2.size) := by omega
      have hq4 : ¬ (9223372036854775807 < t.size + (hs[k]).1.size + 2 + (hs[k]).2.size + 2) := by omega
      clear hc
      go_wp2
      go_quiet (fail)
      go_wp2
      go_roundw
      case rel => exact ⟨k + 1, n + nq, _, by omega, by go_num, rfl, by rw [HS.out, HT.out]; exact join_head _ _ _, rfl⟩
      case measure => simp [intOf]; omega
    · go_wp2
      go_ret
      exact ⟨ret_string (by rw [HT.out, List.take_of_length_le (by omega)]), n, rfl⟩

theorem below_bytesP (w : World) (s : ByteArray) : Below w.heap.size w (Lib.bytesWorld w 5 s) :=
  ⟨rfl, rfl, rfl, by rw [Lib.bytesWorld_size]; omega, fun k hk => Lib.bytesWorld_at_old w 5 s k hk⟩
theorem byt_bytes (w : World) (s : ByteArray) : Byt (Lib.bytesWorld w 5 s) (w.heap.size + 1) (some ⟨w.heap.size, 0, none⟩) s.data.toList := fun _ =>
  ⟨w.heap.size, 0, rfl, Nat.lt_succ_self _, fun j hj => by
    have e : s.data.toList.length = s.size := Array.length_toList
    rw [Nat.zero_add, Lib.bytesWorld_cell w 5 s j (by omega)]
    simp [List.getD, List.getElem?_eq_getElem hj]⟩

theorem len_line (n : Nat) : (⟨#[99, 111, 110, 116, 101, 110, 116, 45, 108, 101, 110, 103, 116, 104, 58, 32]⟩ : ByteArray) ++ ⟨(Lib.decDigits n).toArray⟩ ++ ⟨#[13, 10]⟩ = bytesOf (lenLine n) := by
  apply ByteArray.ext
  simp [bytesOf, lenLine, lenTag, crlf]

theorem dec_len (n : Nat) (h : n ≤ 1048576) : (Lib.decDigits n).length ≤ 20 := by
  rw [Lib.decDigits_length]
  exact Lib.nDigits_le20 n (by omega)
end Go.Proofs.YtkhnkockdfmkgaaDoor
namespace Go.Proofs.YtkhnkockdfmkgaaDoor
open Go.RowKit M

/-- string([]byte of one byte). -/
theorem conv_one (W : World) (x : Int) : (convert 22 9 (.slice (some ⟨W.heap.size, 0, none⟩) 1 1)).run Tryd.prog (W.alloc (.cells #[.int .u8 x] 5)) = .ok (.string ⟨#[UInt8.ofNat x.toNat]⟩) (W.alloc (.cells #[.int .u8 x] 5)) := by
  have h := run_convert_bytes_arg (P := Tryd.prog) (W.alloc (.cells #[.int .u8 x] 5)) 22 5 Tryd.underlying22 Tryd.underlying5 W.heap.size 0 1 1 [x] rfl (by
    intro i hi
    obtain rfl : i = 0 := by omega
    simp) 9 Tryd.underlying9
  exact h

theorem cat_one (c : UInt8) (t : List UInt8) : (⟨#[c]⟩ : ByteArray) ++ ⟨t.toArray⟩ = ⟨(c :: t).toArray⟩ := by
  apply ByteArray.ext
  simp

theorem low_form (m : Nat) : UInt8.ofNat (48 + m % 10) = decLow m := rfl
theorem low_form' (m : Nat) : 48 + UInt8.ofNat (m % 10) = decLow m := by
  unfold decLow
  rw [UInt8.ofNat_add]; rfl

set_option maxHeartbeats 1000000 in
theorem specNumText_pos (N : Nat) (w : World) (hN : N ≤ 9223372036854775807) :
    Calls Tryd.prog 39 #[.int .i64 N] w fun e w' => e = .returned (.string ⟨(Lib.decDigits N).toArray⟩) ∧ Below w.heap.size w w' := by
  have hcv := conv_one
  go_enter Tryd.func39, Tryd.ntmps39
  go_wp2
  go_loopw [0, 3] (fun n v wr => ∃ (m : Nat) (t : List UInt8), n = .int .i64 m ∧ v = .string ⟨t.toArray⟩ ∧ m ≤ 9223372036854775807 ∧ t.length + m ≤ N + 1 ∧ Lib.decDigits N = decAhead m ++ t ∧ Below w.heap.size w wr) (fun n _ _ => (intOf n).toNat)
  case atStart => exact ⟨N, [decLow N], rfl, by rw [low_form], hN, by simp; omega, decDigits_ahead N, (Below.refl _ _).alloc (Nat.le_refl _) _⟩
  case round =>
    obtain ⟨m, t, rfl, rfl, hm, ht, hd, hbe⟩ := hrel
    have HD : Hid (Lib.decDigits N = decAhead m ++ t) := hd; clear hd
    by_cases h9 : 9 < m
    · have h9' : (9 : Int) < (m : Int) := by omega
      go_wp2
      go_roundw
      case rel =>
        refine ⟨m / 10, decLow (m / 10) :: t, by go_num, by rw [low_form', cat_one], by omega, by simp; omega, ?_, hbe.alloc hbe.size _⟩
        rw [HD.out, decAhead_step m h9, List.append_assoc]; rfl
      case measure => simp [intOf]; omega
    · go_wp2
      go_ret
      exact ⟨ret_str (by rw [HD.out, decAhead_end m h9]; rfl), hbe⟩

set_option maxHeartbeats 400000 in
theorem specNumText_neg (n : Int) (w : World) (hn : n < 0) :
    Calls Tryd.prog 39 #[.int .i64 n] w fun e w' => e = .returned (.string ⟨(Lib.decDigits 0).toArray⟩) ∧ Below w.heap.size w w' := by
  have hcv := conv_one
  go_enter Tryd.func39, Tryd.ntmps39
  go_wp2
  go_loopw [0, 3] (fun n v wr => n = .int .i64 0 ∧ v = .string ⟨#[48]⟩ ∧ Below w.heap.size w wr) (fun n _ _ => (intOf n).toNat)
  case atStart => exact ⟨rfl, rfl, (Below.refl _ _).alloc (Nat.le_refl _) _⟩
  case round =>
    obtain ⟨rfl, rfl, hbe⟩ := hrel
    go_wp2
    go_ret
    exact ⟨ret_str (l := [48]) (by rw [decDigits_ahead]; rfl), hbe⟩

theorem specNumText_any (n : Int) (w : World) (hn : n ≤ 9223372036854775807) :
    Calls Tryd.prog 39 #[.int .i64 n] w fun e w' => e = .returned (.string ⟨(Lib.decDigits n.toNat).toArray⟩) ∧ Below w.heap.size w w' := by
  by_cases h : n < 0
  · have e : n.toNat = 0 := by omega
    rw [e]; exact specNumText_neg n w h
  · obtain ⟨m, rfl⟩ := Int.eq_ofNat_of_zero_le (by omega : 0 ≤ n)
    rw [Int.toNat_natCast]
    exact specNumText_pos m w (by omega)
end Go.Proofs.YtkhnkockdfmkgaaDoor
namespace Go.Proofs.YtkhnkockdfmkgaaDoor
open Go.RowKit
set_option linter.unusedVariables false

/-- Stores into a row that is frozen behind its end alone. -/
theorem storeCells_behind (P : Program) (g o : Nat) (t : TypeId) (fz : Nat × Nat) : ∀ (vs : List Value) (i : Nat) (cur : Array Value) (w : World), w.heap[g]? = some (.cells cur t fz) → (fz.2 = 0 ∨ cur.size ≤ fz.1) → o + i + vs.length ≤ cur.size → (∀ v ∈ vs, v.oneCell' = true) →
    (storeCells ⟨g, o, none⟩ vs i).run P w = .ok () (w.setRow g (cur.toList.take (o + i) ++ vs ++ cur.toList.drop (o + i + vs.length)).toArray) := by
  intro vs
  induction vs with
  | nil =>
    intro i cur w hg _ _ _
    simp only [storeCells, List.append_nil, List.length_nil, Nat.add_zero, List.take_append_drop, Array.toArray_toList]
    rw [setRow_self w g cur t fz hg]
    rfl
  | cons v rest ih =>
    intro i cur w hg hfz hl h1
    have hi : o + i < cur.size := by simp at hl; omega
    have hadd : (⟨g, o, none⟩ : Addr).add i = ⟨g, o + i, none⟩ := by unfold Addr.add; split <;> simp_all
    have hcell : w.cell? ⟨g, o + i, none⟩ = some cur[o + i] := by simp [World.cell?, hg, hi]
    have hfro : w.frozen? ⟨g, o + i, none⟩ = false := by
      obtain ⟨lo, hi'⟩ := fz
      simp only [World.frozen?, hg, Bool.and_eq_false_iff, decide_eq_false_iff_not]
      simp only at hfz
      omega
    have hst : (store ((⟨g, o, none⟩ : Addr).add i) v).run P w = .ok () (w.setRow g (cur.setIfInBounds (o + i) v)) := by
      rw [hadd, run_store P w _ v _ (h1 v (by simp)), hcell]
      simp [hfro, setCell_eq_setRow w g (o + i) cur t fz v hg]
    have ih2 := ih (i + 1) (cur.setIfInBounds (o + i) v) (w.setRow g (cur.setIfInBounds (o + i) v)) (setRow_heap w g cur _ t _ hg) (by simpa using hfz) (by simp at hl ⊢; omega) (fun x hx => h1 x (by simp [hx]))
    simp only [storeCells, Sem.run_bind, hst, Result.andThen_ok, ih2, setRow_setRow]
    congr 3
    have e := list_seg_step cur.toList (o + i) v rest (by simp at hl ⊢; omega)
    simpa [Array.toList_setIfInBounds, Nat.add_assoc] using e

/-- The slice v holds the bytes l, in a row of the call's own, from B on. -/
def OwnY (w : World) (B : Nat) (v : Value) (l : List UInt8) : Prop :=
  ∃ g cap cur fz, v = .slice (some ⟨g, 0, none⟩) l.length cap ∧ B ≤ g ∧ w.heap[g]? = some (.cells cur 5 fz) ∧ (fz.2 = 0 ∨ cur.size ≤ fz.1) ∧ l.length ≤ cap ∧ cap ≤ maxLen ∧ cur.size = cap ∧ cur.toList.take l.length = Lib.byteCells l

theorem OwnY.byt {w : World} {B : Nat} {v : Value} {l : List UInt8} (h : OwnY w B v l) : ∃ g c, v = .slice (some ⟨g, 0, none⟩) l.length c ∧ B ≤ g ∧ g < w.heap.size ∧ l.length ≤ c ∧ c ≤ maxLen ∧ Byt w w.heap.size (some ⟨g, 0, none⟩) l := by
  obtain ⟨g, cap, cur, fz, hv, hB, hg, _, h1, h2, h3, h4⟩ := h
  have hlt : g < w.heap.size := (Array.getElem?_eq_some_iff.1 hg).1
  refine ⟨g, cap, hv, hB, hlt, h1, h2, fun _ => ⟨g, 0, rfl, hlt, fun j hj => ?_⟩⟩
  rw [Nat.zero_add]
  have hx : cur.toList[j]? = some (.int .u8 l[j].toNat) := by
    have e : (cur.toList.take l.length)[j]? = cur.toList[j]? := by rw [List.getElem?_take, if_pos hj]
    rw [← e, h4]
    simp [Lib.byteCells, List.getElem?_eq_getElem hj]
  simp [World.cell?, hg]
  simpa using hx
theorem OwnY.next {w w' : World} {B : Nat} {v : Value} {l : List UInt8} (h : OwnY w B v l) (hb : Below w.heap.size w w') : OwnY w' B v l := by
  obtain ⟨g, cap, cur, fz, hv, hB, hg, hr⟩ := h
  exact ⟨g, cap, cur, fz, hv, hB, (hb.block g (Array.getElem?_eq_some_iff.1 hg).1).trans hg, hr⟩
theorem OwnY.base {w : World} {B C : Nat} {v : Value} {l : List UInt8} (h : OwnY w B v l) (hC : C ≤ B) : OwnY w C v l := by
  obtain ⟨g, cap, cur, fz, hv, hB, hr⟩ := h
  exact ⟨g, cap, cur, fz, hv, Nat.le_trans hC hB, hr⟩

theorem infoU8 : (Tryd.prog.info? 5).map (fun i => (i.zero, i.size, i.bytes)) = some (some (.int .u8 0), 1, 1) := by kernel_rfl

theorem strCells_byte (s : ByteArray) : Lib.strCells s = Lib.byteCells s.data.toList := rfl

/-- 'append(b, s...)' of a text. -/
theorem run_append_text (w : World) (B : Nat) (v : Value) (l : List UInt8) (ty : TypeId) (h : OwnY w B v l) (s : ByteArray) (hs : l.length + s.size ≤ 4398046511104) (hB : B ≤ w.heap.size) :
    ∃ v' w', (Builtin.append_ #[22, 9] ty #[v, .string s]).run Tryd.prog w = .ok v' w' ∧ OwnY w' B v' (l ++ s.data.toList) ∧ w.grownBy w' v.ownBlock ∧ (v'.ownBlock = v.ownBlock ∨ v'.ownBlock = some w.heap.size) := by
  obtain ⟨i0, hi, hz0, hz1, hz2⟩ := info_parts infoU8
  obtain ⟨g, cap, cur, fz, rfl, hBg, hg, hfz, hn, hcm, hcs, htake⟩ := h
  have hlen : (l ++ s.data.toList).length = l.length + s.size := by rw [List.length_append]; congr 1
  have hgl : g < w.heap.size := (Array.getElem?_eq_some_iff.1 hg).1
  by_cases hroom : l.length + s.size ≤ cap
  · have hf := Lib.run_firstCells_string (P := Tryd.prog) w 1 s
    have hst := storeCells_behind Tryd.prog g l.length 5 fz (Lib.strCells s) 0 cur w hg hfz (by rw [Lib.strCells_length]; omega) (Lib.strCells_oneCell s)
    simp only [Nat.add_zero, Lib.strCells_length] at hst
    refine ⟨.slice (some ⟨g, 0, none⟩) (l.length + s.size) cap, w.setRow g (cur.toList.take l.length ++ Lib.strCells s ++ cur.toList.drop (l.length + s.size)).toArray, ?_, ?_, ?_⟩
    · simp [Builtin.append_, run_underlying Tryd.underlying22, run_underlying Tryd.underlying9, sizeOf, typeInfo, hi, hz1, Builtin.lenOf, hroom, hf, Addr.add_lit, hst]
    · refine ⟨g, cap, _, fz, by rw [hlen], hBg, setRow_heap w g cur _ 5 _ hg, ?_, by omega, hcm, ?_, ?_⟩
      · rcases hfz with hfz | hfz
        · exact .inl hfz
        · right
          simp only [List.size_toArray, List.length_append, List.length_take, List.length_drop, Array.length_toList, Lib.strCells_length]
          omega
      · simp only [List.size_toArray, List.length_append, List.length_take, List.length_drop, Array.length_toList, Lib.strCells_length]
        omega
      · rw [htake, strCells_byte, Lib.byteCells_append]
        have : (l ++ s.data.toList).length = (Lib.byteCells l ++ Lib.byteCells s.data.toList).length := by rw [List.length_append, List.length_append, Lib.byteCells_length, Lib.byteCells_length]
        rw [this]
        exact List.take_left
    · exact ⟨⟨rfl, rfl, rfl, by simp, fun k _ hk => setRow_other w g k _ (fun e => hk (by simp [Value.ownBlock, e]))⟩, .inl rfl⟩
  · have holds : ∀ j u, (Lib.byteCells l)[j]? = some u → w.cell? ((⟨g, 0, none⟩ : Addr).add j) = some u := by
      intro j u hu
      have hadd : (⟨g, 0, none⟩ : Addr).add j = ⟨g, j, none⟩ := by unfold Addr.add; split <;> simp_all
      rw [hadd, ← htake] at *
      rw [List.getElem?_take] at hu
      split at hu
      · simp [World.cell?, hg]; simpa using hu
      · cases hu
    have hr := Lib.run_append_grow_string (P := Tryd.prog) w 22 9 ty 5 i0 (.int .u8 0) Tryd.underlying22 Tryd.underlying9 hi hz0 ⟨g, 0, none⟩ l.length cap (Lib.byteCells l) (by rw [hz1, Lib.byteCells_length, Nat.mul_one]) holds s (by omega) (by omega) (by rw [hz2]; exact growslice_fits (by omega) (by omega))
    have hge := grownCap_ge w (l.length + s.size) cap 5
    have hcm2 : grownCap w (l.length + s.size) cap 5 ≤ maxLen := grownCap_le_maxLen w (l.length + s.size) cap 5 (by unfold maxLen; omega)
    refine ⟨_, _, hr, ⟨w.heap.size, _, _, (0, 0), by rw [hlen], hB, heap_alloc_new w.drew _, .inl rfl, by omega, hcm2, ?_, ?_⟩, ⟨rfl, rfl, rfl, by simp, fun k hk _ => ((Below.refl w.drew.heap.size w.drew).alloc (Nat.le_refl _) _).block k (by show k < w.heap.size; omega)⟩, .inr rfl⟩
    · have hz1' : (Value.int IntKind.u8 0).cells.size = 1 := rfl
      simp only [Array.size_append, List.size_toArray, size_zeroCells, hz1', Lib.byteCells_length, Lib.strCells_length]
      omega
    · simp only [Array.toList_append, List.append_assoc]
      rw [← List.append_assoc, strCells_byte, ← Lib.byteCells_append]
      have : (l ++ s.data.toList).length = (Lib.byteCells (l ++ s.data.toList)).length := by rw [Lib.byteCells_length]
      rw [this]
      exact List.take_left

theorem wp_append_text {w : World} {ops : Array Oper} {rest : List Oper} {o : Oper} {a : Act} {Q : Exit → Act → World → Prop} (hgd : o.guard = none) (sl x : Operand)
    (ho : o.op = .call { callee := .builtin .append, args := #[sl, x], argTypes := #[22, 9] })
    (B : Nat) (v : Value) (l : List UInt8) (hs : a.eval sl = v) (hown : OwnY w B v l) (s : ByteArray) (hx : a.eval x = .string s) (hlen : l.length + s.size ≤ 4398046511104) (hB : B ≤ w.heap.size)
    (h : ∀ v' w', OwnY w' B v' (l ++ s.data.toList) → w.grownBy w' v.ownBlock → (v'.ownBlock = v.ownBlock ∨ v'.ownBlock = some w.heap.size) → wpList Tryd.prog ops Q rest (a.put o.dst v') w') : wpList Tryd.prog ops Q (o :: rest) a w := by
  refine wpList_plain hgd fun K hK => ?_
  obtain ⟨v', w', hr, h2, h3, h4⟩ := run_append_text w B v l o.type hown s hlen hB
  unfold Oper.wp execOp
  simp only [ho, resolve, invoke, builtin, Sem.run_bind, Sem.run_pure, Result.andThen_ok, List.map_toArray, List.map_cons, List.map_nil, hs, hx, hr]
  exact hK _ _ (h v' w' h2 h3 h4)

theorem OwnY.lt {w : World} {B : Nat} {v : Value} {l : List UInt8} (h : OwnY w B v l) : ∀ k, v.ownBlock = some k → B ≤ k ∧ k < w.heap.size := by
  obtain ⟨g, cap, cur, fz, rfl, hB, hg, _⟩ := h
  intro k hk
  simp [Value.ownBlock] at hk
  subst hk
  exact ⟨hB, (Array.getElem?_eq_some_iff.1 hg).1⟩
theorem OwnY.grown {w w' : World} {B : Nat} {v : Value} {l : List UInt8} (h : OwnY w B v l) (hB : B ≤ w.heap.size) (hg : w.grownBy w' v.ownBlock) : Below B w w' :=
  ⟨hg.os, hg.tape, hg.output, hg.size, fun k hk => hg.block k (Nat.lt_of_lt_of_le hk hB) (fun e => by have := h.lt k e.symm; omega)⟩

/-- '[]byte(s)'. -/
theorem OwnY.made (w : World) (s : ByteArray) (hs : s.size ≤ 4398046511104) : OwnY (Lib.bytesWorld w 5 s) w.heap.size (.slice (some ⟨w.heap.size, 0, none⟩) s.size (grownCap w s.size 0 5)) s.data.toList := by
  have hlen : s.data.toList.length = s.size := Array.length_toList
  refine ⟨w.heap.size, grownCap w s.size 0 5, Lib.bytesCells w 5 s, _, by rw [hlen], Nat.le_refl _, Lib.bytesWorld_at_new w 5 s, .inr (Nat.le_refl _), by rw [hlen]; exact grownCap_ge w s.size 0 5, grownCap_le_maxLen w s.size 0 5 (by unfold maxLen; omega), ?_, ?_⟩
  · have hge := grownCap_ge w s.size 0 5
    have : s.data.size = s.size := rfl
    simp only [Lib.bytesCells, Array.size_append, Array.size_map, Array.size_replicate]
    omega
  · have e : (Lib.bytesCells w 5 s).toList = Lib.byteCells s.data.toList ++ List.replicate (grownCap w s.size 0 5 - s.size) (.int .u8 0) := by
      simp [Lib.bytesCells, Lib.byteCells]
    rw [e]
    have : s.data.toList.length = (Lib.byteCells s.data.toList).length := by rw [Lib.byteCells_length]
    rw [this]
    exact List.take_left
/-- '[]byte{}'. -/
theorem OwnY.bare (w : World) : OwnY (w.alloc (Obj.cells #[] 5)) w.heap.size (.slice (some ⟨w.heap.size, 0, none⟩) 0 0) [] :=
  ⟨w.heap.size, 0, #[], (0, 0), rfl, Nat.le_refl _, heap_alloc_new w _, .inl rfl, Nat.le_refl _, Nat.zero_le _, rfl, rfl⟩

end Go.Proofs.YtkhnkockdfmkgaaDoor
namespace Go.Proofs.YtkhnkockdfmkgaaDoor
open Go.RowKit M
set_option linter.unusedVariables false

theorem keep3 {w : World} {N : Nat} {a : Option Addr} {cap : Nat} {r : Rs} (hx : BoxA w N a cap r) :
    w.cell? ⟨N, 0, none⟩ = some (.int .i64 r.c) ∧ w.cell? ⟨N, 1, none⟩ = some (.slice a r.hs.length cap) ∧ w.cell? ⟨N, 2, none⟩ = some (.string r.b) := by
  obtain ⟨_, h1, h2, h3⟩ := hx
  exact ⟨h1, h2, h3⟩
set_option maxRecDepth 100000 in
theorem frontA_len {r : Rs} (h : codeB r.c = true) (hb : r.b.size ≤ 1048576) : (frontA r).length ≤ sumH r.hs + 4 * r.hs.length + 200 := by
  have h1 := (topA_len h).1
  have h2 := dec_len r.b.size hb
  have h3 : (bytesOf (Lib.decDigits r.b.size)).size = (Lib.decDigits r.b.size).length := bytesOf_size _
  have h4 : lenName.size = 14 := rfl
  unfold frontA linesTxt
  simp only [List.length_append, hdsTxt_len, h1, crlf, List.length_cons, List.length_nil, sumH, szH, lenH, List.map_cons, List.map_nil, List.sum_cons, List.sum_nil]
  omega

set_option maxRecDepth 100000 in
set_option maxHeartbeats 4000000 in
theorem specPutRespO_any (a : Option Addr) (r : Rs) (cap B : Nat) (w : World) (h : Hds w B a r.hs) (hB : B ≤ w.heap.size) (hsh : ShortA r) (hl : r.hs.length ≤ 1048576) (hsum : sumH r.hs ≤ 1048576) (h4 : r.b.size ≤ 1048576) :
    Calls Tryd.prog 19 #[.agg #[.int .i64 r.c, .slice a r.hs.length cap, .string r.b]] w fun e w' => (∃ v, e = .returned v ∧ OwnY w' w.heap.size v (putA r)) ∧ Below w.heap.size w w' := by
  have HB0 : Hid (Below w.heap.size w (w.alloc (Obj.cells #[Value.int .i64 r.c, Value.slice a r.hs.length cap, Value.string r.b] 26))) := (Below.refl _ _).alloc (Nat.le_refl _) _
  have HX0 := hide (BoxA.made w a cap r 26)
  have HH := hide h
  have HOk := hide (specRespOk_any a r cap B _ (h.below HB0.out hB) (Nat.le_trans hB HB0.out.size) hsh)
  clear h
  cases hr : respB r
  · have HE : Hid (putA r = []) := hide (putA_no hr)
    rw [hr] at HOk
    go_enter Tryd.func19, Tryd.ntmps19
    go_wp2_with fail
    refine HOk.out.mono ?_
    rintro e w1 ⟨rfl, b1⟩
    have c1 := HB0.out.trans (b1.mono HB0.out.size)
    go_wp2
    go_ret
    rw [HE.out]
    exact ⟨⟨_, rfl, (OwnY.bare w1).base c1.size⟩, c1.alloc c1.size _⟩
  · have hcd := (resp_hds hr).1
    obtain ⟨hc0, hc1, hc2⟩ := dec3 hcd
    have HN1 := hide (fun W => specNumText_any r.c W (by omega))
    have HN2 := hide (fun W => specNumText_any (r.b.size : Int) W (by omega))
    simp only [Int.toNat_natCast] at HN2
    obtain ⟨d1, hd1⟩ : ∃ d, (⟨(Lib.decDigits r.c.toNat).toArray⟩ : ByteArray) = d := ⟨_, rfl⟩
    obtain ⟨d2, hd2⟩ : ∃ d, (⟨(Lib.decDigits r.b.size).toArray⟩ : ByteArray) = d := ⟨_, rfl⟩
    obtain ⟨t, ht⟩ : ∃ t, bytesOf (hdsTxt r.hs) = t := ⟨_, rfl⟩
    have hz1 : d1.size ≤ 20 := by rw [← hd1]; exact dec_len _ (by omega)
    have hz2 : d2.size ≤ 20 := by rw [← hd2]; exact dec_len _ h4
    have htz : t.size ≤ 8388608 := by rw [← ht, bytesOf_size, hdsTxt_len]; omega
    rw [hd1] at HN1
    rw [hd2] at HN2
    have hT : ∀ W, Below w.heap.size w W → Calls Tryd.prog 40 #[.slice a r.hs.length cap] W fun e w' => e = .returned (.string t) ∧ Below W.heap.size W w' := by
      intro W hc
      refine (l3HeadsText_any a r.hs cap B W (HH.out.below hc hB) hl hsum).mono ?_
      rintro e w' ⟨rfl, n, rfl⟩
      rw [ht]
      exact ⟨rfl, below_drewN (Below.refl _ _) n⟩
    have HT := hide hT
    clear hT
    obtain ⟨sx, hsx⟩ : ∃ sx, (⟨#[72, 84, 84, 80, 47, 49, 46, 49, 32]⟩ : ByteArray) ++ d1 ++ ⟨#[13, 10]⟩ ++ t ++ ⟨#[99, 111, 110, 116, 101, 110, 116, 45, 108, 101, 110, 103, 116, 104, 58, 32]⟩ ++ d2 ++ ⟨#[13, 10]⟩ ++ ⟨#[13, 10]⟩ ++ r.b = sx := ⟨_, rfl⟩
    have HSX : Hid (putA r = sx.data.toList) := hide (by
      rw [putA_of hr, ← hsx, ← hd1, ← hd2, ← ht]
      simp [frontA, linesTxt, topA, proto, crlf, bytesOf, hdsTxt, hdTxt, lenH, lenName])
    have hsz : sx.size ≤ 67108864 := by
      rw [← hsx]
      simp only [ByteArray.size_append]
      have e1 : (⟨#[72, 84, 84, 80, 47, 49, 46, 49, 32]⟩ : ByteArray).size = 9 := rfl
      have e2 : (⟨#[13, 10]⟩ : ByteArray).size = 2 := rfl
      have e3 : (⟨#[99, 111, 110, 116, 101, 110, 116, 45, 108, 101, 110, 103, 116, 104, 58, 32]⟩ : ByteArray).size = 16 := rfl
      omega
    have HSx := hide hsx
    have hcv := fun (W : World) => Lib.run_convert_string_bytes (P := Tryd.prog) W 9 22 5 ((⟨#[72, 84, 84, 80, 47, 49, 46, 49, 32]⟩ : ByteArray) ++ d1 ++ ⟨#[13, 10]⟩ ++ t ++ ⟨#[99, 111, 110, 116, 101, 110, 116, 45, 108, 101, 110, 103, 116, 104, 58, 32]⟩ ++ d2 ++ ⟨#[13, 10]⟩ ++ ⟨#[13, 10]⟩ ++ r.b) Tryd.underlying9 Tryd.underlying22 Tryd.underlying5
    have HFin : Hid (∀ W, Below w.heap.size w W → (∃ v, Ending.returned (.slice (some ⟨W.heap.size, 0, none⟩) (9 + d1.size + 2 + t.size + 16 + d2.size + 2 + 2 + r.b.size) (grownCap W (9 + d1.size + 2 + t.size + 16 + d2.size + 2 + 2 + r.b.size) 0 5)) = .returned v ∧ OwnY (Lib.bytesWorld W 5 ((⟨#[72, 84, 84, 80, 47, 49, 46, 49, 32]⟩ : ByteArray) ++ d1 ++ ⟨#[13, 10]⟩ ++ t ++ ⟨#[99, 111, 110, 116, 101, 110, 116, 45, 108, 101, 110, 103, 116, 104, 58, 32]⟩ ++ d2 ++ ⟨#[13, 10]⟩ ++ ⟨#[13, 10]⟩ ++ r.b)) w.heap.size v (putA r)) ∧ Below w.heap.size w (Lib.bytesWorld W 5 ((⟨#[72, 84, 84, 80, 47, 49, 46, 49, 32]⟩ : ByteArray) ++ d1 ++ ⟨#[13, 10]⟩ ++ t ++ ⟨#[99, 111, 110, 116, 101, 110, 116, 45, 108, 101, 110, 103, 116, 104, 58, 32]⟩ ++ d2 ++ ⟨#[13, 10]⟩ ++ ⟨#[13, 10]⟩ ++ r.b))) := hide (by
      intro W hW
      have hN : (9 + d1.size + 2 + t.size + 16 + d2.size + 2 + 2 + r.b.size) = sx.size := by
        rw [← hsx]
        simp only [ByteArray.size_append]
        rfl
      rw [HSX.out, hsx, hN]
      exact ⟨⟨_, rfl, (OwnY.made W sx (by omega)).base hW.size⟩, hW.trans ((below_bytesP W sx).mono hW.size)⟩)
    rw [hr] at HOk
    have hq1 : ¬ (9223372036854775807 < 9 + d1.size) := by omega
    have hq2 : ¬ (9223372036854775807 < 9 + d1.size + 2) := by omega
    have hq3 : ¬ (9223372036854775807 < 9 + d1.size + 2 + t.size) := by omega
    have hq4 : ¬ (9223372036854775807 < 9 + d1.size + 2 + t.size + 16) := by omega
    have hq5 : ¬ (9223372036854775807 < 9 + d1.size + 2 + t.size + 16 + d2.size) := by omega
    have hq6 : ¬ (9223372036854775807 < 9 + d1.size + 2 + t.size + 16 + d2.size + 2) := by omega
    have hq7 : ¬ (9223372036854775807 < 9 + d1.size + 2 + t.size + 16 + d2.size + 2 + 2) := by omega
    have hq8 : ¬ (9223372036854775807 < 9 + d1.size + 2 + t.size + 16 + d2.size + 2 + 2 + r.b.size) := by omega
    clear hd1 hd2 ht hc0 hc1 hc2 hcd hsx
    go_enter Tryd.func19, Tryd.ntmps19
    go_wp2_with fail
    refine HOk.out.mono ?_
    rintro e w1 ⟨rfl, b1⟩
    have c1 := HB0.out.trans (b1.mono HB0.out.size)
    have BX1 := hide (HX0.out.next b1)
    have Cur := hide (below_drew c1)
    have BXc := hide BX1.out.drew
    clear HOk b1 c1 BX1 HX0
    go_wp2
    refine wp_region_held_drew (S := (fun W => W.cell? ⟨w.heap.size, 0, none⟩ = some (.int .i64 r.c) ∧ W.cell? ⟨w.heap.size, 1, none⟩ = some (.slice a r.hs.length cap) ∧ W.cell? ⟨w.heap.size, 2, none⟩ = some (.string r.b))) (by kernel_rfl) (keep3 BXc.out) (fun hHeld => ?_)
    refine wpAnyH_take (i := 0) (v := ?_) rfl (by kernel_rfl) (by kernel_rfl) (by kernel_rfl) (fun _ _ _ h => h) (Or.inl ⟨by rfl, ?_⟩) (by assumption) ?_
    rotate_left
    · intro w hSw; (try dsimp only at hSw); go_simp; try with_reducible rfl
    refine wpAnyH_take (i := 1) (v := ?_) rfl (by kernel_rfl) (by kernel_rfl) (by kernel_rfl) (fun _ _ _ h => h) (Or.inl ⟨by rfl, ?_⟩) (by assumption) ?_
    rotate_left
    · intro w hSw; (try dsimp only at hSw); go_simp; try with_reducible rfl
    refine wpAnyH_take (i := 5) (v := ?_) rfl (by kernel_rfl) (by kernel_rfl) (by kernel_rfl) (fun _ _ _ h => h) (Or.inl ⟨by rfl, ?_⟩) (by assumption) ?_
    rotate_left
    · intro w hSw; (try dsimp only at hSw); go_simp; try with_reducible rfl
    refine wpAnyH_take (i := 6) (v := ?_) rfl (by kernel_rfl) (by kernel_rfl) (by kernel_rfl) (fun _ _ _ h => h) (Or.inl ⟨by rfl, ?_⟩) (by assumption) ?_
    rotate_left
    · intro w hSw; (try dsimp only at hSw); go_simp; try with_reducible rfl
    refine wpAnyH_take (i := 10) (v := ?_) rfl (by kernel_rfl) (by kernel_rfl) (by kernel_rfl) (fun _ _ _ h => h) (Or.inl ⟨by rfl, ?_⟩) (by assumption) ?_
    rotate_left
    · intro w hSw; (try dsimp only at hSw); go_simp; try with_reducible rfl
    refine wpAnyH_take (i := 11) (v := ?_) rfl (by kernel_rfl) (by kernel_rfl) (by kernel_rfl) (fun _ _ _ h => h) (Or.inl ⟨by rfl, ?_⟩) (by assumption) ?_
    rotate_left
    · intro w hSw; (try dsimp only at hSw); go_simp; try with_reducible rfl
    refine wpAnyH_take (i := 12) (v := ?_) rfl (by kernel_rfl) (by kernel_rfl) (by kernel_rfl) (fun _ _ _ h => h) (Or.inl ⟨by rfl, ?_⟩) (by assumption) ?_
    rotate_left
    · intro w hSw; (try dsimp only at hSw); go_simp; try with_reducible rfl
    refine wpAnyH_take (i := 17) (v := ?_) rfl (by kernel_rfl) (by kernel_rfl) (by kernel_rfl) (fun _ _ _ h => h) (Or.inl ⟨by rfl, ?_⟩) (by assumption) ?_
    rotate_left
    · intro w hSw; (try dsimp only at hSw); go_simp; try with_reducible rfl
    refine wpAnyH_take (i := 18) (v := ?_) rfl (by kernel_rfl) (by kernel_rfl) (by kernel_rfl) (fun _ _ _ h => h) (Or.inl ⟨by rfl, ?_⟩) (by assumption) ?_
    rotate_left
    · intro w hSw; (try dsimp only at hSw); go_simp; try with_reducible rfl
    refine wpAnyH_ready (rs := [2]) (by kernel_rfl) (by simp) ?_
    refine AllReadyH.cons rfl (fun K hK => ?_) AllReadyH.nil
    go_simp
    refine (HN1.out _).mono ?_
    rintro e wn ⟨rfl, bn⟩
    replace BXc := hide (BXc.out.next bn)
    replace Cur := hide (Cur.out.trans (bn.mono Cur.out.size))
    refine hK.out _ _ (keep3 BXc.out) (fun hHeld2 => ?_)
    clear hK K hHeld bn
    have hHeld := hHeld2
    clear hHeld2
    refine wpAnyH_take (i := 3) (v := ?_) rfl (by kernel_rfl) (by kernel_rfl) (by kernel_rfl) (fun _ _ _ h => h) (Or.inl ⟨by rfl, ?_⟩) (by assumption) ?_
    rotate_left
    · intro w hSw; (try dsimp only at hSw); go_simp; try with_reducible rfl
    refine wpAnyH_take (i := 4) (v := ?_) rfl (by kernel_rfl) (by kernel_rfl) (by kernel_rfl) (fun _ _ _ h => h) (Or.inl ⟨by rfl, ?_⟩) (by assumption) ?_
    rotate_left
    · intro w hSw; (try dsimp only at hSw); go_simp; try with_reducible rfl
    refine wpAnyH_ready (rs := [7]) (by kernel_rfl) (by simp) ?_
    refine AllReadyH.cons rfl (fun K hK => ?_) AllReadyH.nil
    go_simp
    refine (HT.out _ Cur.out).mono ?_
    rintro e wn ⟨rfl, bn⟩
    replace BXc := hide (BXc.out.next bn)
    replace Cur := hide (Cur.out.trans (bn.mono Cur.out.size))
    refine hK.out _ _ (keep3 BXc.out) (fun hHeld2 => ?_)
    clear hK K hHeld bn
    have hHeld := hHeld2
    clear hHeld2
    refine wpAnyH_take (i := 8) (v := ?_) rfl (by kernel_rfl) (by kernel_rfl) (by kernel_rfl) (fun _ _ _ h => h) (Or.inl ⟨by rfl, ?_⟩) (by assumption) ?_
    rotate_left
    · intro w hSw; (try dsimp only at hSw); go_simp; try with_reducible rfl
    refine wpAnyH_take (i := 9) (v := ?_) rfl (by kernel_rfl) (by kernel_rfl) (by kernel_rfl) (fun _ _ _ h => h) (Or.inl ⟨by rfl, ?_⟩) (by assumption) ?_
    rotate_left
    · intro w hSw; (try dsimp only at hSw); go_simp; try with_reducible rfl
    refine wpAnyH_ready (rs := [13]) (by kernel_rfl) (by simp) ?_
    refine AllReadyH.cons rfl (fun K hK => ?_) AllReadyH.nil
    go_simp
    refine (HN2.out _).mono ?_
    rintro e wn ⟨rfl, bn⟩
    replace BXc := hide (BXc.out.next bn)
    replace Cur := hide (Cur.out.trans (bn.mono Cur.out.size))
    refine hK.out _ _ (keep3 BXc.out) (fun hHeld2 => ?_)
    clear hK K hHeld bn
    have hHeld := hHeld2
    clear hHeld2
    refine wpAnyH_take (i := 14) (v := ?_) rfl (by kernel_rfl) (by kernel_rfl) (by kernel_rfl) (fun _ _ _ h => h) (Or.inl ⟨by rfl, ?_⟩) (by assumption) ?_
    rotate_left
    · intro w hSw; (try dsimp only at hSw); go_simp; try with_reducible rfl
    refine wpAnyH_take (i := 15) (v := ?_) rfl (by kernel_rfl) (by kernel_rfl) (by kernel_rfl) (fun _ _ _ h => h) (Or.inl ⟨by rfl, ?_⟩) (by assumption) ?_
    rotate_left
    · intro w hSw; (try dsimp only at hSw); go_simp; try with_reducible rfl
    refine wpAnyH_take (i := 16) (v := ?_) rfl (by kernel_rfl) (by kernel_rfl) (by kernel_rfl) (fun _ _ _ h => h) (Or.inl ⟨by rfl, ?_⟩) (by assumption) ?_
    rotate_left
    · intro w hSw; (try dsimp only at hSw); go_simp; try with_reducible rfl
    refine wpAnyH_take (i := 19) (v := ?_) rfl (by kernel_rfl) (by kernel_rfl) (by kernel_rfl) (fun _ _ _ h => h) (Or.inl ⟨by rfl, ?_⟩) (by assumption) ?_
    rotate_left
    · intro w hSw; (try dsimp only at hSw); go_simp; try with_reducible rfl
    refine wpAnyH_ready (rs := [20]) (by kernel_rfl) (by simp) ?_
    refine AllReadyH.cons rfl (fun K hK => ?_) AllReadyH.nil
    go_simp
    refine hK.out _ _ (keep3 (BXc.out.next (below_bytesP _ _))) (fun hHeld2 => ?_)
    clear hK K
    refine wpAnyH_take (i := 21) (v := ?_) rfl (by kernel_rfl) (by kernel_rfl) (by kernel_rfl) (fun _ _ _ h => h) (Or.inl ⟨by rfl, ?_⟩) (by assumption) ?_
    rotate_left
    · intro w hSw; (try dsimp only at hSw); go_simp; try with_reducible rfl
    refine wpAnyH_done (by kernel_rfl) ?_ _
    go_wp2
    go_ret
    exact HFin.out wn Cur.out
theorem specPutResp_any (a : Option Addr) (r : Rs) (cap B : Nat) (w : World) (h : Hds w B a r.hs) (hB : B ≤ w.heap.size) (hsh : ShortA r) (hl : r.hs.length ≤ 1048576) (hsum : sumH r.hs ≤ 1048576) (h4 : r.b.size ≤ 1048576) :
    Calls Tryd.prog 19 #[.agg #[.int .i64 r.c, .slice a r.hs.length cap, .string r.b]] w fun e w' => (∃ (g c : Nat), e = .returned (.slice (some ⟨g, 0, none⟩) (putA r).length c) ∧ Byt w' w'.heap.size (some ⟨g, 0, none⟩) (putA r) ∧ (putA r).length ≤ c ∧ c ≤ maxLen) ∧ Below w.heap.size w w' := by
  refine (specPutRespO_any a r cap B w h hB hsh hl hsum h4).mono ?_
  rintro e w1 ⟨⟨v, rfl, ho⟩, hb⟩
  obtain ⟨g, c, rfl, _, _, h1, h2, h3⟩ := ho.byt
  exact ⟨⟨g, c, rfl, h3, h1, h2⟩, hb⟩
end Go.Proofs.YtkhnkockdfmkgaaDoor
namespace Go.Proofs.YtkhnkockdfmkgaaDoor
open Go.RowKit M
set_option linter.unusedVariables false

/-- A part of the bytes that came in: its address, its length, its room. -/
def Rst (w : World) (B : Nat) (v : Value) (t : List UInt8) : Prop := ∃ (a : Option Addr) (c : Nat), v = .slice a t.length c ∧ Byt w B a t ∧ t.length ≤ c ∧ c ≤ maxLen ∧ (a = none → c = 0) ∧ (∀ x, a = some x → x.spot = none)
theorem Rst.below {w w' : World} {B C : Nat} {v : Value} {t : List UInt8} (h : Rst w B v t) (hb : Below C w w') (hB : B ≤ C) : Rst w' B v t := by
  obtain ⟨a, c, rfl, h1, h2⟩ := h
  exact ⟨a, c, rfl, h1.below hb hB, h2⟩

theorem bytesIn_of {w : World} {B : Nat} {a : Option Addr} {t : List UInt8} (h : Byt w B a t) : Lib.BytesIn w a t.length (numsOf t) := fun h0 => by
  obtain ⟨b, o, e, _, hc⟩ := h h0
  exact ⟨b, o, e, fun i hi => by rw [hc i hi]; simp [numsOf, List.getD, List.getElem?_eq_getElem hi]⟩
/-- What wordAhead hands back, of a text that is cut so. -/
def WordIs (w : World) (B : Nat) (r : Option (List UInt8 × List UInt8)) (word : ByteArray) (v : Value) (ok : Bool) : Prop :=
  match r with
  | none => ok = false ∧ v = .slice none 0 0
  | some (a, b) => ok = true ∧ word = bytesOf a ∧ Rst w B v b

set_option maxRecDepth 100000 in
set_option maxHeartbeats 2000000 in
theorem wordAhead_any (v : Value) (t : List UInt8) (sep : ByteArray) (B : Nat) (m : Int) (w : World) (h : Rst w B v t) (hB : B ≤ w.heap.size) (ht : t.length ≤ 1073741824) (hs : sep.size ≤ 16) (hs0 : 0 < sep.size) (h0 : 0 < w.heap.size) (hmx : w.cell? ⟨0, 0, none⟩ = some (.int .i64 m)) :
    Calls Tryd.prog 44 #[v, .string sep] w fun e w' => (∃ (word : ByteArray) (v' : Value) (ok : Bool), e = .returned (.tuple #[.string word, v', .bool ok]) ∧ WordIs w' B (cutS sep.data.toList t) word v' ok ∧ word.size ≤ t.length) ∧ Below w.heap.size w w' := by
  obtain ⟨a, c, rfl, hy, hc1, hc2, hc3, hc4⟩ := h
  have hcv := Lib.run_convert_string_bytes (P := Tryd.prog) w 9 22 5 sep Tryd.underlying9 Tryd.underlying22 Tryd.underlying5
  have hbw : Below w.heap.size w (Lib.bytesWorld w 5 sep) := ⟨rfl, rfl, rfl, by rw [Lib.bytesWorld_size]; omega, fun k hk => Lib.bytesWorld_at_old w 5 sep k hk⟩
  have hys : Byt (Lib.bytesWorld w 5 sep) (w.heap.size + 1) (some ⟨w.heap.size, 0, none⟩) sep.data.toList := fun _ =>
    ⟨w.heap.size, 0, rfl, Nat.lt_succ_self _, fun j hj => by
      have e : sep.data.toList.length = sep.size := Array.length_toList
      rw [Nat.zero_add, Lib.bytesWorld_cell w 5 sep j (by omega)]
      simp [List.getD, List.getElem?_eq_getElem hj]⟩
  have hy1 := hy.below hbw hB
  have es : sep.data.toList.length = sep.size := Array.length_toList
  have hin2 := bytesIn_of hys
  rw [es] at hin2
  have hC := Tryd.bytes_Cut_all a (some ⟨w.heap.size, 0, none⟩) t.length c sep.size (grownCap w sep.size 0 5) (numsOf t) (numsOf sep.data.toList) m (Lib.bytesWorld w 5 sep) (numsOf_length _) (by rw [numsOf_length, es]) (numsOf_range _) (numsOf_range _) (bytesIn_of hy1) hin2 hc3 hc1 (by omega) (by omega) ((hbw.cell (p := ⟨0, 0, none⟩) h0).trans hmx)
  rw [numsOf_bytes, numsOf_bytes] at hC
  have HC := hide hC
  have HY1 := hide hy1
  have HBW := hide hbw
  clear hC hmx h0 hy hys hin2 hy1 hbw
  unfold maxLen at hc2
  unfold Lib.cutV at HC
  by_cases hi : 0 ≤ Lib.index t sep.data.toList
  · have hr := Lib.index_room t sep.data.toList hi
    obtain ⟨i, hie⟩ := Int.eq_ofNat_of_zero_le hi
    have hcut : Hid (cutS sep.data.toList t = some (t.take i, t.drop (i + sep.size))) := by
      show cutS _ t = _
      unfold cutS
      rw [if_pos hi, hie, es]
      rfl
    rw [if_pos hi, hie] at HC
    rw [hie, es] at hr
    have hil : i + sep.size ≤ t.length := by omega
    obtain ⟨b, o, ha, hb, hcc⟩ := HY1.out (by omega)
    subst ha
    clear hcc hi hie hr
    rw [show ((i : Int).toNat) = i from Int.toNat_natCast i] at HC
    have hfrom : Lib.fromV (some ⟨b, o, none⟩) t.length c (i + sep.size) = .slice (if c = i + sep.size then some ⟨b, o, none⟩ else some ⟨b, o + (i + sep.size), none⟩) (t.length - (i + sep.size)) (c - (i + sep.size)) := by
      unfold Lib.fromV
      have hadd : (⟨b, o, none⟩ : Addr).add (i + sep.size) = ⟨b, o + (i + sep.size), none⟩ := by unfold Addr.add; split <;> simp_all
      simp [hadd]
    rw [hfrom] at HC
    obtain ⟨v', hv'⟩ : ∃ v', Value.slice (if c = i + sep.size then some (⟨b, o, none⟩ : Addr) else some ⟨b, o + (i + sep.size), none⟩) (t.length - (i + sep.size)) (c - (i + sep.size)) = v' := ⟨_, rfl⟩
    have HR : Hid (∀ W, Below w.heap.size w W → Byt W B (some ⟨b, o, none⟩) t → Rst W B v' (t.drop (i + sep.size))) := fun W _ hyW => by
      refine ⟨_, c - (i + sep.size), by rw [List.length_drop]; exact hv'.symm, ?_, by rw [List.length_drop]; omega, by unfold maxLen; omega, fun e => ?_, fun x e => ?_⟩
      · by_cases hce : c = i + sep.size
        · have : t.drop (i + sep.size) = [] := List.drop_of_length_le (by omega)
          rw [this]; exact Byt.nil _ _ _
        · rw [if_neg hce]; exact hyW.drop (i + sep.size)
      · split at e <;> cases e
      · split at e <;> (cases e; rfl)
    rw [hv'] at HC
    have hshape : ∃ a2 n2 c2, v' = .slice a2 n2 c2 := ⟨_, _, _, hv'.symm⟩
    obtain ⟨a2, n2, c2, rfl⟩ := hshape
    clear hv' hfrom
    go_enter Tryd.func44, Tryd.ntmps44
    go_wp2_with fail
    refine HC.out.mono ?_
    rintro e w1 ⟨rfl, q, rfl⟩
    have B1 : Hid (Below w.heap.size w ((Lib.bytesWorld w 5 sep).drewN q)) := below_drewN HBW.out q
    have Y1 : Hid (Byt ((Lib.bytesWorld w 5 sep).drewN q) B (some ⟨b, o, none⟩) t) := HY1.out
    clear HC hcv HY1 HBW
    generalize (Lib.bytesWorld w 5 sep).drewN q = w1 at *
    have hcw := conv_byt (Y1.out.take i) i c (by rw [List.length_take]; omega)
    go_wp2
    refine bodyPost_ret (v := .tuple #[.string ⟨(t.take i).toArray⟩, .slice a2 n2 c2, .bool true]) (by simp [results, Tryd.results44, go_sem]) rfl ?_
    rw [hcut.out]
    exact ⟨⟨_, _, _, rfl, ⟨rfl, rfl, HR.out w1 B1.out Y1.out⟩, by show (t.take i).toArray.size ≤ _; rw [List.size_toArray, List.length_take]; omega⟩, B1.out⟩
  · have hcut : Hid (cutS sep.data.toList t = none) := by
      show cutS _ t = _
      unfold cutS
      rw [if_neg hi]
    rw [if_neg hi] at HC
    clear hi
    go_enter Tryd.func44, Tryd.ntmps44
    go_wp2_with fail
    refine HC.out.mono ?_
    rintro e w1 ⟨rfl, q, rfl⟩
    have B1 : Hid (Below w.heap.size w ((Lib.bytesWorld w 5 sep).drewN q)) := below_drewN HBW.out q
    have Y1 : Hid (Byt ((Lib.bytesWorld w 5 sep).drewN q) B a t) := HY1.out
    clear HC hcv HY1 HBW
    generalize (Lib.bytesWorld w 5 sep).drewN q = w1 at *
    have hcw := conv_byt Y1.out t.length c rfl
    go_wp2
    refine bodyPost_ret (v := .tuple #[.string ⟨t.toArray⟩, .slice none 0 0, .bool false]) (by simp [results, Tryd.results44, go_sem]) rfl ?_
    rw [hcut.out]
    exact ⟨⟨_, _, _, rfl, ⟨rfl, rfl⟩, by show t.toArray.size ≤ _; rw [List.size_toArray]; omega⟩, B1.out⟩
end Go.Proofs.YtkhnkockdfmkgaaDoor
namespace Go.Proofs.YtkhnkockdfmkgaaDoor
open Go.RowKit M

set_option maxHeartbeats 400000 in
theorem allOf_any (s : ByteArray) (ks : List Int) (n b o cap : Nat) (w : World) (hn : ks.length = n) (hs : s.size ≤ maxLen) (hl : ks.length ≤ maxLen)
    (hc : ∀ i, i < ks.length → w.cell? ⟨b, o + i, none⟩ = some (.int .i64 (ks.getD i 0))) :
    Calls Tryd.prog 56 #[.string s, .slice (some ⟨b, o, none⟩) n cap] w fun e w' => e = .returned (.bool (allB s.data.toList ks)) ∧ w' = w := by
  subst hn
  unfold maxLen at hs
  have HC : Hid (∀ i, i < ks.length → w.cell? ⟨b, o + i, none⟩ = some (.int .i64 (ks.getD i 0))) := hc
  clear hc
  go_enter Tryd.func56, Tryd.ntmps56
  go_wp2
  go_loop [5] (fun i => ∃ k : Nat, k ≤ s.size ∧ i = .int .i64 k ∧ allB (s.data.toList.take k) ks = true) (fun i => s.size - (intOf i).toNat)
  case atStart => exact ⟨0, Nat.zero_le _, rfl, rfl⟩
  case round =>
    obtain ⟨k, hk, rfl, hn⟩ := hrel
    have HN : Hid (allB (s.data.toList.take k) ks = true) := hn; clear hn
    by_cases hlt : k < s.size
    · go_wp2_with (go_at_call 67; refine (isOneOf_any _ ks _ b o cap _ rfl hl HC.out).mono ?_; rintro e w' ⟨rfl, rfl⟩)
      · go_ret
        exact ⟨ret_bool (by rw [allB_not s ks k hlt (by assumption)]), rfl⟩
      · go_round
        case rel => exact ⟨k + 1, by omega, by go_num, allB_snoc s ks k hlt HN.out (by assumption)⟩
        case measure => simp [intOf]; omega
    · go_wp2
      go_ret
      exact ⟨ret_bool (by rw [← HN.out, take_all s k hlt]), rfl⟩
end Go.Proofs.YtkhnkockdfmkgaaDoor
