/-
  An answer that lies in a box of the call's own.
  What the program's codeOk and RespOk do.
  The library's table of powers of ten, as the row lists it; that it stays where only new memory is laid.
  What the program's NumText does.
  A list of one head, and of none.
  What the specification's RespOk does.
-/
import Derived.Test.YtnoijfnpchihoabDoorMathLines
import Derived.Test.YtnoijfnpchihoabDoorMathResp
import Derived.Test.YtnoijfnpchihoabDoorHeadsOk
import Derived.Test.YtnoijfnpchihoabDoorRows
import Derived.Test.YtnoijfnpchihoabDoorShelf
import Derived.WalkKit
import Derived.WalkLawsBesides
import Derived.Lib.AppendIntMem
import Derived.Stop.LaidErr
import Derived.Test.YtnoijfnpchihoabDoorMathNum
import Derived.Test.YtnoijfnpchihoabDoorSpecHds
import Derived.Test.YtnoijfnpchihoabDoorSpecVal
namespace Go.Proofs.YtnoijfnpchihoabDoor
open Go.RowKit M

def ShortA (r : Rs) : Prop := r.b.size ≤ maxLen ∧ r.hs.length ≤ maxLen ∧ ShortH r.hs
/-- Short enough for a copy of each text. -/
def FitA (r : Rs) : Prop := ShortA r ∧ ∀ x ∈ r.hs, x.2.size ≤ 281474976710656
/-- The box N holds this answer. -/
def BoxA (w : World) (N : Nat) (a : Option Addr) (cap : Nat) (r : Rs) : Prop :=
  N < w.heap.size ∧ w.cell? ⟨N, 0, none⟩ = some (.int .i64 r.c) ∧ w.cell? ⟨N, 1, none⟩ = some (.slice a r.hs.length cap) ∧ w.cell? ⟨N, 2, none⟩ = some (.string r.b)
theorem BoxA.below {w w' : World} {N C : Nat} {a : Option Addr} {cap : Nat} {r : Rs} (h : BoxA w N a cap r) (hb : Below C w w') (hC : N < C) : BoxA w' N a cap r := by
  obtain ⟨h0, h1, h2, h3⟩ := h
  exact ⟨Nat.lt_of_lt_of_le h0 hb.size, (hb.cell (p := ⟨N, 0, none⟩) hC).trans h1, (hb.cell (p := ⟨N, 1, none⟩) hC).trans h2, (hb.cell (p := ⟨N, 2, none⟩) hC).trans h3⟩
theorem BoxA.next {w w' : World} {N : Nat} {a : Option Addr} {cap : Nat} {r : Rs} (h : BoxA w N a cap r) (hb : Below w.heap.size w w') : BoxA w' N a cap r := h.below hb h.1
theorem BoxA.made (w : World) (a : Option Addr) (cap : Nat) (r : Rs) (T : TypeId) : BoxA (w.alloc (Obj.cells #[Value.int .i64 r.c, Value.slice a r.hs.length cap, Value.string r.b] T)) w.heap.size a cap r := ⟨by simp, by simp, by simp, by simp⟩
theorem BoxA.alloc {w : World} {N : Nat} {a : Option Addr} {cap : Nat} {r : Rs} (h : BoxA w N a cap r) (o : Obj) : BoxA (w.alloc o) N a cap r := h.next ((Below.refl _ _).alloc (Nat.le_refl _) _)
theorem BoxA.drew {w : World} {N : Nat} {a : Option Addr} {cap : Nat} {r : Rs} (h : BoxA w N a cap r) : BoxA w.drew N a cap r := h
theorem keep6 {w : World} {N M : Nat} {a b : Option Addr} {cap cap' : Nat} {r q : Rs} (hx : BoxA w N a cap r) (hy : BoxA w M b cap' q) :
    w.cell? ⟨N, 0, none⟩ = some (.int .i64 r.c) ∧ w.cell? ⟨N, 1, none⟩ = some (.slice a r.hs.length cap) ∧ w.cell? ⟨N, 2, none⟩ = some (.string r.b) ∧ w.cell? ⟨M, 0, none⟩ = some (.int .i64 q.c) ∧ w.cell? ⟨M, 1, none⟩ = some (.slice b q.hs.length cap') ∧ w.cell? ⟨M, 2, none⟩ = some (.string q.b) := by
  obtain ⟨_, h1, h2, h3⟩ := hx
  obtain ⟨_, g1, g2, g3⟩ := hy
  exact ⟨h1, h2, h3, g1, g2, g3⟩
theorem sameA_c {a b : Rs} (h : ¬ a.c = b.c) : sameA a b = false := by simp [sameA, h]
theorem sameA_h {a b : Rs} (h : sameH a.hs b.hs = false) : sameA a b = false := by simp [sameA, h]
theorem sameA_b {a b : Rs} (h : ¬ a.b = b.b) : sameA a b = false := by simp [sameA, h]
theorem sameA_all {a b : Rs} (h1 : a.c = b.c) (h3 : sameH a.hs b.hs = true) (h4 : a.b = b.b) : sameA a b = true := by simp [sameA, h1, h3, h4]
theorem sameA_refl (a : Rs) : sameA a a = true := by simp [sameA, sameH]
theorem respB_c {r : Rs} (h : codeB r.c = false) : respB r = false := by simp [respB, h]
theorem respB_h {r : Rs} (h : hdsB r.hs = false) : respB r = false := by simp [respB, h]
theorem respB_b {r : Rs} (h1 : codeB r.c = true) (h3 : hdsB r.hs = true) : respB r = decide ((r.b.size : Int) ≤ 400) := by
  by_cases e : r.b.size ≤ 400
  · have e2 : (r.b.size : Int) ≤ 400 := by omega
    simp [respB, h1, h3, e, e2]
  · have e2 : ¬ (r.b.size : Int) ≤ 400 := by omega
    simp [respB, h1, h3, e, e2]
end Go.Proofs.YtnoijfnpchihoabDoor
namespace Go.Proofs.YtnoijfnpchihoabDoor
open Go.RowKit M
set_option linter.unusedVariables false

set_option maxHeartbeats 400000 in
theorem codeOk_any (c : Int) (w : World) : Calls Tryd.prog 60 #[.int .i64 c] w fun e w' => e = .returned (.bool (codeB c)) ∧ w' = w := by
  have HE : Hid (codeB c = (decide (100 ≤ c) && decide (c < 600))) := by
    show codeB c = _
    by_cases h1 : 100 ≤ c
    · by_cases h2 : c < 600
      · have h3 : c ≤ 599 := by omega
        simp [codeB, inB, h1, h2, h3]
      · have h3 : ¬ c ≤ 599 := by omega
        simp [codeB, inB, h1, h2, h3]
    · simp [codeB, inB, h1]
  by_cases h1 : 100 ≤ c
  · go_enter Tryd.func60, Tryd.ntmps60
    go_wp2
    go_ret
    rw [HE.out, decide_eq_true h1]
    exact ⟨rfl, rfl⟩
  · go_enter Tryd.func60, Tryd.ntmps60
    go_wp2
    go_ret
    rw [HE.out, decide_eq_false (by omega)]
    exact ⟨rfl, rfl⟩

set_option maxHeartbeats 2000000 in
theorem respOk_any (a : Option Addr) (r : Rs) (cap B : Nat) (w : World) (h : Hds w B a r.hs) (hB : B ≤ w.heap.size) (hfit : FitA r) :
    Calls Tryd.prog 39 #[.agg #[.int .i64 r.c, .slice a r.hs.length cap, .string r.b]] w fun e w' => e = .returned (.bool (respB r)) ∧ Below w.heap.size w w' := by
  obtain ⟨⟨q3, q4, q5⟩, q6⟩ := hfit
  have HM : Hid (codeB r.c = false → respB r = false) := respB_c
  have HH : Hid (hdsB r.hs = false → respB r = false) := respB_h
  have HA : Hid (codeB r.c = true → hdsB r.hs = true → respB r = decide ((r.b.size : Int) ≤ 400)) := respB_b
  have q3' := q3
  unfold maxLen at q3'
  have hb0 : Below w.heap.size w (w.alloc (Obj.cells #[Value.int .i64 r.c, Value.slice a r.hs.length cap, Value.string r.b] 46)) := (Below.refl _ _).alloc (Nat.le_refl _) _
  have BX0 := hide (BoxA.made w a cap r 46)
  have HD := hide (h.below hb0 hB)
  have C0 := hide hb0
  obtain ⟨z, hz⟩ : ∃ z, respB r = z := ⟨_, rfl⟩
  rw [hz] at HM HH HA ⊢
  clear hz h hb0
  cases h1 : codeB r.c
  · have hz := HM.out h1
    subst hz
    go_enter Tryd.func39, Tryd.ntmps39
    go_wp2_with fail
    refine (codeOk_any r.c _).mono ?_
    rintro e w1 ⟨rfl, hw⟩
    obtain rfl := hw.symm
    rw [h1]
    go_wp2
    go_ret
    exact ⟨rfl, C0.out⟩
  · cases h3 : hdsB r.hs
    · have hz := HH.out h3
      subst hz
      go_enter Tryd.func39, Tryd.ntmps39
      go_wp2_with fail
      refine (codeOk_any r.c _).mono ?_
      rintro e w1 ⟨rfl, hw⟩
      obtain rfl := hw.symm
      rw [h1]
      go_wp2_with fail
      refine (headsOk_any a r.hs cap B _ HD.out (Nat.le_trans hB C0.out.size) q5 q6 q4).mono ?_
      rintro e w3 ⟨rfl, b3⟩
      rw [h3]
      have c3 := C0.out.trans (b3.mono C0.out.size)
      go_wp2
      go_ret
      exact ⟨rfl, c3⟩
    · have hz := HA.out h1 h3
      subst hz
      go_enter Tryd.func39, Tryd.ntmps39
      go_wp2_with fail
      refine (codeOk_any r.c _).mono ?_
      rintro e w1 ⟨rfl, hw⟩
      obtain rfl := hw.symm
      rw [h1]
      go_wp2_with fail
      refine (headsOk_any a r.hs cap B _ HD.out (Nat.le_trans hB C0.out.size) q5 q6 q4).mono ?_
      rintro e w3 ⟨rfl, b3⟩
      rw [h3]
      have c3 := C0.out.trans (b3.mono C0.out.size)
      have BX3 := BX0.out.next b3
      obtain ⟨_, x30, x31, x32⟩ := BX3
      go_wp2
      go_ret
      exact ⟨rfl, c3⟩
end Go.Proofs.YtnoijfnpchihoabDoor
namespace Go.Proofs.YtnoijfnpchihoabDoor
open Go.RowKit

theorem pow_glob : Tryd.prog.globalNamed "internal/strconv.uint64pow10" = some 1 := by kernel_rfl
theorem pow_data : (Rows.laid_internal_strconv_uint64pow10 : DataW Unit) = Lib.tabData .u64 Lib.pow10Tab := by kernel_rfl

def PowTab (w : World) : Prop := Lib.TabIs Tryd.prog w "internal/strconv.uint64pow10" .u64 Lib.pow10Tab

theorem PowTab.lt {w : World} (h : PowTab w) : 1 < w.heap.size := by
  have h' : w.var? Tryd.prog "internal/strconv.uint64pow10" = some _ := h
  unfold World.var? at h'
  rw [pow_glob] at h'
  simp only [Option.bind_some] at h'
  rcases Nat.lt_or_ge 1 w.heap.size with h1 | h1
  · exact h1
  · rw [Array.getElem?_eq_none h1] at h'
    simp at h'

theorem PowTab.below {w w' : World} (h : PowTab w) (hb : Below w.heap.size w w') : PowTab w' := var?_below hb pow_glob h.lt h

theorem powTab_of {W : World} {rest : List (String × DataW Unit)} (h : laidMet Tryd.prog (("internal/strconv.uint64pow10", Rows.laid_internal_strconv_uint64pow10) :: rest) W) : PowTab W := by
  rw [pow_data] at h
  exact Lib.tabIs_of_head pow_glob (t := 132) (n := 20) (e := 116) (by kernel_rfl) (by kernel_rfl) (by kernel_rfl) (by kernel_rfl) (by kernel_rfl) h
end Go.Proofs.YtnoijfnpchihoabDoor
namespace Go.Proofs.YtnoijfnpchihoabDoor
open Go.RowKit M

theorem itoa_pos (m : Nat) : Lib.itoa (m : Int) = Lib.decDigits m := by
  unfold Lib.itoa
  rw [if_neg (by omega), Int.toNat_natCast]

theorem itoa_calls (m : Nat) (w : World) (hn : (m : Int) ≤ 9223372036854775807) (ht : PowTab w) :
    Calls Tryd.prog 63 #[.int .i64 m] w fun e w' => e = .returned (.string ⟨(Lib.decDigits m).toArray⟩) ∧ Below w.heap.size w w' := by
  refine (Tryd.strconv_Itoa (m : Int) (by omega) hn w ht).mono ?_
  rintro e w' ⟨rfl, k, os, rfl⟩
  rw [itoa_pos]
  exact ⟨rfl, Lib.below_grow _ w (Nat.le_refl _) k os⟩

set_option maxHeartbeats 400000 in
theorem numText_any (n : Int) (w : World) (hn : n ≤ 9223372036854775807) (ht : PowTab w) :
    Calls Tryd.prog 41 #[.int .i64 n] w fun e w' => e = .returned (.string ⟨(Lib.decDigits n.toNat).toArray⟩) ∧ Below w.heap.size w w' := by
  by_cases h : n < 0
  · have e : n.toNat = 0 := by omega
    have e0 : max n 0 = ((0 : Nat) : Int) := by omega
    rw [e]
    go_enter Tryd.func41, Tryd.ntmps41
    go_wp2_with fail
    rw [show (0 : Int) = ((0 : Nat) : Int) from rfl]
    refine (itoa_calls 0 w (by omega) ht).mono ?_
    rintro e w' ⟨rfl, hb⟩
    go_wp2
    go_ret
    exact ⟨rfl, hb⟩
  · obtain ⟨m, rfl⟩ := Int.eq_ofNat_of_zero_le (by omega : 0 ≤ n)
    rw [Int.toNat_natCast]
    go_enter Tryd.func41, Tryd.ntmps41
    go_wp2_with fail
    refine (itoa_calls m w hn ht).mono ?_
    rintro e w' ⟨rfl, hb⟩
    go_wp2
    go_ret
    exact ⟨rfl, hb⟩
end Go.Proofs.YtnoijfnpchihoabDoor
namespace Go.Proofs.YtnoijfnpchihoabDoor
open Go.RowKit M
set_option linter.unusedVariables false

theorem Hds.one (w : World) (x y : ByteArray) (T : TypeId) : Hds (w.alloc (Obj.cells #[Value.string x, Value.string y] T)) (w.heap.size + 1) (some ⟨w.heap.size, 0, none⟩) [(x, y)] := fun _ =>
  ⟨w.heap.size, 0, rfl, Nat.lt_succ_self _, fun j hj => by
    have hj0 : j = 0 := by simp at hj; exact hj
    subst hj0
    exact ⟨(BoxH.made w x y T).2.1, (BoxH.made w x y T).2.2⟩⟩
theorem Hds.nil (w : World) (B : Nat) (a : Option Addr) : Hds w B a [] := fun h => absurd h (Nat.lt_irrefl _)
end Go.Proofs.YtnoijfnpchihoabDoor
namespace Go.Proofs.YtnoijfnpchihoabDoor
open Go.RowKit M
set_option linter.unusedVariables false

set_option maxHeartbeats 1000000 in
theorem specRespOk_any (a : Option Addr) (r : Rs) (cap B : Nat) (w : World) (h : Hds w B a r.hs) (hB : B ≤ w.heap.size) (hsh : ShortA r) :
    Calls Tryd.prog 36 #[.agg #[.int .i64 r.c, .slice a r.hs.length cap, .string r.b]] w fun e w' => e = .returned (.bool (respB r)) ∧ Below w.heap.size w w' := by
  obtain ⟨q3, q4, q5⟩ := hsh
  have HM : Hid (inB r.c 100 599 = false → respB r = false) := respB_c
  have HH : Hid (hdsB r.hs = false → respB r = false) := respB_h
  have HA : Hid (inB r.c 100 599 = true → hdsB r.hs = true → respB r = decide ((r.b.size : Int) ≤ 400)) := respB_b
  obtain ⟨z, hz⟩ : ∃ z, respB r = z := ⟨_, rfl⟩
  rw [hz] at HM HH HA ⊢
  clear hz
  obtain ⟨rc, hs, rb⟩ := r
  simp only at *
  have q3' := q3
  unfold maxLen at q3'
  have hb0 : Below w.heap.size w (w.alloc (Obj.cells #[Value.int .i64 rc, Value.slice a hs.length cap, Value.string rb] 46)) := (Below.refl _ _).alloc (Nat.le_refl _) _
  have HD := hide (h.below hb0 hB)
  clear h
  cases h1 : inB rc 100 599
  · have hz := HM.out h1
    subst hz
    go_enter Tryd.func36, Tryd.ntmps36
    go_wp2_with (go_at_call 58; refine (l1In_any _ _ _ _).mono ?_; rintro e w1 ⟨rfl, hw⟩; obtain rfl := hw.symm; rw [h1])
    go_ret
    exact ⟨rfl, hb0⟩
  · cases h3 : hdsB hs
    · have hz := HH.out h3
      subst hz
      go_enter Tryd.func36, Tryd.ntmps36
      go_wp2_with (first | (go_at_call 58; refine (l1In_any _ _ _ _).mono ?_; rintro e w1 ⟨rfl, hw⟩; obtain rfl := hw.symm; rw [h1]) | (go_at_call 59; refine (l3Heads_any a hs cap B _ HD.out q5 q4).mono ?_; rintro e w1 ⟨rfl, hw⟩; obtain rfl := hw.symm; rw [h3]))
      go_ret
      exact ⟨rfl, hb0⟩
    · have hz := HA.out h1 h3
      subst hz
      go_enter Tryd.func36, Tryd.ntmps36
      go_wp2_with (first | (go_at_call 58; refine (l1In_any _ _ _ _).mono ?_; rintro e w1 ⟨rfl, hw⟩; obtain rfl := hw.symm; rw [h1]) | (go_at_call 59; refine (l3Heads_any a hs cap B _ HD.out q5 q4).mono ?_; rintro e w1 ⟨rfl, hw⟩; obtain rfl := hw.symm; rw [h3]))
      go_ret
      exact ⟨rfl, hb0⟩
end Go.Proofs.YtnoijfnpchihoabDoor
