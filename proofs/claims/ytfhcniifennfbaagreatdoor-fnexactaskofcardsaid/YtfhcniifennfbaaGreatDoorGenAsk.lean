/-
  MayTurn on both sides, over views.
  The leafs of what is asked.
-/
import Derived.Test.YtfhcniifennfbaaGreatDoorIntsV
import Derived.Test.YtfhcniifennfbaaGreatDoorSpecMayT
import Derived.Test.YtfhcniifennfbaaGreatDoorSvIn
import Derived.Test.YtfhcniifennfbaaGreatDoorMathMark2
import Derived.Test.YtfhcniifennfbaaGreatDoorMathLock
namespace Go.Proofs.YtfhcniifennfbaaGreatDoor
open Go.RowKit M
set_option linter.unusedVariables false

theorem specMay_gen (l : List Lk) (p : List ByteArray) (deep : Bool) (toks : List Int) (u q t : Value) (W : World) (h : View W W.heap.size u (.l (l.map dLk))) (h' : View W W.heap.size q (.l (p.map dS))) (h2 : View W W.heap.size t (.l (toks.map dI))) (hsz : szRs (l.map dLk) ≤ 1048576) (htl : toks.length ≤ 1048576) :
    Calls Tryz.prog 59 #[u, q, .bool deep, t] W fun e w' => e = .returned (.bool (mayB l p deep toks)) ∧ Below W.heap.size W w' := by
  obtain ⟨a, cap, rfl, h1, h2, h3, h4⟩ := lks_of_view h
  obtain ⟨b, c, rfl, k1, k2, k3, k4⟩ := strs_of_view h'
  obtain ⟨d, e, rfl, m1, m2, m3, m4⟩ := ints_of_view ‹View W W.heap.size t _›
  exact specMay_any a l cap W.heap.size b p c W.heap.size deep d toks e W.heap.size W h4 (Nat.le_refl _) k4 (Nat.le_refl _) m4 (Nat.le_refl _) (lk_len hsz) k1 k2 htl
theorem may_gen (l : List Lk) (p : List ByteArray) (deep : Bool) (toks : List Int) (u q t : Value) (W : World) (h : View W W.heap.size u (.l (l.map dLk))) (h' : View W W.heap.size q (.l (p.map dS))) (h2 : View W W.heap.size t (.l (toks.map dI))) (hsz : szRs (l.map dLk) ≤ 1048576) (htl : toks.length ≤ 1048576) :
    Calls Tryz.prog 171 #[u, q, .bool deep, t] W fun e w' => e = .returned (.bool (mayB l p deep toks)) ∧ Below W.heap.size W w' := by
  obtain ⟨a, cap, rfl, h1, h2, h3, h4⟩ := lks_of_view h
  obtain ⟨b, c, rfl, k1, k2, k3, k4⟩ := strs_of_view h'
  obtain ⟨d, e, rfl, m1, m2, m3, m4⟩ := ints_of_view ‹View W W.heap.size t _›
  exact mayTurn_any a l cap W.heap.size b p c W.heap.size deep d toks e W.heap.size W h4 (Nat.le_refl _) k4 (Nat.le_refl _) m4 (Nat.le_refl _) k1 k2 (lk_len hsz) htl
end Go.Proofs.YtfhcniifennfbaaGreatDoor
namespace Go.Proofs.YtfhcniifennfbaaGreatDoor
open Go.RowKit M

def dAk (x : Ak) : List Lf := [.l (x.pa.map dS), .l (x.to.map dS), .c (.bool x.de), .c (.bool x.ov), .l (x.tk.map dI), .c (.int .i64 x.co)]
end Go.Proofs.YtfhcniifennfbaaGreatDoor
