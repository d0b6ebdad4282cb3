/-
  What the law on ParseNode holds in its hands on its way.
-/
import Derived.Test.YtccehdlgpbeijaaGreatDoorStK
import Derived.Test.YtccehdlgpbeijaaGreatDoorMathSmallN
import Derived.Test.YtccehdlgpbeijaaGreatDoorParseNode
namespace Go.Proofs.YtccehdlgpbeijaaGreatDoor
open Go.RowKit M
set_option linter.unusedVariables false

theorem pn_parts {w w' : World} {x : Option Nd} {e : Ending} (h : PnRet w w' x e) : ∃ (a : Option Addr) (c : Nat), e = .returned (.tuple #[.agg #[.string (ndOf x).ns, .string (ndOf x).nm, .string (ndOf x).tx, .slice a (ndOf x).ks.length c], .bool x.isSome]) ∧ OwnK w' a (ndOf x).ks (Ivl w.heap.size w'.heap.size) := by
  cases x with
  | none => exact ⟨none, 0, h, .nil _ _⟩
  | some n => exact h

structure StP (w W : World) (m : Nd) (p0 p2 : Nat) (am ag : Option Addr) (cm cg : Nat) (kg : List Nd) (S0 S2 : Nat → Prop) : Prop where
  b0 : BoxN W p0 am cm m
  b2 : BoxN W p2 ag cg m
  c : Below w.heap.size w W
  t0 : OwnK W am m.ks S0
  t2 : OwnK W ag kg S2
  l0 : ∀ x, S0 x → x < W.heap.size
  l2 : ∀ x, S2 x → x < W.heap.size
theorem StP.next {w W W' : World} {m : Nd} {p0 p2 : Nat} {am ag : Option Addr} {cm cg : Nat} {kg : List Nd} {S0 S2 : Nat → Prop} (s : StP w W m p0 p2 am ag cm cg kg S0 S2) (hb : Below W.heap.size W W') : StP w W' m p0 p2 am ag cm cg kg S0 S2 :=
  ⟨s.b0.next hb, s.b2.next hb, s.c.trans (hb.mono s.c.size), s.t0.stays hb s.l0, s.t2.stays hb s.l2, fun x h => Nat.lt_of_lt_of_le (s.l0 x h) hb.size, fun x h => Nat.lt_of_lt_of_le (s.l2 x h) hb.size⟩
theorem StP.mark {w W W' : World} {m : Nd} {p0 p2 : Nat} {am ag : Option Addr} {cm cg : Nat} {kg kg' : List Nd} {S0 S2 : Nat → Prop} (s : StP w W m p0 p2 am ag cm cg kg S0 S2) (d : ∀ x, S2 x → w.heap.size < x ∧ x ≠ p0 ∧ x ≠ p2 ∧ ¬ S0 x) (t : Turn S2 W W') (o : OwnK W' ag kg' S2) : StP w W' m p0 p2 am ag cm cg kg' S0 S2 :=
  ⟨s.b0.turn t (fun e => (d _ e).2.1 rfl), s.b2.turn t (fun e => (d _ e).2.2.1 rfl), s.c.trans (t.below (fun x hx => by have := (d x hx).1; omega) s.c.size), s.t0.turn t s.l0 (fun x h0 h2 => (d x h2).2.2.2 h0), o, fun x h => Nat.lt_of_lt_of_le (s.l0 x h) t.size, fun x h => Nat.lt_of_lt_of_le (s.l2 x h) t.size⟩
end Go.Proofs.YtccehdlgpbeijaaGreatDoor
