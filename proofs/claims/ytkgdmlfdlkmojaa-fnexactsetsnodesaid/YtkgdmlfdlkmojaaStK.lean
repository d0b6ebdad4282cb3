/-
  What the law on KidOf holds in its hands on its way.
-/
import Derived.Test.YtkgdmlfdlkmojaaTurnN
import Derived.Test.YtkgdmlfdlkmojaaBoxNode
namespace Go.Proofs.Ytkgdmlfdlkmojaa
open Go.RowKit M
set_option linter.unusedVariables false

theorem BoxN.turn {S : Nat → Prop} {w w' : World} {b : Nat} {a : Option Addr} {cap : Nat} {n : Nd} (h : BoxN w b a cap n) (t : Turn S w w') (hS : ¬ S b) : BoxN w' b a cap n :=
  ⟨Nat.lt_of_lt_of_le h.lt t.size, by rw [t.cell h.lt hS]; exact h.c0, by rw [t.cell h.lt hS]; exact h.c1, by rw [t.cell h.lt hS]; exact h.c2, by rw [t.cell h.lt hS]; exact h.c3⟩

/-- Which blocks lie apart. -/
structure ApK (q p0 p1 p2 : Nat) (S0 S1 S2 : Nat → Prop) : Prop where
  q1 : ∀ x, S1 x → q < x ∧ x ≠ p0 ∧ x ≠ p1 ∧ x ≠ p2
  q2 : ∀ x, S2 x → q < x ∧ x ≠ p0 ∧ x ≠ p1 ∧ x ≠ p2
  d01 : ∀ x, S0 x → ¬ S1 x
  d02 : ∀ x, S0 x → ¬ S2 x
  d12 : ∀ x, S1 x → ¬ S2 x

structure StK (w W : World) (n m : Nd) (a : Option Addr) (cap : Nat) (p0 p1 p2 : Nat) (am ax ag : Option Addr) (cm cx cg : Nat) (kx kg : List Nd) (S0 S1 S2 : Nat → Prop) : Prop where
  x : BoxN W w.heap.size a cap n
  b0 : BoxN W p0 am cm m
  b1 : BoxN W p1 ax cx n
  b2 : BoxN W p2 ag cg m
  c : Below w.heap.size w W
  t0 : OwnK W am m.ks S0
  t1 : OwnK W ax kx S1
  t2 : OwnK W ag kg S2
  l0 : ∀ x, S0 x → x < W.heap.size
  l1 : ∀ x, S1 x → x < W.heap.size
  l2 : ∀ x, S2 x → x < W.heap.size

theorem StK.next {w W W' : World} {n m : Nd} {a : Option Addr} {cap p0 p1 p2 : Nat} {am ax ag : Option Addr} {cm cx cg : Nat} {kx kg : List Nd} {S0 S1 S2 : Nat → Prop} (s : StK w W n m a cap p0 p1 p2 am ax ag cm cx cg kx kg S0 S1 S2) (hb : Below W.heap.size W W') : StK w W' n m a cap p0 p1 p2 am ax ag cm cx cg kx kg S0 S1 S2 :=
  ⟨s.x.next hb, s.b0.next hb, s.b1.next hb, s.b2.next hb, s.c.trans (hb.mono s.c.size), s.t0.stays hb s.l0, s.t1.stays hb s.l1, s.t2.stays hb s.l2, fun x h => Nat.lt_of_lt_of_le (s.l0 x h) hb.size, fun x h => Nat.lt_of_lt_of_le (s.l1 x h) hb.size, fun x h => Nat.lt_of_lt_of_le (s.l2 x h) hb.size⟩
theorem StK.drew {w W : World} {n m : Nd} {a : Option Addr} {cap p0 p1 p2 : Nat} {am ax ag : Option Addr} {cm cx cg : Nat} {kx kg : List Nd} {S0 S1 S2 : Nat → Prop} (s : StK w W n m a cap p0 p1 p2 am ax ag cm cx cg kx kg S0 S1 S2) : StK w W.drew n m a cap p0 p1 p2 am ax ag cm cx cg kx kg S0 S1 S2 :=
  s.next (below_drewN (Below.refl _ _))
theorem StK.mark1 {w W W' : World} {n m : Nd} {a : Option Addr} {cap p0 p1 p2 : Nat} {am ax ag : Option Addr} {cm cx cg : Nat} {kx kx' kg : List Nd} {S0 S1 S2 : Nat → Prop} (s : StK w W n m a cap p0 p1 p2 am ax ag cm cx cg kx kg S0 S1 S2) (d : ApK w.heap.size p0 p1 p2 S0 S1 S2) (t : Turn S1 W W') (o : OwnK W' ax kx' S1) : StK w W' n m a cap p0 p1 p2 am ax ag cm cx cg kx' kg S0 S1 S2 :=
  ⟨s.x.turn t (fun e => by have := (d.q1 _ e).1; omega), s.b0.turn t (fun e => (d.q1 _ e).2.1 rfl), s.b1.turn t (fun e => (d.q1 _ e).2.2.1 rfl), s.b2.turn t (fun e => (d.q1 _ e).2.2.2 rfl),
    s.c.trans (t.below (fun x hx => by have := (d.q1 x hx).1; omega) s.c.size), s.t0.turn t s.l0 d.d01, o, s.t2.turn t s.l2 (fun x h2 h1 => d.d12 x h1 h2), fun x h => Nat.lt_of_lt_of_le (s.l0 x h) t.size, fun x h => Nat.lt_of_lt_of_le (s.l1 x h) t.size, fun x h => Nat.lt_of_lt_of_le (s.l2 x h) t.size⟩
theorem StK.mark2 {w W W' : World} {n m : Nd} {a : Option Addr} {cap p0 p1 p2 : Nat} {am ax ag : Option Addr} {cm cx cg : Nat} {kx kg kg' : List Nd} {S0 S1 S2 : Nat → Prop} (s : StK w W n m a cap p0 p1 p2 am ax ag cm cx cg kx kg S0 S1 S2) (d : ApK w.heap.size p0 p1 p2 S0 S1 S2) (t : Turn S2 W W') (o : OwnK W' ag kg' S2) : StK w W' n m a cap p0 p1 p2 am ax ag cm cx cg kx kg' S0 S1 S2 :=
  ⟨s.x.turn t (fun e => by have := (d.q2 _ e).1; omega), s.b0.turn t (fun e => (d.q2 _ e).2.1 rfl), s.b1.turn t (fun e => (d.q2 _ e).2.2.1 rfl), s.b2.turn t (fun e => (d.q2 _ e).2.2.2 rfl),
    s.c.trans (t.below (fun x hx => by have := (d.q2 x hx).1; omega) s.c.size), s.t0.turn t s.l0 d.d02, s.t1.turn t s.l1 d.d12, o, fun x h => Nat.lt_of_lt_of_le (s.l0 x h) t.size, fun x h => Nat.lt_of_lt_of_le (s.l1 x h) t.size, fun x h => Nat.lt_of_lt_of_le (s.l2 x h) t.size⟩
end Go.Proofs.Ytkgdmlfdlkmojaa
