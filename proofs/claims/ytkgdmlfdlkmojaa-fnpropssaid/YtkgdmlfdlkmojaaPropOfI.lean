/-
  What impl.PropOf does.
-/
import Derived.Test.YtkgdmlfdlkmojaaByName
namespace Go.Proofs.Ytkgdmlfdlkmojaa
open Go.RowKit Go.Maps M
set_option linter.unusedVariables false

set_option maxRecDepth 100000 in
set_option maxHeartbeats 2000000 in
theorem propOf_any (a : Option Addr) (ps : List Pp) (cap B : Nat) (x y : ByteArray) (w : World) (h : Pps w B a ps) (hB : B ≤ w.heap.size) (hsh : ShortPs ps) (hl : ps.length ≤ 1048576) (hx : x.size ≤ maxLen) (hy : y.size ≤ maxLen) (hv : (valP (knowL ps x y)).size ≤ 281474976710656) :
    Calls Try.prog 12 #[.slice a ps.length cap, .string x, .string y] w fun e w' => e = .returned (.tuple #[.string (valP (knowL ps x y)), .bool (knowL ps x y).isSome]) ∧ Below w.heap.size w w' := by
  have HBN := hide (byName_any a ps cap B w h hB hsh hl)
  have HV := hide (first_val ps x y)
  have hv2 : (firstP ps x y).2.2.size ≤ 281474976710656 := by rw [HV.out]; exact hv
  have HCL := hide (fun W => clone_any (firstP ps x y).2.2 W hv2)
  go_enter Try.func12, Try.ntmps12
  go_wp2_with fail
  refine HBN.out.mono ?_
  rintro e w1 ⟨rfl, ⟨n, D, hown, hkn⟩, b1⟩
  have HKN := hide hkn
  have hopen : ∀ {ops : Array Oper} {rest : List Oper} {o : Oper} {a : Act} {Q : Exit → Act → World → Prop} (hg : o.guard = none) (m i : Operand) (hop : o.op = Op.lookup 76 m i true) (hm : a.eval m = .map (some w.heap.size)) (hi : a.eval i = .agg #[.string x, .string y]) (hK : wpList Try.prog ops Q rest (a.put o.dst (.tuple #[.agg #[.string (firstP ps x y).1, .string (firstP ps x y).2.1, .string (firstP ps x y).2.2], .bool (knowL ps x y).isSome])) w1), wpList Try.prog ops Q (o :: rest) a w1 := by
    intro ops rest o a Q hg m i hop hm hi hK
    exact wpList_lookup_prop w1 hg m i hop w.heap.size n D ps hm hown HKN.out _ _ hx hy hi hK
  have HOPEN := @hide _ @hopen
  have c1 := b1.alloc b1.size (Obj.cells #[.string (firstP ps x y).1, .string (firstP ps x y).2.1, .string (firstP ps x y).2.2] 36)
  clear hopen hkn hown
  generalize firstP ps x y = q at *
  go_wp2_with (at_lookup; refine HOPEN.out rfl _ _ rfl rfl rfl ?_)
  go_wp2_with fail
  refine (HCL.out _).mono ?_
  rintro e w2 ⟨rfl, b2⟩
  go_wp2
  go_ret2
  rw [HV.out]
  exact ⟨rfl, c1.trans (b2.mono c1.size)⟩
end Go.Proofs.Ytkgdmlfdlkmojaa
