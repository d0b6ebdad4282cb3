/-
  What the program's putChunk does.
-/
import Derived.Test.YtanebchmeaomgaaGreatDoorMathResp
import Derived.Test.YtanebchmeaomgaaGreatDoorMathPutC
import Derived.Test.YtanebchmeaomgaaGreatDoorFormatBits
import Derived.Test.YtanebchmeaomgaaGreatDoorMathGet
namespace Go.Proofs.YtanebchmeaomgaaGreatDoor
open Go.RowKit M
set_option linter.unusedVariables false

/-- The block of the one row is the other's, or it is new. -/
def NewOr (w : World) (v v' : Value) : Prop := v'.ownBlock = v.ownBlock ∨ ∃ g, w.heap.size ≤ g ∧ v'.ownBlock = some g
theorem grown_transV {w w1 w2 : World} {v v1 : Value} (h : w.grownBy w1 v.ownBlock) (hn : NewOr w v v1) (h2 : w1.grownBy w2 v1.ownBlock) : w.grownBy w2 v.ownBlock :=
  ⟨h2.os.trans h.os, h2.tape.trans h.tape, h2.output.trans h.output, Nat.le_trans h.size h2.size, fun k hk hne => (h2.block k (Nat.lt_of_lt_of_le hk h.size) (fun e => by
    rcases hn with e1 | ⟨g, hg, e1⟩
    · exact hne (by rw [e, e1])
    · rw [e1] at e
      have := Option.some.inj e
      omega)).trans (h.block k hk hne)⟩
theorem newOr_trans {w w1 : World} {v v1 v2 : Value} (hz : w.heap.size ≤ w1.heap.size) (h : NewOr w v v1) (h2 : NewOr w1 v1 v2) : NewOr w v v2 := by
  rcases h2 with e | ⟨g, hg, e⟩
  · rcases h with e1 | ⟨g, hg, e1⟩
    · exact .inl (e.trans e1)
    · exact .inr ⟨g, hg, e.trans e1⟩
  · exact .inr ⟨g, Nat.le_trans hz hg, e⟩
theorem newOr_of {w : World} {v v' : Value} (h : v'.ownBlock = v.ownBlock ∨ v'.ownBlock = some w.heap.size) : NewOr w v v' := by
  rcases h with e | e
  · exact .inl e
  · exact .inr ⟨_, Nat.le_refl _, e⟩
theorem grown_belowV {w w' : World} (r : Option Nat) (h : Below w.heap.size w w') : w.grownBy w' r := ⟨h.os, h.tape, h.output, h.size, fun k hk _ => h.block k hk⟩

set_option maxHeartbeats 1000000 in
theorem putChunk_any (w : World) (B : Nat) (v : Value) (l : List UInt8) (x : ByteArray) (h : OwnY w B v l) (hB : B ≤ w.heap.size) (hl : l.length ≤ 2199023255552) (hx : x.size ≤ 1073741824) (hde : DeTab w) :
    Calls Tryz.prog 89 #[v, .string x] w fun e w' => ∃ v', e = .returned v' ∧ OwnY w' B v' (l ++ chTxt x.data.toList) ∧ w.grownBy w' v.ownBlock ∧ NewOr w v v' := by
  have HH := hide (hex_any (x.size : Int) w (by omega) hde)
  have hd16 : (hexDigits x.size).length ≤ 16 := hexDig_le 16 _
  obtain ⟨d, hd⟩ : ∃ d, (⟨(hexDigits x.size).toArray⟩ : ByteArray) = d := ⟨_, rfl⟩
  have hdz : d.size ≤ 16 := by rw [← hd]; exact hd16
  have HD : Hid (d.data.toList = hexDigits x.size) := by show d.data.toList = _; rw [← hd]
  rw [Int.toNat_natCast, hd] at HH
  have HO := hide h
  clear h hd hd16 hde
  go_enter Tryz.func89, Tryz.ntmps89
  go_wp2_with fail
  refine HH.out.mono ?_
  rintro e w0 ⟨rfl, b0⟩
  have HO0 := hide (HO.out.next b0)
  have G0 := hide (grown_belowV v.ownBlock b0)
  have z0 := b0.size
  clear HH HO b0
  go_wp2_with (at_builtin; refine wp_append_text rfl _ _ rfl B v l rfl HO0.out d rfl ?c1 ?c2 ?_)
  case c1 => omega
  case c2 => omega
  intro v1 w1 ho1 hg1 hb1
  have G1 := hide (grown_transV G0.out (.inl rfl) hg1)
  have N1 := hide (newOr_trans z0 (v := v) (v1 := v) (.inl rfl) (newOr_of hb1))
  have z1 := G1.out.size
  have HO1 := hide ho1
  clear hg1 hb1 ho1 HO0 G0 z0
  go_wp2_with (at_builtin; refine wp_append_text rfl _ _ rfl B v1 (l ++ d.data.toList) rfl HO1.out ⟨#[13, 10]⟩ rfl ?c1 ?c2 ?_)
  case c1 => have e : d.data.toList.length = d.size := Array.length_toList; have e2 : (⟨#[13, 10]⟩ : ByteArray).size = 2 := rfl; rw [List.length_append]; omega
  case c2 => omega
  intro v2 w2 ho2 hg2 hb2
  have G2 := hide (grown_transV G1.out N1.out hg2)
  have N2 := hide (newOr_trans z1 N1.out (newOr_of hb2))
  have z2 := G2.out.size
  have HO2 := hide ho2
  clear hg2 hb2 ho2 HO1 G1 N1 z1
  go_wp2_with (at_builtin; refine wp_append_text rfl _ _ rfl B v2 _ rfl HO2.out x rfl ?c1 ?c2 ?_)
  case c1 => have e : d.data.toList.length = d.size := Array.length_toList; rw [List.length_append, List.length_append]; simp only [List.length_cons, List.length_nil]; omega
  case c2 => omega
  intro v3 w3 ho3 hg3 hb3
  have G3 := hide (grown_transV G2.out N2.out hg3)
  have N3 := hide (newOr_trans z2 N2.out (newOr_of hb3))
  have z3 := G3.out.size
  have HO3 := hide ho3
  clear hg3 hb3 ho3 HO2 G2 N2 z2
  go_wp2_with (at_builtin; refine wp_append_text rfl _ _ rfl B v3 _ rfl HO3.out ⟨#[13, 10]⟩ rfl ?c1 ?c2 ?_)
  case c1 => have e : d.data.toList.length = d.size := Array.length_toList; have e2 : x.data.toList.length = x.size := Array.length_toList; have e3 : (⟨#[13, 10]⟩ : ByteArray).size = 2 := rfl; simp only [List.length_append, List.length_cons]; omega
  case c2 => omega
  intro v4 w4 ho4 hg4 hb4
  have G4 := hide (grown_transV G3.out N3.out hg4)
  have N4 := hide (newOr_trans z3 N3.out (newOr_of hb4))
  have HO4 : Hid (OwnY w4 B v4 (l ++ chTxt x.data.toList)) := by
    show OwnY w4 B v4 (l ++ chTxt x.data.toList)
    have ex : x.data.toList.length = x.size := Array.length_toList
    have e : l ++ chTxt x.data.toList = l ++ (d.data.toList ++ 13 :: 10 :: (x.data.toList ++ [13, 10])) := by rw [HD.out]; simp [chTxt, crlf, ex]
    rw [e]
    have e2 : l ++ d.data.toList ++ (⟨#[13, 10]⟩ : ByteArray).data.toList ++ x.data.toList ++ (⟨#[13, 10]⟩ : ByteArray).data.toList = l ++ (d.data.toList ++ 13 :: 10 :: (x.data.toList ++ [13, 10])) := by simp
    rw [← e2]; first | exact ho4 | simpa using ho4
  clear ho4 hg4 hb4 HO3 G3 N3 z3
  go_wp2
  go_ret
  exact ⟨v4, rfl, HO4.out, G4.out, N4.out⟩
end Go.Proofs.YtanebchmeaomgaaGreatDoor
