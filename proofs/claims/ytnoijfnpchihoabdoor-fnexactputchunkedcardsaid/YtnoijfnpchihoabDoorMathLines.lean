/-
  Plain facts on quoted texts: no program in sight.
  Plain facts on the bytes of a request: no program in sight.
  Slices of heads: what they hold, and that it stays.
  A request that lies in a box of the call's own.
  What the program's putHead does.
  Lines of heads: no program in sight.
-/
import Derived.Test.YtnoijfnpchihoabDoorMath
import Derived.Test.YtnoijfnpchihoabDoorMathReq
import Derived.Lib.ItoaNum
import Derived.Test.YtnoijfnpchihoabDoorRows
import Derived.WalkKit
import Derived.WalkSpells
import Derived.WalkLawsBesides
import Derived.Deep.Light
import Derived.Deep.QuietTactic
import Derived.Deep.OwnRows
import Derived.Test.YtnoijfnpchihoabDoorOwnY
namespace Go.Proofs.YtnoijfnpchihoabDoor.M

/-- These bytes, as a text. -/
def bytesOf (l : List UInt8) : ByteArray := ⟨l.toArray⟩
theorem bytesOf_append (l m : List UInt8) : bytesOf l ++ bytesOf m = bytesOf (l ++ m) := by
  apply ByteArray.ext
  simp [bytesOf]

theorem bytesOf_size (l : List UInt8) : (bytesOf l).size = l.length := by
  show l.toArray.size = l.length
  simp

/-- A digit of sixteen, a large one. -/
def digL (n : Nat) : UInt8 := if n < 10 then UInt8.ofNat (48 + n) else UInt8.ofNat (55 + n)
theorem digL_lo (n : Nat) (h : n < 10) : (digL n).toNat = 48 + n := by
  unfold digL; rw [if_pos h]; simp; omega
theorem digL_hi (n : Nat) (h : ¬ n < 10) (h' : n < 16) : (digL n).toNat = 55 + n := by
  unfold digL; rw [if_neg h]; simp; omega

/-- Whether a byte stays as it is in a quoted text. -/
def freeB (c : Int) : Bool := ((((((isB c 2 || isB c 3) || isB c 4) || c == 45) || c == 46) || c == 95) || c == 126)
def quoteB (c : UInt8) : List UInt8 := if freeB (c.toNat : Int) then [c] else [37, digL (c.toNat / 16), digL (c.toNat % 16)]
def quoteL (l : List UInt8) : List UInt8 := l.flatMap quoteB

theorem quoteB_yes {c : UInt8} (h : freeB (c.toNat : Int) = true) : quoteB c = [c] := by unfold quoteB; rw [if_pos h]
theorem quoteB_no {c : UInt8} (h : freeB (c.toNat : Int) = false) : quoteB c = [37, digL (c.toNat / 16), digL (c.toNat % 16)] := by unfold quoteB; rw [if_neg (by simp [h])]

theorem quoteL_snoc (s : ByteArray) (k : Nat) (h : k < s.size) : quoteL (s.data.toList.take (k + 1)) = quoteL (s.data.toList.take k) ++ quoteB s[k] := by
  rw [take_snoc s k h]; simp [quoteL]

theorem quoteB_length (c : UInt8) : (quoteB c).length ≤ 3 := by unfold quoteB; split <;> simp
theorem quoteL_le (l : List UInt8) : (quoteL l).length ≤ 3 * l.length := by
  induction l with
  | nil => simp [quoteL]
  | cons c l ih =>
    have := quoteB_length c
    simp only [quoteL, List.flatMap_cons, List.length_append, List.length_cons] at *
    omega

theorem hex_at (n : Nat) (h : n < 16) : (⟨#[48, 49, 50, 51, 52, 53, 54, 55, 56, 57, 65, 66, 67, 68, 69, 70]⟩ : ByteArray)[n]'(by show n < 16; exact h) = digL n := by
  have key : ∀ i : Fin 16, (⟨#[48, 49, 50, 51, 52, 53, 54, 55, 56, 57, 65, 66, 67, 68, 69, 70]⟩ : ByteArray)[i.val]'(by show i.val < 16; exact i.isLt) = digL i.val := by decide
  exact key ⟨n, h⟩

end Go.Proofs.YtnoijfnpchihoabDoor.M
namespace Go.Proofs.YtnoijfnpchihoabDoor.M

def crlf : List UInt8 := [13, 10]
def proto : List UInt8 := [72, 84, 84, 80, 47, 49, 46, 49]
def lenTag : List UInt8 := [99, 111, 110, 116, 101, 110, 116, 45, 108, 101, 110, 103, 116, 104, 58, 32]
/-- The line of a head, and of all heads. -/
def hdTxt (h : Hd) : List UInt8 := h.1.data.toList ++ ([58, 32] ++ (h.2.data.toList ++ crlf))
def hdsTxt (hs : List Hd) : List UInt8 := hs.flatMap hdTxt
/-- The first line. -/
def topTxt (r : Rq) : List UInt8 := r.m.data.toList ++ ([32] ++ (r.p.data.toList ++ ([32] ++ (proto ++ crlf))))
/-- What stands ahead of the body, with this line on it. -/
def frontL (r : Rq) (line : List UInt8) : List UInt8 := topTxt r ++ (hdsTxt r.hs ++ (line ++ crlf))
def lenLine (n : Nat) : List UInt8 := lenTag ++ (Lib.decDigits n ++ crlf)
def bodyLine (b : ByteArray) : List UInt8 := if b.size = 0 then [] else lenLine b.size
def put0 (r : Rq) (line body : List UInt8) : List UInt8 := if reqB r = true ∧ (frontL r line).length ≤ 400 then frontL r line ++ body else []
/-- The bytes of a request. -/
def putL (r : Rq) : List UInt8 := put0 r (bodyLine r.b) r.b.data.toList

theorem hdsTxt_snoc (hs : List Hd) (k : Nat) (h : k < hs.length) : hdsTxt (hs.take (k + 1)) = hdsTxt (hs.take k) ++ hdTxt hs[k] := by
  unfold hdsTxt
  rw [List.take_succ_eq_append_getElem h, List.flatMap_append]
  simp only [List.flatMap_cons, List.flatMap_nil, List.append_nil]

theorem hdTxt_len (h : Hd) : (hdTxt h).length = szH h + 4 := by
  have e1 : h.1.data.toList.length = h.1.size := Array.length_toList
  have e2 : h.2.data.toList.length = h.2.size := Array.length_toList
  simp only [hdTxt, crlf, szH, List.length_append, List.length_cons, List.length_nil]
  omega
theorem hdsTxt_len (hs : List Hd) : (hdsTxt hs).length = sumH hs + 4 * hs.length := by
  induction hs with
  | nil => rfl
  | cons h r ih =>
    have := hdTxt_len h
    simp only [hdsTxt, sumH, List.flatMap_cons, List.length_append, List.map_cons, List.sum_cons, List.length_cons] at *
    omega

theorem sumH_take (hs : List Hd) (k : Nat) : sumH (hs.take k) ≤ sumH hs := by
  have e : sumH hs = sumH (hs.take k) + sumH (hs.drop k) := by
    unfold sumH
    rw [← List.sum_append, ← List.map_append, List.take_append_drop]
  omega

theorem bytes_app (a b : ByteArray) : a ++ b = bytesOf (a.data.toList ++ b.data.toList) := by
  apply ByteArray.ext
  simp [bytesOf]
theorem bytesOf_list (l : List UInt8) : (bytesOf l).data.toList = l := rfl
end Go.Proofs.YtnoijfnpchihoabDoor.M
namespace Go.Proofs.YtnoijfnpchihoabDoor
open Go.RowKit M

theorem hide {p : Prop} (h : p) : Hid p := h

/-- The heads that a slice holds, in a block below B. -/
def Hds (w : World) (B : Nat) (a : Option Addr) (hs : List Hd) : Prop :=
  0 < hs.length → ∃ b o, a = some ⟨b, o, none⟩ ∧ b < B ∧ ∀ j (hj : j < hs.length), w.cell? ⟨b, o + j * 2, none⟩ = some (.string hs[j].1) ∧ w.cell? ⟨b, o + j * 2 + 1, none⟩ = some (.string hs[j].2)

theorem Hds.below {w w' : World} {B C : Nat} {a : Option Addr} {hs : List Hd} (h : Hds w B a hs) (hb : Below C w w') (hB : B ≤ C) : Hds w' B a hs := fun h0 => by
  obtain ⟨b, o, e, hbB, hc⟩ := h h0
  exact ⟨b, o, e, hbB, fun j hj => ⟨(hb.cell (p := ⟨b, o + j * 2, none⟩) (Nat.lt_of_lt_of_le hbB hB)).trans (hc j hj).1, (hb.cell (p := ⟨b, o + j * 2 + 1, none⟩) (Nat.lt_of_lt_of_le hbB hB)).trans (hc j hj).2⟩⟩
theorem Hds.mono {w : World} {B C : Nat} {a : Option Addr} {hs : List Hd} (h : Hds w B a hs) (hB : B ≤ C) : Hds w C a hs := fun h0 => by
  obtain ⟨b, o, e, hbB, hc⟩ := h h0
  exact ⟨b, o, e, Nat.lt_of_lt_of_le hbB hB, hc⟩

theorem Hds.store {w : World} {B g o : Nat} {hs : List Hd} (h : Hds w B (some ⟨g, o, none⟩) hs) (p : Addr) (v : Value) (hp : p.block ≠ g) : Hds (w.setCell p v) B (some ⟨g, o, none⟩) hs := fun h0 => by
  obtain ⟨b, o', e, hbB, hc⟩ := h h0
  cases e
  exact ⟨g, o, rfl, hbB, fun j hj => ⟨(World.cell?_setCell_other _ _ _ _ (fun e => hp (congrArg Addr.block e))).trans (hc j hj).1, (World.cell?_setCell_other _ _ _ _ (fun e => hp (congrArg Addr.block e))).trans (hc j hj).2⟩⟩

/-- All of them short enough. -/
def ShortH (hs : List Hd) : Prop := ∀ h ∈ hs, h.1.size ≤ maxLen ∧ h.2.size ≤ maxLen
theorem ShortH.at {hs : List Hd} (h : ShortH hs) (k : Nat) (hk : k < hs.length) : (hs[k]).1.size ≤ maxLen ∧ (hs[k]).2.size ≤ maxLen := h _ (List.getElem_mem hk)

/-- A request all of whose parts are short enough. -/
def ShortR (r : Rq) : Prop := r.m.size ≤ maxLen ∧ r.p.size ≤ maxLen ∧ r.b.size ≤ maxLen ∧ r.hs.length ≤ maxLen ∧ ShortH r.hs

/-- The value of a head, and of a request. -/
def hdV (h : Hd) : Value := .agg #[.string h.1, .string h.2]
def rqV (a : Option Addr) (n cap : Nat) (r : Rq) : Value := .agg #[.string r.m, .string r.p, .slice a n cap, .string r.b]

theorem strInj {a b : ByteArray} (h : a.toList = b.toList) : a = b := by
  rw [ByteArray.toList_eq, ByteArray.toList_eq] at h
  exact ByteArray.ext (Array.ext' h)

/-- What was there reads as it did, behind a call that only made memory. -/
theorem bcell {W w1 : World} (hb : Below W.heap.size W w1) : (∀ b o, b < W.heap.size → w1.cell? ⟨b, o, none⟩ = W.cell? ⟨b, o, none⟩) ∧ (∀ b o, b < W.heap.size → w1.frozen? ⟨b, o, none⟩ = W.frozen? ⟨b, o, none⟩) :=
  ⟨fun b o h => hb.cell (p := ⟨b, o, none⟩) h, fun b o h => hb.frozen (p := ⟨b, o, none⟩) h⟩
end Go.Proofs.YtnoijfnpchihoabDoor
namespace Go.Proofs.YtnoijfnpchihoabDoor
open Go.RowKit M

/-- The box N holds this request. -/
def BoxR (w : World) (N : Nat) (a : Option Addr) (cap : Nat) (r : Rq) : Prop :=
  N < w.heap.size ∧ w.cell? ⟨N, 0, none⟩ = some (.string r.m) ∧ w.cell? ⟨N, 1, none⟩ = some (.string r.p) ∧ w.cell? ⟨N, 2, none⟩ = some (.slice a r.hs.length cap) ∧ w.cell? ⟨N, 3, none⟩ = some (.string r.b)

theorem BoxR.below {w w' : World} {N C : Nat} {a : Option Addr} {cap : Nat} {r : Rq} (h : BoxR w N a cap r) (hb : Below C w w') (hC : N < C) : BoxR w' N a cap r := by
  obtain ⟨h0, h1, h2, h3, h4⟩ := h
  exact ⟨Nat.lt_of_lt_of_le h0 hb.size, (hb.cell (p := ⟨N, 0, none⟩) hC).trans h1, (hb.cell (p := ⟨N, 1, none⟩) hC).trans h2, (hb.cell (p := ⟨N, 2, none⟩) hC).trans h3, (hb.cell (p := ⟨N, 3, none⟩) hC).trans h4⟩
theorem BoxR.next {w w' : World} {N : Nat} {a : Option Addr} {cap : Nat} {r : Rq} (h : BoxR w N a cap r) (hb : Below w.heap.size w w') : BoxR w' N a cap r := h.below hb h.1

theorem BoxR.made (w : World) (a : Option Addr) (cap : Nat) (r : Rq) (T : TypeId) : BoxR (w.alloc (Obj.cells #[Value.string r.m, Value.string r.p, Value.slice a r.hs.length cap, Value.string r.b] T)) w.heap.size a cap r := ⟨by simp, by simp, by simp, by simp, by simp⟩
theorem BoxR.alloc {w : World} {N : Nat} {a : Option Addr} {cap : Nat} {r : Rq} (h : BoxR w N a cap r) (o : Obj) : BoxR (w.alloc o) N a cap r := h.next ((Below.refl _ _).alloc (Nat.le_refl _) _)
theorem Hds.alloc {w : World} {B : Nat} {a : Option Addr} {hs : List Hd} (h : Hds w B a hs) (hB : B ≤ w.heap.size) (o : Obj) : Hds (w.alloc o) B a hs := h.below ((Below.refl w.heap.size w).alloc (Nat.le_refl _) o) hB

/-- The cells of two boxes, one by one. -/
theorem keep8 {w : World} {N M : Nat} {a b : Option Addr} {cap cap' : Nat} {r q : Rq} (hx : BoxR w N a cap r) (hy : BoxR w M b cap' q) :
    w.cell? ⟨N, 0, none⟩ = some (.string r.m) ∧ w.cell? ⟨N, 1, none⟩ = some (.string r.p) ∧ w.cell? ⟨N, 2, none⟩ = some (.slice a r.hs.length cap) ∧ w.cell? ⟨N, 3, none⟩ = some (.string r.b) ∧ w.cell? ⟨M, 0, none⟩ = some (.string q.m) ∧ w.cell? ⟨M, 1, none⟩ = some (.string q.p) ∧ w.cell? ⟨M, 2, none⟩ = some (.slice b q.hs.length cap') ∧ w.cell? ⟨M, 3, none⟩ = some (.string q.b) := by
  obtain ⟨_, h1, h2, h3, h4⟩ := hx
  obtain ⟨_, g1, g2, g3, g4⟩ := hy
  exact ⟨h1, h2, h3, h4, g1, g2, g3, g4⟩
theorem keep4 {w : World} {N : Nat} {a : Option Addr} {cap : Nat} {r : Rq} (hx : BoxR w N a cap r) :
    w.cell? ⟨N, 0, none⟩ = some (.string r.m) ∧ w.cell? ⟨N, 1, none⟩ = some (.string r.p) ∧ w.cell? ⟨N, 2, none⟩ = some (.slice a r.hs.length cap) ∧ w.cell? ⟨N, 3, none⟩ = some (.string r.b) := by
  obtain ⟨_, h1, h2, h3, h4⟩ := hx
  exact ⟨h1, h2, h3, h4⟩
theorem BoxR.drew {w : World} {N : Nat} {a : Option Addr} {cap : Nat} {r : Rq} (h : BoxR w N a cap r) : BoxR w.drew N a cap r := h
theorem below_drew {w w' : World} {C : Nat} (h : Below C w w') : Below C w w'.drew := ⟨h.os, h.tape, h.output, h.size, h.block⟩
theorem Hds.drew {w : World} {B : Nat} {a : Option Addr} {hs : List Hd} (h : Hds w B a hs) : Hds w.drew B a hs := h

/-- The box N holds this head. -/
def BoxH (w : World) (N : Nat) (x y : ByteArray) : Prop := N < w.heap.size ∧ w.cell? ⟨N, 0, none⟩ = some (.string x) ∧ w.cell? ⟨N, 1, none⟩ = some (.string y)
theorem BoxH.next {w w' : World} {N : Nat} {x y : ByteArray} (h : BoxH w N x y) (hb : Below w.heap.size w w') : BoxH w' N x y :=
  ⟨Nat.lt_of_lt_of_le h.1 hb.size, (hb.cell (p := ⟨N, 0, none⟩) h.1).trans h.2.1, (hb.cell (p := ⟨N, 1, none⟩) h.1).trans h.2.2⟩
theorem BoxH.made (w : World) (x y : ByteArray) (T : TypeId) : BoxH (w.alloc (Obj.cells #[Value.string x, Value.string y] T)) w.heap.size x y := ⟨by simp, by simp, by simp⟩
end Go.Proofs.YtnoijfnpchihoabDoor
namespace Go.Proofs.YtnoijfnpchihoabDoor
open Go.RowKit M
set_option linter.unusedVariables false

theorem BoxH.of {w w' : World} {N : Nat} {x y : ByteArray} {r : Option Nat} (h : BoxH w N x y) (hg : w.grownBy w' r) (hN : some N ≠ r) : BoxH w' N x y := by
  have hb := hg.block N h.1 hN
  exact ⟨Nat.lt_of_lt_of_le h.1 hg.size, (World.cell?_of_block (a := ⟨N, 0, none⟩) hb).trans h.2.1, (World.cell?_of_block (a := ⟨N, 1, none⟩) hb).trans h.2.2⟩

set_option maxHeartbeats 1000000 in
theorem putHead_any (w : World) (B : Nat) (v : Value) (l : List UInt8) (x y : ByteArray) (h : OwnY w B v l) (hB : B ≤ w.heap.size) (hl : l.length ≤ 1073741824) (hx : x.size ≤ 1073741824) (hy : y.size ≤ 1073741824) :
    Calls Tryd.prog 62 #[v, .agg #[.string x, .string y]] w fun e w' => (∃ v', e = .returned v' ∧ OwnY w' B v' (l ++ hdTxt (x, y))) ∧ Below B w w' := by
  have hb0 : Below B w (w.alloc (Obj.cells #[Value.string x, Value.string y] 62)) := (Below.refl B w).alloc hB _
  have BH0 := hide (BoxH.made w x y 62)
  have C0 := hide hb0
  have HO := hide (h.next ((Below.refl w.heap.size w).alloc (Nat.le_refl _) (Obj.cells #[Value.string x, Value.string y] 62)))
  have hne : Hid (v.ownBlock ≠ some w.heap.size) := fun e => by have := h.lt _ e; omega
  clear hb0 h
  go_enter Tryd.func62, Tryd.ntmps62
  go_wp2_with (at_builtin; refine wp_append_text rfl _ _ rfl B v l rfl HO.out x rfl ?c1 ?c2 ?_)
  case c1 => omega
  case c2 => simp; omega
  intro v1 w1 ho1 hg1 hb1
  have n0 : v.ownBlock ≠ some w.heap.size := hne.out
  have n1 : v1.ownBlock ≠ some w.heap.size := by
    rcases hb1 with e | e
    · rw [e]; exact n0
    · rw [e]; simp
  have c1 := C0.out.trans (HO.out.grown (by simp; omega) hg1)
  have x1 := BH0.out.of hg1 (fun e => n0 e.symm)
  have BH1 := hide x1
  have N1 := hide n1
  obtain ⟨_, x10, x11⟩ := x1
  have z1 := hg1.size
  simp at z1
  clear hg1 hb1 n0 n1
  go_wp2_with (at_builtin; refine wp_append_text rfl _ _ rfl B v1 (l ++ x.data.toList) rfl ho1 ⟨#[58, 32]⟩ rfl ?c1 ?c2 ?_)
  case c1 => have e : x.data.toList.length = x.size := Array.length_toList; have e2 : (⟨#[58, 32]⟩ : ByteArray).size = 2 := rfl; rw [List.length_append]; omega
  case c2 => omega
  intro v2 w2 ho2 hg2 hb2
  have n2 : v2.ownBlock ≠ some w.heap.size := by
    rcases hb2 with e | e
    · rw [e]; exact N1.out
    · rw [e]; simp; omega
  have c2 := c1.trans (ho1.grown (by omega) hg2)
  have x2 := BH1.out.of hg2 (fun e => N1.out e.symm)
  have BH2 := hide x2
  have N2 := hide n2
  obtain ⟨_, x20, x21⟩ := x2
  have z2 := hg2.size
  clear hg2 hb2 n2 x10 x11 ho1
  go_wp2_with (at_builtin; refine wp_append_text rfl _ _ rfl B v2 _ rfl ho2 y rfl ?c1 ?c2 ?_)
  case c1 => have e : x.data.toList.length = x.size := Array.length_toList; rw [List.length_append, List.length_append]; simp only [List.length_cons, List.length_nil]; omega
  case c2 => omega
  intro v3 w3 ho3 hg3 hb3
  have c3 := c2.trans (ho2.grown (by omega) hg3)
  have z3 := hg3.size
  clear hg3 hb3 x20 x21 ho2
  go_wp2_with (at_builtin; refine wp_append_text rfl _ _ rfl B v3 _ rfl ho3 ⟨#[13, 10]⟩ rfl ?c1 ?c2 ?_)
  case c1 => have e : x.data.toList.length = x.size := Array.length_toList; have e2 : y.data.toList.length = y.size := Array.length_toList; have e3 : (⟨#[13, 10]⟩ : ByteArray).size = 2 := rfl; simp only [List.length_append, List.length_cons]; omega
  case c2 => omega
  intro v4 w4 ho4 hg4 hb4
  have c4 := c3.trans (ho3.grown (by omega) hg4)
  have HO4 : Hid (OwnY w4 B v4 (l ++ hdTxt (x, y))) := by
    show OwnY w4 B v4 (l ++ hdTxt (x, y))
    have e : l ++ hdTxt (x, y) = l ++ (x.data.toList ++ 58 :: 32 :: (y.data.toList ++ [13, 10])) := by simp [hdTxt, crlf]
    rw [e]; exact ho4
  clear ho4 hg4 hb4 ho3
  go_wp2
  go_ret
  exact ⟨⟨v4, rfl, HO4.out⟩, c4⟩
end Go.Proofs.YtnoijfnpchihoabDoor
namespace Go.Proofs.YtnoijfnpchihoabDoor.M

/-- Lines with their ends, and an end. -/
def linesTxt (top : List UInt8) (hs hs2 : List Hd) : List UInt8 := top ++ (crlf ++ (hdsTxt hs ++ (hdsTxt hs2 ++ crlf)))
end Go.Proofs.YtnoijfnpchihoabDoor.M
