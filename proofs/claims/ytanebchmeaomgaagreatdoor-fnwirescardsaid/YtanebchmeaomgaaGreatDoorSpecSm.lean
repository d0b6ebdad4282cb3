/-
  Plain facts on quoted texts: no program in sight.
  Plain facts on the bytes of a request: no program in sight.
  A request that lies in a box of the call's own.
  What the specification's l3HeadsText does; bytes that are made.
  Two answers that are the same.
  What the program's calls on kinds of bytes do: isOf, isOneOf: each computes, and turns nothing in memory.
  What the specification's l1In does; a byte as an int.
  What the specification's own Plain does.
  What the specification's l1Blank and Trim do.
  What the specification's l3Val does.
  What the specification's l1Digit does.
  What l1Small and SmallName (the specification's) do.
-/
import Derived.Test.YtanebchmeaomgaaGreatDoorHeads
import Derived.Lib.ItoaNum
import Derived.Test.YtanebchmeaomgaaGreatDoorStepByts
import Derived.Deep.RegionHeld3
import Derived.Lib.ConvBytes
import Derived.Lib.ItoaLen
import Derived.Test.YtanebchmeaomgaaGreatDoorRows
import Derived.WalkKit
import Derived.WalkSpells
import Derived.WalkLawsBesides
import Derived.Deep.Light
namespace Go.Proofs.YtanebchmeaomgaaGreatDoor.M

/-- These bytes, as a text. -/
def bytesOf (l : List UInt8) : ByteArray := ⟨l.toArray⟩
theorem bytesOf_append (l m : List UInt8) : bytesOf l ++ bytesOf m = bytesOf (l ++ m) := by
  apply ByteArray.ext
  simp [bytesOf]

theorem bytesOf_size (l : List UInt8) : (bytesOf l).size = l.length := by
  show l.toArray.size = l.length
  simp

/-- A digit of sixteen, a large one. -/
def digL (n : Nat) : UInt8 := if n < 10 then UInt8.ofNat (48 + n) else UInt8.ofNat (55 + n)
theorem digL_lo (n : Nat) (h : n < 10) : (digL n).toNat = 48 + n := by
  unfold digL; rw [if_pos h]; simp; omega
theorem digL_hi (n : Nat) (h : ¬ n < 10) (h' : n < 16) : (digL n).toNat = 55 + n := by
  unfold digL; rw [if_neg h]; simp; omega

/-- Whether a byte stays as it is in a quoted text. -/
def freeB (c : Int) : Bool := ((((((isB c 2 || isB c 3) || isB c 4) || c == 45) || c == 46) || c == 95) || c == 126)
def quoteB (c : UInt8) : List UInt8 := if freeB (c.toNat : Int) then [c] else [37, digL (c.toNat / 16), digL (c.toNat % 16)]
def quoteL (l : List UInt8) : List UInt8 := l.flatMap quoteB

theorem quoteB_yes {c : UInt8} (h : freeB (c.toNat : Int) = true) : quoteB c = [c] := by unfold quoteB; rw [if_pos h]
theorem quoteB_no {c : UInt8} (h : freeB (c.toNat : Int) = false) : quoteB c = [37, digL (c.toNat / 16), digL (c.toNat % 16)] := by unfold quoteB; rw [if_neg (by simp [h])]

theorem quoteL_snoc (s : ByteArray) (k : Nat) (h : k < s.size) : quoteL (s.data.toList.take (k + 1)) = quoteL (s.data.toList.take k) ++ quoteB s[k] := by
  rw [take_snoc s k h]; simp [quoteL]

theorem quoteB_length (c : UInt8) : (quoteB c).length ≤ 3 := by unfold quoteB; split <;> simp
theorem quoteL_le (l : List UInt8) : (quoteL l).length ≤ 3 * l.length := by
  induction l with
  | nil => simp [quoteL]
  | cons c l ih =>
    have := quoteB_length c
    simp only [quoteL, List.flatMap_cons, List.length_append, List.length_cons] at *
    omega

theorem hex_at (n : Nat) (h : n < 16) : (⟨#[48, 49, 50, 51, 52, 53, 54, 55, 56, 57, 65, 66, 67, 68, 69, 70]⟩ : ByteArray)[n]'(by show n < 16; exact h) = digL n := by
  have key : ∀ i : Fin 16, (⟨#[48, 49, 50, 51, 52, 53, 54, 55, 56, 57, 65, 66, 67, 68, 69, 70]⟩ : ByteArray)[i.val]'(by show i.val < 16; exact i.isLt) = digL i.val := by decide
  exact key ⟨n, h⟩

end Go.Proofs.YtanebchmeaomgaaGreatDoor.M
namespace Go.Proofs.YtanebchmeaomgaaGreatDoor.M

def crlf : List UInt8 := [13, 10]
def proto : List UInt8 := [72, 84, 84, 80, 47, 49, 46, 49]
def lenTag : List UInt8 := [99, 111, 110, 116, 101, 110, 116, 45, 108, 101, 110, 103, 116, 104, 58, 32]
/-- The line of a head, and of all heads. -/
def hdTxt (h : Hd) : List UInt8 := h.1.data.toList ++ ([58, 32] ++ (h.2.data.toList ++ crlf))
def hdsTxt (hs : List Hd) : List UInt8 := hs.flatMap hdTxt
/-- The first line. -/
def topTxt (r : Rq) : List UInt8 := r.m.data.toList ++ ([32] ++ (r.p.data.toList ++ ([32] ++ (proto ++ crlf))))
/-- What stands ahead of the body, with this line on it. -/
def frontL (r : Rq) (line : List UInt8) : List UInt8 := topTxt r ++ (hdsTxt r.hs ++ (line ++ crlf))
def lenLine (n : Nat) : List UInt8 := lenTag ++ (Lib.decDigits n ++ crlf)
def bodyLine (b : ByteArray) : List UInt8 := if b.size = 0 then [] else lenLine b.size
def put0 (r : Rq) (line body : List UInt8) : List UInt8 := if reqB r = true ∧ (frontL r line).length ≤ 400 then frontL r line ++ body else []
/-- The bytes of a request. -/
def putL (r : Rq) : List UInt8 := put0 r (bodyLine r.b) r.b.data.toList

theorem hdsTxt_snoc (hs : List Hd) (k : Nat) (h : k < hs.length) : hdsTxt (hs.take (k + 1)) = hdsTxt (hs.take k) ++ hdTxt hs[k] := by
  unfold hdsTxt
  rw [List.take_succ_eq_append_getElem h, List.flatMap_append]
  simp only [List.flatMap_cons, List.flatMap_nil, List.append_nil]

theorem hdTxt_len (h : Hd) : (hdTxt h).length = szH h + 4 := by
  have e1 : h.1.data.toList.length = h.1.size := Array.length_toList
  have e2 : h.2.data.toList.length = h.2.size := Array.length_toList
  simp only [hdTxt, crlf, szH, List.length_append, List.length_cons, List.length_nil]
  omega
theorem hdsTxt_len (hs : List Hd) : (hdsTxt hs).length = sumH hs + 4 * hs.length := by
  induction hs with
  | nil => rfl
  | cons h r ih =>
    have := hdTxt_len h
    simp only [hdsTxt, sumH, List.flatMap_cons, List.length_append, List.map_cons, List.sum_cons, List.length_cons] at *
    omega

theorem sumH_take (hs : List Hd) (k : Nat) : sumH (hs.take k) ≤ sumH hs := by
  have e : sumH hs = sumH (hs.take k) + sumH (hs.drop k) := by
    unfold sumH
    rw [← List.sum_append, ← List.map_append, List.take_append_drop]
  omega

theorem bytes_app (a b : ByteArray) : a ++ b = bytesOf (a.data.toList ++ b.data.toList) := by
  apply ByteArray.ext
  simp [bytesOf]
theorem bytesOf_list (l : List UInt8) : (bytesOf l).data.toList = l := rfl
end Go.Proofs.YtanebchmeaomgaaGreatDoor.M
namespace Go.Proofs.YtanebchmeaomgaaGreatDoor
open Go.RowKit M

/-- The box N holds this request. -/
def BoxR (w : World) (N : Nat) (a : Option Addr) (cap : Nat) (r : Rq) : Prop :=
  N < w.heap.size ∧ w.cell? ⟨N, 0, none⟩ = some (.string r.m) ∧ w.cell? ⟨N, 1, none⟩ = some (.string r.p) ∧ w.cell? ⟨N, 2, none⟩ = some (.slice a r.hs.length cap) ∧ w.cell? ⟨N, 3, none⟩ = some (.string r.b)

theorem BoxR.below {w w' : World} {N C : Nat} {a : Option Addr} {cap : Nat} {r : Rq} (h : BoxR w N a cap r) (hb : Below C w w') (hC : N < C) : BoxR w' N a cap r := by
  obtain ⟨h0, h1, h2, h3, h4⟩ := h
  exact ⟨Nat.lt_of_lt_of_le h0 hb.size, (hb.cell (p := ⟨N, 0, none⟩) hC).trans h1, (hb.cell (p := ⟨N, 1, none⟩) hC).trans h2, (hb.cell (p := ⟨N, 2, none⟩) hC).trans h3, (hb.cell (p := ⟨N, 3, none⟩) hC).trans h4⟩
theorem BoxR.next {w w' : World} {N : Nat} {a : Option Addr} {cap : Nat} {r : Rq} (h : BoxR w N a cap r) (hb : Below w.heap.size w w') : BoxR w' N a cap r := h.below hb h.1

theorem BoxR.made (w : World) (a : Option Addr) (cap : Nat) (r : Rq) (T : TypeId) : BoxR (w.alloc (Obj.cells #[Value.string r.m, Value.string r.p, Value.slice a r.hs.length cap, Value.string r.b] T)) w.heap.size a cap r := ⟨by simp, by simp, by simp, by simp, by simp⟩
theorem BoxR.alloc {w : World} {N : Nat} {a : Option Addr} {cap : Nat} {r : Rq} (h : BoxR w N a cap r) (o : Obj) : BoxR (w.alloc o) N a cap r := h.next ((Below.refl _ _).alloc (Nat.le_refl _) _)
theorem Hds.alloc {w : World} {B : Nat} {a : Option Addr} {hs : List Hd} (h : Hds w B a hs) (hB : B ≤ w.heap.size) (o : Obj) : Hds (w.alloc o) B a hs := h.below ((Below.refl w.heap.size w).alloc (Nat.le_refl _) o) hB

/-- The cells of two boxes, one by one. -/
theorem keep8 {w : World} {N M : Nat} {a b : Option Addr} {cap cap' : Nat} {r q : Rq} (hx : BoxR w N a cap r) (hy : BoxR w M b cap' q) :
    w.cell? ⟨N, 0, none⟩ = some (.string r.m) ∧ w.cell? ⟨N, 1, none⟩ = some (.string r.p) ∧ w.cell? ⟨N, 2, none⟩ = some (.slice a r.hs.length cap) ∧ w.cell? ⟨N, 3, none⟩ = some (.string r.b) ∧ w.cell? ⟨M, 0, none⟩ = some (.string q.m) ∧ w.cell? ⟨M, 1, none⟩ = some (.string q.p) ∧ w.cell? ⟨M, 2, none⟩ = some (.slice b q.hs.length cap') ∧ w.cell? ⟨M, 3, none⟩ = some (.string q.b) := by
  obtain ⟨_, h1, h2, h3, h4⟩ := hx
  obtain ⟨_, g1, g2, g3, g4⟩ := hy
  exact ⟨h1, h2, h3, h4, g1, g2, g3, g4⟩
theorem keep4 {w : World} {N : Nat} {a : Option Addr} {cap : Nat} {r : Rq} (hx : BoxR w N a cap r) :
    w.cell? ⟨N, 0, none⟩ = some (.string r.m) ∧ w.cell? ⟨N, 1, none⟩ = some (.string r.p) ∧ w.cell? ⟨N, 2, none⟩ = some (.slice a r.hs.length cap) ∧ w.cell? ⟨N, 3, none⟩ = some (.string r.b) := by
  obtain ⟨_, h1, h2, h3, h4⟩ := hx
  exact ⟨h1, h2, h3, h4⟩
theorem BoxR.drew {w : World} {N : Nat} {a : Option Addr} {cap : Nat} {r : Rq} (h : BoxR w N a cap r) : BoxR w.drew N a cap r := h
theorem below_drew {w w' : World} {C : Nat} (h : Below C w w') : Below C w w'.drew := ⟨h.os, h.tape, h.output, h.size, h.block⟩
theorem Hds.drew {w : World} {B : Nat} {a : Option Addr} {hs : List Hd} (h : Hds w B a hs) : Hds w.drew B a hs := h

/-- The box N holds this head. -/
def BoxH (w : World) (N : Nat) (x y : ByteArray) : Prop := N < w.heap.size ∧ w.cell? ⟨N, 0, none⟩ = some (.string x) ∧ w.cell? ⟨N, 1, none⟩ = some (.string y)
theorem BoxH.next {w w' : World} {N : Nat} {x y : ByteArray} (h : BoxH w N x y) (hb : Below w.heap.size w w') : BoxH w' N x y :=
  ⟨Nat.lt_of_lt_of_le h.1 hb.size, (hb.cell (p := ⟨N, 0, none⟩) h.1).trans h.2.1, (hb.cell (p := ⟨N, 1, none⟩) h.1).trans h.2.2⟩
theorem BoxH.made (w : World) (x y : ByteArray) (T : TypeId) : BoxH (w.alloc (Obj.cells #[Value.string x, Value.string y] T)) w.heap.size x y := ⟨by simp, by simp, by simp⟩
end Go.Proofs.YtanebchmeaomgaaGreatDoor
namespace Go.Proofs.YtanebchmeaomgaaGreatDoor
open Go.RowKit M
set_option linter.unusedVariables false

theorem ret_string {a b : ByteArray} (h : a = b) : Ending.returned (.string a) = .returned (.string b) := by rw [h]

theorem join_head (l : List UInt8) (x y : ByteArray) : bytesOf l ++ x ++ ⟨#[58, 32]⟩ ++ y ++ ⟨#[13, 10]⟩ = bytesOf (l ++ hdTxt (x, y)) := by
  apply ByteArray.ext
  simp [bytesOf, hdTxt, crlf]

set_option maxHeartbeats 1000000 in
theorem l3HeadsText_any (a : Option Addr) (hs : List Hd) (cap B : Nat) (w : World) (h : Hds w B a hs) (hl : hs.length ≤ 1048576) (hsum : sumH hs ≤ 1048576) :
    Calls Tryz.prog 90 #[.slice a hs.length cap] w fun e w' => e = .returned (.string (bytesOf (hdsTxt hs))) ∧ ∃ n, w' = w.drewN n := by
  go_enter Tryz.func90, Tryz.ntmps90
  go_wp2
  go_loopw [3, 4] (fun s i wr => ∃ (k n : Nat) (t : ByteArray), k ≤ hs.length ∧ i = .int .i64 k ∧ s = .string t ∧ t = bytesOf (hdsTxt (hs.take k)) ∧ wr = w.drewN n) (fun _ i _ => hs.length - (intOf i).toNat)
  case atStart => exact ⟨0, 0, _, Nat.zero_le _, rfl, rfl, rfl, rfl⟩
  case round =>
    obtain ⟨k, n, t, hk, rfl, rfl, ht, rfl⟩ := hrel
    have htz : t.size ≤ 8388608 := by
      rw [ht, bytesOf_size, hdsTxt_len]
      have := sumH_take hs k
      rw [List.length_take]; omega
    have HT := hide ht
    clear ht
    by_cases hlt : k < hs.length
    · obtain ⟨b, o, rfl, hb, hc⟩ := h (by omega)
      have hcx := (hc k hlt).1
      have hcy := (hc k hlt).2
      have HS : Hid (hdsTxt (hs.take (k + 1)) = hdsTxt (hs.take k) ++ hdTxt hs[k]) := hdsTxt_snoc hs k hlt
      have hz1 : (hs[k]).1.size ≤ 1048576 := Nat.le_trans (sumH_mem hs _ (List.getElem_mem hlt)).1 hsum
      have hz2 : (hs[k]).2.size ≤ 1048576 := Nat.le_trans (sumH_mem hs _ (List.getElem_mem hlt)).2 hsum
      have hq1 : ¬ (9223372036854775807 < t.size + (hs[k]).1.size) := by omega
      have hq2 : ¬ (9223372036854775807 < t.size + (hs[k]).1.size + 2) := by omega
      have hq3 : ¬ (9223372036854775807 < t.size + (hs[k]).1.size + 2 + (hs[k]).2.size) := by omega
      have hq4 : ¬ (9223372036854775807 < t.size + (hs[k]).1.size + 2 + (hs[k]).2.size + 2) := by omega
      clear hc
      go_wp2
      go_quiet (fail)
      go_wp2
      go_roundw
      case rel => exact ⟨k + 1, n + nq, _, by omega, by go_num, rfl, by rw [HS.out, HT.out]; exact join_head _ _ _, rfl⟩
      case measure => simp [intOf]; omega
    · go_wp2
      go_ret
      exact ⟨ret_string (by rw [HT.out, List.take_of_length_le (by omega)]), n, rfl⟩

theorem below_bytesP (w : World) (s : ByteArray) : Below w.heap.size w (Lib.bytesWorld w 5 s) :=
  ⟨rfl, rfl, rfl, by rw [Lib.bytesWorld_size]; omega, fun k hk => Lib.bytesWorld_at_old w 5 s k hk⟩
theorem byt_bytes (w : World) (s : ByteArray) : Byt (Lib.bytesWorld w 5 s) (w.heap.size + 1) (some ⟨w.heap.size, 0, none⟩) s.data.toList := fun _ =>
  ⟨w.heap.size, 0, rfl, Nat.lt_succ_self _, fun j hj => by
    have e : s.data.toList.length = s.size := Array.length_toList
    rw [Nat.zero_add, Lib.bytesWorld_cell w 5 s j (by omega)]
    simp [List.getD, List.getElem?_eq_getElem hj]⟩

theorem len_line (n : Nat) : (⟨#[99, 111, 110, 116, 101, 110, 116, 45, 108, 101, 110, 103, 116, 104, 58, 32]⟩ : ByteArray) ++ ⟨(Lib.decDigits n).toArray⟩ ++ ⟨#[13, 10]⟩ = bytesOf (lenLine n) := by
  apply ByteArray.ext
  simp [bytesOf, lenLine, lenTag, crlf]

theorem dec_len (n : Nat) (h : n ≤ 1048576) : (Lib.decDigits n).length ≤ 20 := by
  rw [Lib.decDigits_length]
  exact Lib.nDigits_le20 n (by omega)
end Go.Proofs.YtanebchmeaomgaaGreatDoor
namespace Go.Proofs.YtanebchmeaomgaaGreatDoor

theorem ret_bool {a b : Bool} (h : a = b) : Ending.returned (.bool a) = .returned (.bool b) := by rw [h]
end Go.Proofs.YtanebchmeaomgaaGreatDoor
namespace Go.Proofs.YtanebchmeaomgaaGreatDoor
open Go.RowKit M

set_option maxHeartbeats 400000 in
theorem isOf_any (c k : Int) (w : World) :
    Calls Tryz.prog 197 #[.int .u8 c, .int .i64 k] w fun e w' => e = .returned (.bool (isB c k)) ∧ w' = w := by
  go_enter Tryz.func197, Tryz.ntmps197
  go_wp2
  all_goals
    go_ret
    refine ⟨ret_bool ?_, rfl⟩
    go_light
    unfold isB
    simp_all
    try omega

set_option maxHeartbeats 400000 in
theorem isOneOf_any (c : Int) (ks : List Int) (n b o cap : Nat) (w : World) (hn : ks.length = n) (hl : ks.length ≤ maxLen)
    (hc : ∀ i, i < ks.length → w.cell? ⟨b, o + i, none⟩ = some (.int .i64 (ks.getD i 0))) :
    Calls Tryz.prog 180 #[.int .u8 c, .slice (some ⟨b, o, none⟩) n cap] w fun e w' => e = .returned (.bool (anyB c ks)) ∧ w' = w := by
  subst hn
  unfold maxLen at hl
  go_enter Tryz.func180, Tryz.ntmps180
  go_wp2
  go_loop [9] (fun i => ∃ k : Nat, k ≤ ks.length ∧ i = .int .i64 k ∧ anyB c (ks.take k) = false) (fun i => ks.length - (intOf i).toNat)
  case atStart => exact ⟨0, Nat.zero_le _, rfl, rfl⟩
  case round =>
    obtain ⟨k, hk, rfl, hn⟩ := hrel
    have HN : Hid (anyB c (ks.take k) = false) := hn; clear hn
    by_cases hlt : k < ks.length
    · have hcx := hc k hlt
      go_wp2_with (go_at_call 197; refine (isOf_any _ _ _).mono ?_; rintro e w' ⟨rfl, rfl⟩)
      · go_ret
        exact ⟨ret_bool (by rw [anyB_of c ks k hlt (by assumption)]), rfl⟩
      · go_round
        case rel => exact ⟨k + 1, by omega, by go_num, anyB_snoc c ks k hlt HN.out (by assumption)⟩
        case measure => simp [intOf]; omega
    · go_wp2
      go_ret
      exact ⟨ret_bool (by rw [← HN.out, List.take_of_length_le (by omega)]), rfl⟩
theorem cells1 (w : World) (a : Int) (T : TypeId) : ∀ i, i < [a].length → (w.alloc (Obj.cells #[.int .i64 a] T)).cell? ⟨w.heap.size, 0 + i, none⟩ = some (.int .i64 ([a].getD i 0)) := by
  intro i hi
  match i, hi with
  | 0, _ => simp

theorem cells3 (w : World) (n : Nat) (a b c : Int) (T : TypeId) (hn : w.heap.size = n) : ∀ i, i < [a, b, c].length → (w.alloc (Obj.cells #[.int .i64 a, .int .i64 b, .int .i64 c] T)).cell? ⟨n, 0 + i, none⟩ = some (.int .i64 ([a, b, c].getD i 0)) := by
  subst hn
  intro i hi
  match i, hi with
  | 0, _ => simp
  | 1, _ => simp
  | 2, _ => simp
end Go.Proofs.YtanebchmeaomgaaGreatDoor
namespace Go.Proofs.YtanebchmeaomgaaGreatDoor
open Go.RowKit M

set_option maxHeartbeats 400000 in
theorem l1In_any (x a b : Int) (w : World) :
    Calls Tryz.prog 123 #[.int .i64 x, .int .i64 a, .int .i64 b] w fun e w' => e = .returned (.bool (inB x a b)) ∧ w' = w := by
  go_enter Tryz.func123, Tryz.ntmps123
  go_wp2
  all_goals
    go_ret
    refine ⟨ret_bool ?_, rfl⟩
    go_light
    unfold inB
    simp_all
    try omega

theorem wrap64_u8 (c : UInt8) : wrap64 (c.toNat : Int) = c.toNat := by
  have := c.toNat_lt
  unfold wrap64
  omega
end Go.Proofs.YtanebchmeaomgaaGreatDoor
namespace Go.Proofs.YtanebchmeaomgaaGreatDoor
open Go.RowKit M

set_option maxHeartbeats 400000 in
theorem specPlain_any (s : ByteArray) (w : World) (hs : s.size ≤ maxLen) :
    Calls Tryz.prog 106 #[.string s] w fun e w' => e = .returned (.bool (allB s.data.toList [0])) ∧ w' = w := by
  unfold maxLen at hs
  go_enter Tryz.func106, Tryz.ntmps106
  go_wp2
  go_loop [3] (fun i => ∃ k : Nat, k ≤ s.size ∧ i = .int .i64 k ∧ allB (s.data.toList.take k) [0] = true) (fun i => s.size - (intOf i).toNat)
  case atStart => exact ⟨0, Nat.zero_le _, rfl, rfl⟩
  case round =>
    obtain ⟨k, hk, rfl, hn⟩ := hrel
    have HN : Hid (allB (s.data.toList.take k) [0] = true) := hn; clear hn
    by_cases hlt : k < s.size
    · go_wp2_with (go_at_call 123; refine (l1In_any _ _ _ _).mono ?_; rintro e w' ⟨rfl, rfl⟩; rw [wrap64_u8, inB_plain])
      · go_ret
        exact ⟨ret_bool (by rw [allB_not s [0] k hlt (by assumption)]), rfl⟩
      · go_round
        case rel => exact ⟨k + 1, by omega, by go_num, allB_snoc s [0] k hlt HN.out (by assumption)⟩
        case measure => simp [intOf]; omega
    · go_wp2
      go_ret
      exact ⟨ret_bool (by rw [← HN.out, take_all s k hlt]), rfl⟩

end Go.Proofs.YtanebchmeaomgaaGreatDoor
namespace Go.Proofs.YtanebchmeaomgaaGreatDoor
open Go.RowKit M

def strLen : Value → Nat | .string t => t.size | _ => 0

set_option maxHeartbeats 400000 in
theorem l1Blank_any (c : UInt8) (w : World) :
    Calls Tryz.prog 182 #[.int .u8 c.toNat] w fun e w' => e = .returned (.bool (bl c)) ∧ w' = w := by
  go_enter Tryz.func182, Tryz.ntmps182
  go_wp2
  all_goals
    go_ret
    refine ⟨ret_bool ?_, rfl⟩
    go_light
    unfold bl isB
    simp_all

set_option maxHeartbeats 1000000 in
theorem specTrim_any (s : ByteArray) (w : World) (hs : s.size ≤ maxLen) :
    Calls Tryz.prog 155 #[.string s] w fun e w' => (∃ t : ByteArray, e = .returned (.string t) ∧ t.data.toList = trimL s.data.toList) ∧ w' = w := by
  unfold maxLen at hs
  go_enter Tryz.func155, Tryz.ntmps155
  go_wp2
  go_loop [0] (fun v => ∃ t : ByteArray, v = .string t ∧ t.size ≤ s.size ∧ trimL t.data.toList = trimL s.data.toList) (fun v => strLen v)
  case atStart => exact ⟨s, rfl, Nat.le_refl _, rfl⟩
  case round =>
    obtain ⟨t, rfl, ht, hn⟩ := hrel
    have HN : Hid (trimL t.data.toList = trimL s.data.toList) := hn; clear hn
    by_cases h0 : 0 < t.size
    · cases hb : bl t[0]
      · go_wp2_with (go_at_call 182; refine (l1Blank_any _ _).mono ?_; rintro e w' ⟨rfl, rfl⟩; rw [hb])
        go_loop [0] (fun v => ∃ u : ByteArray, v = .string u ∧ u.size ≤ s.size ∧ trimL u.data.toList = trimL s.data.toList ∧ ∀ h : 0 < u.size, bl u[0] = false) (fun v => strLen v)
        case atStart => exact ⟨t, rfl, ht, HN.out, fun _ => hb⟩
        case round =>
          clear hb
          obtain ⟨u, rfl, hu, hn, hf⟩ := hrel
          have HU : Hid (trimL u.data.toList = trimL s.data.toList) := hn; clear hn
          have HF : Hid (∀ h : 0 < u.size, bl u[0] = false) := hf; clear hf
          by_cases h1 : 0 < u.size
          · cases hb1 : bl u[u.size - 1]
            · go_wp2_with (go_at_call 182; refine (l1Blank_any _ _).mono ?_; rintro e w' ⟨rfl, rfl⟩; rw [hb1])
              go_ret
              exact ⟨⟨u, rfl, step_done u _ h1 (HF.out h1) hb1 HU.out⟩, rfl⟩
            · go_wp2_with (go_at_call 182; refine (l1Blank_any _ _).mono ?_; rintro e w' ⟨rfl, rfl⟩; rw [hb1])
              go_round
              case rel => exact ⟨_, rfl, by rw [size_extract _ _ _ (by omega)]; omega, step_back u _ h1 hb1 HU.out, step_back_head u h1 (HF.out h1)⟩
              case measure => simp only [strLen]; rw [size_extract _ _ _ (by omega)]; omega
          · go_wp2
            go_ret
            exact ⟨⟨u, rfl, step_none u _ h1 HU.out⟩, rfl⟩
      · go_wp2_with (go_at_call 182; refine (l1Blank_any _ _).mono ?_; rintro e w' ⟨rfl, rfl⟩; rw [hb])
        go_round
        case rel => exact ⟨_, rfl, by rw [size_extract _ _ _ (Nat.le_refl _)]; omega, step_front t _ h0 hb HN.out⟩
        case measure => simp only [strLen]; rw [size_extract _ _ _ (Nat.le_refl _)]; omega
    · go_wp2
      go_loop [0] (fun v => v = .string t) (fun v => strLen v)
      case atStart => rfl
      case round =>
        subst hrel
        go_wp2
        go_ret
        exact ⟨⟨t, rfl, step_none t _ h0 HN.out⟩, rfl⟩
end Go.Proofs.YtanebchmeaomgaaGreatDoor
namespace Go.Proofs.YtanebchmeaomgaaGreatDoor
open Go.RowKit M
set_option linter.unusedVariables false

theorem trim_same {t s : ByteArray} (h : t.data.toList = trimL s.data.toList) : (t.toList == s.toList) = decide (trimL s.data.toList = s.data.toList) := by
  rw [ByteArray.toList_eq, ByteArray.toList_eq, h]
  by_cases e : trimL s.data.toList = s.data.toList
  · simp [e]
  · simp [e]

set_option maxHeartbeats 400000 in
theorem l3Val_any (s : ByteArray) (w : World) (hs : s.size ≤ maxLen) :
    Calls Tryz.prog 163 #[.string s] w fun e w' => e = .returned (.bool (valB s)) ∧ w' = w := by
  have hs' := hs
  unfold maxLen at hs'
  by_cases h1 : s.size ≤ 60
  · have h1' : (s.size : Int) ≤ 60 := by omega
    cases h2 : allB s.data.toList [0]
    · have HE : Hid (valB s = false) := by show valB s = false; simp [valB, h2]
      go_enter Tryz.func163, Tryz.ntmps163
      go_wp2_with (go_at_call 106; refine (specPlain_any s _ hs).mono ?_; rintro e w' ⟨rfl, rfl⟩; rw [h2])
      go_ret
      exact ⟨ret_bool HE.out.symm, rfl⟩
    · have HE : Hid (valB s = decide (trimL s.data.toList = s.data.toList)) := by show valB s = _; simp [valB, h2, h1]
      go_enter Tryz.func163, Tryz.ntmps163
      go_wp2_with (first | (go_at_call 106; refine (specPlain_any s _ hs).mono ?_; rintro e w' ⟨rfl, rfl⟩; rw [h2]) | (go_at_call 155; refine (specTrim_any s _ hs).mono ?_; rintro e w' ⟨⟨t, rfl, ht⟩, rfl⟩; have HT := hide ht; clear ht))
      go_ret
      exact ⟨ret_bool (by rw [HE.out, ← trim_same HT.out]), rfl⟩
  · have h1' : ¬ (s.size : Int) ≤ 60 := by omega
    have HE : Hid (valB s = false) := by show valB s = false; simp [valB, h1]
    go_enter Tryz.func163, Tryz.ntmps163
    go_wp2
    go_ret
    exact ⟨ret_bool HE.out.symm, rfl⟩
end Go.Proofs.YtanebchmeaomgaaGreatDoor
namespace Go.Proofs.YtanebchmeaomgaaGreatDoor
open Go.RowKit M

set_option maxHeartbeats 400000 in
theorem l1Digit_any (c : UInt8) (w : World) :
    Calls Tryz.prog 159 #[.int .u8 c.toNat] w fun e w' => e = .returned (.bool (isB c.toNat 4)) ∧ w' = w := by
  go_enter Tryz.func159, Tryz.ntmps159
  go_wp2_with (go_at_call 123; refine (l1In_any _ _ _ _).mono ?_; rintro e w' ⟨rfl, rfl⟩; rw [wrap64_u8, inB_digit])
  go_ret
  exact ⟨rfl, rfl⟩
end Go.Proofs.YtanebchmeaomgaaGreatDoor
namespace Go.Proofs.YtanebchmeaomgaaGreatDoor
open Go.RowKit M

set_option maxHeartbeats 400000 in
theorem l1Small_any (c : UInt8) (w : World) :
    Calls Tryz.prog 158 #[.int .u8 c.toNat] w fun e w' => e = .returned (.bool (isB c.toNat 2)) ∧ w' = w := by
  go_enter Tryz.func158, Tryz.ntmps158
  go_wp2_with (go_at_call 123; refine (l1In_any _ _ _ _).mono ?_; rintro e w' ⟨rfl, rfl⟩; rw [wrap64_u8, inB_small])
  go_ret
  exact ⟨rfl, rfl⟩

set_option maxHeartbeats 1000000 in
theorem specSmallName_any (s : ByteArray) (w : World) (hs : s.size ≤ maxLen) :
    Calls Tryz.prog 113 #[.string s] w fun e w' => e = .returned (.bool (smB s.data.toList)) ∧ w' = w := by
  unfold maxLen at hs
  go_enter Tryz.func113, Tryz.ntmps113
  go_wp2
  go_loop [3] (fun i => ∃ k : Nat, k ≤ s.size ∧ i = .int .i64 k ∧ ∀ j (hj : j < s.size), j < k → okAt j (s[j].toNat : Int) = true) (fun i => s.size - (intOf i).toNat)
  case atStart => exact ⟨0, Nat.zero_le _, rfl, fun _ _ h => absurd h (Nat.not_lt_zero _)⟩
  case round =>
    obtain ⟨k, hk, rfl, hn⟩ := hrel
    have HN : Hid (∀ j (hj : j < s.size), j < k → okAt j (s[j].toNat : Int) = true) := hn; clear hn
    by_cases hlt : k < s.size
    · have hnext : okAt k (s[k].toNat : Int) = true → ∀ j (hj : j < s.size), j < k + 1 → okAt j (s[j].toNat : Int) = true := by
        intro ho j hj hjk
        by_cases e : j = k
        · subst e; exact ho
        · exact HN.out j hj (by omega)
      have HX : Hid (okAt k (s[k].toNat : Int) = true → ∀ j (hj : j < s.size), j < k + 1 → okAt j (s[j].toNat : Int) = true) := hnext
      clear hnext
      go_wp2_with (first | (go_at_call 158; refine (l1Small_any _ _).mono ?_; rintro e w' ⟨rfl, rfl⟩) | (go_at_call 159; refine (l1Digit_any _ _).mono ?_; rintro e w' ⟨rfl, rfl⟩))
      · go_round
        case rel => exact ⟨k + 1, by omega, by go_num, HX.out (ok1 (by assumption))⟩
        case measure => simp [intOf]; omega
      · go_ret
        exact ⟨ret_bool (smB_not s k hlt (no2 (by assumption) (by assumption))).symm, rfl⟩
      · go_round
        case rel => exact ⟨k + 1, by omega, by go_num, HX.out (ok3 (by assumption) (by assumption))⟩
        case measure => simp [intOf]; omega
      · go_ret
        exact ⟨ret_bool (smB_not s k hlt (no4 (by assumption) (by assumption) (by assumption) (by assumption))).symm, rfl⟩
      · go_round
        case rel => exact ⟨k + 1, by omega, by go_num, HX.out (ok5 (by assumption) (by assumption))⟩
        case measure => simp [intOf]; omega
    · go_wp2_with (go_at_call 123; refine (l1In_any _ _ _ _).mono ?_; rintro e w' ⟨rfl, rfl⟩)
      go_ret
      exact ⟨ret_bool (by rw [smB_all s (fun i hi => HN.out i hi (by omega))]), rfl⟩
end Go.Proofs.YtanebchmeaomgaaGreatDoor
