/-
  What spec.l1Once does.
  What stands in a walk's context and is not to be used by it.
  Steps of draws: a text, a coin; what is stored besides leaves the cursor.
  Plain facts on bytes, their kinds, and texts of them: no program in sight.
  Plain facts on quoted texts: no program in sight.
  The laws' marks, as texts.
  Data as memory holds them: leafs, and rows of rows of leafs; their sizes, and what they are when they are marked.
  What turns none but certain blocks.
-/
import Derived.Test.YtclnpfpaabmkcabDrawNI
import Derived.Below
import Derived.WalkKit
namespace Go.Proofs.Ytclnpfpaabmkcab
open Go.RowKit M

set_option maxHeartbeats 400000 in
theorem l1Once_any (N : Nat) (a : Option Addr) (len cap : Nat) (zs : List Int) (c : St) (n : Int) (w : World) (hc : Cur w N (.slice a len cap) c) (hd : CodeAt w a len zs) (hbN : 0 < len → ∀ b off, a = some ⟨b, off, none⟩ → b < N) (hlen : len ≤ 1048576) (hn : 0 < n) (hn2 : n ≤ 1000000) :
    Calls Try.prog 42 #[.pointer (some ⟨N, 0, none⟩), .int .i64 n] w fun e w' => e = .returned (.bool (belowV zs len c n == 0)) ∧ Cur w' N (.slice a len cap) (belowS len c n) ∧ w.grownBy w' (some N) := by
  have HB : Hid (∀ W, Cur W N (.slice a len cap) c → CodeAt W a len zs → Calls Try.prog 41 #[.pointer (some ⟨N, 0, none⟩), .int .i64 n] W fun e w' => e = .returned (.int .i64 (belowV zs len c n)) ∧ Cur w' N (.slice a len cap) (belowS len c n) ∧ W.grownBy w' (some N)) :=
    fun W h1 h2 => l1Below_any N a len cap zs c n W h1 h2 hbN hlen hn hn2
  have HC : Hid (Cur w N (.slice a len cap) c) := hc
  have HD : Hid (CodeAt w a len zs) := hd
  clear hbN hc hd
  generalize belowV zs len c n = v at *
  go_enter Try.func42, Try.ntmps42
  go_wp2_with (go_at_call 41; refine (HB.out _ HC.out HD.out).mono ?_; rintro e w1 ⟨rfl, hc1, hg1⟩)
  go_ret
  exact ⟨rfl, hc1, hg1⟩
end Go.Proofs.Ytclnpfpaabmkcab
namespace Go.Proofs.Ytclnpfpaabmkcab

open Go.RowKit
theorem hide {p : Prop} (h : p) : Hid p := h
end Go.Proofs.Ytclnpfpaabmkcab
namespace Go.Proofs.Ytclnpfpaabmkcab
open Go.RowKit M
set_option linter.unusedVariables false

theorem strNewQ {w : World} {N : Nat} {a : Option Addr} {len cap : Nat} {zs : List Int} (h : DX w N a len cap zs) (z : Nat) (ss : List ByteArray) (C : Array Value) (T : TypeId) (n M : Nat) (hM : M = w.heap.size) (hC : C = (ss.map Value.string).toArray) (hn : ss.length = n) (h0 : 0 < n) (h1 : n ≤ 256) (hz : ∀ s ∈ ss, s.size ≤ z) :
    Calls Try.prog 86 #[.pointer (some ⟨N, 0, none⟩), .slice (some ⟨M, 0, none⟩) n n] (w.alloc (.cells C T)) fun e w' => (∃ s : ByteArray, e = .returned (.string s) ∧ s.size ≤ z) ∧ DX w' N a len cap zs ∧ w.grownBy w' (some N) := by
  obtain ⟨c, h⟩ := h
  refine (strNew h ss C T n M hM hC hn h0 h1).mono ?_
  rintro e w1 ⟨rfl, hd, hg⟩
  exact ⟨⟨_, rfl, getD_mem ss _ _ (fun s => s.size ≤ z) hz (Nat.zero_le _)⟩, ⟨_, hd⟩, hg⟩
theorem l1OnceQ {w : World} {N : Nat} {a : Option Addr} {len cap : Nat} {zs : List Int} (h : DX w N a len cap zs) (n : Int) (hn : 0 < n) (hn2 : n ≤ 1000000) :
    Calls Try.prog 42 #[.pointer (some ⟨N, 0, none⟩), .int .i64 n] w fun e w' => (∃ b : Bool, e = .returned (.bool b)) ∧ DX w' N a len cap zs ∧ w.grownBy w' (some N) := by
  obtain ⟨c, h⟩ := h
  refine (l1Once_any N a len cap zs c n w h.cur h.code h.bN h.hlen hn hn2).mono ?_
  rintro e w1 ⟨rfl, hc1, hg1⟩
  exact ⟨⟨_, rfl⟩, ⟨_, h.grown hg1 hc1⟩, hg1⟩
theorem DX.set {w : World} {N b k : Nat} {a : Option Addr} {len cap : Nat} {zs : List Int} (h : DX w N a len cap zs) (v : Value) (hb : N < b) : DX (w.setCell ⟨b, k, none⟩ v) N a len cap zs :=
  h.other (by simp) (fun i hi => Below.heap_setCell _ _ _ _ (by show i ≠ b; omega))
theorem DX.below {w w' : World} {N : Nat} {a : Option Addr} {len cap : Nat} {zs : List Int} (h : DX w N a len cap zs) (hb : Below w.heap.size w w') : DX w' N a len cap zs :=
  h.other hb.size (fun i hi => hb.block i (by have := h.lt; omega))
theorem grown_setQ {a b : World} {N k : Nat} {p : Nat} (h : a.grownBy b (some N)) (v : Value) (hp : a.heap.size ≤ p) : a.grownBy (b.setCell ⟨p, k, none⟩ v) (some N) :=
  ⟨h.os, h.tape, h.output, by simpa using h.size, fun i hi hne => (Below.heap_setCell _ _ _ _ (by show i ≠ p; omega)).trans (h.block i hi hne)⟩
theorem grown_belowQ {a b c : World} {N B : Nat} (h : a.grownBy b (some N)) (hb : Below B b c) (hB : a.heap.size ≤ B) : a.grownBy c (some N) :=
  ⟨hb.os.trans h.os, hb.tape.trans h.tape, hb.output.trans h.output, Nat.le_trans h.size hb.size, fun i hi hne => (hb.block i (by omega)).trans (h.block i hi hne)⟩

end Go.Proofs.Ytclnpfpaabmkcab
namespace Go.Proofs.Ytclnpfpaabmkcab.M

/-- Whether a byte is of a kind, as the document has it. -/
def isB (c k : Int) : Bool :=
  if k = 0 then decide (32 ≤ c) && decide (c ≤ 126)
  else if k = 1 then (c == 32) || (c == 9)
  else if k = 2 then decide (97 ≤ c) && decide (c ≤ 122)
  else if k = 3 then decide (65 ≤ c) && decide (c ≤ 90)
  else if k = 4 then decide (48 ≤ c) && decide (c ≤ 57)
  else if k = 5 then decide (97 ≤ c) && decide (c ≤ 102)
  else if k = 6 then decide (65 ≤ c) && decide (c ≤ 70)
  else if k = 7 then c == 45
  else false

def anyB (c : Int) (ks : List Int) : Bool := ks.any (isB c)
def allB (l : List UInt8) (ks : List Int) : Bool := l.all fun c => anyB (c.toNat : Int) ks

theorem take_snoc (s : ByteArray) (k : Nat) (h : k < s.size) : s.data.toList.take (k + 1) = s.data.toList.take k ++ [s[k]] := by
  rw [List.take_succ_eq_append_getElem (by simpa using h)]; rfl

theorem take_all (s : ByteArray) (k : Nat) (h : ¬ k < s.size) : s.data.toList.take k = s.data.toList := by
  rw [List.take_of_length_le]
  have : s.data.toList.length = s.size := Array.length_toList
  omega

theorem anyB_snoc (c : Int) (ks : List Int) (k : Nat) (h : k < ks.length) (h0 : anyB c (ks.take k) = false) (h1 : isB c ks[k] = false) : anyB c (ks.take (k + 1)) = false := by
  unfold anyB at *
  rw [List.take_succ_eq_append_getElem h, List.any_append, h0]
  simp [h1]

theorem anyB_of (c : Int) (ks : List Int) (k : Nat) (h : k < ks.length) (h1 : isB c ks[k] = true) : anyB c ks = true := by
  unfold anyB
  rw [List.any_eq_true]
  exact ⟨_, List.getElem_mem h, h1⟩

theorem allB_snoc (s : ByteArray) (ks : List Int) (k : Nat) (h : k < s.size) (h0 : allB (s.data.toList.take k) ks = true) (h2 : (!anyB (s[k].toNat : Int) ks) = false) : allB (s.data.toList.take (k + 1)) ks = true := by
  have h1 : anyB (s[k].toNat : Int) ks = true := by simpa using h2
  rw [take_snoc s k h]
  unfold allB at *
  rw [List.all_append, h0]
  simp [h1]

theorem allB_not (s : ByteArray) (ks : List Int) (k : Nat) (h : k < s.size) (h2 : (!anyB (s[k].toNat : Int) ks) = true) : allB s.data.toList ks = false := by
  have h1 : anyB (s[k].toNat : Int) ks = false := by simpa using h2
  have hm : s[k] ∈ s.data.toList := by
    have e : s.data.toList.length = s.size := Array.length_toList
    have h' : k < s.data.toList.length := by omega
    exact List.getElem_mem h'
  unfold allB
  rw [List.all_eq_false]
  exact ⟨_, hm, by simp [h1]⟩

/-- Whether a number lies between two. -/
def inB (x a b : Int) : Bool := decide (a ≤ x) && decide (x ≤ b)
theorem inB_plain (c : Int) : inB c 32 126 = anyB c [0] := by simp [inB, anyB, isB]
theorem inB_small (c : Int) : inB c 97 122 = isB c 2 := by simp [inB, isB]
theorem inB_large (c : Int) : inB c 65 90 = isB c 3 := by simp [inB, isB]
theorem inB_digit (c : Int) : inB c 48 57 = isB c 4 := by simp [inB, isB]
theorem inB_hexs (c : Int) : inB c 97 102 = isB c 5 := by simp [inB, isB]
theorem inB_hexl (c : Int) : inB c 65 70 = isB c 6 := by simp [inB, isB]
theorem anyB_one (c k : Int) : anyB c [k] = isB c k := by simp [anyB]

theorem set_last (pre t : List UInt8) (n : Nat) (h : pre.length = n + 1) (c : UInt8) : ∃ q : List UInt8, q.length = n ∧ (pre ++ t).set n c = q ++ c :: t := by
  refine ⟨pre.take n, by rw [List.length_take]; omega, ?_⟩
  have e : pre = pre.take n ++ [pre[n]] := by
    conv => lhs; rw [← List.take_append_drop n pre]
    rw [List.drop_eq_getElem_cons (by omega), List.drop_of_length_le (by omega)]
  have e2 : pre ++ t = pre.take n ++ (pre[n] :: t) := by
    conv => lhs; rw [e]
    rw [List.append_assoc]; rfl
  have l2 : (pre.take n).length = n := by rw [List.length_take]; omega
  rw [e2, List.set_append_right _ _ (by omega), l2, Nat.sub_self, List.set_cons_zero]

/-- A large letter as a small one. -/
def lowB (c : UInt8) : UInt8 := if isB (c.toNat : Int) 3 then c + 32 else c
def lowL (l : List UInt8) : List UInt8 := l.map lowB

theorem lowB_yes (c : UInt8) (h : isB (c.toNat : Int) 3 = true) : (lowB c).toNat = c.toNat + 32 := by
  have h' : 65 ≤ c.toNat ∧ c.toNat ≤ 90 := by simp [isB] at h; omega
  unfold lowB
  rw [if_pos h, UInt8.toNat_add]
  have : (32 : UInt8).toNat = 32 := rfl
  omega

theorem lowB_no (c : UInt8) (h : isB (c.toNat : Int) 3 = false) : lowB c = c := by
  unfold lowB
  rw [if_neg (by simp [h])]

theorem isB3 {c : Int} (h : isB c 3 = true) : 65 ≤ c ∧ c ≤ 90 := by simp [isB] at h; omega

theorem lowL_snoc (s : ByteArray) (k : Nat) (h : k < s.size) : lowL (s.data.toList.take (k + 1)) = lowL (s.data.toList.take k) ++ [lowB s[k]] := by
  rw [take_snoc s k h]; simp [lowL]

/-- The first k made small, the rest as it was. -/
def mixL (l : List UInt8) (k : Nat) : List UInt8 := lowL (l.take k) ++ l.drop k
theorem mixL_length (l : List UInt8) (k : Nat) : (mixL l k).length = l.length := by
  simp only [mixL, lowL, List.length_append, List.length_map, List.length_take, List.length_drop]; omega
theorem mixL_zero (l : List UInt8) : mixL l 0 = l := by simp [mixL, lowL]
theorem mixL_all (l : List UInt8) (k : Nat) (h : l.length ≤ k) : mixL l k = lowL l := by
  simp [mixL, List.take_of_length_le h, List.drop_of_length_le h]
theorem mixL_get (l : List UInt8) (k : Nat) (h : k < l.length) (h' : k < (mixL l k).length) : (mixL l k)[k] = l[k] := by
  have e : (lowL (l.take k)).length = k := by simp only [lowL, List.length_map, List.length_take]; omega
  simp only [mixL]
  rw [List.getElem_append_right (by omega)]
  simp only [e, Nat.sub_self, List.getElem_drop, Nat.add_zero]
theorem mixL_succ (l : List UInt8) (k : Nat) (h : k < l.length) : mixL l (k + 1) = (mixL l k).set k (lowB l[k]) := by
  have e : (lowL (l.take k)).length = k := by simp only [lowL, List.length_map, List.length_take]; omega
  simp only [mixL]
  rw [List.set_append_right _ _ (by omega), e, Nat.sub_self, List.drop_eq_getElem_cons h, List.set_cons_zero, List.take_succ_eq_append_getElem h]
  simp only [lowL, List.map_append, List.map_cons, List.map_nil, List.append_assoc, List.singleton_append]

end Go.Proofs.Ytclnpfpaabmkcab.M
namespace Go.Proofs.Ytclnpfpaabmkcab.M

/-- These bytes, as a text. -/
def bytesOf (l : List UInt8) : ByteArray := ⟨l.toArray⟩
theorem bytesOf_append (l m : List UInt8) : bytesOf l ++ bytesOf m = bytesOf (l ++ m) := by
  apply ByteArray.ext
  simp [bytesOf]

theorem bytesOf_size (l : List UInt8) : (bytesOf l).size = l.length := by
  show l.toArray.size = l.length
  simp

/-- A digit of sixteen, a large one. -/
def digL (n : Nat) : UInt8 := if n < 10 then UInt8.ofNat (48 + n) else UInt8.ofNat (55 + n)
theorem digL_lo (n : Nat) (h : n < 10) : (digL n).toNat = 48 + n := by
  unfold digL; rw [if_pos h]; simp; omega
theorem digL_hi (n : Nat) (h : ¬ n < 10) (h' : n < 16) : (digL n).toNat = 55 + n := by
  unfold digL; rw [if_neg h]; simp; omega

/-- Whether a byte stays as it is in a quoted text. -/
def freeB (c : Int) : Bool := ((((((isB c 2 || isB c 3) || isB c 4) || c == 45) || c == 46) || c == 95) || c == 126)
def quoteB (c : UInt8) : List UInt8 := if freeB (c.toNat : Int) then [c] else [37, digL (c.toNat / 16), digL (c.toNat % 16)]
def quoteL (l : List UInt8) : List UInt8 := l.flatMap quoteB

theorem quoteB_yes {c : UInt8} (h : freeB (c.toNat : Int) = true) : quoteB c = [c] := by unfold quoteB; rw [if_pos h]
theorem quoteB_no {c : UInt8} (h : freeB (c.toNat : Int) = false) : quoteB c = [37, digL (c.toNat / 16), digL (c.toNat % 16)] := by unfold quoteB; rw [if_neg (by simp [h])]

theorem quoteL_snoc (s : ByteArray) (k : Nat) (h : k < s.size) : quoteL (s.data.toList.take (k + 1)) = quoteL (s.data.toList.take k) ++ quoteB s[k] := by
  rw [take_snoc s k h]; simp [quoteL]

theorem quoteB_length (c : UInt8) : (quoteB c).length ≤ 3 := by unfold quoteB; split <;> simp
theorem quoteL_le (l : List UInt8) : (quoteL l).length ≤ 3 * l.length := by
  induction l with
  | nil => simp [quoteL]
  | cons c l ih =>
    have := quoteB_length c
    simp only [quoteL, List.flatMap_cons, List.length_append, List.length_cons] at *
    omega

theorem hex_at (n : Nat) (h : n < 16) : (⟨#[48, 49, 50, 51, 52, 53, 54, 55, 56, 57, 65, 66, 67, 68, 69, 70]⟩ : ByteArray)[n]'(by show n < 16; exact h) = digL n := by
  have key : ∀ i : Fin 16, (⟨#[48, 49, 50, 51, 52, 53, 54, 55, 56, 57, 65, 66, 67, 68, 69, 70]⟩ : ByteArray)[i.val]'(by show i.val < 16; exact i.isLt) = digL i.val := by decide
  exact key ⟨n, h⟩

end Go.Proofs.Ytclnpfpaabmkcab.M
namespace Go.Proofs.Ytclnpfpaabmkcab
open Go.RowKit M
set_option linter.unusedVariables false

def dg (m : Nat) : UInt8 := UInt8.ofNat (48 + m % 10)
/-- The digits of a number, the last behind. -/
def mtL (n : Nat) : List UInt8 := if h : n = 0 then [] else mtL (n / 10) ++ [dg n]
termination_by n
decreasing_by omega
/-- The mark of a number. -/
def mt (n : Nat) : ByteArray := bytesOf (109 :: mtL n)

theorem mtL_zero : mtL 0 = [] := by rw [mtL]; simp
theorem mtL_step (n : Nat) (h : 0 < n) : mtL n = mtL (n / 10) ++ [dg n] := by rw [mtL, dif_neg (by omega)]
end Go.Proofs.Ytclnpfpaabmkcab
namespace Go.Proofs.Ytclnpfpaabmkcab
open Go.RowKit M
set_option linter.unusedVariables false

/-- A leaf: a cell's value, or a slice: of each element its leafs. -/
inductive Lf where
  | c (v : Value)
  | l (rows : List (List Lf))

/-- What an int or a byte is marked with. -/
def mkI (kd : IntKind) (k : Nat) : Int := match kd with
  | .u8 => ((k % 256 : Nat) : Int)
  | _ => (k : Int)
def mkV (k : Nat) : Value → Value
  | .int kd _ => .int kd (mkI kd k)
  | .bool _ => .bool ((k : Int) % 3 == 0)
  | .string _ => .string (mt k)
  | v => v
def szV : Value → Nat
  | .string s => s.size
  | _ => 0
def okV : Value → Prop
  | .string s => s.size ≤ maxLen
  | .int k n => (Lit.int k n).wf = true
  | _ => True

mutual
/-- How many marks it takes. -/
def cntF : Lf → Nat
  | .c _ => 1
  | .l rows => cntRs rows
def cntRs : List (List Lf) → Nat
  | [] => 0
  | r :: rs => cntR r + cntRs rs
def cntR : List Lf → Nat
  | [] => 0
  | x :: r => cntF x + cntR r
end
mutual
/-- Its size, as the laws count it. -/
def szF : Lf → Nat
  | .c v => szV v
  | .l rows => szRs rows
def szRs : List (List Lf) → Nat
  | [] => 0
  | r :: rs => 1 + szR r + szRs rs
def szR : List Lf → Nat
  | [] => 0
  | x :: r => szF x + szR r
end
mutual
/-- Its texts are short enough, and no element has more than twelve leafs. -/
def okF : Lf → Prop
  | .c v => okV v
  | .l rows => okRs rows ∧ rows.length ≤ maxLen
def okRs : List (List Lf) → Prop
  | [] => True
  | r :: rs => (okR r ∧ r.length ≤ 12) ∧ okRs rs
def okR : List Lf → Prop
  | [] => True
  | x :: r => okF x ∧ okR r
end
mutual
/-- Marked, from k on. -/
def mkF (k : Nat) : Lf → Lf
  | .c v => .c (mkV k v)
  | .l rows => .l (mkRs k rows)
def mkRs (k : Nat) : List (List Lf) → List (List Lf)
  | [] => []
  | r :: rs => mkR k r :: mkRs (k + cntR r) rs
def mkR (k : Nat) : List Lf → List Lf
  | [] => []
  | x :: r => mkF k x :: mkR (k + cntF x) r
end

mutual
theorem cnt_leF : ∀ x : Lf, okF x → cntF x ≤ 1 + 12 * szF x
  | .c v, _ => by unfold cntF; omega
  | .l rows, h => by
    unfold okF at h
    unfold cntF szF
    have := cnt_leRs rows h.1
    omega
theorem cnt_leRs : ∀ rows : List (List Lf), okRs rows → cntRs rows ≤ 12 * szRs rows
  | [], _ => by unfold cntRs; omega
  | r :: rs, h => by
    unfold okRs at h
    unfold cntRs szRs
    have h1 := cnt_leR r h.1.1
    have h2 := cnt_leRs rs h.2
    have h3 := h.1.2
    omega
theorem cnt_leR : ∀ r : List Lf, okR r → cntR r ≤ r.length + 12 * szR r
  | [], _ => by unfold cntR; omega
  | x :: r, h => by
    unfold okR at h
    unfold cntR szR
    have h1 := cnt_leF x h.1
    have h2 := cnt_leR r h.2
    rw [List.length_cons]
    omega
end

theorem cntRs_cons (r : List Lf) (rs : List (List Lf)) : cntRs (r :: rs) = cntR r + cntRs rs := by rw [cntRs]
theorem szRs_cons (r : List Lf) (rs : List (List Lf)) : szRs (r :: rs) = 1 + szR r + szRs rs := by rw [szRs]
theorem cntRs_append (a b : List (List Lf)) : cntRs (a ++ b) = cntRs a + cntRs b := by
  induction a with
  | nil => show cntRs b = cntRs [] + cntRs b; rw [cntRs]; omega
  | cons r a ih => rw [List.cons_append, cntRs_cons, cntRs_cons, ih]; omega
theorem szRs_append (a b : List (List Lf)) : szRs (a ++ b) = szRs a + szRs b := by
  induction a with
  | nil => show szRs b = szRs [] + szRs b; rw [szRs]; omega
  | cons r a ih => rw [List.cons_append, szRs_cons, szRs_cons, ih]; omega
theorem cntRs_one (r : List Lf) : cntRs [r] = cntR r := by rw [cntRs_cons, cntRs]; omega
theorem szRs_one (r : List Lf) : szRs [r] = 1 + szR r := by rw [szRs_cons, szRs]; omega
theorem mkRs_length (k : Nat) (rows : List (List Lf)) : (mkRs k rows).length = rows.length := by
  induction rows generalizing k with
  | nil => rw [mkRs]
  | cons r rs ih => rw [mkRs, List.length_cons, List.length_cons, ih]
theorem mkR_length (k : Nat) (r : List Lf) : (mkR k r).length = r.length := by
  induction r generalizing k with
  | nil => rw [mkR]
  | cons x r ih => rw [mkR, List.length_cons, List.length_cons, ih]
theorem szRs_mem (rows : List (List Lf)) (r : List Lf) (h : r ∈ rows) : szR r ≤ szRs rows := by
  induction rows with
  | nil => cases h
  | cons x l ih =>
    rw [szRs_cons]
    rcases List.mem_cons.1 h with rfl | h
    · omega
    · have := ih h; omega
theorem szRs_len (rows : List (List Lf)) : rows.length ≤ szRs rows := by
  induction rows with
  | nil => exact Nat.zero_le _
  | cons x l ih => rw [szRs_cons, List.length_cons]; omega
theorem okRs_mem (rows : List (List Lf)) (h : okRs rows) (r : List Lf) (hr : r ∈ rows) : okR r ∧ r.length ≤ 12 := by
  induction rows with
  | nil => cases hr
  | cons x l ih =>
    unfold okRs at h
    rcases List.mem_cons.1 hr with rfl | hr
    · exact h.1
    · exact ih h.2 hr
theorem okRs_of (rows : List (List Lf)) (h : ∀ r ∈ rows, okR r ∧ r.length ≤ 12) : okRs rows := by
  induction rows with
  | nil => unfold okRs; trivial
  | cons x l ih => unfold okRs; exact ⟨h x (List.mem_cons_self ..), ih fun r hr => h r (List.mem_cons_of_mem _ hr)⟩

section typed
variable {α : Type} (f : α → List Lf)
/-- Where the marks of element j begin. -/
def kAtF (k0 : Nat) (l : List α) (j : Nat) : Nat := k0 + cntRs ((l.take j).map f)
theorem kAtF_zero (k0 : Nat) (l : List α) : kAtF f k0 l 0 = k0 := by simp [kAtF, cntRs]
theorem kAtF_all (k0 : Nat) (l : List α) : kAtF f k0 l l.length = k0 + cntRs (l.map f) := by simp [kAtF]
theorem kAtF_next (k0 : Nat) (l : List α) (j : Nat) (hj : j < l.length) : kAtF f k0 l (j + 1) = kAtF f k0 l j + cntR (f l[j]) := by
  unfold kAtF
  rw [List.take_succ_eq_append_getElem hj, List.map_append, cntRs_append, List.map_cons, List.map_nil, cntRs_one]
  omega
theorem kAtF_le (k0 : Nat) (l : List α) (j : Nat) : k0 ≤ kAtF f k0 l j ∧ kAtF f k0 l j ≤ k0 + cntRs (l.map f) := by
  unfold kAtF
  have h : cntRs ((l.take j).map f) + cntRs ((l.drop j).map f) = cntRs (l.map f) := by
    rw [← cntRs_append, ← List.map_append, List.take_append_drop]
  omega
theorem szAtF_next (l : List α) (j : Nat) (hj : j < l.length) : szRs ((l.take (j + 1)).map f) = szRs ((l.take j).map f) + 1 + szR (f l[j]) := by
  rw [List.take_succ_eq_append_getElem hj, List.map_append, szRs_append, List.map_cons, List.map_nil, szRs_one]
  omega
theorem mkRs_at (k0 : Nat) (l : List α) (j : Nat) (hj : j < l.length) : (mkRs k0 (l.map f))[j]? = some (mkR (kAtF f k0 l j) (f l[j])) := by
  induction l generalizing k0 j with
  | nil => cases hj
  | cons x l ih =>
    rw [List.map_cons, mkRs]
    cases j with
    | zero => rw [kAtF_zero]; rfl
    | succ j =>
      rw [List.getElem?_cons_succ, ih (k0 + cntR (f x)) j (by simpa using hj)]
      have e : kAtF f (k0 + cntR (f x)) l j = kAtF f k0 (x :: l) (j + 1) := by
        unfold kAtF
        rw [List.take_succ_cons, List.map_cons, cntRs_cons]
        omega
      rw [e]
      rfl
theorem map_at (l : List α) (j : Nat) (hj : j < l.length) : (l.map f)[j]? = some (f l[j]) := by
  rw [List.getElem?_map, List.getElem?_eq_getElem hj]
  rfl
end typed
end Go.Proofs.Ytclnpfpaabmkcab
namespace Go.Proofs.Ytclnpfpaabmkcab
open Go.RowKit
set_option linter.unusedVariables false

/-- No block that was there is turned, but those of S. -/
structure Turn (S : Nat → Prop) (w w' : World) : Prop where
  os : w'.os = w.os
  tape : w'.tape = w.tape
  output : w'.output = w.output
  size : w.heap.size ≤ w'.heap.size
  block : ∀ i, i < w.heap.size → ¬ S i → w'.heap[i]? = w.heap[i]?
theorem Turn.refl (S : Nat → Prop) (w : World) : Turn S w w := ⟨rfl, rfl, rfl, Nat.le_refl _, fun _ _ _ => rfl⟩
theorem Turn.trans {S : Nat → Prop} {a b c : World} (h : Turn S a b) (k : Turn S b c) : Turn S a c :=
  ⟨k.os.trans h.os, k.tape.trans h.tape, k.output.trans h.output, Nat.le_trans h.size k.size, fun i hi hS => (k.block i (Nat.lt_of_lt_of_le hi h.size) hS).trans (h.block i hi hS)⟩
theorem Turn.wide {S T : Nat → Prop} {a b : World} (h : Turn S a b) (hT : ∀ x, S x → T x) : Turn T a b := ⟨h.os, h.tape, h.output, h.size, fun i hi hS => h.block i hi (fun e => hS (hT i e))⟩
theorem Turn.of_below {S : Nat → Prop} {a b : World} (h : Below a.heap.size a b) : Turn S a b := ⟨h.os, h.tape, h.output, h.size, fun i hi _ => h.block i hi⟩
theorem Turn.set {S : Nat → Prop} (w : World) (p : Addr) (v : Value) (h : S p.block) : Turn S w (w.setCell p v) := ⟨rfl, rfl, rfl, by simp, fun i _ hS => Below.heap_setCell w p v i (fun e => hS (by rw [e]; exact h))⟩
theorem Turn.below {S : Nat → Prop} {a b : World} {C : Nat} (h : Turn S a b) (hC : ∀ x, S x → C ≤ x) (hz : C ≤ a.heap.size) : Below C a b := ⟨h.os, h.tape, h.output, h.size, fun i hi => h.block i (by omega) (fun e => by have := hC i e; omega)⟩
theorem Turn.cell {S : Nat → Prop} {a b : World} (h : Turn S a b) {i : Nat} (hi : i < a.heap.size) (hS : ¬ S i) (o : Nat) : b.cell? ⟨i, o, none⟩ = a.cell? ⟨i, o, none⟩ := by
  have := h.block i hi hS
  simp only [World.cell?, this]
theorem Turn.frozen {S : Nat → Prop} {a b : World} (h : Turn S a b) {i : Nat} (hi : i < a.heap.size) (hS : ¬ S i) (o : Nat) : b.frozen? ⟨i, o, none⟩ = a.frozen? ⟨i, o, none⟩ := by
  have := h.block i hi hS
  simp only [World.frozen?, this]
end Go.Proofs.Ytclnpfpaabmkcab
