/-
  The leafs of texts and numbers.
  Whether a list of texts stands under another.
  Plain facts on names and paths: no program in sight.
  Plain facts on the text of a path: no program in sight.
  Locks: no program in sight.
  The leafs of a lock.
  Boxes of several cells, and rows that are made one by one.
  Slices of locks: what they hold, and that it stays.
  Views and rows of locks: one as the other.
  Above on both sides, over views.
  Plain facts on a text without the blanks at its ends: no program in sight.
  Plain facts on small names: no program in sight.
-/
import Derived.Test.YtckhjemojopekaaGenOwn
import Derived.Test.YtckhjemojopekaaRowT
import Derived.Test.YtckhjemojopekaaGenMath
import Derived.Lib.Join
import Derived.WalkKit
namespace Go.Proofs.Ytckhjemojopekaa
open Go.RowKit M
set_option linter.unusedVariables false

def dS (s : ByteArray) : List Lf := [.c (.string s)]
def dI (n : Int) : List Lf := [.c (.int .i64 n)]
def dB (n : Int) : List Lf := [.c (.int .u8 n)]
theorem cntRs_map {α : Type} (f : α → List Lf) (c : Nat) (h : ∀ x, cntR (f x) = c) (l : List α) : cntRs (l.map f) = c * l.length := by
  induction l with
  | nil => simp [cntRs]
  | cons x l ih => rw [List.map_cons, cntRs_cons, ih, h, List.length_cons, Nat.mul_add]; omega
theorem cnt_lenF {α : Type} (f : α → List Lf) (h : ∀ x, 1 ≤ cntR (f x)) (l : List α) : l.length ≤ cntRs (l.map f) := by
  induction l with
  | nil => simp
  | cons x l ih => rw [List.map_cons, cntRs_cons, List.length_cons]; have := h x; omega
theorem szRs_flat {α : Type} (f : α → List Lf) (h : ∀ x, szR (f x) = 0) (l : List α) : szRs (l.map f) = l.length := by
  induction l with
  | nil => simp [szRs]
  | cons x l ih => rw [List.map_cons, szRs_cons, ih, h, List.length_cons]; omega
theorem szRs_sub {a b : List (List Lf)} (h : List.Sublist a b) : szRs a ≤ szRs b := by
  induction h with
  | slnil => exact Nat.le_refl _
  | cons x _ ih => rw [szRs_cons]; omega
  | cons_cons x _ ih => rw [szRs_cons, szRs_cons]; omega
theorem okR_mem {r : List Lf} (h : okR r) (x : Lf) (hx : x ∈ r) : okF x := by
  induction r with
  | nil => cases hx
  | cons y r ih =>
    unfold okR at h
    rcases List.mem_cons.1 hx with rfl | hx
    · exact h.1
    · exact ih h.2 hx
theorem cnt_dS (l : List ByteArray) : cntRs (l.map dS) = l.length := by rw [cntRs_map dS 1 (fun _ => by simp [dS, cntR, cntF])]; omega
theorem cnt_dI (l : List Int) : cntRs (l.map dI) = l.length := by rw [cntRs_map dI 1 (fun _ => by simp [dI, cntR, cntF])]; omega
theorem cnt_dB (l : List Int) : cntRs (l.map dB) = l.length := by rw [cntRs_map dB 1 (fun _ => by simp [dB, cntR, cntF])]; omega
end Go.Proofs.Ytckhjemojopekaa
namespace Go.Proofs.Ytckhjemojopekaa

/-- Whether the first list stands under the second. -/
def underB (ss tt : List ByteArray) : Bool := decide (tt.length < ss.length) && sameL (ss.take tt.length) tt

end Go.Proofs.Ytckhjemojopekaa
namespace Go.Proofs.Ytckhjemojopekaa.M

/-- Whether a text is a name, as the document has it. -/
def noSlash (l : List UInt8) : Bool := l.all fun c => !(c == 47)
def nameB (s : ByteArray) : Bool := noSlash s.data.toList && (inB s.size 1 8 && (allB s.data.toList [0] && (!(s.toList == [46]) && !(s.toList == [46, 46]))))

theorem noSlash_snoc (s : ByteArray) (k : Nat) (h : k < s.size) (h0 : noSlash (s.data.toList.take k) = true) (h1 : ¬ s[k] = 47) : noSlash (s.data.toList.take (k + 1)) = true := by
  rw [take_snoc s k h]
  unfold noSlash at *
  rw [List.all_append, h0]
  simp [h1]

theorem mem_at (s : ByteArray) (k : Nat) (h : k < s.size) : s[k] ∈ s.data.toList := by
  have e : s.data.toList.length = s.size := Array.length_toList
  have h' : k < s.data.toList.length := by omega
  exact List.getElem_mem h'

theorem noSlash_not (s : ByteArray) (k : Nat) (h : k < s.size) (h1 : s[k] = 47) : noSlash s.data.toList = false := by
  unfold noSlash
  rw [List.all_eq_false]
  exact ⟨_, mem_at s k h, by simp [h1]⟩

theorem u8_47 {c : UInt8} (h : ((c.toNat : Int) == 47) = true) : c = 47 := by
  have h' : c.toNat = 47 := by simp at h; omega
  exact UInt8.toNat_inj.1 (by rw [h']; rfl)

theorem okc_of {c : UInt8} (h : (32 ≤ (c.toNat : Int) ∧ (c.toNat : Int) ≤ 126) ∧ ((c.toNat : Int) == 47) = false) : anyB (c.toNat : Int) [0] = true ∧ ¬ c = 47 := by
  refine ⟨?_, fun e => by rw [e] at h; exact absurd h.2 (by decide)⟩
  simp [anyB, isB]
  omega

theorem okc_not {c : UInt8} (h : ((c.toNat : Int) < 32 ∨ 126 < (c.toNat : Int)) ∨ ((c.toNat : Int) == 47) = true) (h' : anyB (c.toNat : Int) [0] = true ∧ ¬ c = 47) : False := by
  have h0 := h'.1
  simp [anyB, isB] at h0
  rcases h with h | h
  · omega
  · exact h'.2 (u8_47 h)

theorem noSlash_no (s : ByteArray) (k : Nat) (h : k < s.size) (h1 : ((s[k].toNat : Int) == 47) = true) : nameB s = false := by
  unfold nameB; rw [noSlash_not s k h (u8_47 h1)]; rfl

theorem plain_no (s : ByteArray) (k : Nat) (h : k < s.size) (h1 : anyB (s[k].toNat : Int) [0] = false) : nameB s = false := by
  unfold nameB; rw [allB_not s [0] k h (by simp [h1])]; simp

theorem nameB_all (s : ByteArray) (h0 : noSlash s.data.toList = true) (h1 : inB s.size 1 8 = true) (h2 : allB s.data.toList [0] = true) (h3 : ¬ s.toList = [46]) (h4 : ¬ s.toList = [46, 46]) : nameB s = true := by
  unfold nameB; simp [h0, h1, h2, h3, h4]

end Go.Proofs.Ytckhjemojopekaa.M
namespace Go.Proofs.Ytckhjemojopekaa.M

/-- Whether these are the names of a path, as the document has it. -/
def pathB (ss : List ByteArray) : Bool := ss.all nameB && decide (ss.length ≤ 4)
def qB (s : ByteArray) : ByteArray := bytesOf (quoteL s.data.toList)
def tellL (ss : List ByteArray) : List UInt8 := ss.flatMap fun s => 47 :: quoteL s.data.toList
/-- The text of a path. -/
def ptextL (ss : List ByteArray) : List UInt8 := if pathB ss then (if ss = [] then [47] else tellL ss) else []

theorem ptextL_not {ss : List ByteArray} (h : pathB ss = false) : ptextL ss = [] := by simp [ptextL, h]
theorem ptextL_nil : ptextL [] = [47] := by simp [ptextL, pathB]
theorem ptextL_some {ss : List ByteArray} (h : pathB ss = true) (h0 : ss ≠ []) : ptextL ss = tellL ss := by simp [ptextL, h, h0]

theorem tellL_snoc (ss : List ByteArray) (k : Nat) (h : k < ss.length) : tellL (ss.take (k + 1)) = tellL (ss.take k) ++ [47] ++ quoteL (ss[k]).data.toList := by
  unfold tellL
  rw [List.take_succ_eq_append_getElem h, List.flatMap_append]
  simp only [List.flatMap_cons, List.flatMap_nil, List.append_nil, List.append_assoc, List.singleton_append]

theorem nameB_size {s : ByteArray} (h : nameB s = true) : s.size ≤ 8 := by
  unfold nameB at h
  simp only [Bool.and_eq_true, inB, decide_eq_true_eq] at h
  omega

theorem pathB_name {ss : List ByteArray} (h : pathB ss = true) (k : Nat) (hk : k < ss.length) : nameB ss[k] = true := by
  unfold pathB at h
  simp only [Bool.and_eq_true, List.all_eq_true] at h
  exact h.1 _ (List.getElem_mem hk)
theorem pathB_len {ss : List ByteArray} (h : pathB ss = true) : ss.length ≤ 4 := by
  unfold pathB at h
  simp only [Bool.and_eq_true, decide_eq_true_eq] at h
  exact h.2

theorem quote_short {s : ByteArray} (h : s.size ≤ 8) : (quoteL s.data.toList).length ≤ 24 := by
  have := quoteL_le s.data.toList
  have e : s.data.toList.length = s.size := Array.length_toList
  omega

theorem tellL_le {ss : List ByteArray} (h : pathB ss = true) (k : Nat) (hk : k ≤ ss.length) : (tellL (ss.take k)).length ≤ 25 * k := by
  induction k with
  | zero => simp [tellL]
  | succ k ih =>
    rw [tellL_snoc ss k hk]
    have h1 := ih (by omega)
    have h2 := quote_short (nameB_size (pathB_name h k hk))
    simp only [List.length_append, List.length_cons, List.length_nil]
    omega

theorem tellL_join (ss : List ByteArray) (h : ss ≠ []) : [47] ++ Lib.join ((ss.map qB).map (·.data.toList)) [47] = tellL ss := by
  cases ss with
  | nil => exact absurd rfl h
  | cons s r =>
    rw [List.map_cons, List.map_cons, Lib.join_cons]
    simp only [tellL, Lib.joinTail, List.map_map, List.flatMap]
    simp only [Function.comp_def, qB, bytesOf, List.cons_append, List.nil_append, List.map_cons, List.flatten_cons]

theorem join_le {ss : List ByteArray} (h : pathB ss = true) : (Lib.join ((ss.map qB).map (·.data.toList)) [47]).length ≤ 100 := by
  by_cases h0 : ss = []
  · subst h0; simp [Lib.join]
  · have e := congrArg List.length (tellL_join ss h0)
    have h1 := tellL_le h ss.length (Nat.le_refl _)
    rw [List.take_length] at h1
    have := pathB_len h
    simp only [List.length_append, List.length_cons, List.length_nil] at e
    omega
end Go.Proofs.Ytckhjemojopekaa.M
namespace Go.Proofs.Ytckhjemojopekaa
open Go.RowKit

namespace M
/-- A lock. -/
structure Lk where
  tk : Int
  pa : List ByteArray
  de : Bool
  sh : Bool
  un : Int
deriving DecidableEq
end M
open M

def szK (r : Lk) : Nat := r.pa.length + sumS r.pa
def sumK (rs : List Lk) : Nat := (rs.map szK).sum
theorem sumK_snoc (rs : List Lk) (k : Nat) (hk : k < rs.length) : sumK (rs.take (k + 1)) = sumK (rs.take k) + szK rs[k] := by
  unfold sumK
  rw [List.take_succ_eq_append_getElem hk, List.map_append, List.sum_append]
  simp only [List.map_cons, List.map_nil, List.sum_cons, List.sum_nil, Nat.add_zero]
theorem sumK_mem (rs : List Lk) (r : Lk) (h : r ∈ rs) : szK r ≤ sumK rs := by
  induction rs with
  | nil => cases h
  | cons x l ih =>
    simp only [sumK, List.map_cons, List.sum_cons] at *
    rcases List.mem_cons.1 h with rfl | h
    · omega
    · have := ih h; omega
theorem sumK_append (a b : List Lk) : sumK (a ++ b) = sumK a + sumK b := by simp [sumK]
theorem sumK_sub {a b : List Lk} (h : List.Sublist a b) : sumK a ≤ sumK b := by
  induction h with
  | slnil => exact Nat.le_refl _
  | cons x _ ih => simp only [sumK, List.map_cons, List.sum_cons] at *; omega
  | cons_cons x _ ih => simp only [sumK, List.map_cons, List.sum_cons] at *; omega

def sameK (ss tt : List Lk) : Bool := decide (ss = tt)
theorem sameK_refl (ss : List Lk) : sameK ss ss = true := by simp [sameK]
theorem sameK_len {ss tt : List Lk} (h : ¬ ss.length = tt.length) : sameK ss tt = false := by
  simp only [sameK, decide_eq_false_iff_not]; intro e; exact h (by rw [e])
theorem sameK_not {ss tt : List Lk} (k : Nat) (h1 : k < ss.length) (h2 : k < tt.length) (h : ¬ ss[k] = tt[k]) : sameK ss tt = false := by
  simp only [sameK, decide_eq_false_iff_not]; intro e; subst e; exact h rfl
theorem sameK_all {ss tt : List Lk} (hl : ss.length = tt.length) (k : Nat) (hk : ¬ k < ss.length) (h : ss.take k = tt.take k) : sameK ss tt = true := by
  rw [List.take_of_length_le (by omega), List.take_of_length_le (by omega)] at h
  simp [sameK, h]
theorem take_sameK {ss tt : List Lk} (k : Nat) (h1 : k < ss.length) (h2 : k < tt.length) (h0 : ss.take k = tt.take k) (h : ss[k] = tt[k]) : ss.take (k + 1) = tt.take (k + 1) := by
  rw [List.take_succ_eq_append_getElem h1, List.take_succ_eq_append_getElem h2, h0, h]

/-- Whether it is a lock. -/
def lockB (x : Lk) : Bool := inB x.tk 1 9999 && (pathB x.pa && inB x.un 0 9999999)
/-- Whether it covers a path. -/
def covB (x : Lk) (p : List ByteArray) : Bool := sameL x.pa p || (x.de && underB p x.pa)
def clashB (a b : Lk) : Bool := (!a.sh || !b.sh) && (covB a b.pa || covB b a.pa)
/-- Whether two of one list bar each other. -/
def barB (a b : Lk) : Bool := decide (a.tk = b.tk) || clashB a b
theorem clashB_comm (a b : Lk) : clashB a b = clashB b a := by
  unfold clashB
  rw [Bool.or_comm (!a.sh), Bool.or_comm (covB a b.pa)]
/-- Whether lock i is right, and bars none ahead of it. -/
def okLkAt (l : List Lk) (i : Nat) : Bool := match l[i]? with
  | none => true
  | some x => lockB x && (l.take i).all fun y => !barB y x
def locksB (l : List Lk) : Bool := decide (l.length ≤ 6) && (List.range l.length).all (okLkAt l)
end Go.Proofs.Ytckhjemojopekaa
namespace Go.Proofs.Ytckhjemojopekaa
open Go.RowKit M

def dLk (x : Lk) : List Lf := [.c (.int .i64 x.tk), .l (x.pa.map dS), .c (.bool x.de), .c (.bool x.sh), .c (.int .i64 x.un)]
end Go.Proofs.Ytckhjemojopekaa
namespace Go.Proofs.Ytckhjemojopekaa
open Go.RowKit M
set_option linter.unusedVariables false

/-- The blocks from l on, before u. -/
def IvG (l u : Nat) : Nat → Prop := fun x => l ≤ x ∧ x < u
theorem Own.up {w : World} {v : Value} {x : Lf} {l u l' u' : Nat} (h : Own w v x (IvG l u)) (h1 : l' ≤ l) (h2 : u ≤ u') : Own w v x (IvG l' u') :=
  h.wide (fun y hy => ⟨Nat.le_trans h1 hy.1, Nat.lt_of_lt_of_le hy.2 h2⟩)
theorem Own.vw {w : World} {v : Value} {x : Lf} {l u B : Nat} (h : Own w v x (IvG l u)) (hB : u ≤ B) : View w B v x := h.view (fun y hy => Nat.lt_of_lt_of_le hy.2 hB)
theorem View.turn {w w' : World} {v : Value} {x : Lf} {B : Nat} {S : Nat → Prop} (h : View w B v x) (t : Turn S w w') (hS : ∀ y, S y → B ≤ y) (hB : B ≤ w.heap.size) : View w' B v x :=
  h.stays (t.below hS hB) (Nat.le_refl _)
theorem bcellG {B : Nat} {W w1 : World} (hb : Below B W w1) : (∀ b o, b < B → w1.cell? ⟨b, o, none⟩ = W.cell? ⟨b, o, none⟩) ∧ (∀ b o, b < B → w1.frozen? ⟨b, o, none⟩ = W.frozen? ⟨b, o, none⟩) :=
  ⟨fun b o h => hb.cell (p := ⟨b, o, none⟩) h, fun b o h => hb.frozen (p := ⟨b, o, none⟩) h⟩
theorem below_drewG {w w' : World} {n : Nat} (hb : Below n w w') : Below n w w'.drew := ⟨hb.1, hb.2, hb.3, hb.4, hb.5⟩
theorem retG {a b : Bool} (h : a = b) : (Ending.returned (.bool a) : Ending) = .returned (.bool b) := by rw [h]

/-- A box: its cells. -/
def BoxV (w : World) (N : Nat) (vs : List Value) : Prop := N < w.heap.size ∧ ∀ i v, vs[i]? = some v → w.cell? ⟨N, i, none⟩ = some v ∧ w.frozen? ⟨N, i, none⟩ = false
theorem BoxV.made (w : World) (vs : List Value) (t : TypeId) : BoxV (w.alloc (Obj.cells vs.toArray t)) w.heap.size vs := by
  have hr := World.rowIs_alloc w vs.toArray t (fun i => (vs[i]?).getD (.bool false)) (fun i hi => by
    have hi' : i < vs.length := by simpa using hi
    simp [List.getElem?_eq_getElem hi'])
  refine ⟨hr.lt, fun i v hv => ?_⟩
  have hi := (List.getElem?_eq_some_iff.1 hv).1
  exact ⟨by rw [hr.cell (by simpa using hi), hv]; rfl, hr.frozen i⟩
theorem BoxV.next {w w' : World} {N : Nat} {vs : List Value} (h : BoxV w N vs) (hb : Below w.heap.size w w') : BoxV w' N vs :=
  ⟨Nat.lt_of_lt_of_le h.1 hb.size, fun i v hv => by rw [hb.cell (p := ⟨N, i, none⟩) h.1, hb.frozen (p := ⟨N, i, none⟩) h.1]; exact h.2 i v hv⟩
theorem BoxV.turn {w w' : World} {N : Nat} {vs : List Value} {S : Nat → Prop} (h : BoxV w N vs) (t : Turn S w w') (hN : ¬ S N) : BoxV w' N vs :=
  ⟨Nat.lt_of_lt_of_le h.1 t.size, fun i v hv => by rw [t.cell h.1 hN, t.frozen h.1 hN]; exact h.2 i v hv⟩
theorem BoxV.alloc {w : World} {N : Nat} {vs : List Value} (h : BoxV w N vs) (o : Obj) : BoxV (w.alloc o) N vs := h.next ((Below.refl _ _).alloc (Nat.le_refl _) o)
theorem BoxV.drew {w : World} {N : Nat} {vs : List Value} (h : BoxV w N vs) : BoxV w.drew N vs := h.next (below_drewG (Below.refl _ _))
theorem BoxV.set {w : World} {N : Nat} {vs : List Value} (h : BoxV w N vs) (i : Nat) (hi : i < vs.length) (v : Value) : BoxV (w.setCell ⟨N, i, none⟩ v) N (vs.set i v) := by
  refine ⟨by simpa using h.1, fun j u hu => ?_⟩
  rw [World.frozen?_setCell]
  by_cases e : j = i
  · subst e
    rw [List.getElem?_set_self hi] at hu
    cases hu
    exact ⟨World.cell?_setCell_same _ _ _ (h.2 j _ (List.getElem?_eq_getElem hi)).1, (h.2 j _ (List.getElem?_eq_getElem hi)).2⟩
  · rw [List.getElem?_set_ne (fun e' => e e'.symm)] at hu
    exact ⟨(World.cell?_setCell_other _ _ _ _ (fun e' => e (congrArg Addr.off e').symm)).trans (h.2 j u hu).1, (h.2 j u hu).2⟩
theorem BoxV.other {w : World} {N : Nat} {vs : List Value} (h : BoxV w N vs) (p : Addr) (v : Value) (hp : p.block ≠ N) : BoxV (w.setCell p v) N vs :=
  ⟨by simpa using h.1, fun i u hu => by
    rw [World.frozen?_setCell, World.cell?_setCell_other _ _ _ _ (fun e => hp (congrArg Addr.block e))]
    exact h.2 i u hu⟩

/-- Some cells stored, one behind the other. -/
def setAll (w : World) (g o : Nat) : List Value → World
  | [] => w
  | v :: vs => setAll (w.setCell ⟨g, o, none⟩ v) g (o + 1) vs
theorem setAll_size (w : World) (g o : Nat) (vs : List Value) : (setAll w g o vs).heap.size = w.heap.size := by
  induction vs generalizing w o with
  | nil => rfl
  | cons v vs ih => show (setAll _ g (o + 1) vs).heap.size = _; rw [ih]; simp
theorem setAll_frozen (w : World) (g o : Nat) (vs : List Value) (p : Addr) : (setAll w g o vs).frozen? p = w.frozen? p := by
  induction vs generalizing w o with
  | nil => rfl
  | cons v vs ih => show (setAll _ g (o + 1) vs).frozen? p = _; rw [ih, World.frozen?_setCell]
theorem setAll_other (w : World) (g o : Nat) (vs : List Value) (b q : Nat) (h : b ≠ g ∨ q < o ∨ o + vs.length ≤ q) : (setAll w g o vs).cell? ⟨b, q, none⟩ = w.cell? ⟨b, q, none⟩ := by
  induction vs generalizing w o with
  | nil => rfl
  | cons v vs ih =>
    show (setAll _ g (o + 1) vs).cell? _ = _
    rw [List.length_cons] at h
    rw [ih _ _ (by omega)]
    refine World.cell?_setCell_other _ _ _ _ (fun e => ?_)
    have e1 := congrArg Addr.block e
    have e2 := congrArg Addr.off e
    simp only at e1 e2
    omega
theorem setAll_at (w : World) (g o : Nat) (vs : List Value) (i : Nat) (v : Value) (hv : vs[i]? = some v) (h : ∀ i, i < vs.length → ∃ u, w.cell? ⟨g, o + i, none⟩ = some u) : (setAll w g o vs).cell? ⟨g, o + i, none⟩ = some v := by
  induction vs generalizing w o i with
  | nil => simp at hv
  | cons x vs ih =>
    show (setAll _ g (o + 1) vs).cell? _ = _
    cases i with
    | zero =>
      simp only [List.getElem?_cons_zero, Option.some.injEq] at hv
      subst hv
      rw [setAll_other _ _ _ _ _ _ (.inr (.inl (by omega)))]
      obtain ⟨u, hu⟩ := h 0 (by simp)
      exact World.cell?_setCell_same _ _ _ hu
    | succ i =>
      have := ih (w.setCell ⟨g, o, none⟩ x) (o + 1) i (by simpa using hv) (fun q hq => by
        obtain ⟨u, hu⟩ := h (q + 1) (by rw [List.length_cons]; omega)
        refine ⟨u, ?_⟩
        rw [World.cell?_setCell_other _ _ _ _ (fun e => by have := congrArg Addr.off e; simp at this; omega)]
        rw [show o + 1 + q = o + (q + 1) by omega]
        exact hu)
      rw [show o + (i + 1) = o + 1 + i by omega]
      exact this
theorem setAll_block (w : World) (g o : Nat) (vs : List Value) (b : Nat) (h : b ≠ g) : (setAll w g o vs).heap[b]? = w.heap[b]? := by
  induction vs generalizing w o with
  | nil => rfl
  | cons v vs ih =>
    show (setAll _ g (o + 1) vs).heap[b]? = _
    rw [ih]
    exact Below.heap_setCell _ _ _ _ h
theorem setAll_below {w w1 : World} {g o B : Nat} (vs : List Value) (hb : Below B w w1) (h : B ≤ g) : Below B w (setAll w1 g o vs) := by
  induction vs generalizing w1 o with
  | nil => exact hb
  | cons v vs ih => exact ih (hb.setCell (p := ⟨g, o, none⟩) h v)

theorem BoxV.setAll {w : World} {N g o : Nat} {vs us : List Value} (h : BoxV w N vs) (hN : N ≠ g) : BoxV (setAll w g o us) N vs :=
  ⟨by rw [setAll_size]; exact h.1, fun i v hv => by rw [setAll_other _ _ _ _ _ _ (.inl hN), setAll_frozen]; exact h.2 i v hv⟩

/-- What is made so far of a row: the first k elements. -/
def MadeG (w : World) (g K n : Nat) (R : Nat → List Lf) (k : Nat) : Prop :=
  g < w.heap.size ∧ (∀ o, o < n * K → ∃ v, w.cell? ⟨g, o, none⟩ = some v) ∧ (∀ o, w.frozen? ⟨g, o, none⟩ = false) ∧
  ∃ (C : Nat → Nat → Value) (Sf : Nat → Nat → Nat → Prop), (∀ j i, j < k → i < K → w.cell? ⟨g, j * K + i, none⟩ = some (C j i)) ∧ (∀ j i x, j < k → (R j)[i]? = some x → Own w (C j i) x (Sf j i)) ∧
    (∀ j i y, Sf j i y → j < k ∧ g < y ∧ y < w.heap.size) ∧ (∀ j i j' i' y, (j ≠ j' ∨ i ≠ i') → Sf j i y → ¬ Sf j' i' y)
theorem MadeG.start (w : World) (zs : Array Value) (n K : Nat) (T : TypeId) (R : Nat → List Lf) : MadeG (w.alloc (.cells (madeCells zs (n * K)) T)) w.heap.size K n R 0 := by
  have hr := World.rowIs_alloc w (madeCells zs (n * K)) T (fun i => ((madeCells zs (n * K))[i]?).getD (.bool false)) (fun i hi => by rw [Array.getElem?_eq_getElem hi]; rfl)
  rw [size_madeCells] at hr
  exact ⟨hr.lt, fun o ho => ⟨_, hr.cell ho⟩, fun o => hr.frozen o, fun _ _ => .bool false, fun _ _ _ => False, fun j i hj => absurd hj (Nat.not_lt_zero _), fun j i x hj => absurd hj (Nat.not_lt_zero _), fun j i y h => h.elim, fun j i j' i' y _ h => h.elim⟩
theorem MadeG.next {w w1 : World} {g K n k : Nat} {R : Nat → List Lf} (m : MadeG w g K n R k) (hb : Below w.heap.size w w1) (hk : k < n) (vs : List Value) (hvs : vs.length = K) (Tf : Nat → Nat → Prop)
    (ho : ∀ i x, (R k)[i]? = some x → ∃ v, vs[i]? = some v ∧ Own w1 v x (Tf i)) (ht : ∀ i y, Tf i y → w.heap.size ≤ y ∧ y < w1.heap.size) (hd : ∀ i i' y, i ≠ i' → Tf i y → ¬ Tf i' y) :
    MadeG (setAll w1 g (k * K) vs) g K n R (k + 1) := by
  obtain ⟨hg, hex, hfz, C, Sf, hc, hv, hs, hdd⟩ := m
  have hex1 : ∀ o, o < n * K → ∃ v, w1.cell? ⟨g, o, none⟩ = some v := fun o h => by rw [hb.cell (p := ⟨g, o, none⟩) hg]; exact hex o h
  have hrow : ∀ j i, j < n → i < K → j * K + i < n * K := fun j i hj hi => by
    have := Nat.mul_le_mul_right K (show j + 1 ≤ n from hj)
    rw [Nat.add_mul] at this
    omega
  have hnew : ∀ i, i < vs.length → ∃ u, w1.cell? ⟨g, k * K + i, none⟩ = some u := fun i hi => hex1 _ (hrow k i hk (by omega))
  have hz := hb.size
  refine ⟨by rw [setAll_size]; omega, fun o h => ?_, fun o => by rw [setAll_frozen, hb.frozen (p := ⟨g, o, none⟩) hg]; exact hfz o, fun j i => if j = k then (vs[i]?).getD (.bool false) else C j i, fun j i => if j = k then Tf i else Sf j i, fun j i hj hi => ?_, fun j i x hj hx => ?_, fun j i y hy => ?_, fun j i j' i' y hne hy => ?_⟩
  · by_cases e : k * K ≤ o ∧ o < k * K + vs.length
    · obtain ⟨v, hv'⟩ : ∃ v, vs[o - k * K]? = some v := ⟨_, List.getElem?_eq_getElem (by omega)⟩
      have := setAll_at w1 g (k * K) vs (o - k * K) v hv' hnew
      rw [show k * K + (o - k * K) = o by omega] at this
      exact ⟨v, this⟩
    · rw [setAll_other _ _ _ _ _ _ (.inr (by omega))]
      exact hex1 o h
  · by_cases e : j = k
    · subst e
      simp only [if_true]
      obtain ⟨v, hv'⟩ : ∃ v, vs[i]? = some v := ⟨_, List.getElem?_eq_getElem (by omega)⟩
      rw [setAll_at w1 g (j * K) vs i v hv' hnew, hv']
      rfl
    · simp only [e, if_false]
      have hjk : j < k := by omega
      have := Nat.mul_le_mul_right K (show j + 1 ≤ k from hjk)
      rw [Nat.add_mul] at this
      rw [setAll_other _ _ _ _ _ _ (.inr (.inl (by omega))), hb.cell (p := ⟨g, _, none⟩) hg]
      exact hc j i hjk hi
  · have hkeep : ∀ u y S, Own w1 u y S → (∀ z, S z → z ≠ g) → Own (setAll w1 g (k * K) vs) u y S := fun u y S h hS =>
      h.keep (by rw [setAll_size]; exact Nat.le_refl _) (fun b o hb' _ => setAll_other _ _ _ _ _ _ (.inl (hS b hb'))) (fun b o _ _ => setAll_frozen _ _ _ _ _)
    by_cases e : j = k
    · subst e
      simp only [if_true]
      obtain ⟨v, hv', h1⟩ := ho i x hx
      rw [hv']
      exact hkeep _ _ _ h1 (fun z hz' e => by have := (ht i z hz').1; omega)
    · simp only [e, if_false]
      have hjk : j < k := by omega
      exact hkeep _ _ _ ((hv j i x hjk hx).next hb) (fun z hz' e => by have := (hs j i z hz').2.1; omega)
  · rw [setAll_size]
    by_cases e : j = k
    · subst e
      simp only [if_true] at hy
      have := ht i y hy
      omega
    · simp only [e, if_false] at hy
      have := hs j i y hy
      omega
  · by_cases e : j = k
    · by_cases e' : j' = k
      · subst e e'
        simp only [if_true] at hy ⊢
        exact hd i i' y (by omega) hy
      · simp only [e, e', if_true, if_false] at hy ⊢
        intro h2
        have h3 := hs j' i' y h2
        have h4 := ht i y hy
        omega
    · by_cases e' : j' = k
      · simp only [e, e', if_true, if_false] at hy ⊢
        intro h2
        have h3 := hs j i y hy
        have h4 := ht i' y h2
        omega
      · simp only [e, e', if_false] at hy ⊢
        exact hdd j i j' i' y hne hy
theorem MadeG.next0 {w w1 : World} {g K n k : Nat} {R : Nat → List Lf} (m : MadeG w g K n R k) (hb : Below w.heap.size w w1) : MadeG w1 g K n R k := by
  obtain ⟨hg, hex, hfz, C, Sf, hc, hv, hs, hdd⟩ := m
  exact ⟨Nat.lt_of_lt_of_le hg hb.size, fun o h => by rw [hb.cell (p := ⟨g, o, none⟩) hg]; exact hex o h, fun o => by rw [hb.frozen (p := ⟨g, o, none⟩) hg]; exact hfz o, C, Sf, fun j i hj hi => by rw [hb.cell (p := ⟨g, _, none⟩) hg]; exact hc j i hj hi, fun j i x hj hx => (hv j i x hj hx).next hb, fun j i y hy => ⟨(hs j i y hy).1, (hs j i y hy).2.1, Nat.lt_of_lt_of_le (hs j i y hy).2.2 hb.size⟩, hdd⟩
theorem MadeG.cell {w : World} {g K n k : Nat} {R : Nat → List Lf} (m : MadeG w g K n R k) (hk : k < n) (i : Nat) (hi : i < K) : ∃ v, w.cell? ⟨g, k * K + i, none⟩ = some v ∧ w.frozen? ⟨g, k * K + i, none⟩ = false := by
  obtain ⟨hg, hex, hfz, _⟩ := m
  have := Nat.mul_le_mul_right K (show k + 1 ≤ n from hk)
  rw [Nat.add_mul] at this
  obtain ⟨v, hv⟩ := hex (k * K + i) (by omega)
  exact ⟨v, hv, hfz _⟩
theorem MadeG.lt {w : World} {g K n k : Nat} {R : Nat → List Lf} (m : MadeG w g K n R k) : g < w.heap.size := m.1
theorem MadeG.done {w : World} {g K n : Nat} {rows : List (List Lf)} {R : Nat → List Lf} (m : MadeG w g K n R n) (hn : rows.length = n) (hm : n ≤ maxLen) (hK : ∀ r ∈ rows, r.length = K) (e : ∀ j (hj : j < rows.length), R j = rows[j]) : Own w (.slice (some ⟨g, 0, none⟩) n n) (.l rows) (IvG g w.heap.size) := by
  obtain ⟨hg, hex, hfz, C, Sf, hc, hv, hs, hdd⟩ := m
  subst hn
  refine RowG.own (R := R) (o := 0) (K := K) (C := C) (Sf := Sf) ⟨⟨Nat.le_refl _, hg⟩, hg, fun j hj => by rw [e j hj]; exact hK _ (List.getElem_mem hj), fun j i hj hi => ?_, fun j i x hj hx => hv j i x hj hx, fun j i y hy => ?_, hdd⟩ e (Nat.le_refl _) hm
  · rw [Nat.zero_add]
    exact ⟨hc j i hj hi, hfz _⟩
  · have := hs j i y hy
    exact ⟨⟨by omega, this.2.2⟩, by omega⟩
end Go.Proofs.Ytckhjemojopekaa
namespace Go.Proofs.Ytckhjemojopekaa
open Go.RowKit M
set_option linter.unusedVariables false

theorem bcellL {B : Nat} {W w1 : World} (hb : Below B W w1) : (∀ b o, b < B → w1.cell? ⟨b, o, none⟩ = W.cell? ⟨b, o, none⟩) ∧ (∀ b o, b < B → w1.frozen? ⟨b, o, none⟩ = W.frozen? ⟨b, o, none⟩) :=
  ⟨fun b o h => hb.cell (p := ⟨b, o, none⟩) h, fun b o h => hb.frozen (p := ⟨b, o, none⟩) h⟩
theorem below_drewL {w w' : World} {n : Nat} (hb : Below n w w') : Below n w w'.drew := ⟨hb.1, hb.2, hb.3, hb.4, hb.5⟩

/-- A lock at a place: its five cells. -/
def LkAt (w : World) (b o : Nat) (r : Lk) (pa : Option Addr) (pc : Nat) : Prop :=
  w.cell? ⟨b, o, none⟩ = some (.int .i64 r.tk) ∧ w.cell? ⟨b, o + 1, none⟩ = some (.slice pa r.pa.length pc) ∧ w.cell? ⟨b, o + 2, none⟩ = some (.bool r.de) ∧ w.cell? ⟨b, o + 3, none⟩ = some (.bool r.sh) ∧ w.cell? ⟨b, o + 4, none⟩ = some (.int .i64 r.un)
/-- What its slice holds, in a block below B. -/
structure LkIn (w : World) (B : Nat) (r : Lk) (pa : Option Addr) (pc : Nat) : Prop where
  ph : Strs w B pa r.pa
  pl : r.pa.length ≤ pc
  pm : pc ≤ maxLen
  pn : pa = none → pc = 0
/-- What a slice of locks holds, in blocks below B. -/
def Lks (w : World) (B : Nat) (a : Option Addr) (rs : List Lk) : Prop :=
  0 < rs.length → ∃ b o, a = some ⟨b, o, none⟩ ∧ b < B ∧ ∀ j (hj : j < rs.length), ∃ pa pc, LkAt w b (o + j * 5) rs[j] pa pc ∧ LkIn w B rs[j] pa pc

theorem LkAt.of {w w' : World} {b o : Nat} {r : Lk} {pa : Option Addr} {pc : Nat} (h : LkAt w b o r pa pc) (e : ∀ o', w'.cell? ⟨b, o', none⟩ = w.cell? ⟨b, o', none⟩) : LkAt w' b o r pa pc := by
  unfold LkAt at *
  simp only [e]
  exact h
theorem Strs.ofL {w w' : World} {B : Nat} {a : Option Addr} {ss : List ByteArray} (h : Strs w B a ss) (e : ∀ b o, b < B → w'.cell? ⟨b, o, none⟩ = w.cell? ⟨b, o, none⟩) : Strs w' B a ss := fun h0 => by
  obtain ⟨b, o, ea, hb, hc⟩ := h h0
  exact ⟨b, o, ea, hb, fun j hj => (e b _ hb).trans (hc j hj)⟩
theorem LkIn.of {w w' : World} {B : Nat} {r : Lk} {pa : Option Addr} {pc : Nat} (h : LkIn w B r pa pc) (e : ∀ b o, b < B → w'.cell? ⟨b, o, none⟩ = w.cell? ⟨b, o, none⟩) : LkIn w' B r pa pc :=
  ⟨h.ph.ofL e, h.pl, h.pm, h.pn⟩
theorem LkIn.mono {w : World} {B C : Nat} {r : Lk} {pa : Option Addr} {pc : Nat} (h : LkIn w B r pa pc) (hB : B ≤ C) : LkIn w C r pa pc :=
  ⟨h.ph.mono hB, h.pl, h.pm, h.pn⟩
theorem LkIn.below {w w' : World} {B C : Nat} {r : Lk} {pa : Option Addr} {pc : Nat} (h : LkIn w B r pa pc) (hb : Below C w w') (hB : B ≤ C) : LkIn w' B r pa pc :=
  h.of (fun b o hbB => hb.cell (p := ⟨b, o, none⟩) (Nat.lt_of_lt_of_le hbB hB))
theorem LkIn.len {w : World} {B : Nat} {r : Lk} {pa : Option Addr} {pc : Nat} (h : LkIn w B r pa pc) : r.pa.length ≤ maxLen := Nat.le_trans h.pl h.pm
theorem Lks.of {w w' : World} {B : Nat} {a : Option Addr} {rs : List Lk} (h : Lks w B a rs) (e : ∀ b o, b < B → w'.cell? ⟨b, o, none⟩ = w.cell? ⟨b, o, none⟩) : Lks w' B a rs := fun h0 => by
  obtain ⟨b, o, ea, hb, hc⟩ := h h0
  refine ⟨b, o, ea, hb, fun j hj => ?_⟩
  obtain ⟨pa, pc, h1, h2⟩ := hc j hj
  exact ⟨pa, pc, h1.of (fun o' => e b o' hb), h2.of e⟩
theorem Lks.below {w w' : World} {B C : Nat} {a : Option Addr} {rs : List Lk} (h : Lks w B a rs) (hb : Below C w w') (hB : B ≤ C) : Lks w' B a rs :=
  h.of (fun b o hbB => hb.cell (p := ⟨b, o, none⟩) (Nat.lt_of_lt_of_le hbB hB))
theorem Lks.mono {w : World} {B C : Nat} {a : Option Addr} {rs : List Lk} (h : Lks w B a rs) (hB : B ≤ C) : Lks w C a rs := fun h0 => by
  obtain ⟨b, o, e, hbB, hc⟩ := h h0
  refine ⟨b, o, e, Nat.lt_of_lt_of_le hbB hB, fun j hj => ?_⟩
  obtain ⟨pa, pc, h1, h2⟩ := hc j hj
  exact ⟨pa, pc, h1, h2.mono hB⟩
theorem Lks.nil (w : World) (B : Nat) (a : Option Addr) : Lks w B a [] := fun h => absurd h (Nat.lt_irrefl _)
theorem Lks.drew {w : World} {B : Nat} {a : Option Addr} {rs : List Lk} (h : Lks w B a rs) : Lks w.drew B a rs := h.of (fun _ _ _ => rfl)
theorem Lks.take {w : World} {B : Nat} {a : Option Addr} {rs : List Lk} (h : Lks w B a rs) (k : Nat) : Lks w B a (rs.take k) := fun h0 => by
  have hl : (rs.take k).length ≤ rs.length := by rw [List.length_take]; omega
  obtain ⟨b, o, e, hbB, hc⟩ := h (by omega)
  refine ⟨b, o, e, hbB, fun j hj => ?_⟩
  obtain ⟨pa, pc, h1, h2⟩ := hc j (by omega)
  rw [List.getElem_take]
  exact ⟨pa, pc, h1, h2⟩
theorem LkIn.drew {w : World} {B : Nat} {r : Lk} {pa : Option Addr} {pc : Nat} (h : LkIn w B r pa pc) : LkIn w.drew B r pa pc := h.of (fun _ _ _ => rfl)

/-- Its path short enough. -/
structure ShortLk (r : Lk) : Prop where
  pl : r.pa.length ≤ maxLen
  ps : Short r.pa
def ShortK (rs : List Lk) : Prop := ∀ r ∈ rs, ShortLk r
theorem ShortK.at {rs : List Lk} (h : ShortK rs) (k : Nat) (hk : k < rs.length) : ShortLk rs[k] := h _ (List.getElem_mem hk)

/-- The value of a lock. -/
abbrev lkV (r : Lk) (pa : Option Addr) (pc : Nat) : Value := .agg #[.int .i64 r.tk, .slice pa r.pa.length pc, .bool r.de, .bool r.sh, .int .i64 r.un]

theorem RowS.setCellL {w : World} {g : Nat} {ms : List ByteArray} (h : RowS w g ms) (p : Addr) (v : Value) (hp : p.block ≠ g) : RowS (w.setCell p v) g ms := by
  refine ⟨by simpa using h.1, fun j hj => ⟨?_, ?_⟩⟩
  · rw [World.cell?_setCell_other _ _ _ _ (fun e => hp (congrArg Addr.block e))]; exact (h.2 j hj).1
  · rw [World.frozen?_setCell]; exact (h.2 j hj).2

/-- A row of locks that one call made: each path in a block of its own; all from lo on and below hi. -/
structure OwnL (w : World) (lo hi g : Nat) (rs : List Lk) (pb : Nat → Nat) : Prop where
  gl : lo ≤ g
  gh : g < hi
  gs : g < w.heap.size
  fz : ∀ i, w.frozen? ⟨g, i, none⟩ = false
  cl : ∀ j (hj : j < rs.length), ∃ pc, LkAt w g (j * 5) rs[j] (some ⟨pb j, 0, none⟩) pc ∧ rs[j].pa.length ≤ pc ∧ pc ≤ maxLen
  rp : ∀ j (hj : j < rs.length), RowS w (pb j) rs[j].pa
  bnd : ∀ j, j < rs.length → lo ≤ pb j ∧ pb j < hi ∧ pb j ≠ g
  ord : ∀ i j, i < j → j < rs.length → pb i ≠ pb j

theorem OwnL.of {w w' : World} {lo hi g : Nat} {rs : List Lk} {pb : Nat → Nat} (h : OwnL w lo hi g rs pb) (hz : w.heap.size ≤ w'.heap.size) (e : ∀ b o, lo ≤ b → b < hi → b < w.heap.size → w'.cell? ⟨b, o, none⟩ = w.cell? ⟨b, o, none⟩) (f : ∀ b o, lo ≤ b → b < hi → b < w.heap.size → w'.frozen? ⟨b, o, none⟩ = w.frozen? ⟨b, o, none⟩) : OwnL w' lo hi g rs pb := by
  refine ⟨h.gl, h.gh, Nat.lt_of_lt_of_le h.gs hz, fun i => by rw [f g i h.gl h.gh h.gs]; exact h.fz i, fun j hj => ?_, fun j hj => ?_, h.bnd, h.ord⟩
  · obtain ⟨pc, h1, h2⟩ := h.cl j hj
    exact ⟨pc, h1.of (fun o' => e g o' h.gl h.gh h.gs), h2⟩
  · obtain ⟨b1, b2, b3⟩ := h.bnd j hj
    have hp := (h.rp j hj).1
    refine ⟨Nat.lt_of_lt_of_le hp hz, fun i hi => ?_⟩
    rw [e _ _ b1 (by omega) hp, f _ _ b1 (by omega) hp]
    exact (h.rp j hj).2 i hi
theorem OwnL.below {w w' : World} {lo hi g : Nat} {rs : List Lk} {pb : Nat → Nat} (h : OwnL w lo hi g rs pb) (hb : Below w.heap.size w w') : OwnL w' lo hi g rs pb :=
  h.of hb.size (fun b o _ _ hz => hb.cell (p := ⟨b, o, none⟩) hz) (fun b o _ _ hz => hb.frozen (p := ⟨b, o, none⟩) hz)
theorem OwnL.lks {w : World} {lo hi g C : Nat} {rs : List Lk} {pb : Nat → Nat} (h : OwnL w lo hi g rs pb) (hC : hi ≤ C) : Lks w C (some ⟨g, 0, none⟩) rs := fun _ => by
  refine ⟨g, 0, rfl, Nat.lt_of_lt_of_le h.gh hC, fun j hj => ?_⟩
  obtain ⟨b1, b2, b3⟩ := h.bnd j hj
  obtain ⟨pc, h1, h2, h3⟩ := h.cl j hj
  exact ⟨_, pc, by rw [Nat.zero_add]; exact h1, ⟨(h.rp j hj).strs' (by omega), h2, h3, fun e => by cases e⟩⟩
theorem OwnL.nil (w : World) (lo hi g : Nat) (hl : lo ≤ g) (hh : g < hi) (hs : g < w.heap.size) (fz : ∀ i, w.frozen? ⟨g, i, none⟩ = false) : OwnL w lo hi g [] (fun _ => 0) :=
  ⟨hl, hh, hs, fz, fun j hj => absurd hj (Nat.not_lt_zero _), fun j hj => absurd hj (Nat.not_lt_zero _), fun j hj => absurd hj (Nat.not_lt_zero _), fun i j _ hj => absurd hj (Nat.not_lt_zero _)⟩
theorem OwnL.wide {w : World} {lo hi g lo' hi' : Nat} {rs : List Lk} {pb : Nat → Nat} (h : OwnL w lo hi g rs pb) (h1 : lo' ≤ lo) (h2 : hi ≤ hi') : OwnL w lo' hi' g rs pb :=
  ⟨Nat.le_trans h1 h.gl, Nat.lt_of_lt_of_le h.gh h2, h.gs, h.fz, h.cl, h.rp, fun j hj => by obtain ⟨a, b, c⟩ := h.bnd j hj; exact ⟨by omega, by omega, c⟩, h.ord⟩

theorem info_lock : (Try.prog.info? 102).map (fun i => (i.zero, i.size, i.bytes)) = some (some (.agg #[.int .i64 0, .slice none 0 0, .bool false, .bool false, .int .i64 0]), 5, 48) := by kernel_rfl
end Go.Proofs.Ytckhjemojopekaa
namespace Go.Proofs.Ytckhjemojopekaa
open Go.RowKit M
set_option linter.unusedVariables false

theorem strs_of_view {w : World} {B : Nat} {v : Value} {l : List ByteArray} (h : View w B v (.l (l.map dS))) : ∃ a cap, v = .slice a l.length cap ∧ l.length ≤ cap ∧ cap ≤ maxLen ∧ (a = none → cap = 0) ∧ Strs w B a l := by
  obtain ⟨a, cap, h1, h2, h3, h4, h5⟩ := h.rows 1 (fun _ => rfl)
  refine ⟨a, cap, h1, h2, h3, h4, fun h0 => ?_⟩
  obtain ⟨b, o, C, e, hb, hc⟩ := h5 h0
  refine ⟨b, o, e, hb, fun j hj => ?_⟩
  obtain ⟨c, v⟩ := hc j hj 0 (.c (.string l[j])) rfl
  rw [v.inv] at c
  simpa using c
theorem view_of_strs {w : World} {B : Nat} {a : Option Addr} {cap : Nat} {l : List ByteArray} (h : Strs w B a l) (h1 : l.length ≤ cap) (h2 : cap ≤ maxLen) (h3 : a = none → cap = 0) : View w B (.slice a l.length cap) (.l (l.map dS)) := by
  by_cases h0 : 0 < l.length
  · obtain ⟨b, o, rfl, hb, hc⟩ := h h0
    have e : l.length = (l.map dS).length := (List.length_map ..).symm
    rw [e]
    refine .row b o cap 1 _ (fun j i => match l[j]? with | some s => .string s | none => .bool false) hb (by rw [← e]; exact h1) h2 (fun r hr => by obtain ⟨x, _, rfl⟩ := List.mem_map.1 hr; rfl) (fun j i x hx => ?_) (fun j i x hx => ?_)
    all_goals
      unfold cellAt at hx
      by_cases hj : j < l.length
      · rw [map_at dS l j hj] at hx
        match i with
        | 0 => cases hx; rw [List.getElem?_eq_getElem hj]; first | exact .c _ | (have := hc j hj; simpa using this)
        | i + 1 => cases hx
      · rw [List.getElem?_eq_none (by simp; omega)] at hx; cases hx
  · have : l = [] := List.eq_nil_of_length_eq_zero (by omega)
    subst this
    exact .nil a cap h3 h2
theorem lks_of_view {w : World} {B : Nat} {v : Value} {l : List Lk} (h : View w B v (.l (l.map dLk))) : ∃ a cap, v = .slice a l.length cap ∧ l.length ≤ cap ∧ cap ≤ maxLen ∧ (a = none → cap = 0) ∧ Lks w B a l := by
  obtain ⟨a, cap, h1, h2, h3, h4, h5⟩ := h.rows 5 (fun _ => rfl)
  refine ⟨a, cap, h1, h2, h3, h4, fun h0 => ?_⟩
  obtain ⟨b, o, C, e, hb, hc⟩ := h5 h0
  refine ⟨b, o, e, hb, fun j hj => ?_⟩
  obtain ⟨c0, v0⟩ := hc j hj 0 (.c (.int .i64 l[j].tk)) rfl
  obtain ⟨c1, v1⟩ := hc j hj 1 (.l (l[j].pa.map dS)) rfl
  obtain ⟨c2, v2⟩ := hc j hj 2 (.c (.bool l[j].de)) rfl
  obtain ⟨c3, v3⟩ := hc j hj 3 (.c (.bool l[j].sh)) rfl
  obtain ⟨c4, v4⟩ := hc j hj 4 (.c (.int .i64 l[j].un)) rfl
  obtain ⟨pa, pc, e1, p1, p2, p3, p4⟩ := strs_of_view v1
  rw [v0.inv] at c0
  rw [e1] at c1
  rw [v2.inv] at c2
  rw [v3.inv] at c3
  rw [v4.inv] at c4
  exact ⟨pa, pc, ⟨c0, c1, c2, c3, c4⟩, ⟨p4, p1, p2, p3⟩⟩
def lkVal (r : Lk) (pv : Value) (i : Nat) : Value := (([.int .i64 r.tk, pv, .bool r.de, .bool r.sh, .int .i64 r.un] : List Value)[i]?).getD (.bool false)
theorem view_of_lks {w : World} {B : Nat} {a : Option Addr} {cap : Nat} {l : List Lk} (h : Lks w B a l) (h1 : l.length ≤ cap) (h2 : cap ≤ maxLen) (h3 : a = none → cap = 0) : View w B (.slice a l.length cap) (.l (l.map dLk)) := by
  by_cases h0 : 0 < l.length
  · obtain ⟨b, o, rfl, hb, hc⟩ := h h0
    have each : ∀ j, ∃ pv : Value, ∀ hj : j < l.length, (∀ i v, i < 5 → lkVal l[j] pv i = v → w.cell? ⟨b, o + j * 5 + i, none⟩ = some v) ∧ View w B pv (.l (l[j].pa.map dS)) := fun j => by
      by_cases hj : j < l.length
      · obtain ⟨pa, pc, ⟨c0, c1, c2, c3, c4⟩, p⟩ := hc j hj
        refine ⟨.slice pa l[j].pa.length pc, fun _ => ⟨fun i v hi hv => ?_, view_of_strs p.ph p.pl p.pm p.pn⟩⟩
        subst hv
        match i, hi with
        | 0, _ => exact c0
        | 1, _ => exact c1
        | 2, _ => exact c2
        | 3, _ => exact c3
        | 4, _ => exact c4
      · exact ⟨.bool false, fun h => absurd h hj⟩
    have e : l.length = (l.map dLk).length := (List.length_map ..).symm
    rw [e]
    refine .row b o cap 5 _ (fun j i => match l[j]? with | some r => lkVal r (Classical.choose (each j)) i | none => .bool false) hb (by rw [← e]; exact h1) h2 (fun r hr => by obtain ⟨x, _, rfl⟩ := List.mem_map.1 hr; rfl) (fun j i x hx => ?_) (fun j i x hx => ?_)
    · unfold cellAt at hx
      by_cases hj : j < l.length
      · rw [map_at dLk l j hj] at hx
        have hi : i < 5 := (List.getElem?_eq_some_iff.1 hx).1
        rw [List.getElem?_eq_getElem hj]
        exact (Classical.choose_spec (each j) hj).1 i _ hi rfl
      · rw [List.getElem?_eq_none (by simp; omega)] at hx; cases hx
    · unfold cellAt at hx
      by_cases hj : j < l.length
      · rw [map_at dLk l j hj] at hx
        rw [List.getElem?_eq_getElem hj]
        match i with
        | 0 => cases hx; exact .c _
        | 1 => cases hx; exact (Classical.choose_spec (each j) hj).2
        | 2 => cases hx; exact .c _
        | 3 => cases hx; exact .c _
        | 4 => cases hx; exact .c _
        | i + 5 => cases hx
      · rw [List.getElem?_eq_none (by simp; omega)] at hx; cases hx
  · have : l = [] := List.eq_nil_of_length_eq_zero (by omega)
    subst this
    exact .nil a cap h3 h2
theorem own_of_rowS {w : World} {p c : Nat} {l : List ByteArray} (h : RowS w p l) (h1 : l.length ≤ c) (h2 : c ≤ maxLen) : Own w (.slice (some ⟨p, 0, none⟩) l.length c) (.l (l.map dS)) (fun y => y = p) := by
  have e : l.length = (l.map dS).length := (List.length_map ..).symm
  rw [e]
  refine RowG.own (R := rowsF dS l) (K := 1) (o := 0) (C := fun j i => .string ((l[j]?).getD ByteArray.empty)) (Sf := fun _ _ _ => False) ⟨rfl, h.1, fun j hj => by rw [rowsF_at l j (by simpa using hj)]; rfl, fun j i hj hi => ?_, fun j i x hj hx => ?_, fun j i y hy => hy.elim, fun j i j' i' y _ hy => hy.elim⟩ (fun j hj => by rw [rowsF_at l j (by simpa using hj)]; simp) (by rw [← e]; exact h1) h2
  · have hj' : j < l.length := by simpa using hj
    have hi0 : i = 0 := by omega
    subst hi0
    have := h.2 j hj'
    rw [List.getElem?_eq_getElem hj']
    simpa using this
  · have hj' : j < l.length := by simpa using hj
    rw [rowsF_at l j hj'] at hx
    match i with
    | 0 => cases hx; rw [List.getElem?_eq_getElem hj']; exact .c _ _
    | i + 1 => cases hx
theorem own_of_ownL {w : World} {lo hi g : Nat} {l : List Lk} {pb : Nat → Nat} (h : OwnL w lo hi g l pb) (hm : l.length ≤ maxLen) : Own w (.slice (some ⟨g, 0, none⟩) l.length l.length) (.l (l.map dLk)) (IvG lo hi) := by
  have each : ∀ j, ∃ pc : Nat, ∀ hj : j < l.length, LkAt w g (j * 5) l[j] (some ⟨pb j, 0, none⟩) pc ∧ l[j].pa.length ≤ pc ∧ pc ≤ maxLen := fun j => by
    by_cases hj : j < l.length
    · obtain ⟨pc, h1⟩ := h.cl j hj; exact ⟨pc, fun _ => h1⟩
    · exact ⟨0, fun h => absurd h hj⟩
  have e : l.length = (l.map dLk).length := (List.length_map ..).symm
  rw [e]
  refine RowG.own (R := rowsF dLk l) (K := 5) (o := 0) (C := fun j i => match l[j]? with | some r => lkVal r (.slice (some ⟨pb j, 0, none⟩) r.pa.length (Classical.choose (each j))) i | none => .bool false) (Sf := fun j i y => j < l.length ∧ i = 1 ∧ y = pb j) ⟨⟨h.gl, h.gh⟩, h.gs, fun j hj => by rw [rowsF_at l j (by simpa using hj)]; rfl, fun j i hj hi => ?_, fun j i x hj hx => ?_, fun j i y hy => ?_, fun j i j' i' y hne hy hy' => ?_⟩ (fun j hj => by rw [rowsF_at l j (by simpa using hj)]; simp) (by rw [← e]; exact Nat.le_refl _) (by rw [← e]; exact hm)
  · have hj' : j < l.length := by simpa using hj
    obtain ⟨⟨c0, c1, c2, c3, c4⟩, _⟩ := Classical.choose_spec (each j) hj'
    rw [List.getElem?_eq_getElem hj', Nat.zero_add]
    refine ⟨?_, h.fz _⟩
    match i, hi with
    | 0, _ => exact c0
    | 1, _ => exact c1
    | 2, _ => exact c2
    | 3, _ => exact c3
    | 4, _ => exact c4
  · have hj' : j < l.length := by simpa using hj
    rw [rowsF_at l j hj'] at hx
    rw [List.getElem?_eq_getElem hj']
    match i with
    | 0 => cases hx; exact .c _ _
    | 1 => cases hx; exact (own_of_rowS (h.rp j hj') (Classical.choose_spec (each j) hj').2.1 (Classical.choose_spec (each j) hj').2.2).wide (fun y hy => ⟨hj', rfl, hy⟩)
    | 2 => cases hx; exact .c _ _
    | 3 => cases hx; exact .c _ _
    | 4 => cases hx; exact .c _ _
    | i + 5 => cases hx
  · obtain ⟨hj, _, rfl⟩ := hy
    obtain ⟨b1, b2, b3⟩ := h.bnd j hj
    exact ⟨⟨b1, b2⟩, b3⟩
  · obtain ⟨hj, h1, e1⟩ := hy
    obtain ⟨hj2, h2, e2⟩ := hy'
    rcases Nat.lt_trichotomy j j' with hh | hh | hh
    · exact h.ord j j' hh hj2 (by rw [← e1, ← e2])
    · omega
    · exact h.ord j' j hh hj (by rw [← e1, ← e2])
/-- What the sizes say. -/
theorem sz_dLk (r : Lk) : szR (dLk r) = r.pa.length + sumS r.pa := by
  have hs : ∀ l : List ByteArray, szRs (l.map dS) = l.length + sumS l := fun l => by
    induction l with
    | nil => simp [szRs, sumS]
    | cons x l ih => rw [List.map_cons, szRs_cons, ih]; simp [dS, szR, szF, szV, sumS]; omega
  simp [dLk, szR, szF, szV, hs]
theorem lk_small {l : List Lk} {N : Nat} (h : szRs (l.map dLk) ≤ N) : ∀ r ∈ l, r.pa.length ≤ N ∧ ∀ s ∈ r.pa, s.size ≤ N := fun r hr => by
  have h1 := szRs_mem _ _ (List.mem_map_of_mem (f := dLk) hr)
  rw [sz_dLk] at h1
  exact ⟨by omega, fun s hs => by have := sumS_mem _ s hs; omega⟩
theorem lk_len {l : List Lk} {N : Nat} (h : szRs (l.map dLk) ≤ N) : l.length ≤ N := by
  have := szRs_len (l.map dLk)
  rw [List.length_map] at this
  omega
end Go.Proofs.Ytckhjemojopekaa
namespace Go.Proofs.Ytckhjemojopekaa
open Go.RowKit M
set_option linter.unusedVariables false

set_option maxHeartbeats 400000 in
theorem specAbove_gen (p : List ByteArray) (u : Value) (W : World) (h : View W W.heap.size u (.l (p.map dS))) (hl : p.length ≤ 1048576) :
    Calls Try.prog 55 #[u] W fun e w' => (∃ r : Value, e = .returned r ∧ View w' w'.heap.size r (.l ((aboveL p).map dS))) ∧ Below W.heap.size W w' := by
  obtain ⟨a, cap, rfl, h1, h2, h3, h4⟩ := strs_of_view h
  by_cases h0 : p.length = 0
  · have he : aboveL p = [] := by rw [List.length_eq_zero_iff.1 h0]; rfl
    rw [he]
    rw [h0] at h1 ⊢
    clear h h3 h4
    go_enter Try.func55, Try.ntmps55
    go_wp2
    go_ret
    exact ⟨⟨_, rfl, .nil _ _ (fun e => by cases e) (by unfold maxLen; omega)⟩, (Below.refl _ _).alloc (Nat.le_refl _) _⟩
  · obtain ⟨b, o, rfl, hb, hc⟩ := h4 (by omega)
    refine (specAboveT_any b o p cap W.heap.size W h4 (Nat.le_refl _) hl (by omega) h1 h2).mono ?_
    rintro e w1 ⟨⟨g, c, rfl, k1, k2, k3⟩, b1⟩
    exact ⟨⟨_, rfl, view_of_strs (k3.strs' k3.1) k1 k2 (fun e => by cases e)⟩, b1⟩
set_option maxHeartbeats 400000 in
theorem above_gen (p : List ByteArray) (u : Value) (W : World) (h : View W W.heap.size u (.l (p.map dS))) (hl : p.length ≤ 1048576) (hs : ∀ s ∈ p, s.size ≤ 281474976710656) :
    Calls Try.prog 58 #[u] W fun e w' => e = .returned (.slice (some ⟨W.heap.size, 0, none⟩) (aboveL p).length (aboveL p).length) ∧ RowS w' W.heap.size (aboveL p) ∧ Below W.heap.size W w' := by
  obtain ⟨a, cap, rfl, h1, h2, h3, h4⟩ := strs_of_view h
  by_cases h0 : p.length = 0
  · have he : aboveL p = [] := by rw [List.length_eq_zero_iff.1 h0]; rfl
    rw [he]
    rw [h0] at h1 ⊢
    have HC := hide (fun (c : Nat) => copyPath_any a [] c W.heap.size W (fun h => absurd h (by simp)) (Nat.le_refl _) (by simp) (fun s hs' => by cases hs'))
    unfold maxLen at h2
    clear h h4
    cases a with
    | none =>
      obtain rfl := h3 rfl
      clear h3
      go_enter Try.func58, Try.ntmps58
      go_wp2_with fail
      refine (HC.out _).mono ?_
      rintro e w1 ⟨rfl, hR, hb⟩
      go_wp2
      go_ret
      exact ⟨rfl, hR, hb⟩
    | some ad =>
      clear h3
      go_enter Try.func58, Try.ntmps58
      go_wp2_with fail
      refine (HC.out _).mono ?_
      rintro e w1 ⟨rfl, hR, hb⟩
      go_wp2
      go_ret
      exact ⟨rfl, hR, hb⟩
  · obtain ⟨b, o, rfl, hb, hc⟩ := h4 (by omega)
    exact above_any b o p cap W.heap.size W h4 (Nat.le_refl _) hl hs h1 h2
theorem aboveV_gen (p : List ByteArray) (u : Value) (W : World) (h : View W W.heap.size u (.l (p.map dS))) (hl : p.length ≤ 1048576) (hs : ∀ s ∈ p, s.size ≤ 281474976710656) :
    Calls Try.prog 58 #[u] W fun e w' => (∃ r : Value, e = .returned r ∧ View w' w'.heap.size r (.l ((aboveL p).map dS))) ∧ Below W.heap.size W w' := by
  refine (above_gen p u W h hl hs).mono ?_
  rintro e w1 ⟨rfl, hr, hb⟩
  have h9 : (aboveL p).length ≤ maxLen := by rw [aboveL_len]; unfold maxLen; omega
  exact ⟨⟨_, rfl, view_of_strs (hr.strs' hr.1) (Nat.le_refl _) h9 (fun e => by cases e)⟩, hb⟩
end Go.Proofs.Ytckhjemojopekaa
namespace Go.Proofs.Ytckhjemojopekaa.M

def bl (c : UInt8) : Bool := isB (c.toNat : Int) 1
def trimL (l : List UInt8) : List UInt8 := ((l.dropWhile bl).reverse.dropWhile bl).reverse

theorem trimL_front (c : UInt8) (r : List UInt8) (h : bl c = true) : trimL (c :: r) = trimL r := by
  simp [trimL, h]

theorem dropWhile_append_single (p : UInt8 → Bool) (l : List UInt8) (c : UInt8) (h : p c = true) : (l ++ [c]).dropWhile p = if l.dropWhile p = [] then [] else l.dropWhile p ++ [c] := by
  induction l with
  | nil => simp [h]
  | cons a r ih =>
    simp only [List.cons_append, List.dropWhile_cons]
    cases p a <;> simp [ih]

theorem trimL_back (l : List UInt8) (c : UInt8) (h : bl c = true) : trimL (l ++ [c]) = trimL l := by
  unfold trimL
  rw [dropWhile_append_single bl l c h]
  by_cases e : l.dropWhile bl = []
  · simp [e]
  · simp [e, h]

theorem dropWhile_head (p : UInt8 → Bool) (c : UInt8) (r : List UInt8) (h : p c = false) : (c :: r).dropWhile p = c :: r := by
  simp [h]

theorem trimL_nil : trimL [] = [] := rfl

theorem trimL_done (l : List UInt8) (h0 : 0 < l.length) (hf : bl l[0] = false) (hb : bl (l[l.length - 1]) = false) : trimL l = l := by
  have e1 : l.dropWhile bl = l := by
    cases l with
    | nil => simp at h0
    | cons c r => exact dropWhile_head bl c r hf
  have e2 : l.reverse.dropWhile bl = l.reverse := by
    have hne : l ≠ [] := by intro e; simp [e] at h0
    have hl : l.getLast hne = l[l.length - 1] := List.getLast_eq_getElem hne
    have e3 : l.reverse = l.getLast hne :: l.dropLast.reverse := by
      conv => lhs; rw [← List.dropLast_concat_getLast hne]
      simp
    rw [e3]
    exact dropWhile_head bl _ _ (by rw [hl]; exact hb)
  rw [trimL, e1, e2, List.reverse_reverse]

/-- A text cut: its bytes from a up to b. -/
def cut (s : ByteArray) (a b : Nat) : List UInt8 := (s.data.toList.take b).drop a

theorem cut_all (s : ByteArray) : cut s 0 s.size = s.data.toList := by
  have e : s.data.toList.length = s.size := Array.length_toList
  unfold cut
  rw [List.drop_zero, List.take_of_length_le (by omega)]

theorem cut_length (s : ByteArray) (a b : Nat) (hb : b ≤ s.size) : (cut s a b).length = b - a := by
  have e : s.data.toList.length = s.size := Array.length_toList
  unfold cut
  rw [List.length_drop, List.length_take]
  omega

theorem cut_get (s : ByteArray) (a b i : Nat) (hb : b ≤ s.size) (hi : a + i < b) : (cut s a b)[i]'(by rw [cut_length s a b hb]; omega) = s[a + i] := by
  simp only [cut, List.getElem_drop, List.getElem_take]
  rfl

theorem cut_front (s : ByteArray) (a b : Nat) (hb : b ≤ s.size) (h : a < b) : cut s a b = s[a] :: cut s (a + 1) b := by
  have e : s.data.toList.length = s.size := Array.length_toList
  unfold cut
  rw [List.drop_eq_getElem_cons (by rw [List.length_take]; omega), List.getElem_take]
  rfl

theorem cut_back (s : ByteArray) (a b : Nat) (hb : b ≤ s.size) (h : a < b) : cut s a b = cut s a (b - 1) ++ [s[b - 1]] := by
  have e : s.data.toList.length = s.size := Array.length_toList
  obtain ⟨c, rfl⟩ : ∃ c, b = c + 1 := ⟨b - 1, by omega⟩
  simp only [Nat.add_sub_cancel]
  unfold cut
  rw [List.take_succ_eq_append_getElem (by omega), List.drop_append_of_le_length (by rw [List.length_take]; omega)]
  rfl

theorem cut_empty (s : ByteArray) (a b : Nat) (h : b ≤ a) : cut s a b = [] := by
  unfold cut
  rw [List.drop_eq_nil_iff, List.length_take]
  omega

theorem cut_trim_front (s : ByteArray) (a b : Nat) (hb : b ≤ s.size) (h : a < b) (hc : bl s[a] = true) : trimL (cut s a b) = trimL (cut s (a + 1) b) := by
  rw [cut_front s a b hb h, trimL_front _ _ hc]

theorem cut_trim_back (s : ByteArray) (a b : Nat) (hb : b ≤ s.size) (h : a < b) (hc : bl s[b - 1] = true) : trimL (cut s a b) = trimL (cut s a (b - 1)) := by
  rw [cut_back s a b hb h, trimL_back _ _ hc]

theorem cut_trim_done (s : ByteArray) (a b : Nat) (hb : b ≤ s.size) (h : a < b) (hf : bl s[a] = false) (hl : bl s[b - 1] = false) : trimL (cut s a b) = cut s a b := by
  have e := cut_length s a b hb
  apply trimL_done
  · rw [cut_get s a b 0 hb (by omega)]; exact hf
  · have := cut_get s a b (b - a - 1) hb (by omega)
    simp only [e]
    rw [this]
    have e2 : a + (b - a - 1) = b - 1 := by omega
    simp only [e2]; exact hl

theorem extract_cut (s : ByteArray) (a b : Nat) : (s.extract a b).data.toList = cut s a b := by
  unfold cut
  rw [ByteArray.data_extract, Array.toList_extract]
  simp [List.extract_eq_take_drop, List.drop_take]

theorem cut_cut (s : ByteArray) (a b c d : Nat) (hb : b ≤ s.size) (hd : a + d ≤ b) : cut (s.extract a b) c d = cut s (a + c) (a + d) := by
  have e : s.data.toList.length = s.size := Array.length_toList
  unfold cut
  rw [extract_cut]
  unfold cut
  apply List.ext_getElem
  · simp only [List.length_drop, List.length_take]; omega
  · intro i h1 h2
    simp only [List.getElem_drop, List.getElem_take, Nat.add_assoc]

theorem anyB_bl (c : UInt8) : anyB (c.toNat : Int) [1] = bl c := by simp [anyB, bl]

theorem size_extract (s : ByteArray) (a b : Nat) (hb : b ≤ s.size) : (s.extract a b).size = b - a := by
  have e : (s.extract a b).data.toList.length = (s.extract a b).size := Array.length_toList
  rw [← e, extract_cut, cut_length s a b hb]

theorem step_front (t : ByteArray) (l : List UInt8) (h0 : 0 < t.size) (hb : bl t[0] = true) (H : trimL t.data.toList = l) : trimL (t.extract 1 t.size).data.toList = l := by
  rw [extract_cut, ← cut_trim_front t 0 t.size (Nat.le_refl _) h0 hb, cut_all, H]

theorem step_back (t : ByteArray) (l : List UInt8) (h0 : 0 < t.size) (hb : bl t[t.size - 1] = true) (H : trimL t.data.toList = l) : trimL (t.extract 0 (t.size - 1)).data.toList = l := by
  rw [extract_cut, ← cut_trim_back t 0 t.size (Nat.le_refl _) h0 hb, cut_all, H]

theorem step_back_head (t : ByteArray) (h0 : 0 < t.size) (hf : bl t[0] = false) (h : 0 < (t.extract 0 (t.size - 1)).size) : bl (t.extract 0 (t.size - 1))[0] = false := by
  have e : (t.extract 0 (t.size - 1))[0] = t[0] := by
    rw [ByteArray.getElem_extract]
  rw [e]; exact hf

theorem step_done (t : ByteArray) (l : List UInt8) (h0 : 0 < t.size) (hf : bl t[0] = false) (hb : bl t[t.size - 1] = false) (H : trimL t.data.toList = l) : t.data.toList = l := by
  rw [← H, ← cut_all t]
  exact (cut_trim_done t 0 t.size (Nat.le_refl _) h0 hf hb).symm

theorem step_none (t : ByteArray) (l : List UInt8) (h0 : ¬ 0 < t.size) (H : trimL t.data.toList = l) : t.data.toList = l := by
  have e : t.data.toList = [] := by rw [← cut_all t]; exact cut_empty _ _ _ (by omega)
  rw [← H, e]; rfl

end Go.Proofs.Ytckhjemojopekaa.M
namespace Go.Proofs.Ytckhjemojopekaa.M

/-- A small name: a small letter, then small letters, digits and hyphens, at most 20 in all. -/
def smB : List UInt8 → Bool
  | [] => false
  | c :: r => decide ((c :: r).length ≤ 20) && isB (c.toNat : Int) 2 && allB (c :: r) [2, 4, 7]

/-- What the specification asks of the byte at place i. -/
def okAt (i : Nat) (c : Int) : Bool := isB c 2 || (i != 0 && (isB c 4 || c == 45))

theorem anyB_3 (c : Int) : anyB c [2, 4, 7] = (isB c 2 || (isB c 4 || c == 45)) := by
  simp [anyB, isB]

theorem okAt_any {i : Nat} {c : Int} (h : okAt i c = true) : anyB c [2, 4, 7] = true := by
  rw [anyB_3]
  unfold okAt at h
  cases h1 : isB c 2 <;> simp_all

theorem ok1 {k : Nat} {c : Int} (h : isB c 2 = true) : okAt k c = true := by simp [okAt, h]
theorem no2 {k : Nat} {c : Int} (h : ¬ isB c 2 = true) (h1 : k = 0) : okAt k c = false := by simp [okAt, h1]; simpa using h
theorem ok3 {k : Nat} {c : Int} (h1 : ¬ k = 0) (h2 : isB c 4 = true) : okAt k c = true := by simp [okAt, h1, h2]
theorem no4 {k : Nat} {c : Int} (h : ¬ isB c 2 = true) (h1 : ¬ k = 0) (h2 : ¬ isB c 4 = true) (h3 : ((k : Int) == 0) = true ∨ (c != 45) = true) : okAt k c = false := by
  rcases h3 with h3 | h3
  · simp at h3; exact absurd h3 h1
  · simp at h h2 h3; simp [okAt, h, h2, h3]
theorem ok5 {k : Nat} {c : Int} (h1 : ¬ k = 0) (h3 : ((k : Int) == 0) = false ∧ (c != 45) = false) : okAt k c = true := by
  obtain ⟨_, h3⟩ := h3
  simp at h3
  simp [okAt, h1, h3]

theorem smB_notL (l : List UInt8) (k : Nat) (h' : k < l.length) (h1 : okAt k (l[k].toNat : Int) = false) : smB l = false := by
  match l, k, h', h1 with
  | c :: r, 0, h', h1 =>
    have h2 : okAt 0 (c.toNat : Int) = false := h1
    simp [okAt] at h2
    simp [smB, h2]
  | c :: r, k + 1, h', h1 =>
    simp only [List.getElem_cons_succ] at h1
    have h2 : anyB (r[k]'(by simpa using h')).toNat [2, 4, 7] = false := by
      rw [anyB_3]; simpa [okAt] using h1
    have h3 : allB (c :: r) [2, 4, 7] = false := by
      unfold allB
      rw [List.all_eq_false]
      exact ⟨_, List.mem_cons_of_mem _ (List.getElem_mem (by simpa using h')), by simp [h2]⟩
    simp [smB, h3]

theorem smB_not (s : ByteArray) (k : Nat) (h : k < s.size) (h1 : okAt k (s[k].toNat : Int) = false) : smB s.data.toList = false := by
  have e : s.data.toList.length = s.size := Array.length_toList
  exact smB_notL s.data.toList k (by omega) h1

theorem smB_allL (l : List UInt8) (h2 : ∀ i (hi : i < l.length), okAt i (l[i].toNat : Int) = true) : smB l = inB (l.length : Int) 1 20 := by
  match l, h2 with
  | [], _ => simp [smB, inB]
  | c :: r, h2 =>
    have h0 : okAt 0 (c.toNat : Int) = true := h2 0 (by simp)
    have h3 : isB (c.toNat : Int) 2 = true := by simpa [okAt] using h0
    have h4 : allB (c :: r) [2, 4, 7] = true := by
      unfold allB
      rw [List.all_eq_true]
      intro x hx
      obtain ⟨i, hi, rfl⟩ := List.mem_iff_getElem.1 hx
      exact okAt_any (h2 i hi)
    simp only [smB, h3, h4, inB]
    rw [Bool.and_true, Bool.and_true, Bool.eq_iff_iff]
    simp
    omega

theorem smB_all (s : ByteArray) (h : ∀ i (hi : i < s.size), okAt i (s[i].toNat : Int) = true) : smB s.data.toList = inB (s.size : Int) 1 20 := by
  have e : s.data.toList.length = s.size := Array.length_toList
  rw [← e]
  exact smB_allL s.data.toList fun i hi => h i (by omega)

theorem smB_implL (l : List UInt8) (h0 : 0 < l.length) (h1 : l.length ≤ 20) : smB l = (isB (l[0].toNat : Int) 2 && allB l [2, 4, 7]) := by
  match l, h0, h1 with
  | c :: r, h0, h1 =>
    have h1' : r.length + 1 ≤ 20 := by simpa using h1
    show smB (c :: r) = (isB (c.toNat : Int) 2 && allB (c :: r) [2, 4, 7])
    simp [smB, h1']

/-- The program's own way to it. -/
theorem smB_impl (s : ByteArray) (h0 : 0 < s.size) (h1 : s.size ≤ 20) : smB s.data.toList = (isB ((s[0]).toNat : Int) 2 && allB s.data.toList [2, 4, 7]) := by
  have e : s.data.toList.length = s.size := Array.length_toList
  exact smB_implL s.data.toList (by omega) (by omega)

theorem smB_longL (l : List UInt8) (h : l.length < 1 ∨ 20 < l.length) : smB l = false := by
  match l, h with
  | [], _ => rfl
  | c :: r, h =>
    have h' : ¬ r.length + 1 ≤ 20 := by simp at h; omega
    simp [smB, h']

theorem smB_long (s : ByteArray) (h : s.size < 1 ∨ 20 < s.size) : smB s.data.toList = false := by
  have e : s.data.toList.length = s.size := Array.length_toList
  exact smB_longL _ (by omega)

end Go.Proofs.Ytckhjemojopekaa.M
