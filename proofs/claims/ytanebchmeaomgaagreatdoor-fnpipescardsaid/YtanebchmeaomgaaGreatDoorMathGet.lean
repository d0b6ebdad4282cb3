/-
  Plain facts on requests: which are right, and their heads: no program in sight.
  Slices of heads: what they hold, and that it stays.
  What a [][]byte holds.
  Bytes cut into parts, as the laws cut them: parts of one row, one behind the other, whatever the code.
  Plain facts on quoted texts: no program in sight.
  Plain facts on the bytes of a request: no program in sight.
  Plain facts on where a head ends: no program in sight.
  Plain facts on numbers' digits: no program in sight.
  Plain facts on numbers read of their digits: no program in sight.
  Plain facts on numbers read of their digits to the base 16: no program in sight.
  Plain facts on bodies in pieces: no program in sight.
  Plain facts on how a request is read: no program in sight.
-/
import Derived.Test.YtanebchmeaomgaaGreatDoorMathSmall
import Derived.Lib.Bytealg
import Derived.Test.YtanebchmeaomgaaGreatDoorRows
import Derived.WalkKit
import Derived.WalkSpells
import Derived.WalkLawsBesides
import Derived.Deep.Light
import Derived.Deep.QuietTactic
import Derived.Deep.OwnRows
import Derived.Lib.ItoaNum
import Derived.Lib.Index
import Derived.Lib.IndexMore
import Derived.Lib.Atoi
import Derived.Lib.IndexBytes
namespace Go.Proofs.YtanebchmeaomgaaGreatDoor.M

/-- A head: its name, its value. -/
abbrev Hd := ByteArray × ByteArray
/-- A request. -/
structure Rq where
  m : ByteArray
  p : ByteArray
  hs : List Hd
  b : ByteArray
deriving DecidableEq

def lenName : ByteArray := ⟨#[99, 111, 110, 116, 101, 110, 116, 45, 108, 101, 110, 103, 116, 104]⟩
def codName : ByteArray := ⟨#[116, 114, 97, 110, 115, 102, 101, 114, 45, 101, 110, 99, 111, 100, 105, 110, 103]⟩

def methB (s : ByteArray) : Bool := allB s.data.toList [3] && inB s.size 1 9
def tgtB (l : List UInt8) : Bool := l.all fun c => inB (c.toNat : Int) 33 126
def targB (s : ByteArray) : Bool := tgtB s.data.toList && inB s.size 1 80
def valB (s : ByteArray) : Bool := decide (s.size ≤ 60) && (allB s.data.toList [0] && decide (trimL s.data.toList = s.data.toList))
def hdB (h : Hd) : Bool := smB h.1.data.toList && valB h.2
def hdFree (h : Hd) : Bool := hdB h && (!decide (h.1 = lenName) && !decide (h.1 = codName))
def hdsB (hs : List Hd) : Bool := hs.all hdFree && decide (hs.length ≤ 8)
def reqB (r : Rq) : Bool := methB r.m && (targB r.p && (hdsB r.hs && decide (r.b.size ≤ 200)))

theorem tgtB_snoc (s : ByteArray) (k : Nat) (h : k < s.size) (h0 : tgtB (s.data.toList.take k) = true) (h1 : inB (s[k].toNat : Int) 33 126 = true) : tgtB (s.data.toList.take (k + 1)) = true := by
  rw [take_snoc s k h]
  unfold tgtB at *
  rw [List.all_append, h0]
  simp [h1]
theorem tgtB_not (s : ByteArray) (k : Nat) (h : k < s.size) (h1 : inB (s[k].toNat : Int) 33 126 = false) : tgtB s.data.toList = false := by
  have hm : s[k] ∈ s.data.toList := by
    have e : s.data.toList.length = s.size := Array.length_toList
    have h' : k < s.data.toList.length := by omega
    exact List.getElem_mem h'
  unfold tgtB
  rw [List.all_eq_false]
  exact ⟨_, hm, by simp [h1]⟩

theorem indexByte_nonneg (l : List UInt8) (c : UInt8) : decide (0 ≤ Lib.indexByte l c) = l.contains c := by
  induction l with
  | nil => rfl
  | cons b l ih =>
    have hge := Lib.indexByte_ge l c
    have hc : (b == c) = (c == b) := by rw [Bool.beq_comm]
    simp only [List.contains_cons]
    rw [← ih]
    have e : Lib.indexByte (b :: l) c = if b == c then 0 else if Lib.indexByte l c == -1 then -1 else Lib.indexByte l c + 1 := rfl
    rw [e, hc]
    cases hb : (c == b)
    · by_cases h1 : Lib.indexByte l c = -1
      · rw [h1]; rfl
      · have h2 : (Lib.indexByte l c == -1) = false := by rw [beq_eq_false_iff_ne]; exact h1
        rw [h2, Bool.eq_iff_iff]
        simp only [Bool.false_eq_true, if_false, Bool.false_or, decide_eq_true_eq]
        omega
    · simp

/-- Plain without a blank: what a target is made of. -/
theorem tgt_plain (l : List UInt8) : (allB l [0] && !l.contains 32) = tgtB l := by
  induction l with
  | nil => rfl
  | cons c r ih =>
    have e1 : allB (c :: r) [0] = (anyB (c.toNat : Int) [0] && allB r [0]) := rfl
    have e2 : tgtB (c :: r) = (inB (c.toNat : Int) 33 126 && tgtB r) := rfl
    rw [e1, e2, ← ih, List.contains_cons]
    have h : (anyB (c.toNat : Int) [0] && !((32 : UInt8) == c)) = inB (c.toNat : Int) 33 126 := by
      by_cases hc : c = 32
      · subst hc; decide
      · have h32 : ¬ c.toNat = 32 := fun e => hc (UInt8.toNat_inj.1 (by rw [e]; rfl))
        have hb : ((32 : UInt8) == c) = false := by rw [beq_eq_false_iff_ne]; exact fun e => hc e.symm
        rw [hb]
        rw [Bool.eq_iff_iff]
        simp [anyB, isB, inB]
        omega
    rw [← h]
    cases anyB (c.toNat : Int) [0] <;> cases ((32 : UInt8) == c) <;> cases allB r [0] <;> simp

theorem hdsB_snoc (hs : List Hd) (k : Nat) (h : k < hs.length) (h0 : (hs.take k).all hdFree = true) (h1 : hdFree hs[k] = true) : (hs.take (k + 1)).all hdFree = true := by
  rw [List.take_succ_eq_append_getElem h, List.all_append, h0]
  simp [h1]
theorem hdsB_not (hs : List Hd) (k : Nat) (h : k < hs.length) (h1 : hdFree hs[k] = false) : hdsB hs = false := by
  have : hs.all hdFree = false := by
    rw [List.all_eq_false]
    exact ⟨_, List.getElem_mem h, by simp [h1]⟩
  simp [hdsB, this]
theorem hdsB_all (hs : List Hd) (k : Nat) (h : ¬ k < hs.length) (h0 : (hs.take k).all hdFree = true) : hdsB hs = decide (hs.length ≤ 8) := by
  rw [List.take_of_length_le (by omega)] at h0
  simp [hdsB, h0]
theorem hdsB_long (hs : List Hd) (h : ¬ hs.length ≤ 8) : hdsB hs = false := by simp [hdsB, h]

/-- The first of this name. -/
def hdOf : List Hd → ByteArray → ByteArray × Bool
  | [], _ => (ByteArray.empty, false)
  | h :: r, n => if h.1 = n then (h.2, true) else hdOf r n

theorem hdOf_at (hs : List Hd) (k : Nat) (hk : k < hs.length) (n : ByteArray) (h0 : hdOf hs n = hdOf (hs.drop k) n) (h : hs[k].1 = n) : hdOf hs n = (hs[k].2, true) := by
  rw [h0, List.drop_eq_getElem_cons hk, hdOf, if_pos h]
theorem hdOf_next (hs : List Hd) (k : Nat) (hk : k < hs.length) (n : ByteArray) (h0 : hdOf hs n = hdOf (hs.drop k) n) (h : ¬ hs[k].1 = n) : hdOf hs n = hdOf (hs.drop (k + 1)) n := by
  rw [h0, List.drop_eq_getElem_cons hk, hdOf, if_neg h]
theorem hdOf_end (hs : List Hd) (k : Nat) (hk : ¬ k < hs.length) (n : ByteArray) (h0 : hdOf hs n = hdOf (hs.drop k) n) : hdOf hs n = (ByteArray.empty, false) := by
  rw [h0, List.drop_of_length_le (by omega), hdOf]

/-- How much a head has, and all of them. -/
def szH (h : Hd) : Nat := h.1.size + h.2.size
def sumH (hs : List Hd) : Nat := (hs.map szH).sum
theorem sumH_snoc (hs : List Hd) (k : Nat) (hk : k < hs.length) : sumH (hs.take (k + 1)) = sumH (hs.take k) + szH hs[k] := by
  unfold sumH
  rw [List.take_succ_eq_append_getElem hk, List.map_append, List.sum_append]
  simp only [List.map_cons, List.map_nil, List.sum_cons, List.sum_nil, Nat.add_zero]
theorem sumH_mem (hs : List Hd) (h : Hd) (hm : h ∈ hs) : h.1.size ≤ sumH hs ∧ h.2.size ≤ sumH hs := by
  induction hs with
  | nil => cases hm
  | cons x l ih =>
    simp only [sumH, List.map_cons, List.sum_cons, szH] at *
    rcases List.mem_cons.1 hm with rfl | hm
    · omega
    · have := ih hm; omega

theorem take_sameH {ss tt : List Hd} (k : Nat) (h1 : k < ss.length) (h2 : k < tt.length) (h0 : ss.take k = tt.take k) (h : ss[k] = tt[k]) : ss.take (k + 1) = tt.take (k + 1) := by
  rw [List.take_succ_eq_append_getElem h1, List.take_succ_eq_append_getElem h2, h0, h]
def sameH (ss tt : List Hd) : Bool := decide (ss = tt)
theorem sameH_refl (ss : List Hd) : sameH ss ss = true := by simp [sameH]
theorem sameH_len {ss tt : List Hd} (h : ¬ ss.length = tt.length) : sameH ss tt = false := by
  simp only [sameH, decide_eq_false_iff_not]; intro e; exact h (by rw [e])
theorem sameH_not {ss tt : List Hd} (k : Nat) (h1 : k < ss.length) (h2 : k < tt.length) (h : ¬ ss[k] = tt[k]) : sameH ss tt = false := by
  simp only [sameH, decide_eq_false_iff_not]; intro e; subst e; exact h rfl
theorem sameH_all {ss tt : List Hd} (hl : ss.length = tt.length) (k : Nat) (hk : ¬ k < ss.length) (h : ss.take k = tt.take k) : sameH ss tt = true := by
  rw [List.take_of_length_le (by omega), List.take_of_length_le (by omega)] at h
  simp [sameH, h]
/-- Whether two requests are the same. -/
def sameR (a b : Rq) : Bool := decide (a.m = b.m) && (decide (a.p = b.p) && (sameH a.hs b.hs && decide (a.b = b.b)))
theorem sameR_iff (a b : Rq) : sameR a b = true ↔ a = b := by
  cases a; cases b
  simp [sameR, sameH]
theorem sameR_refl (a : Rq) : sameR a a = true := (sameR_iff a a).2 rfl
end Go.Proofs.YtanebchmeaomgaaGreatDoor.M
namespace Go.Proofs.YtanebchmeaomgaaGreatDoor
open Go.RowKit M


/-- The heads that a slice holds, in a block below B. -/
def Hds (w : World) (B : Nat) (a : Option Addr) (hs : List Hd) : Prop :=
  0 < hs.length → ∃ b o, a = some ⟨b, o, none⟩ ∧ b < B ∧ ∀ j (hj : j < hs.length), w.cell? ⟨b, o + j * 2, none⟩ = some (.string hs[j].1) ∧ w.cell? ⟨b, o + j * 2 + 1, none⟩ = some (.string hs[j].2)

theorem Hds.below {w w' : World} {B C : Nat} {a : Option Addr} {hs : List Hd} (h : Hds w B a hs) (hb : Below C w w') (hB : B ≤ C) : Hds w' B a hs := fun h0 => by
  obtain ⟨b, o, e, hbB, hc⟩ := h h0
  exact ⟨b, o, e, hbB, fun j hj => ⟨(hb.cell (p := ⟨b, o + j * 2, none⟩) (Nat.lt_of_lt_of_le hbB hB)).trans (hc j hj).1, (hb.cell (p := ⟨b, o + j * 2 + 1, none⟩) (Nat.lt_of_lt_of_le hbB hB)).trans (hc j hj).2⟩⟩
theorem Hds.mono {w : World} {B C : Nat} {a : Option Addr} {hs : List Hd} (h : Hds w B a hs) (hB : B ≤ C) : Hds w C a hs := fun h0 => by
  obtain ⟨b, o, e, hbB, hc⟩ := h h0
  exact ⟨b, o, e, Nat.lt_of_lt_of_le hbB hB, hc⟩

theorem Hds.store {w : World} {B g o : Nat} {hs : List Hd} (h : Hds w B (some ⟨g, o, none⟩) hs) (p : Addr) (v : Value) (hp : p.block ≠ g) : Hds (w.setCell p v) B (some ⟨g, o, none⟩) hs := fun h0 => by
  obtain ⟨b, o', e, hbB, hc⟩ := h h0
  cases e
  exact ⟨g, o, rfl, hbB, fun j hj => ⟨(World.cell?_setCell_other _ _ _ _ (fun e => hp (congrArg Addr.block e))).trans (hc j hj).1, (World.cell?_setCell_other _ _ _ _ (fun e => hp (congrArg Addr.block e))).trans (hc j hj).2⟩⟩

/-- All of them short enough. -/
def ShortH (hs : List Hd) : Prop := ∀ h ∈ hs, h.1.size ≤ maxLen ∧ h.2.size ≤ maxLen
theorem ShortH.at {hs : List Hd} (h : ShortH hs) (k : Nat) (hk : k < hs.length) : (hs[k]).1.size ≤ maxLen ∧ (hs[k]).2.size ≤ maxLen := h _ (List.getElem_mem hk)

/-- A request all of whose parts are short enough. -/
def ShortR (r : Rq) : Prop := r.m.size ≤ maxLen ∧ r.p.size ≤ maxLen ∧ r.b.size ≤ maxLen ∧ r.hs.length ≤ maxLen ∧ ShortH r.hs

/-- The value of a head, and of a request. -/
def hdV (h : Hd) : Value := .agg #[.string h.1, .string h.2]
def rqV (a : Option Addr) (n cap : Nat) (r : Rq) : Value := .agg #[.string r.m, .string r.p, .slice a n cap, .string r.b]

theorem strInj {a b : ByteArray} (h : a.toList = b.toList) : a = b := by
  rw [ByteArray.toList_eq, ByteArray.toList_eq] at h
  exact ByteArray.ext (Array.ext' h)

/-- What was there reads as it did, behind a call that only made memory. -/
theorem bcell {W w1 : World} (hb : Below W.heap.size W w1) : (∀ b o, b < W.heap.size → w1.cell? ⟨b, o, none⟩ = W.cell? ⟨b, o, none⟩) ∧ (∀ b o, b < W.heap.size → w1.frozen? ⟨b, o, none⟩ = W.frozen? ⟨b, o, none⟩) :=
  ⟨fun b o h => hb.cell (p := ⟨b, o, none⟩) h, fun b o h => hb.frozen (p := ⟨b, o, none⟩) h⟩
end Go.Proofs.YtanebchmeaomgaaGreatDoor
namespace Go.Proofs.YtanebchmeaomgaaGreatDoor
open Go.RowKit
set_option linter.unusedVariables false

/-- The rows of bytes that a slice of slices holds, all in blocks below B. -/
def Bss (w : World) (B : Nat) (a : Option Addr) (ls : List (List UInt8)) : Prop :=
  0 < ls.length → ∃ b o, a = some ⟨b, o, none⟩ ∧ b < B ∧ ∀ j (hj : j < ls.length), ∃ aj cj, w.cell? ⟨b, o + j, none⟩ = some (.slice aj ls[j].length cj) ∧ Byt w B aj ls[j] ∧ ls[j].length ≤ cj ∧ cj ≤ maxLen
theorem Bss.below {w w' : World} {B C : Nat} {a : Option Addr} {ls : List (List UInt8)} (h : Bss w B a ls) (hb : Below C w w') (hB : B ≤ C) : Bss w' B a ls := fun h0 => by
  obtain ⟨b, o, e, hbB, hc⟩ := h h0
  refine ⟨b, o, e, hbB, fun j hj => ?_⟩
  obtain ⟨aj, cj, h1, h2, h3⟩ := hc j hj
  exact ⟨aj, cj, (hb.cell (p := ⟨b, o + j, none⟩) (Nat.lt_of_lt_of_le hbB hB)).trans h1, h2.below hb hB, h3⟩
theorem Bss.mono {w : World} {B C : Nat} {a : Option Addr} {ls : List (List UInt8)} (h : Bss w B a ls) (hB : B ≤ C) : Bss w C a ls := fun h0 => by
  obtain ⟨b, o, e, hbB, hc⟩ := h h0
  refine ⟨b, o, e, Nat.lt_of_lt_of_le hbB hB, fun j hj => ?_⟩
  obtain ⟨aj, cj, h1, h2, h3⟩ := hc j hj
  exact ⟨aj, cj, h1, h2.mono hB, h3⟩
theorem Bss.next {w w' : World} {a : Option Addr} {ls : List (List UInt8)} (h : Bss w w.heap.size a ls) (hb : Below w.heap.size w w') : Bss w' w'.heap.size a ls := (h.below hb (Nat.le_refl _)).mono hb.size
theorem Bss.nil (w : World) (B : Nat) (a : Option Addr) : Bss w B a [] := fun h => absurd h (Nat.lt_irrefl _)

def sumB (ls : List (List UInt8)) : Nat := (ls.map List.length).sum
theorem sumB_snoc (ls : List (List UInt8)) (k : Nat) (h : k < ls.length) : sumB (ls.take (k + 1)) = sumB (ls.take k) + (ls[k]).length := by
  unfold sumB
  rw [List.take_succ_eq_append_getElem h, List.map_append, List.sum_append]
  simp
theorem sumB_all (ls : List (List UInt8)) (k : Nat) (h : ¬ k < ls.length) : sumB (ls.take k) = sumB ls := by rw [List.take_of_length_le (by omega)]
theorem sumB_le (ls : List (List UInt8)) (k : Nat) : sumB (ls.take k) ≤ sumB ls := by
  have : sumB ls = sumB (ls.take k) + sumB (ls.drop k) := by
    unfold sumB
    rw [← List.sum_append, ← List.map_append, List.take_append_drop]
  omega
theorem sumB_at (ls : List (List UInt8)) (k : Nat) (h : k < ls.length) : (ls[k]).length ≤ sumB ls := by
  have h1 := sumB_snoc ls k h
  have h2 := sumB_le ls (k + 1)
  omega
theorem sumB_flat (ls : List (List UInt8)) : ls.flatten.length = sumB ls := by simp [sumB, List.length_flatten]
end Go.Proofs.YtanebchmeaomgaaGreatDoor
namespace Go.Proofs.YtanebchmeaomgaaGreatDoor
open Go.RowKit M
set_option linter.unusedVariables false

theorem info_sl : (Tryz.prog.info? 22).map (fun i => (i.zero, i.size, i.bytes)) = some (some (.slice none 0 0), 1, 24) := by kernel_rfl
/-- A row of slices that the call made. -/
def OwnV (w : World) (B : Nat) (v : Value) (cs : List Value) : Prop := w.ownsRow B 22 1 v cs.length cs
theorem OwnV.alloc {w : World} {B : Nat} {v : Value} {cs : List Value} (h : OwnV w B v cs) (o : Obj) : OwnV (w.alloc o) B v cs := World.ownsRow.alloc h o
theorem wp_append_sl {w : World} {ops : Array Oper} {rest : List Oper} {o : Oper} {a : Act} {Q : Exit → Act → World → Prop} (hgd : o.guard = none) (s x : Operand)
    (ho : o.op = .call { callee := .builtin .append, args := #[s, x], argTypes := #[24, 24] })
    (B : Nat) (v : Value) (cs : List Value) (hs : a.eval s = v) (hown : OwnV w B v cs)
    (ad : Addr) (ax : Option Addr) (n c : Nat) (hx : a.eval x = .slice (some ad) 1 1) (hcell : w.cell? ad = some (.slice ax n c)) (hlen : cs.length + 1 ≤ 1048576) (hB : B ≤ w.heap.size)
    (h : ∀ v' w', OwnV w' B v' (cs ++ [.slice ax n c]) → w.grownBy w' v.ownBlock → wpList Tryz.prog ops Q rest (a.put o.dst v') w') : wpList Tryz.prog ops Q (o :: rest) a w := by
  obtain ⟨i0, hi, hz0, hz1, hz2⟩ := info_parts info_sl
  refine wpList_append_own w hgd s x 24 ho B 22 i0 (.slice none 0 0) 1 24 Tryz.underlying24 hi hz0 hz1 hz2 rfl (by decide) v cs.length _ hs hown ad 1 1 [.slice ax n c] hx rfl ?_ ?_ ?_ ?_ hB ?_
  · intro j u hj
    match j, hj with
    | 0, hj =>
      simp at hj; subst hj
      have : ad.add 0 = ad := by unfold Addr.add; split <;> simp_all
      rw [this]; exact hcell
  · intro u hu; simp at hu; subst hu; rfl
  · unfold maxLen; omega
  · omega
  · intro v' w' ho' hg _
    refine h v' w' ?_ hg
    unfold OwnV
    rw [List.length_append]
    exact ho'
theorem Byt.dropAt {w : World} {B g o : Nat} {l : List UInt8} (h : Byt w B (some ⟨g, o, none⟩) l) (n c : Nat) (hc : l.length ≤ c) : Byt w B (if c = n then some ⟨g, o, none⟩ else some ⟨g, o + n, none⟩) (l.drop n) := fun h0 => by
  rw [List.length_drop] at h0
  obtain ⟨g', o', e, hg, hcell⟩ := h (by omega)
  cases e
  rw [if_neg (by omega)]
  refine ⟨g, o + n, rfl, hg, fun j hj => ?_⟩
  rw [List.length_drop] at hj
  have := hcell (n + j) (by omega)
  rw [List.getElem_drop, Nat.add_assoc]
  exact this
/-- The slices of this row hold these bytes, one part behind the other. -/
def Parts (w : World) (B : Nat) (cs : List Value) (ls : List (List UInt8)) : Prop := cs.length = ls.length ∧ ∀ j (hj : j < ls.length), ∃ aj cj, cs[j]? = some (.slice aj ls[j].length cj) ∧ Byt w B aj ls[j] ∧ ls[j].length ≤ cj ∧ cj ≤ maxLen
theorem Parts.snoc {w : World} {B : Nat} {cs : List Value} {ls : List (List UInt8)} (h : Parts w B cs ls) {a : Option Addr} {l : List UInt8} {c : Nat} (hy : Byt w B a l) (h1 : l.length ≤ c) (h2 : c ≤ maxLen) : Parts w B (cs ++ [.slice a l.length c]) (ls ++ [l]) := by
  refine ⟨by simp [h.1], fun j hj => ?_⟩
  rw [List.length_append, List.length_singleton] at hj
  by_cases hjl : j < ls.length
  · obtain ⟨aj, cj, e, r⟩ := h.2 j hjl
    refine ⟨aj, cj, ?_, ?_⟩
    · rw [List.getElem?_append_left (by rw [h.1]; exact hjl), List.getElem_append_left hjl]; exact e
    · rw [List.getElem_append_left hjl]; exact r
  · have hje : j = ls.length := by omega
    subst hje
    refine ⟨a, c, ?_, ?_⟩
    · rw [List.getElem?_append_right (by rw [h.1]; exact Nat.le_refl _), h.1]; simp
    · simp only [List.getElem_append_right (Nat.le_refl _), Nat.sub_self, List.getElem_cons_zero]; exact ⟨hy, h1, h2⟩
theorem Parts.keep {w w' : World} {B C : Nat} {cs : List Value} {ls : List (List UInt8)} (h : Parts w B cs ls) (hb : Below C w w') (hB : B ≤ C) : Parts w' B cs ls :=
  ⟨h.1, fun j hj => by obtain ⟨aj, cj, e, hy, r⟩ := h.2 j hj; exact ⟨aj, cj, e, hy.below hb hB, r⟩⟩
theorem Parts.bss {w : World} {B : Nat} {v : Value} {cs : List Value} {ls : List (List UInt8)} (h : Parts w B cs ls) (ho : OwnV w B v cs) (hB : B ≤ w.heap.size) : ∃ a c, v = .slice a ls.length c ∧ Bss w w.heap.size a ls := by
  obtain ⟨hn, ho⟩ := ho
  rcases ho with ⟨rfl, h0⟩ | ⟨g, cap, cur, rfl, hBg, hg, h1, h2, h3, h4⟩
  · have : cs.length = 0 := by omega
    have hl : ls.length = 0 := by rw [← h.1]; exact this
    exact ⟨none, 0, by rw [hl], fun h0 => absurd h0 (by omega)⟩
  · refine ⟨some ⟨g, 0, none⟩, cap, by rw [h.1], fun _ => ⟨g, 0, rfl, (Array.getElem?_eq_some_iff.1 hg).1, fun j hj => ?_⟩⟩
    obtain ⟨aj, cj, e, hy, r⟩ := h.2 j hj
    refine ⟨aj, cj, ?_, hy.mono hB, r⟩
    have hx : cur.toList[j]? = some (.slice aj ls[j].length cj) := by
      rw [← e, ← h4, List.getElem?_take, if_pos (by rw [h.1]; omega)]
    rw [Nat.zero_add]
    simp [World.cell?, hg]
    simpa using hx
theorem belowO {w w' : World} {C : Nat} {v : Value} (h : w.grownBy w' v.ownBlock) (hC : ∀ g, v.ownBlock = some g → C ≤ g) (hz : C ≤ w.heap.size) : Below C w w' :=
  ⟨h.os, h.tape, h.output, h.size, fun k hk => h.block k (by omega) (fun e => by have := hC k e.symm; omega)⟩

set_option maxRecDepth 100000 in
set_option maxHeartbeats 4000000 in
theorem cut_any {w : World} {B : Nat} {a : Option Addr} {len : Nat} {zs : List Int} (hc : CodeIn w B a len zs) (hB : B ≤ w.heap.size) (cap g o : Nat) (l : List UInt8) (c : Nat) (hy : Byt w w.heap.size (some ⟨g, o, none⟩) l) (hl : l.length ≤ c) (hcm : c ≤ maxLen) :
    Calls Tryz.prog 11 #[.slice a len cap, .slice (some ⟨g, o, none⟩) l.length c] w fun e w' => (∃ (a' : Option Addr) (c' : Nat) (ls : List (List UInt8)), e = .returned (.slice a' ls.length c') ∧ ls.flatten = l ∧ ls.length ≤ 41 ∧ Bss w' w'.heap.size a' ls) ∧ Below w.heap.size w w' := by
  have HC := hide hc
  have HY0 := hide hy
  have O0 : Hid (OwnV (w.alloc (Obj.cells #[] 22)) w.heap.size (.slice (some ⟨w.heap.size, 0, none⟩) 0 0) []) :=
    ⟨rfl, .inr ⟨w.heap.size, 0, #[], rfl, Nat.le_refl _, heap_alloc_new w _, Nat.le_refl _, Nat.zero_le _, rfl, rfl⟩⟩
  clear hc hy
  go_enter Tryz.func11, Tryz.ntmps11
  go_wp2
  go_loopw [1, 5, 6] (fun b v i wr => ∃ (k : Nat) (ls : List (List UInt8)) (lr : List UInt8) (g1 o1 cr : Nat) (cs : List Value), k ≤ 40 ∧ ls.length = k ∧ i = .int .i64 k ∧ b = .slice (some ⟨g1, o1, none⟩) lr.length cr ∧ lr.length ≤ cr ∧ cr ≤ maxLen ∧ ls.flatten ++ lr = l ∧ Byt w w.heap.size (some ⟨g1, o1, none⟩) lr ∧ Parts w w.heap.size cs ls ∧ OwnV wr w.heap.size v cs ∧ Below w.heap.size w wr) (fun _ _ i _ => 50 - (intOf i).toNat)
  case atStart => exact ⟨0, [], l, g, o, c, [], Nat.zero_le _, rfl, rfl, rfl, hl, hcm, rfl, HY0.out, ⟨rfl, fun j hj => absurd hj (Nat.not_lt_zero _)⟩, O0.out, (Below.refl _ _).alloc (Nat.le_refl _) _⟩
  case round =>
    clear O0 HY0 hl hcm
    obtain ⟨k, ls, lr, g1, o1, cr, cs, hk, hls, rfl, rfl, hlc, hcm, hfl, hyr, hps, how, hbe⟩ := hrel
    have HFl := hide hfl
    have HY := hide hyr
    have HP := hide hps
    have HO := hide how
    have HB := hide hbe
    have hcs : cs.length = k := by rw [hps.1, hls]
    have HLs := hide hls
    have hz := hbe.size
    clear hfl hyr hps how hbe hls
    have hm64 : maxLen ≤ 9223372036854775807 := by unfold maxLen; omega
    by_cases h0 : lr.length = 0
    · have h0i : ¬ ((0 : Int) < (lr.length : Int)) := by omega
      have h0n : ¬ (0 < lr.length) := by omega
      clear h0
      clear HC
      go_wp2_with (at_builtin; refine wp_append_sl rfl _ _ rfl w.heap.size _ cs rfl (HO.out.alloc _) _ (some ⟨g1, o1, none⟩) lr.length cr rfl ?_ ?_ ?_ ?_)
      · omega
      · omega
      · intro v' w' ho' hg'
        have hB1 := (HB.out.alloc hz _).trans (belowO hg' (fun g hg => (World.ownsRow.lt HO.out g hg).1) (by simp; omega))
        obtain ⟨a2, c2, rfl, hbs⟩ := ((HP.out.snoc HY.out hlc hcm).keep hB1 (Nat.le_refl _)).bss ho' hB1.size
        have HBs := hide hbs
        have HB1 := hide hB1
        have hlen := HLs.out
        clear hbs hB1 ho' hg'
        go_wp2
        go_ret
        exact ⟨⟨a2, c2, ls ++ [lr], rfl, by rw [List.flatten_append, List.flatten_cons, List.flatten_nil, List.append_nil]; exact HFl.out, by rw [List.length_append, List.length_singleton]; omega, HBs.out⟩, HB1.out⟩
    by_cases hk40 : (k : Int) < 40
    rotate_left
    · have h0i : (0 : Int) < (lr.length : Int) := by omega
      have h0n : 0 < lr.length := by omega
      clear HC
      go_wp2_with (at_builtin; refine wp_append_sl rfl _ _ rfl w.heap.size _ cs rfl (HO.out.alloc _) _ (some ⟨g1, o1, none⟩) lr.length cr rfl ?_ ?_ ?_ ?_)
      · omega
      · omega
      · intro v' w' ho' hg'
        have hB1 := (HB.out.alloc hz _).trans (belowO hg' (fun g hg => (World.ownsRow.lt HO.out g hg).1) (by simp; omega))
        obtain ⟨a2, c2, rfl, hbs⟩ := ((HP.out.snoc HY.out hlc hcm).keep hB1 (Nat.le_refl _)).bss ho' hB1.size
        have HBs := hide hbs
        have HB1 := hide hB1
        have hlen := HLs.out
        clear hbs hB1 ho' hg'
        go_wp2
        go_ret
        exact ⟨⟨a2, c2, ls ++ [lr], rfl, by rw [List.flatten_append, List.flatten_cons, List.flatten_nil, List.append_nil]; exact HFl.out, by rw [List.length_append, List.length_singleton]; omega, HBs.out⟩, HB1.out⟩
    have h0i : (0 : Int) < (lr.length : Int) := by omega
    have h0n : 0 < lr.length := by omega
    have hw9 : IntKind.i64.wrap ((k : Int) + 9) = (k : Int) + 9 := by rw [IntKind.wrap_i64]; omega
    have HA : Hid (∀ W, Below w.heap.size w W → Calls Tryz.prog 45 #[.slice a len cap, .int .i64 ((k : Int) + 9)] W fun e w' => (∃ p : Nat, p ≤ 255 ∧ e = .returned (.int .i64 p)) ∧ w' = W) := fun W hb => at_any (HC.out.below (hb.mono hB)) cap (k + 9) (by omega)
    go_wp2_with fail
    refine (HA.out _ HB.out).mono ?_
    rintro e w2 ⟨⟨p, hp, rfl⟩, hw2⟩
    obtain rfl := hw2.symm
    clear hw2 HA
    obtain ⟨q, hq⟩ : ∃ q : Nat, q = p % 9 := ⟨_, rfl⟩
    have htm : (p : Int).tmod 9 = (q : Int) := by rw [Int.tmod_eq_emod_of_nonneg (by omega)]; omega
    obtain ⟨n, hn⟩ : ∃ n : Nat, n = 1 + q := ⟨_, rfl⟩
    have hwn : IntKind.i64.wrap (1 + (q : Int)) = (n : Int) := by rw [IntKind.wrap_i64]; omega
    have hn0 : 0 < n := by omega
    clear hq hn
    by_cases hgt : (lr.length : Int) < (n : Int)
    · by_cases hcM : cr = lr.length
      · have hcM2 : lr.length = cr := hcM.symm
        clear hcM
        subst hcM2
        have hMt : (lr.take lr.length).length = lr.length := by rw [List.length_take]; omega
        have hMi : (lr.length : Int) ≤ (lr.length : Int) := by omega
        have hyd := HY.out.dropAt lr.length lr.length hlc
        rw [if_pos rfl] at hyd
        have HYd := hide hyd
        have hps2 := HP.out.snoc (HY.out.take lr.length) (by omega) hcm
        rw [hMt] at hps2
        have HPs := hide hps2
        clear hyd hps2
        go_wp2_with (at_builtin; refine wp_append_sl rfl _ _ rfl w.heap.size _ cs rfl (HO.out.alloc _) _ (some ⟨g1, o1, none⟩) lr.length lr.length rfl ?_ ?_ ?_ ?_)
        · simp
        · omega
        · simp; omega
        · intro v' w' ho' hg'
          have hB1 := (HB.out.alloc hz _).trans (belowO hg' (fun g hg => (World.ownsRow.lt HO.out g hg).1) (by simp; omega))
          have HB1 := hide hB1
          have HO1 := hide ho'
          have hlen := HLs.out
          clear hB1 ho' hg'
          go_wp2
          go_roundw
          case rel => exact ⟨k + 1, ls ++ [lr.take lr.length], lr.drop lr.length, g1, o1, 0, _, by omega, by rw [List.length_append, List.length_singleton, hlen], by go_num, by first | rfl | (rw [List.length_drop]; done) | (rw [List.length_drop, show lr.length - lr.length = 0 by omega]), by rw [List.length_drop]; omega, by omega, by simp only [List.flatten_append, List.flatten_cons, List.flatten_nil, List.append_nil, List.append_assoc, List.take_append_drop]; exact HFl.out, HYd.out, HPs.out, HO1.out, HB1.out⟩
          case measure => simp [intOf]; omega
      · have hMt : (lr.take lr.length).length = lr.length := by rw [List.length_take]; omega
        have hMi : (lr.length : Int) ≤ (cr : Int) := by omega
        have hyd := HY.out.dropAt lr.length cr hlc
        rw [if_neg hcM] at hyd
        have HYd := hide hyd
        have hps2 := HP.out.snoc (HY.out.take lr.length) (by omega) hcm
        rw [hMt] at hps2
        have HPs := hide hps2
        clear hyd hps2
        go_wp2_with (at_builtin; refine wp_append_sl rfl _ _ rfl w.heap.size _ cs rfl (HO.out.alloc _) _ (some ⟨g1, o1, none⟩) lr.length cr rfl ?_ ?_ ?_ ?_)
        · simp
        · omega
        · simp; omega
        · intro v' w' ho' hg'
          have hB1 := (HB.out.alloc hz _).trans (belowO hg' (fun g hg => (World.ownsRow.lt HO.out g hg).1) (by simp; omega))
          have HB1 := hide hB1
          have HO1 := hide ho'
          have hlen := HLs.out
          clear hB1 ho' hg'
          go_wp2
          go_roundw
          case rel => exact ⟨k + 1, ls ++ [lr.take lr.length], lr.drop lr.length, g1, o1 + lr.length, cr - lr.length, _, by omega, by rw [List.length_append, List.length_singleton, hlen], by go_num, by first | rfl | (rw [List.length_drop]; done) | (rw [List.length_drop, show lr.length - lr.length = 0 by omega]), by rw [List.length_drop]; omega, by omega, by simp only [List.flatten_append, List.flatten_cons, List.flatten_nil, List.append_nil, List.append_assoc, List.take_append_drop]; exact HFl.out, HYd.out, HPs.out, HO1.out, HB1.out⟩
          case measure => simp [intOf]; omega
    · by_cases hcM : cr = n
      · have hcM2 : n = cr := hcM.symm
        clear hcM
        subst hcM2
        have hMl : n ≤ lr.length := by omega
        have hMt : (lr.take n).length = n := by rw [List.length_take]; omega
        have hMi : (n : Int) ≤ (n : Int) := by omega
        have hMj : (n : Int) ≤ (lr.length : Int) := by omega
        have hyd := HY.out.dropAt n n hlc
        rw [if_pos rfl] at hyd
        have HYd := hide hyd
        have hps2 := HP.out.snoc (HY.out.take n) (by omega) hcm
        rw [hMt] at hps2
        have HPs := hide hps2
        clear hyd hps2
        go_wp2_with (at_builtin; refine wp_append_sl rfl _ _ rfl w.heap.size _ cs rfl (HO.out.alloc _) _ (some ⟨g1, o1, none⟩) n n rfl ?_ ?_ ?_ ?_)
        · simp
        · omega
        · simp; omega
        · intro v' w' ho' hg'
          have hB1 := (HB.out.alloc hz _).trans (belowO hg' (fun g hg => (World.ownsRow.lt HO.out g hg).1) (by simp; omega))
          have HB1 := hide hB1
          have HO1 := hide ho'
          have hlen := HLs.out
          clear hB1 ho' hg'
          go_wp2
          go_roundw
          case rel => exact ⟨k + 1, ls ++ [lr.take n], lr.drop n, g1, o1, 0, _, by omega, by rw [List.length_append, List.length_singleton, hlen], by go_num, by first | rfl | (rw [List.length_drop]; done) | (rw [List.length_drop, show lr.length - n = 0 by omega]), by rw [List.length_drop]; omega, by omega, by simp only [List.flatten_append, List.flatten_cons, List.flatten_nil, List.append_nil, List.append_assoc, List.take_append_drop]; exact HFl.out, HYd.out, HPs.out, HO1.out, HB1.out⟩
          case measure => simp [intOf]; omega
      · have hMl : n ≤ lr.length := by omega
        have hMt : (lr.take n).length = n := by rw [List.length_take]; omega
        have hMi : (n : Int) ≤ (cr : Int) := by omega
        have hMj : (n : Int) ≤ (lr.length : Int) := by omega
        have hyd := HY.out.dropAt n cr hlc
        rw [if_neg hcM] at hyd
        have HYd := hide hyd
        have hps2 := HP.out.snoc (HY.out.take n) (by omega) hcm
        rw [hMt] at hps2
        have HPs := hide hps2
        clear hyd hps2
        go_wp2_with (at_builtin; refine wp_append_sl rfl _ _ rfl w.heap.size _ cs rfl (HO.out.alloc _) _ (some ⟨g1, o1, none⟩) n cr rfl ?_ ?_ ?_ ?_)
        · simp
        · omega
        · simp; omega
        · intro v' w' ho' hg'
          have hB1 := (HB.out.alloc hz _).trans (belowO hg' (fun g hg => (World.ownsRow.lt HO.out g hg).1) (by simp; omega))
          have HB1 := hide hB1
          have HO1 := hide ho'
          have hlen := HLs.out
          clear hB1 ho' hg'
          go_wp2
          go_roundw
          case rel => exact ⟨k + 1, ls ++ [lr.take n], lr.drop n, g1, o1 + n, cr - n, _, by omega, by rw [List.length_append, List.length_singleton, hlen], by go_num, by first | rfl | (rw [List.length_drop]; done) | (rw [List.length_drop, show lr.length - n = 0 by omega]), by rw [List.length_drop]; omega, by omega, by simp only [List.flatten_append, List.flatten_cons, List.flatten_nil, List.append_nil, List.append_assoc, List.take_append_drop]; exact HFl.out, HYd.out, HPs.out, HO1.out, HB1.out⟩
          case measure => simp [intOf]; omega
end Go.Proofs.YtanebchmeaomgaaGreatDoor
namespace Go.Proofs.YtanebchmeaomgaaGreatDoor.M

/-- These bytes, as a text. -/
def bytesOf (l : List UInt8) : ByteArray := ⟨l.toArray⟩
theorem bytesOf_append (l m : List UInt8) : bytesOf l ++ bytesOf m = bytesOf (l ++ m) := by
  apply ByteArray.ext
  simp [bytesOf]

theorem bytesOf_size (l : List UInt8) : (bytesOf l).size = l.length := by
  show l.toArray.size = l.length
  simp

/-- A digit of sixteen, a large one. -/
def digL (n : Nat) : UInt8 := if n < 10 then UInt8.ofNat (48 + n) else UInt8.ofNat (55 + n)
theorem digL_lo (n : Nat) (h : n < 10) : (digL n).toNat = 48 + n := by
  unfold digL; rw [if_pos h]; simp; omega
theorem digL_hi (n : Nat) (h : ¬ n < 10) (h' : n < 16) : (digL n).toNat = 55 + n := by
  unfold digL; rw [if_neg h]; simp; omega

/-- Whether a byte stays as it is in a quoted text. -/
def freeB (c : Int) : Bool := ((((((isB c 2 || isB c 3) || isB c 4) || c == 45) || c == 46) || c == 95) || c == 126)
def quoteB (c : UInt8) : List UInt8 := if freeB (c.toNat : Int) then [c] else [37, digL (c.toNat / 16), digL (c.toNat % 16)]
def quoteL (l : List UInt8) : List UInt8 := l.flatMap quoteB

theorem quoteB_yes {c : UInt8} (h : freeB (c.toNat : Int) = true) : quoteB c = [c] := by unfold quoteB; rw [if_pos h]
theorem quoteB_no {c : UInt8} (h : freeB (c.toNat : Int) = false) : quoteB c = [37, digL (c.toNat / 16), digL (c.toNat % 16)] := by unfold quoteB; rw [if_neg (by simp [h])]

theorem quoteL_snoc (s : ByteArray) (k : Nat) (h : k < s.size) : quoteL (s.data.toList.take (k + 1)) = quoteL (s.data.toList.take k) ++ quoteB s[k] := by
  rw [take_snoc s k h]; simp [quoteL]

theorem quoteB_length (c : UInt8) : (quoteB c).length ≤ 3 := by unfold quoteB; split <;> simp
theorem quoteL_le (l : List UInt8) : (quoteL l).length ≤ 3 * l.length := by
  induction l with
  | nil => simp [quoteL]
  | cons c l ih =>
    have := quoteB_length c
    simp only [quoteL, List.flatMap_cons, List.length_append, List.length_cons] at *
    omega

theorem hex_at (n : Nat) (h : n < 16) : (⟨#[48, 49, 50, 51, 52, 53, 54, 55, 56, 57, 65, 66, 67, 68, 69, 70]⟩ : ByteArray)[n]'(by show n < 16; exact h) = digL n := by
  have key : ∀ i : Fin 16, (⟨#[48, 49, 50, 51, 52, 53, 54, 55, 56, 57, 65, 66, 67, 68, 69, 70]⟩ : ByteArray)[i.val]'(by show i.val < 16; exact i.isLt) = digL i.val := by decide
  exact key ⟨n, h⟩

end Go.Proofs.YtanebchmeaomgaaGreatDoor.M
namespace Go.Proofs.YtanebchmeaomgaaGreatDoor.M

def crlf : List UInt8 := [13, 10]
def proto : List UInt8 := [72, 84, 84, 80, 47, 49, 46, 49]
def lenTag : List UInt8 := [99, 111, 110, 116, 101, 110, 116, 45, 108, 101, 110, 103, 116, 104, 58, 32]
/-- The line of a head, and of all heads. -/
def hdTxt (h : Hd) : List UInt8 := h.1.data.toList ++ ([58, 32] ++ (h.2.data.toList ++ crlf))
def hdsTxt (hs : List Hd) : List UInt8 := hs.flatMap hdTxt
/-- The first line. -/
def topTxt (r : Rq) : List UInt8 := r.m.data.toList ++ ([32] ++ (r.p.data.toList ++ ([32] ++ (proto ++ crlf))))
/-- What stands ahead of the body, with this line on it. -/
def frontL (r : Rq) (line : List UInt8) : List UInt8 := topTxt r ++ (hdsTxt r.hs ++ (line ++ crlf))
def lenLine (n : Nat) : List UInt8 := lenTag ++ (Lib.decDigits n ++ crlf)
def bodyLine (b : ByteArray) : List UInt8 := if b.size = 0 then [] else lenLine b.size
def put0 (r : Rq) (line body : List UInt8) : List UInt8 := if reqB r = true ∧ (frontL r line).length ≤ 400 then frontL r line ++ body else []
/-- The bytes of a request. -/
def putL (r : Rq) : List UInt8 := put0 r (bodyLine r.b) r.b.data.toList

theorem hdsTxt_snoc (hs : List Hd) (k : Nat) (h : k < hs.length) : hdsTxt (hs.take (k + 1)) = hdsTxt (hs.take k) ++ hdTxt hs[k] := by
  unfold hdsTxt
  rw [List.take_succ_eq_append_getElem h, List.flatMap_append]
  simp only [List.flatMap_cons, List.flatMap_nil, List.append_nil]

theorem hdTxt_len (h : Hd) : (hdTxt h).length = szH h + 4 := by
  have e1 : h.1.data.toList.length = h.1.size := Array.length_toList
  have e2 : h.2.data.toList.length = h.2.size := Array.length_toList
  simp only [hdTxt, crlf, szH, List.length_append, List.length_cons, List.length_nil]
  omega
theorem hdsTxt_len (hs : List Hd) : (hdsTxt hs).length = sumH hs + 4 * hs.length := by
  induction hs with
  | nil => rfl
  | cons h r ih =>
    have := hdTxt_len h
    simp only [hdsTxt, sumH, List.flatMap_cons, List.length_append, List.map_cons, List.sum_cons, List.length_cons] at *
    omega

theorem sumH_take (hs : List Hd) (k : Nat) : sumH (hs.take k) ≤ sumH hs := by
  have e : sumH hs = sumH (hs.take k) + sumH (hs.drop k) := by
    unfold sumH
    rw [← List.sum_append, ← List.map_append, List.take_append_drop]
  omega

theorem bytes_app (a b : ByteArray) : a ++ b = bytesOf (a.data.toList ++ b.data.toList) := by
  apply ByteArray.ext
  simp [bytesOf]
theorem bytesOf_list (l : List UInt8) : (bytesOf l).data.toList = l := rfl
end Go.Proofs.YtanebchmeaomgaaGreatDoor.M
namespace Go.Proofs.YtanebchmeaomgaaGreatDoor.M

/-- Two line's ends. -/
def two4 : List UInt8 := [13, 10, 13, 10]
/-- The place behind the first two line's ends, one behind the other, among the first 400 bytes. -/
def heL (l : List UInt8) : Int := if 0 ≤ Lib.index (l.take 400) two4 then Lib.index (l.take 400) two4 + 4 else -1

theorem prefix_take (p m : List UInt8) : p.isPrefixOf m = decide (m.take p.length = p) := by
  rw [Bool.eq_iff_iff]
  simp only [List.isPrefixOf_iff_prefix, decide_eq_true_eq, List.prefix_iff_eq_take]
  exact eq_comm

theorem occ_at (l : List UInt8) (k : Nat) (h4 : k + 4 ≤ 400) : Lib.occAt (l.take 400) two4 k = decide ((l.drop k).take 4 = two4) := by
  unfold Lib.occAt
  rw [prefix_take]
  have e : ((l.take 400).drop k).take two4.length = (l.drop k).take 4 := by
    rw [List.drop_take, List.take_take]
    congr 1
    show min 4 (400 - k) = 4
    omega
  rw [e]

theorem occ_past (l : List UInt8) (k : Nat) (h : l.length < k + 4 ∨ 400 < k + 4) : Lib.occAt (l.take 400) two4 k = false := by
  unfold Lib.occAt
  rw [prefix_take, decide_eq_false_iff_not]
  intro e
  have := congrArg List.length e
  simp only [List.length_take, List.length_drop] at this
  have h4 : two4.length = 4 := rfl
  omega

theorem heL_at {l : List UInt8} {k : Nat} (h : k + 4 ≤ l.length) (h4 : k + 4 ≤ 400) (h0 : ∀ j, j < k → Lib.occAt (l.take 400) two4 j = false) (h1 : (l.drop k).take 4 = two4) : heL l = k + 4 := by
  have hi : Lib.index (l.take 400) two4 = k := Lib.index_first (by rw [List.length_take]; omega) (by rw [occ_at l k h4]; simp [h1]) h0
  unfold heL
  rw [hi, if_pos (by omega)]

theorem heL_none {l : List UInt8} {k : Nat} (h : ¬ (k + 3 < l.length ∧ k + 3 < 400)) (h0 : ∀ j, j < k → Lib.occAt (l.take 400) two4 j = false) : heL l = -1 := by
  have hi : Lib.index (l.take 400) two4 = -1 := Lib.index_none fun j _ => by
    by_cases e : j < k
    · exact h0 j e
    · exact occ_past l j (by omega)
  unfold heL
  rw [hi, if_neg (by omega)]

theorem two4_str (m : List UInt8) : ((⟨m.toArray⟩ : ByteArray).toList == [13, 10, 13, 10]) = decide (m = two4) := by
  rw [ByteArray.toList_eq]
  show (m.toArray.toList == two4) = _
  by_cases h : m = two4 <;> simp [h]

theorem two4_beq (m : List UInt8) : (m == [13, 10, 13, 10]) = decide (m = two4) := by
  show (m == two4) = _
  by_cases h : m = two4 <;> simp [h]

theorem heL_bd (l : List UInt8) : -1 ≤ heL l ∧ heL l ≤ 400 ∧ heL l ≤ l.length ∧ (heL l = -1 ∨ 4 ≤ heL l) := by
  unfold heL
  by_cases h : 0 ≤ Lib.index (l.take 400) two4
  · rw [if_pos h]
    obtain ⟨k, hk⟩ : ∃ k : Nat, Lib.index (l.take 400) two4 = k := ⟨_, (Int.toNat_of_nonneg h).symm⟩
    have hr := Lib.index_room (l.take 400) two4 h
    have h4 : two4.length = 4 := rfl
    have hle : k + 4 ≤ (l.take 400).length := by rw [hk, h4] at hr; omega
    rw [List.length_take] at hle
    rw [hk]
    omega
  · rw [if_neg h]
    omega
end Go.Proofs.YtanebchmeaomgaaGreatDoor.M
namespace Go.Proofs.YtanebchmeaomgaaGreatDoor.M

/-- The digits ahead of the last one. -/
def decAhead (m : Nat) : List UInt8 := if m < 10 then [] else Lib.decDigits (m / 10)
def decLow (m : Nat) : UInt8 := UInt8.ofNat (48 + m % 10)

theorem decDigits_ahead (m : Nat) : Lib.decDigits m = decAhead m ++ [decLow m] := by
  rw [Lib.decDigits]
  unfold decAhead decLow
  by_cases h : m < 10
  · rw [dif_pos h, if_pos h, Nat.mod_eq_of_lt h]; rfl
  · rw [dif_neg h, if_neg h]

theorem decAhead_step (m : Nat) (h : 9 < m) : decAhead m = decAhead (m / 10) ++ [decLow (m / 10)] := by
  rw [← decDigits_ahead]
  unfold decAhead
  rw [if_neg (by omega)]

theorem decAhead_end (m : Nat) (h : ¬ 9 < m) : decAhead m = [] := by
  unfold decAhead
  rw [if_pos (by omega)]

theorem decLow_toNat (m : Nat) : (decLow m).toNat = 48 + m % 10 := by
  unfold decLow
  rw [UInt8.toNat_ofNat']
  omega

/-- A digit to the base 16. -/
def hexCh (d : Nat) : UInt8 := if d < 10 then UInt8.ofNat (48 + d) else UInt8.ofNat (87 + d)
/-- The digits to the base 16, f of them at most. -/
def hexDig : Nat → Nat → List UInt8
  | 0, _ => []
  | f + 1, m => if m < 16 then [hexCh m] else hexDig f (m / 16) ++ [hexCh (m % 16)]
def hexDigits (m : Nat) : List UInt8 := hexDig 16 m
/-- The digits ahead of the last one. -/
def hexAhead (f m : Nat) : List UInt8 := if m < 16 then [] else hexDig f (m / 16)

theorem hexDig_ahead (f m : Nat) : hexDig (f + 1) m = hexAhead f m ++ [hexCh (m % 16)] := by
  unfold hexAhead
  simp only [hexDig]
  by_cases h : m < 16
  · rw [if_pos h, if_pos h, Nat.mod_eq_of_lt h]; rfl
  · rw [if_neg h, if_neg h]

theorem hexAhead_step (f m : Nat) (h : 15 < m) : hexAhead (f + 1) m = hexAhead f (m / 16) ++ [hexCh (m / 16 % 16)] := by
  rw [← hexDig_ahead]
  unfold hexAhead
  rw [if_neg (by omega)]

theorem hexAhead_end (f m : Nat) (h : ¬ 15 < m) : hexAhead f m = [] := by
  unfold hexAhead
  rw [if_pos (by omega)]

theorem hexCh_toNat (d : Nat) (h : d < 16) : (hexCh d).toNat = if d < 10 then 48 + d else 87 + d := by
  unfold hexCh
  split
  · rw [UInt8.toNat_ofNat']; omega
  · rw [UInt8.toNat_ofNat']; omega

end Go.Proofs.YtanebchmeaomgaaGreatDoor.M
namespace Go.Proofs.YtanebchmeaomgaaGreatDoor.M

/-- The worth of decimal digits, the first one the greatest, behind a number. -/
def decValF (n : Nat) (l : List UInt8) : Nat := l.foldl (fun n c => n * 10 + (c.toNat - 48)) n
def decVal (l : List UInt8) : Nat := decValF 0 l

theorem decVal_snoc (l : List UInt8) (c : UInt8) : decVal (l ++ [c]) = decVal l * 10 + (c.toNat - 48) := by
  simp [decVal, decValF]

def digs (l : List UInt8) : Bool := allB l [4]

theorem digs_cons (c : UInt8) (r : List UInt8) : digs (c :: r) = true → (48 ≤ c.toNat ∧ c.toNat ≤ 57) ∧ digs r = true := by
  intro h
  have h1 : isB (c.toNat : Int) 4 = true ∧ digs r = true := by simpa [digs, allB, anyB] using h
  refine ⟨?_, h1.2⟩
  have := h1.1; simp [isB] at this; omega

theorem decFrom_val (l : List UInt8) : ∀ n, digs l = true → Lib.decFrom n l = some (decValF n l) := by
  induction l with
  | nil => intro n _; rfl
  | cons c r ih =>
    intro n h
    obtain ⟨h1, h2⟩ := digs_cons c r h
    have hd : Lib.digitVal c = some (c.toNat - 48) := by unfold Lib.digitVal; rw [if_pos h1]
    simp only [Lib.decFrom, hd]
    exact ih _ h2

theorem atoi_val (l : List UInt8) (h : digs l = true) (h0 : 1 ≤ l.length) : Lib.atoi l = some (decVal l : Int) := by
  match l, h, h0 with
  | c :: r, h, _ =>
    obtain ⟨h1, _⟩ := digs_cons c r h
    have e45 : (c == 45) = false := by
      rw [beq_eq_false_iff_ne]; intro e; subst e; exact absurd h1.1 (by decide)
    have e43 : (c == 43) = false := by
      rw [beq_eq_false_iff_ne]; intro e; subst e; exact absurd h1.1 (by decide)
    simp only [Lib.atoi, e45, e43]
    simp [Lib.decNat, decFrom_val _ _ h, decVal]

theorem decVal_lt (l : List UInt8) (h : digs l = true) : decVal l < 10 ^ l.length := by
  have := Lib.decFrom_lt l 0 _ (decFrom_val l 0 h)
  simpa [decVal] using this

theorem pow_le8 {k : Nat} (h : k ≤ 8) : 10 ^ k ≤ 100000000 := by
  have := Nat.pow_le_pow_right (show 0 < 10 by decide) h
  exact this

/-- What ParseNum answers. -/
def parseOk (l : List UInt8) (most : Int) : Prop := 1 ≤ l.length ∧ l.length ≤ 7 ∧ digs l = true ∧ ¬ (1 < l.length ∧ l.head? = some 48) ∧ (decVal l : Int) ≤ most
def parseB (l : List UInt8) (most : Int) : Bool := decide (1 ≤ l.length) && (decide (l.length ≤ 7) && (digs l && (!(decide (1 < l.length) && l.head? == some 48) && decide ((decVal l : Int) ≤ most))))
theorem parseB_iff (l : List UInt8) (most : Int) : parseB l most = true ↔ parseOk l most := by
  simp only [parseB, parseOk, Bool.and_eq_true, decide_eq_true_eq, Bool.not_eq_true', Bool.and_eq_false_iff, decide_eq_false_iff_not]
  constructor
  · rintro ⟨a, b, c, d, e⟩
    refine ⟨a, b, c, ?_, e⟩
    rintro ⟨x, y⟩
    rcases d with d | d
    · exact d x
    · simp [y] at d
  · rintro ⟨a, b, c, d, e⟩
    refine ⟨a, b, c, ?_, e⟩
    by_cases x : 1 < l.length
    · right
      rw [beq_eq_false_iff_ne]
      exact fun y => d ⟨x, y⟩
    · exact .inl x
def parseNum (l : List UInt8) (most : Int) : Int × Bool := if parseB l most then ((decVal l : Int), true) else (0, false)
theorem parseNum_no {l : List UInt8} {most : Int} (h : ¬ parseOk l most) : parseNum l most = (0, false) := if_neg (fun e => h ((parseB_iff l most).1 e))
theorem parseNum_yes {l : List UInt8} {most : Int} (h : parseOk l most) : parseNum l most = ((decVal l : Int), true) := if_pos ((parseB_iff l most).2 h)

theorem digs_snoc (s : ByteArray) (k : Nat) (h : k < s.size) (h0 : digs (s.data.toList.take k) = true) (h2 : isB (s[k].toNat : Int) 4 = true) : digs (s.data.toList.take (k + 1)) = true :=
  allB_snoc s [4] k h h0 (by rw [anyB_one, h2]; rfl)
theorem digs_not (s : ByteArray) (k : Nat) (h : k < s.size) (h2 : isB (s[k].toNat : Int) 4 = false) : digs s.data.toList = false :=
  allB_not s [4] k h (by rw [anyB_one, h2]; rfl)
theorem decVal_step (s : ByteArray) (k : Nat) (h : k < s.size) : decVal (s.data.toList.take (k + 1)) = decVal (s.data.toList.take k) * 10 + (s[k].toNat - 48) := by
  rw [take_snoc s k h, decVal_snoc]
theorem isB4 {c : Int} (h : isB c 4 = true) : 48 ≤ c ∧ c ≤ 57 := by simp [isB] at h; omega
theorem head_get (s : ByteArray) (h : 0 < s.size) : s.data.toList.head? = some s[0] := by
  have e : s.data.toList.length = s.size := Array.length_toList
  rw [List.head?_eq_getElem?, List.getElem?_eq_getElem (by omega)]; rfl
theorem len_list (s : ByteArray) : s.data.toList.length = s.size := Array.length_toList

theorem not_size {s : ByteArray} {most : Int} (h : inB (s.size : Int) 1 7 = false) : ¬ parseOk s.data.toList most := by
  intro hp
  have e := len_list s
  have h1 : 1 ≤ s.size ∧ s.size ≤ 7 := by have := hp.1; have := hp.2.1; omega
  simp [inB] at h
  omega
theorem not_nought {s : ByteArray} {most : Int} (h0 : 0 < s.size) (h1 : 1 < s.size) (hz : (((s[0]).toNat : Int) == 48) = true) : ¬ parseOk s.data.toList most := by
  intro hp
  refine hp.2.2.2.1 ⟨by rw [len_list]; exact h1, ?_⟩
  rw [head_get s h0]
  have : (s[0]).toNat = 48 := by simp at hz; omega
  congr 1
  exact UInt8.toNat_inj.1 this
theorem not_most {l : List UInt8} {most : Int} (h : most < (decVal l : Int)) : ¬ parseOk l most := fun hp => by have := hp.2.2.2.2; omega
theorem not_digs {l : List UInt8} {most : Int} (h : digs l = false) : ¬ parseOk l most := fun hp => by have := hp.2.2.1; rw [h] at this; cases this
theorem is_ok {s : ByteArray} {most : Int} (h0 : 0 < s.size) (h : inB (s.size : Int) 1 7 = true) (hd : digs s.data.toList = true) (hz : 1 < s.size → (((s[0]).toNat : Int) == 48) = false) (hm : ¬ most < (decVal s.data.toList : Int)) : parseOk s.data.toList most := by
  have e := len_list s
  have h1 : 1 ≤ s.size ∧ s.size ≤ 7 := by simp [inB] at h; omega
  refine ⟨by omega, by omega, hd, ?_, by omega⟩
  rintro ⟨h2, h3⟩
  rw [head_get s h0] at h3
  have h4 := hz (by omega)
  have h5 : s[0] = 48 := Option.some.inj h3
  rw [h5] at h4
  simp at h4

end Go.Proofs.YtanebchmeaomgaaGreatDoor.M
namespace Go.Proofs.YtanebchmeaomgaaGreatDoor.M

/-- The worth of a digit to the base 16. -/
def hexW (c : UInt8) : Nat := if isB (c.toNat : Int) 4 then c.toNat - 48 else if isB (c.toNat : Int) 5 then c.toNat - 87 else c.toNat - 55
def isHex (c : UInt8) : Bool := anyB (c.toNat : Int) [4, 5, 6]
def hexVal (l : List UInt8) : Nat := l.foldl (fun n c => n * 16 + hexW c) 0
def hexs (l : List UInt8) : Bool := allB l [4, 5, 6]

theorem hexVal_snoc (l : List UInt8) (c : UInt8) : hexVal (l ++ [c]) = hexVal l * 16 + hexW c := by
  simp [hexVal]

theorem isHex_cases {c : UInt8} (h : isHex c = true) : isB (c.toNat : Int) 4 = true ∨ (isB (c.toNat : Int) 4 = false ∧ isB (c.toNat : Int) 5 = true) ∨ (isB (c.toNat : Int) 4 = false ∧ isB (c.toNat : Int) 5 = false ∧ isB (c.toNat : Int) 6 = true) := by
  unfold isHex anyB at h
  cases h4 : isB (c.toNat : Int) 4 <;> cases h5 : isB (c.toNat : Int) 5 <;> cases h6 : isB (c.toNat : Int) 6 <;> simp_all

theorem isB5 {c : Int} (h : isB c 5 = true) : 97 ≤ c ∧ c ≤ 102 := by simp [isB] at h; omega
theorem isB6 {c : Int} (h : isB c 6 = true) : 65 ≤ c ∧ c ≤ 70 := by simp [isB] at h; omega

theorem hexW_4 {c : UInt8} (h : isB (c.toNat : Int) 4 = true) : hexW c = c.toNat - 48 := by simp [hexW, h]
theorem hexW_5 {c : UInt8} (h4 : isB (c.toNat : Int) 4 = false) (h : isB (c.toNat : Int) 5 = true) : hexW c = c.toNat - 87 := by simp [hexW, h4, h]
theorem hexW_6 {c : UInt8} (h4 : isB (c.toNat : Int) 4 = false) (h5 : isB (c.toNat : Int) 5 = false) : hexW c = c.toNat - 55 := by simp [hexW, h4, h5]

theorem hexW_lt {c : UInt8} (h : isHex c = true) : hexW c < 16 := by
  rcases isHex_cases h with h4 | ⟨h4, h5⟩ | ⟨h4, h5, h6⟩
  · have := isB4 h4; rw [hexW_4 h4]; omega
  · have := isB5 h5; rw [hexW_5 h4 h5]; omega
  · have := isB6 h6; rw [hexW_6 h4 h5]; omega

theorem hexs_get (s : ByteArray) (h : hexs s.data.toList = true) (k : Nat) (hk : k < s.size) : isHex s[k] = true := by
  have h1 := (List.all_eq_true.1 h) s[k] (by
    have e := len_list s
    have h' : k < s.data.toList.length := by omega
    exact List.getElem_mem h')
  exact h1

theorem hexs_snoc (s : ByteArray) (k : Nat) (h : k < s.size) (h0 : hexs (s.data.toList.take k) = true) (h2 : isHex s[k] = true) : hexs (s.data.toList.take (k + 1)) = true :=
  allB_snoc s [4, 5, 6] k h h0 (by rw [show anyB (s[k].toNat : Int) [4, 5, 6] = true from h2]; rfl)
theorem hexs_not (s : ByteArray) (k : Nat) (h : k < s.size) (h2 : isHex s[k] = false) : hexs s.data.toList = false :=
  allB_not s [4, 5, 6] k h (by rw [show anyB (s[k].toNat : Int) [4, 5, 6] = false from h2]; rfl)
theorem hexVal_step (s : ByteArray) (k : Nat) (h : k < s.size) : hexVal (s.data.toList.take (k + 1)) = hexVal (s.data.toList.take k) * 16 + hexW s[k] := by
  rw [take_snoc s k h, hexVal_snoc]

theorem hexVal_lt (s : ByteArray) (k : Nat) (hk : k ≤ s.size) (h : hexs (s.data.toList.take k) = true) : hexVal (s.data.toList.take k) < 16 ^ k := by
  induction k with
  | zero => simp [hexVal]
  | succ k ih =>
    have hk' : k < s.size := by omega
    have h1 : hexs (s.data.toList.take k) = true ∧ isHex s[k] = true := by
      rw [take_snoc s k hk'] at h
      simpa [hexs, allB, isHex] using h
    have := ih (by omega) h1.1
    have := hexW_lt h1.2
    rw [hexVal_step s k hk', Nat.pow_succ]
    omega

theorem pow16_le {k : Nat} (h : k ≤ 5) : 16 ^ k ≤ 1048576 := Nat.pow_le_pow_right (show 0 < 16 by decide) h

/-- What ParseHex answers. -/
def hexB (l : List UInt8) : Bool := decide (1 ≤ l.length) && (decide (l.length ≤ 4) && hexs l)
def parseHex (l : List UInt8) : Int × Bool := if hexB l then ((hexVal l : Int), true) else (0, false)
theorem parseHex_yes {s : ByteArray} (h : inB (s.size : Int) 1 4 = true) (hd : hexs s.data.toList = true) : parseHex s.data.toList = ((hexVal s.data.toList : Int), true) := by
  have e := len_list s
  have h1 : 1 ≤ s.size ∧ s.size ≤ 4 := by simp [inB] at h; omega
  apply if_pos
  simp only [hexB, hd, Bool.and_true, Bool.and_eq_true, decide_eq_true_eq]
  omega
theorem parseHex_size {s : ByteArray} (h : inB (s.size : Int) 1 4 = false) : parseHex s.data.toList = (0, false) := by
  have e := len_list s
  have h1 : ¬ (1 ≤ s.size ∧ s.size ≤ 4) := by simp [inB] at h; omega
  apply if_neg
  intro hp
  simp only [hexB, Bool.and_eq_true, decide_eq_true_eq] at hp
  omega
theorem parseHex_no {l : List UInt8} (h : hexs l = false) : parseHex l = (0, false) := by
  apply if_neg
  simp [hexB, h]

/-- The specification's digit: below 0 where it is none. -/
def hexOf (c : UInt8) : Int := if isHex c then (hexW c : Int) else -1
theorem hexOf_yes {c : UInt8} (h : isHex c = true) : hexOf c = (hexW c : Int) := if_pos h
theorem hexOf_no {c : UInt8} (h : isHex c = false) : hexOf c = -1 := if_neg (by simp [h])

end Go.Proofs.YtanebchmeaomgaaGreatDoor.M
namespace Go.Proofs.YtanebchmeaomgaaGreatDoor.M

/-- The code of a line's end at a place. -/
def endC (l : List UInt8) (k : Nat) : Int := if l.length ≤ k then 1 else if l.getD k 0 ≠ 13 then 400 else if l.length ≤ k + 1 then 1 else if l.getD (k + 1) 0 ≠ 10 then 400 else 0
/-- What stands ahead of the next byte 13. -/
def wordC (l : List UInt8) (a : Nat) : List UInt8 := (l.drop a).takeWhile (· != 13)
/-- The code of a size's line. -/
def szC (l : List UInt8) (a : Nat) : Int := if l.length ≤ a then 1 else if hexB (wordC l a) then endC l (a + (wordC l a).length) else 400
def szN (l : List UInt8) (a : Nat) : Nat := hexVal (wordC l a)
def szP (l : List UInt8) (a : Nat) : Nat := a + (wordC l a).length + 2
/-- The code of a piece, with so much room. -/
def pieceC (l : List UInt8) (a room : Nat) : Int := if szC l a ≠ 0 then szC l a else if room < szN l a then 413 else if l.length < szP l a + szN l a then 1 else endC l (szP l a + szN l a)
def pieceL (l : List UInt8) (a : Nat) : List UInt8 := (l.drop (szP l a)).take (szN l a)
/-- A body in pieces. -/
def getC : Nat → List UInt8 → Nat → List UInt8 → List UInt8 × Nat × Int
  | 0, _, _, _ => ([], 0, 413)
  | f + 1, l, a, body => if pieceC l a (200 - body.length) ≠ 0 then ([], 0, pieceC l a (200 - body.length)) else if szN l a = 0 then (body, szP l a + 2, 0) else getC f l (szP l a + szN l a + 2) (body ++ pieceL l a)
def chunksC (l : List UInt8) (a : Int) : List UInt8 × Nat × Int := if 0 ≤ a ∧ a ≤ l.length then getC 201 l a.toNat [] else ([], 0, 400)

theorem wordC_le (l : List UInt8) (a : Nat) : a + (wordC l a).length ≤ max a l.length := by
  have h : (wordC l a).length ≤ (l.drop a).length := (List.takeWhile_prefix _).length_le
  rw [List.length_drop] at h
  omega
theorem tw_step (m : List UInt8) : ∀ j (hj : j < m.length), j ≤ (m.takeWhile (· != 13)).length → m[j] ≠ 13 → j + 1 ≤ (m.takeWhile (· != 13)).length := by
  induction m with
  | nil => intro j hj; simp at hj
  | cons x m ih =>
    intro j hj h0 h1
    cases j with
    | zero =>
      have hx : (x != 13) = true := by rw [bne_iff_ne]; exact h1
      simp [hx]
    | succ j =>
      by_cases hx : (x != 13) = true
      · simp only [List.takeWhile_cons, hx, if_true, List.length_cons] at h0 ⊢
        have := ih j (by simpa using hj) (by omega) (by simpa using h1)
        omega
      · simp [hx] at h0
theorem tw_stop (m : List UInt8) : ∀ j (hj : j < m.length), j ≤ (m.takeWhile (· != 13)).length → m[j] = 13 → (m.takeWhile (· != 13)).length = j := by
  induction m with
  | nil => intro j hj; simp at hj
  | cons x m ih =>
    intro j hj h0 h1
    cases j with
    | zero =>
      have hx : ¬ (x != 13) = true := by rw [bne_iff_ne]; intro h; exact h h1
      simp [hx]
    | succ j =>
      by_cases hx : (x != 13) = true
      · simp only [List.takeWhile_cons, hx, if_true, List.length_cons] at h0 ⊢
        have := ih j (by simpa using hj) (by omega) (by simpa using h1)
        omega
      · simp [hx] at h0
theorem drop_at {l : List UInt8} {a j : Nat} (h : a + j < l.length) : (l.drop a)[j]'(by rw [List.length_drop]; omega) = l.getD (a + j) 0 := by
  rw [List.getElem_drop]; simp [List.getD, List.getElem?_eq_getElem h]
/-- The word goes on; it ends. -/
theorem wordC_step {l : List UInt8} {a j : Nat} (h : a + j < l.length) (h0 : j ≤ (wordC l a).length) (h1 : l.getD (a + j) 0 ≠ 13) : j + 1 ≤ (wordC l a).length :=
  tw_step (l.drop a) j (by rw [List.length_drop]; omega) h0 (by rw [drop_at h]; exact h1)
theorem wordC_stop {l : List UInt8} {a j : Nat} (h : a + j < l.length) (h0 : j ≤ (wordC l a).length) (h1 : l.getD (a + j) 0 = 13) : (wordC l a).length = j :=
  tw_stop (l.drop a) j (by rw [List.length_drop]; omega) h0 (by rw [drop_at h]; exact h1)
theorem wordC_last {l : List UInt8} {a j : Nat} (ha : a ≤ l.length) (h : ¬ a + j < l.length) (h0 : j ≤ (wordC l a).length) : (wordC l a).length = j := by
  have := wordC_le l a
  omega
theorem wordC_take (l : List UInt8) (a : Nat) : (l.drop a).take (wordC l a).length = wordC l a := List.prefix_iff_eq_take.1 (List.takeWhile_prefix _) |>.symm
/-- Behind the word stands the end of all, or a byte 13. -/
theorem wordC_end {l : List UInt8} {a : Nat} (h : a + (wordC l a).length < l.length) : l.getD (a + (wordC l a).length) 0 = 13 := by
  by_cases e : l.getD (a + (wordC l a).length) 0 = 13
  · exact e
  · have := wordC_step h (Nat.le_refl _) e
    omega
theorem szC_long {l : List UInt8} {a : Nat} (ha : a ≤ l.length) (h : 5 ≤ (wordC l a).length) : szC l a = 400 := by
  have h1 := wordC_le l a
  have : ¬ l.length ≤ a := by omega
  simp [szC, this, hexB]
  intro _ h2
  omega
end Go.Proofs.YtanebchmeaomgaaGreatDoor.M
namespace Go.Proofs.YtanebchmeaomgaaGreatDoor.M

/-- What stands ahead of the first byte c, and behind it. -/
def cut1 (c : UInt8) : List UInt8 → Option (List UInt8 × List UInt8)
  | [] => none
  | x :: r => if x = c then some ([], r) else (cut1 c r).map fun p => (x :: p.1, p.2)
/-- What stands ahead of the first line's end, and behind it. -/
def cut2 : List UInt8 → Option (List UInt8 × List UInt8)
  | [] => none
  | x :: r => if x = 13 ∧ r.head? = some 10 then some ([], r.drop 1) else (cut2 r).map fun p => (x :: p.1, p.2)
/-- What stands between line's ends. -/
def linesL : List UInt8 → List (List UInt8)
  | [] => [[]]
  | [x] => [[x]]
  | x :: y :: r => if x = 13 ∧ y = 10 then [] :: linesL r else (match linesL (y :: r) with | [] => [[x]] | l :: q => (x :: l) :: q)
/-- A head of its line. -/
def mkH (n v : List UInt8) : Hd := (bytesOf (lowL n), bytesOf (trimL v))
/-- The heads, one line behind the other, each with its end. -/
def headsI : Nat → List UInt8 → Option (List Hd)
  | 0, _ => none
  | f + 1, t => if t = [] then some [] else
    match cut1 58 t with
    | none => none
    | some (n, t1) => match cut2 t1 with
      | none => none
      | some (v, t2) => if hdB (mkH n v) then (headsI f t2).map (mkH n v :: ·) else none
/-- Lines that have each their end. -/
def readI (t : List UInt8) : Option (ByteArray × ByteArray × List Hd) :=
  match cut1 32 t with
  | none => none
  | some (m, t1) => if methB (bytesOf m) then
    match cut1 32 t1 with
    | none => none
    | some (p, t2) => if targB (bytesOf p) then
      match cut2 t2 with
      | none => none
      | some (v, t3) => if v = proto then (headsI (t3.length + 1) t3).map fun hs => (bytesOf m, bytesOf p, hs) else none
      else none
    else none
/-- A text, cut at every blank. -/
def cutsB (c : UInt8) : List UInt8 → List (List UInt8)
  | [] => [[]]
  | x :: r => if x = c then [] :: cutsB c r else (match cutsB c r with | [] => [[x]] | l :: q => (x :: l) :: q)
def firstS (l : List UInt8) : Option (ByteArray × ByteArray) :=
  match cutsB 32 l with
  | [m, p, v] => if v = proto ∧ methB (bytesOf m) = true ∧ targB (bytesOf p) = true then some (bytesOf m, bytesOf p) else none
  | _ => none
def headS (l : List UInt8) : Option Hd :=
  match cut1 58 l with
  | none => none
  | some (n, v) => if hdB (mkH n v) then some (mkH n v) else none
def headsS : List (List UInt8) → Option (List Hd)
  | [] => some []
  | l :: ls => match headS l with
    | none => none
    | some h => (headsS ls).map (h :: ·)
def readS (t : List UInt8) : Option (ByteArray × ByteArray × List Hd) :=
  match linesL t with
  | [] => none
  | l :: ls => match firstS l with
    | none => none
    | some (m, p) => (headsS ls).map fun hs => (m, p, hs)

theorem cut1_some {c : UInt8} : ∀ {l a b : List UInt8}, cut1 c l = some (a, b) ↔ l = a ++ c :: b ∧ c ∉ a := by
  intro l
  induction l with
  | nil => intro a b; simp [cut1]
  | cons x r ih =>
    intro a b
    rw [cut1]
    by_cases h : x = c
    · rw [if_pos h]
      subst h
      constructor
      · intro e; cases e; simp
      · rintro ⟨e, hn⟩
        cases a with
        | nil => simp at e; rw [e]
        | cons y q => simp at e; exact absurd (by simp [e.1]) hn
    · rw [if_neg h]
      constructor
      · intro e
        cases hc : cut1 c r with
        | none => rw [hc] at e; cases e
        | some p =>
          rw [hc] at e
          obtain ⟨a', b'⟩ := p
          obtain ⟨e1, e2⟩ := ih.1 hc
          cases e
          exact ⟨by simp [e1], by simp [e2, Ne.symm h]⟩
      · rintro ⟨e, hn⟩
        cases a with
        | nil => simp at e; exact absurd e.1 h
        | cons y q =>
          simp at e
          obtain ⟨rfl, e⟩ := e
          have := ih.2 ⟨e, fun hm => hn (by simp [hm])⟩
          rw [this]; rfl
theorem cut1_none {c : UInt8} {l : List UInt8} : cut1 c l = none ↔ c ∉ l := by
  induction l with
  | nil => simp [cut1]
  | cons x r ih =>
    rw [cut1]
    by_cases h : x = c
    · rw [if_pos h]; simp [h]
    · rw [if_neg h, Option.map_eq_none_iff, ih]; simp [Ne.symm h]

/-- There is no line's end in it. -/
def noEnd : List UInt8 → Prop
  | [] => True
  | [_] => True
  | x :: y :: r => ¬ (x = 13 ∧ y = 10) ∧ noEnd (y :: r)
theorem noEnd_tail {x : UInt8} {r : List UInt8} (h : noEnd (x :: r)) : noEnd r := by
  cases r with
  | nil => trivial
  | cons y q => exact h.2
theorem noEnd_of {l : List UInt8} (h : 13 ∉ l) : noEnd l := by
  induction l with
  | nil => trivial
  | cons x r ih =>
    cases r with
    | nil => trivial
    | cons y q => exact ⟨fun e => h (by simp [e.1]), ih (fun hm => h (by simp [hm]))⟩
theorem cut2_app : ∀ {a : List UInt8} (b : List UInt8), noEnd a → cut2 (a ++ 13 :: 10 :: b) = some (a, b) := by
  intro a
  induction a with
  | nil => intro b _; simp [cut2]
  | cons x r ih =>
    intro b h
    rw [List.cons_append, cut2, ih b (noEnd_tail h)]
    have : ¬ (x = 13 ∧ (r ++ 13 :: 10 :: b).head? = some 10) := by
      cases r with
      | nil => simp
      | cons y q => simpa using h.1
    rw [if_neg this]; rfl
theorem cut2_some : ∀ {l a b : List UInt8}, cut2 l = some (a, b) → l = a ++ 13 :: 10 :: b ∧ noEnd a := by
  intro l
  induction l with
  | nil => intro a b h; cases h
  | cons x r ih =>
    intro a b h
    rw [cut2] at h
    by_cases hx : x = 13 ∧ r.head? = some 10
    · rw [if_pos hx] at h
      cases h
      cases r with
      | nil => simp at hx
      | cons y q => simp at hx; exact ⟨by simp [hx.1, hx.2], trivial⟩
    · rw [if_neg hx] at h
      cases hc : cut2 r with
      | none => rw [hc] at h; cases h
      | some p =>
        rw [hc] at h
        obtain ⟨a', b'⟩ := p
        obtain ⟨e1, e2⟩ := ih hc
        cases h
        refine ⟨by simp [e1], ?_⟩
        cases a' with
        | nil => trivial
        | cons y q =>
          refine ⟨fun e => hx ⟨e.1, ?_⟩, e2⟩
          rw [e1, e.2]; rfl

/-- Lines, each with its end. -/
def flatE (L : List (List UInt8)) : List UInt8 := L.flatMap (· ++ [13, 10])
theorem linesL_ne (t : List UInt8) : linesL t ≠ [] := by
  match t with
  | [] => simp [linesL]
  | [x] => simp [linesL]
  | x :: y :: r =>
    rw [linesL]
    split
    · simp
    · split <;> simp
theorem linesL_flat : ∀ t : List UInt8, flatE (linesL t) = t ++ [13, 10] ∧ ∀ l ∈ linesL t, noEnd l
  | [] => by simp [linesL, flatE, noEnd]
  | [x] => by simp [linesL, flatE, noEnd]
  | x :: y :: r => by
    rw [linesL]
    by_cases h : x = 13 ∧ y = 10
    · rw [if_pos h]
      obtain ⟨h1, h2⟩ := linesL_flat r
      refine ⟨?_, ?_⟩
      · simp only [flatE, List.flatMap_cons, List.nil_append] at *
        rw [h1, h.1, h.2]; rfl
      · intro l hl
        rcases List.mem_cons.1 hl with rfl | hl
        · trivial
        · exact h2 l hl
    · rw [if_neg h]
      obtain ⟨h1, h2⟩ := linesL_flat (y :: r)
      cases hL : linesL (y :: r) with
      | nil => exact absurd hL (linesL_ne _)
      | cons l q =>
        rw [hL] at h1 h2
        refine ⟨?_, ?_⟩
        · simp only [flatE, List.flatMap_cons, List.cons_append] at *
          rw [h1]
        · intro k hk
          rcases List.mem_cons.1 hk with rfl | hk
          · cases l with
            | nil => trivial
            | cons z s =>
              refine ⟨fun e => h ⟨e.1, ?_⟩, h2 _ (by simp)⟩
              simp only [flatE, List.flatMap_cons, List.cons_append] at h1
              injection h1 with h3 _
              rw [← h3]; exact e.2
          · exact h2 k (by simp [hk])

theorem allB_no {l : List UInt8} {ks : List Int} (c : UInt8) (h : allB l ks = true) (hc : anyB (c.toNat : Int) ks = false) : c ∉ l := by
  intro hm
  have := List.all_eq_true.1 h c hm
  rw [hc] at this; cases this
theorem meth_no {m : List UInt8} (h : methB (bytesOf m) = true) : 13 ∉ m ∧ 32 ∉ m ∧ m ≠ [] := by
  simp only [methB, Bool.and_eq_true] at h
  refine ⟨allB_no 13 h.1 (by decide), allB_no 32 h.1 (by decide), ?_⟩
  rintro rfl
  have := h.2
  revert this
  decide
theorem targ_no {p : List UInt8} (h : targB (bytesOf p) = true) : 13 ∉ p ∧ 32 ∉ p ∧ p ≠ [] := by
  simp only [targB, Bool.and_eq_true] at h
  refine ⟨?_, ?_, ?_⟩
  · intro hm; have := List.all_eq_true.1 h.1 13 hm; revert this; decide
  · intro hm; have := List.all_eq_true.1 h.1 32 hm; revert this; decide
  · rintro rfl; have := h.2; revert this; decide

theorem cutsB_none {c : UInt8} {a : List UInt8} (h : c ∉ a) : cutsB c a = [a] := by
  induction a with
  | nil => rfl
  | cons x r ih =>
    have h1 : ¬ x = c := fun e => h (by simp [e])
    rw [cutsB, if_neg h1, ih (fun e => h (by simp [e]))]
theorem cutsB_app {c : UInt8} {a : List UInt8} (r : List UInt8) (h : c ∉ a) : cutsB c (a ++ c :: r) = a :: cutsB c r := by
  induction a with
  | nil => simp [cutsB]
  | cons x q ih =>
    have h1 : ¬ x = c := fun e => h (by simp [e])
    rw [List.cons_append, cutsB, if_neg h1, ih (fun e => h (by simp [e]))]
theorem cutsB_ne (c : UInt8) (l : List UInt8) : cutsB c l ≠ [] := by
  cases l with
  | nil => simp [cutsB]
  | cons x r =>
    rw [cutsB]
    split
    · simp
    · split <;> simp
/-- The first line: in three, by cutting one behind the other. -/
theorem firstS_eq (l : List UInt8) : firstS l =
    match cut1 32 l with
    | none => none
    | some (m, t1) => match cut1 32 t1 with
      | none => none
      | some (p, v) => if v = proto ∧ methB (bytesOf m) = true ∧ targB (bytesOf p) = true then some (bytesOf m, bytesOf p) else none := by
  unfold firstS
  cases h1 : cut1 32 l with
  | none => rw [cutsB_none (cut1_none.1 h1)]
  | some q =>
    obtain ⟨m, t1⟩ := q
    obtain ⟨rfl, hm⟩ := cut1_some.1 h1
    rw [cutsB_app t1 hm]
    cases h2 : cut1 32 t1 with
    | none => rw [cutsB_none (cut1_none.1 h2)]; simp [h2]
    | some q =>
      obtain ⟨p, v⟩ := q
      obtain ⟨rfl, hp⟩ := cut1_some.1 h2
      rw [cutsB_app v hp]
      simp only [h2]
      by_cases hv : 32 ∈ v
      · have hv2 : ¬ v = proto := by rintro rfl; revert hv; decide
        have hne : ∃ a b r, cutsB 32 v = a :: b :: r := by
          cases h3 : cut1 32 v with
          | none => exact absurd hv (cut1_none.1 h3)
          | some q =>
            obtain ⟨x, y⟩ := q
            obtain ⟨rfl, hx⟩ := cut1_some.1 h3
            rw [cutsB_app y hx]
            cases h4 : cutsB 32 y with
            | nil => exact absurd h4 (cutsB_ne _ _)
            | cons b r => exact ⟨_, _, _, rfl⟩
        obtain ⟨a, b, r, e⟩ := hne
        rw [e, if_neg (fun h => hv2 h.1)]
      · rw [cutsB_none hv]

theorem mem_low {c : UInt8} {n : List UInt8} (h : c ∈ n) (hc : lowB c = c) : c ∈ lowL n := by
  unfold lowL
  rw [List.mem_map]
  exact ⟨c, h, hc⟩
theorem sm_no13 {l : List UInt8} (h : smB l = true) : 13 ∉ l := by
  cases l with
  | nil => simp
  | cons c r =>
    simp only [smB, Bool.and_eq_true] at h
    exact allB_no 13 h.2 (by decide)
/-- A name with a line's end in it is none. -/
theorem hd_no13 {n v : List UInt8} (h : hdB (mkH n v) = true) : 13 ∉ n := by
  intro hm
  simp only [hdB, mkH, Bool.and_eq_true] at h
  exact sm_no13 (l := lowL n) h.1 (mem_low hm (by decide))

theorem cut1_in {c : UInt8} {l n v : List UInt8} (r : List UInt8) (h : cut1 c l = some (n, v)) : cut1 c (l ++ r) = some (n, v ++ r) := by
  obtain ⟨rfl, hn⟩ := cut1_some.1 h
  exact cut1_some.2 ⟨by simp, hn⟩
/-- What is found past a line's end has it in it. -/
theorem cut1_past {c : UInt8} {l F n t : List UInt8} (h1 : cut1 c l = none) (hc : c ≠ 13) (h : cut1 c (l ++ 13 :: 10 :: F) = some (n, t)) : 13 ∈ n := by
  have hn : c ∉ l := cut1_none.1 h1
  obtain ⟨e2, _⟩ := cut1_some.1 h
  rcases Nat.lt_or_ge l.length n.length with hlt | hge
  · have a1 : n.take (l.length + 1) = l ++ [13] := by
      have := congrArg (List.take (l.length + 1)) e2
      rw [List.take_append_of_le_length (l₁ := n) (by omega)] at this
      rw [← this, List.take_append, List.take_of_length_le (by omega)]
      simp
    have : 13 ∈ n.take (l.length + 1) := by rw [a1]; simp
    exact List.mem_of_mem_take this
  · exfalso
    rcases Nat.lt_or_ge n.length l.length with hlt | hge2
    · have := congrArg (fun z => z[n.length]?) e2
      simp only [List.getElem?_append_left hlt] at this
      have h3 : l[n.length]? = some c := by rw [this]; simp
      exact hn (List.mem_of_getElem? h3)
    · have h3 : n.length = l.length := by omega
      have := congrArg (fun z => z[n.length]?) e2
      rw [h3] at this
      simp only [List.getElem?_append_right (Nat.le_refl _)] at this
      rw [← h3] at this
      simp [h3] at this
      exact hc this.symm
theorem noEnd_drop {a b : List UInt8} (h : noEnd (a ++ b)) : noEnd b := by
  induction a with
  | nil => exact h
  | cons x r ih => exact ih (noEnd_tail h)

theorem headsI_lines : ∀ (L : List (List UInt8)) (f : Nat), (∀ l ∈ L, noEnd l) → (flatE L).length < f → headsI f (flatE L) = headsS L := by
  intro L
  induction L with
  | nil =>
    intro f _ hf
    obtain ⟨f, rfl⟩ : ∃ g, f = g + 1 := ⟨f - 1, by omega⟩
    simp [headsI, headsS, flatE]
  | cons l L ih =>
    intro f hL hf
    obtain ⟨f, rfl⟩ : ∃ g, f = g + 1 := ⟨f - 1, by omega⟩
    have e : flatE (l :: L) = l ++ 13 :: 10 :: flatE L := by simp [flatE]
    have hlen : (flatE (l :: L)).length = l.length + 2 + (flatE L).length := by rw [e]; simp; omega
    rw [headsI, if_neg (by rw [e]; simp), headsS, headS]
    cases h1 : cut1 58 l with
    | none =>
      simp only
      cases h2 : cut1 58 (flatE (l :: L)) with
      | none => rfl
      | some q =>
        obtain ⟨n, t1⟩ := q
        rw [e] at h2
        have h13 := cut1_past h1 (by decide) h2
        simp only
        cases h3 : cut2 t1 with
        | none => rfl
        | some q =>
          obtain ⟨v, t2⟩ := q
          simp only
          rw [if_neg (fun hh => hd_no13 hh h13)]
    | some q =>
      obtain ⟨n, v⟩ := q
      have h2 := cut1_in (13 :: 10 :: flatE L) h1
      obtain ⟨rfl, hn⟩ := cut1_some.1 h1
      have hv : noEnd v := noEnd_tail (noEnd_drop (a := n) (hL (n ++ 58 :: v) (by simp)))
      rw [e, h2]
      simp only
      rw [cut2_app _ hv]
      simp only
      by_cases hb : hdB (mkH n v) = true
      · rw [if_pos hb, if_pos hb, ih f (fun k hk => hL k (by simp [hk])) (by omega)]
      · rw [if_neg hb, if_neg hb]

/-- Both readings are one. -/
theorem readI_eq (t : List UInt8) : readI (t ++ [13, 10]) = readS t := by
  obtain ⟨h1, h2⟩ := linesL_flat t
  unfold readS
  cases hL : linesL t with
  | nil => exact absurd hL (linesL_ne _)
  | cons l L =>
    rw [hL] at h1 h2
    have e : t ++ [13, 10] = l ++ 13 :: 10 :: flatE L := by rw [← h1]; simp [flatE]
    have hl : noEnd l := h2 l (by simp)
    have hH := headsI_lines L ((flatE L).length + 1) (fun k hk => h2 k (by simp [hk])) (Nat.lt_succ_self _)
    simp only
    rw [firstS_eq, e]
    unfold readI
    cases c1 : cut1 32 l with
    | none =>
      simp only
      cases c2 : cut1 32 (l ++ 13 :: 10 :: flatE L) with
      | none => rfl
      | some q =>
        obtain ⟨m, t1⟩ := q
        have h13 := cut1_past c1 (by decide) c2
        simp only
        rw [if_neg (fun hh => (meth_no hh).1 h13)]
    | some q =>
      obtain ⟨m, l1⟩ := q
      rw [cut1_in (13 :: 10 :: flatE L) c1]
      obtain ⟨rfl, _⟩ := cut1_some.1 c1
      have hl1 : noEnd l1 := noEnd_tail (noEnd_drop (a := m) hl)
      simp only
      by_cases hm : methB (bytesOf m) = true
      · rw [if_pos hm]
        cases c2 : cut1 32 l1 with
        | none =>
          simp only
          cases c3 : cut1 32 (l1 ++ 13 :: 10 :: flatE L) with
          | none => rfl
          | some q =>
            obtain ⟨p, t2⟩ := q
            have h13 := cut1_past c2 (by decide) c3
            simp only
            rw [if_neg (fun hh => (targ_no hh).1 h13)]
        | some q =>
          obtain ⟨p, v⟩ := q
          rw [cut1_in (13 :: 10 :: flatE L) c2]
          obtain ⟨rfl, _⟩ := cut1_some.1 c2
          have hv : noEnd v := noEnd_tail (noEnd_drop (a := p) hl1)
          simp only
          by_cases hp : targB (bytesOf p) = true
          · rw [if_pos hp, cut2_app _ hv]
            simp only
            by_cases hpr : v = proto
            · rw [if_pos hpr, if_pos ⟨hpr, hm, hp⟩, hH]
            · rw [if_neg hpr, if_neg (fun h => hpr h.1)]
          · rw [if_neg hp, if_neg (fun h => hp h.2.2)]
      · rw [if_neg hm]
        cases c2 : cut1 32 l1 with
        | none => rfl
        | some q =>
          obtain ⟨p, v⟩ := q
          simp only
          rw [if_neg (fun h => hm h.2.1)]
end Go.Proofs.YtanebchmeaomgaaGreatDoor.M
