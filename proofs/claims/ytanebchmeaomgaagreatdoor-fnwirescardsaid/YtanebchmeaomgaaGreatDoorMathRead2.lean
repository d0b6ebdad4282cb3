/-
  Rows of texts that the call itself made: one more behind, one taken away, what it hands on.
  A piece of a text.
  What the specification's l3Lines does: a text, cut at line's ends.
  What the specification's l2Split does: a text, cut at blanks.
  What the specification keeps while it reads heads, and what code comes of it.
  What the specification's l3First, l3Least do, and what is known of what they write in.
  What the specification keeps, when a code or a head is laid behind.
  What the specification's Lower does.
  The heads of lines, each that may be taken: what the specification reads.
-/
import Derived.Test.YtanebchmeaomgaaGreatDoorStrs
import Derived.Test.YtanebchmeaomgaaGreatDoorPutHead
import Derived.WalkSmall
import Derived.Laws.OwnMore
import Derived.Test.YtanebchmeaomgaaGreatDoorMathGet
import Derived.Test.YtanebchmeaomgaaGreatDoorParseHex
import Derived.Test.YtanebchmeaomgaaGreatDoorReadLines
import Derived.Test.YtanebchmeaomgaaGreatDoorMathCutB
import Derived.Deep.RegionLaw
import Derived.Test.YtanebchmeaomgaaGreatDoorSpecSm
namespace Go.Proofs.YtanebchmeaomgaaGreatDoor
open Go.RowKit
set_option linter.unusedVariables false

def strCells (ss : List ByteArray) : List Value := ss.map Value.string
theorem strCells_length (ss : List ByteArray) : (strCells ss).length = ss.length := by simp [strCells]
theorem strCells_append (ss tt : List ByteArray) : strCells (ss ++ tt) = strCells ss ++ strCells tt := by simp [strCells]

/-- A row that the call owns stays where only new memory is laid. -/
theorem owns_below {B : Nat} {e : TypeId} {v : Value} {n : Nat} {xs : List Value} {w w' : World} (h : w.ownsRow B e 1 v n xs) (hb : Below w.heap.size w w') : w'.ownsRow B e 1 v n xs :=
  h.kept (row := none) ⟨hb.os, hb.tape, hb.output, hb.size, fun k hk _ => hb.block k hk⟩ (Classical.em _)

/-- 'l = append(l, s)' on a row of texts that the call owns. -/
theorem wp_append_str {w : World} {ops : Array Oper} {rest : List Oper} {o : Oper} {a : Act} {Q : Exit → Act → World → Prop} (hgd : o.guard = none) (s x : Operand)
    (ho : o.op = .call { callee := .builtin .append, args := #[s, x], argTypes := #[93, 93] })
    (B : Nat) (v : Value) (n : Nat) (l : List ByteArray) (hs : a.eval s = v) (hown : w.ownsRow B 9 1 v n (strCells l))
    (ad : Addr) (c : ByteArray) (hx : a.eval x = .slice (some ad) 1 1) (hcell : w.cell? ad = some (.string c)) (hlen : n + 1 ≤ 1099511627776) (hB : B ≤ w.heap.size)
    (h : ∀ g cap w', w'.ownsRow B 9 1 (.slice (some ⟨g, 0, none⟩) (n + 1) cap) (n + 1) (strCells (l ++ [c])) → Below B w w' → wpList Tryz.prog ops Q rest (a.put o.dst (.slice (some ⟨g, 0, none⟩) (n + 1) cap)) w') : wpList Tryz.prog ops Q (o :: rest) a w := by
  obtain ⟨i0, hi, hz0, hz1, hz2⟩ := info_parts info_str
  refine wpList_append_own w hgd s x 93 ho B 9 i0 (.string ByteArray.empty) 1 16 Tryz.underlying93 hi hz0 hz1 hz2 rfl (by decide) v n _ hs hown ad 1 1 [.string c] hx rfl ?_ ?_ ?_ ?_ hB ?_
  · intro j u hj
    match j, hj with
    | 0, hj =>
      simp at hj; subst hj
      have : ad.add 0 = ad := by unfold Addr.add; split <;> simp_all
      rw [this]; exact hcell
  · intro u hu; simp at hu; subst hu; rfl
  · unfold maxLen; omega
  · omega
  · intro v' w' ho' hg _
    obtain ⟨g, cap, rfl⟩ : ∃ g cap, v' = .slice (some ⟨g, 0, none⟩) (n + 1) cap := by
      rcases ho'.2 with ⟨_, h0⟩ | ⟨g, cap, cur, hv, _⟩
      · omega
      · exact ⟨g, cap, hv⟩
    refine h g cap w' ?_ (below_grown hown hB hg)
    rw [strCells_append]
    exact ho'

/-- A new row of texts, in a block from B on, none of them frozen. -/
def OwnS (w : World) (B : Nat) (v : Value) (ns : List ByteArray) : Prop :=
  ∃ g cap, v = .slice (some ⟨g, 0, none⟩) ns.length cap ∧ ns.length ≤ cap ∧ cap ≤ maxLen ∧ B ≤ g ∧ g < w.heap.size ∧ ∀ j (hj : j < ns.length), w.cell? ⟨g, j, none⟩ = some (.string ns[j]) ∧ w.frozen? ⟨g, j, none⟩ = false

theorem OwnS.of {w : World} {B g n cap : Nat} {ns : List ByteArray} (h : w.ownsRow B 9 1 (.slice (some ⟨g, 0, none⟩) n cap) n (strCells ns)) (hn : ns.length = n) : OwnS w B (.slice (some ⟨g, 0, none⟩) n cap) ns := by
  subst hn
  have hlt := h.lt g rfl
  have hcap : ns.length ≤ cap ∧ cap ≤ maxLen := by
    rcases h.2 with ⟨e, _⟩ | ⟨g', cap', cur, hv, _, _, h1, h2, _⟩
    · cases e
    · cases hv; exact ⟨h1, h2⟩
  refine ⟨g, cap, rfl, hcap.1, hcap.2, hlt.1, hlt.2, fun j hj => ⟨?_, h.frozenAt j⟩⟩
  rw [h.cellAt j (by omega)]
  simp [strCells, List.getElem?_eq_getElem hj]

/-- .. cut at its length. -/
theorem OwnS.clip {w : World} {B g n cap : Nat} {ns : List ByteArray} (h : OwnS w B (.slice (some ⟨g, 0, none⟩) n cap) ns) : OwnS w B (.slice (some ⟨g, 0, none⟩) n n) ns := by
  obtain ⟨g', cap', hv, h1, h2, h3, h4, h5⟩ := h
  cases hv
  exact ⟨g, ns.length, rfl, Nat.le_refl _, Nat.le_trans h1 h2, h3, h4, h5⟩

theorem OwnS.strs {w : World} {B C : Nat} {a : Option Addr} {n cap : Nat} {ns : List ByteArray} (h : OwnS w B (.slice a n cap) ns) (hC : w.heap.size ≤ C) : Strs w C a ns := fun h0 => by
  obtain ⟨g, cap', hv, _, _, _, h4, h5⟩ := h
  cases hv
  exact ⟨g, 0, rfl, by omega, fun j hj => by rw [Nat.zero_add]; exact (h5 j hj).1⟩

theorem OwnS.below {w w' : World} {B : Nat} {v : Value} {ns : List ByteArray} (h : OwnS w B v ns) (hb : Below w.heap.size w w') : OwnS w' B v ns := by
  obtain ⟨g, cap, hv, h1, h2, h3, h4, h5⟩ := h
  refine ⟨g, cap, hv, h1, h2, h3, Nat.lt_of_lt_of_le h4 hb.size, fun j hj => ?_⟩
  rw [hb.cell (p := ⟨g, j, none⟩) h4, hb.frozen (p := ⟨g, j, none⟩) h4]
  exact h5 j hj

theorem OwnS.made (w : World) (B : Nat) (hB : B ≤ w.heap.size) (cs : Array Value) (T : TypeId) : OwnS (w.alloc (.cells cs T)) B (.slice (some ⟨w.heap.size, 0, none⟩) 0 0) [] :=
  ⟨w.heap.size, 0, rfl, Nat.le_refl _, Nat.zero_le _, hB, by simp, fun j hj => absurd hj (Nat.not_lt_zero _)⟩
end Go.Proofs.YtanebchmeaomgaaGreatDoor
namespace Go.Proofs.YtanebchmeaomgaaGreatDoor
open Go.RowKit M
set_option linter.unusedVariables false

theorem extract_pieceB (s : ByteArray) (fr k : Nat) : s.extract fr k = bytesOf ((s.data.toList.drop fr).take (k - fr)) := by
  apply ByteArray.ext
  have h1 : (s.extract fr k).data = s.data.extract fr k := by simp
  rw [h1]
  apply Array.ext'
  rw [Array.toList_extract]
  rfl
end Go.Proofs.YtanebchmeaomgaaGreatDoor
namespace Go.Proofs.YtanebchmeaomgaaGreatDoor
open Go.RowKit M
set_option linter.unusedVariables false

def linesB (l : List UInt8) : List ByteArray := (linesL l).map bytesOf
theorem linesL_front : ∀ (a b : List UInt8), (∀ j, j < a.length → ¬ ((a ++ b)[j]? = some 13 ∧ (a ++ b)[j + 1]? = some 10)) → ∀ l q, linesL b = l :: q → linesL (a ++ b) = (a ++ l) :: q := by
  intro a
  induction a with
  | nil => intro b _ l q h; exact h
  | cons x a ih =>
    intro b h l q hb
    have ih' := ih b (fun j hj => by have := h (j + 1) (by simp; omega); simpa using this) l q hb
    cases e : a ++ b with
    | nil =>
      have ha := (List.append_eq_nil_iff.1 e).1
      have hb' := (List.append_eq_nil_iff.1 e).2
      subst ha hb'
      simp [linesL] at hb
      simp [linesL, hb]
    | cons y r =>
      have h0 := h 0 (by simp)
      rw [List.cons_append, e] at h0 ⊢
      rw [linesL]
      rw [e] at ih'
      have hn : ¬ (x = 13 ∧ y = 10) := by simpa using h0
      rw [if_neg hn, ih']
      rfl
theorem hide' {P : Prop} (h : P) : Hid P := h
/-- No line's end begins between two places. -/
def noPair (l : List UInt8) (fr k : Nat) : Prop := ∀ j, fr ≤ j → j < k → ¬ (l[j]? = some 13 ∧ l[j + 1]? = some 10)
theorem noPair.front {l : List UInt8} {fr k : Nat} (h : noPair l fr k) (hk : k ≤ l.length) (hf : fr ≤ k) {x : List UInt8} {q : List (List UInt8)} (hb : linesL (l.drop k) = x :: q) : linesL (l.drop fr) = ((l.drop fr).take (k - fr) ++ x) :: q := by
  have e : l.drop fr = (l.drop fr).take (k - fr) ++ l.drop k := by
    conv => lhs; rw [← List.take_append_drop (k - fr) (l.drop fr)]
    rw [List.drop_drop, show fr + (k - fr) = k by omega]
  have hl : ((l.drop fr).take (k - fr)).length = k - fr := by rw [List.length_take, List.length_drop]; omega
  conv => lhs; rw [e]
  apply linesL_front _ _ _ _ _ hb
  intro j hj
  rw [← e, List.getElem?_drop, List.getElem?_drop]
  rw [hl] at hj
  exact h (fr + j) (by omega) (by omega)
/-- How far a text is cut. -/
def LineAt (l : List UInt8) (k fr : Nat) (done : List (List UInt8)) : Prop :=
  done.length ≤ k ∧ fr ≤ k ∧ ((k ≤ l.length ∧ linesL l = done ++ linesL (l.drop fr) ∧ noPair l fr k) ∨ (k = l.length + 1 ∧ done = linesL l))
theorem LineAt.start (l : List UInt8) : LineAt l 0 0 [] := ⟨Nat.le_refl _, Nat.le_refl _, .inl ⟨Nat.zero_le _, by simp, fun j h1 h2 => absurd h2 (Nat.not_lt_zero _)⟩⟩
theorem LineAt.skip {l : List UInt8} {k fr : Nat} {done : List (List UInt8)} (h : LineAt l k fr done) (hk : k < l.length) (hc : ¬ (l[k]? = some 13 ∧ l[k + 1]? = some 10)) : LineAt l (k + 1) fr done := by
  obtain ⟨h1, h2, h3 | h3⟩ := h
  · refine ⟨by omega, by omega, .inl ⟨by omega, h3.2.1, fun j hj hj2 => ?_⟩⟩
    rcases Nat.lt_or_eq_of_le (Nat.le_of_lt_succ hj2) with h | h
    · exact h3.2.2 j hj h
    · subst h; exact hc
  · exact absurd hk (by omega)
theorem LineAt.cut {l : List UInt8} {k fr : Nat} {done : List (List UInt8)} (h : LineAt l k fr done) (hk : k + 1 < l.length) (hc : l[k]? = some 13) (hd : l[k + 1]? = some 10) : LineAt l (k + 2) (k + 2) (done ++ [(l.drop fr).take (k - fr)]) := by
  obtain ⟨h1, h2, h3 | h3⟩ := h
  · refine ⟨by simp; omega, Nat.le_refl _, .inl ⟨by omega, ?_, fun j hj hj2 => absurd hj (by omega)⟩⟩
    rw [h3.2.1, List.append_assoc]
    congr 1
    have e : l.drop k = 13 :: 10 :: l.drop (k + 2) := by
      rw [List.drop_eq_getElem_cons (by omega : k < l.length), List.drop_eq_getElem_cons (by omega : k + 1 < l.length)]
      rw [List.getElem?_eq_getElem (by omega)] at hc hd
      rw [Option.some.inj hc, Option.some.inj hd]
    have hb : linesL (l.drop k) = [] :: linesL (l.drop (k + 2)) := by rw [e]; simp [linesL]
    rw [h3.2.2.front (by omega) h2 hb, List.append_nil]
    rfl
  · exact absurd hk (by omega)
theorem LineAt.last {l : List UInt8} {k fr : Nat} {done : List (List UInt8)} (h : LineAt l k fr done) (hk : k = l.length) : LineAt l (k + 1) fr (done ++ [(l.drop fr).take (k - fr)]) := by
  obtain ⟨h1, h2, h3 | h3⟩ := h
  · refine ⟨by simp; omega, by omega, .inr ⟨by omega, ?_⟩⟩
    have hb : linesL (l.drop k) = [[]] := by rw [hk, List.drop_length]; rfl
    rw [h3.2.1, h3.2.2.front (by omega) h2 hb, List.append_nil]
  · exact absurd hk (by omega)
theorem u8_num {c : UInt8} {n : Nat} (hn : n < 256) (h : ((c.toNat : Int) == n) = true) : c = UInt8.ofNat n := by
  rw [beq_iff_eq] at h
  have := Int.ofNat.inj h
  exact UInt8.toNat_inj.1 (by rw [this]; simp; omega)
theorem linesL_len (l : List UInt8) : (linesL l).length ≤ l.length + 1 := by
  fun_induction linesL l with
  | case1 => simp
  | case2 => simp
  | case3 => simp; omega
  | case4 => simp
  | case5 => simp_all; omega

set_option maxHeartbeats 4000000 in
theorem l3Lines_any (s : ByteArray) (w : World) (hs : s.size ≤ 1048576) :
    Calls Tryz.prog 119 #[.string s] w fun e w' => (∃ g cap, e = .returned (.slice (some ⟨g, 0, none⟩) (linesB s.data.toList).length cap) ∧ w'.ownsRow w.heap.size 9 1 (.slice (some ⟨g, 0, none⟩) (linesB s.data.toList).length cap) (linesB s.data.toList).length (strCells (linesB s.data.toList))) ∧ Below w.heap.size w w' := by
  have el : s.data.toList.length = s.size := Array.length_toList
  have EL : Hid (s.data.toList.length = s.size) := el
  have hget : ∀ (k : Nat) (h : k < s.size), s.data.toList[k]? = some s[k] := fun k h => by
    rw [List.getElem?_eq_getElem (by rw [el]; exact h)]; rfl
  have HGet : Hid (∀ (k : Nat) (h : k < s.size), s.data.toList[k]? = some s[k]) := hget
  clear el hget
  go_enter Tryz.func119, Tryz.ntmps119
  go_wp2
  go_loopw [3, 4, 5] (fun v f i wr => ∃ (k fr : Nat) (done : List (List UInt8)) (g cap : Nat), i = .int .i64 k ∧ f = .int .i64 fr ∧ v = .slice (some ⟨g, 0, none⟩) done.length cap ∧ k ≤ s.size + 1 ∧ LineAt s.data.toList k fr done ∧ wr.ownsRow w.heap.size 9 1 (.slice (some ⟨g, 0, none⟩) done.length cap) done.length (strCells (done.map bytesOf)) ∧ Below w.heap.size w wr) (fun _ _ i _ => s.size + 1 - (intOf i).toNat)
  case atStart => exact ⟨0, 0, [], w.heap.size, 0, rfl, rfl, rfl, Nat.zero_le _, LineAt.start _, World.ownsRow_made w #[] 0 (Nat.le_refl _) (by decide) rfl, (Below.refl _ _).alloc (Nat.le_refl _) _⟩
  case round =>
    obtain ⟨k, fr, done, g, cap, rfl, rfl, rfl, hk1, hC, hown, hbe⟩ := hrel
    have HC : Hid (LineAt s.data.toList k fr done) := hC
    have hdl : done.length ≤ k := hC.1
    have hfk : fr ≤ k := hC.2.1
    clear hC
    by_cases hout : k ≤ s.size
    · have HE : Hid (s.extract fr k = bytesOf ((s.data.toList.drop fr).take (k - fr))) := extract_pieceB s fr k
      by_cases hlt : k < s.size
      · have hne : ((k : Int) == s.size) = false := by
          apply beq_eq_false_iff_ne.2; omega
        by_cases hl2 : k + 1 < s.size
        · have hl2' : (k : Int) + 1 < s.size := by omega
          by_cases hc : s[k] = 13
          · have hb13 : ((s[k].toNat : Int) == 13) = true := by rw [hc]; rfl
            by_cases hd : s[k + 1] = 10
            · have hb10 : ((s[k + 1].toNat : Int) == 10) = true := by rw [hd]; rfl
              have HN : Hid (LineAt s.data.toList (k + 2) (k + 2) (done ++ [(s.data.toList.drop fr).take (k - fr)])) := HC.out.cut (by rw [EL.out]; exact hl2) (by rw [HGet.out k hlt, hc]) (by rw [HGet.out (k + 1) hl2, hd])
              clear hc hd
              go_wp2_with (at_builtin; refine wp_append_str rfl _ _ rfl w.heap.size _ done.length _ rfl (hown.alloc _) _ (s.extract fr k) rfl ?c1 ?c2 ?c3 ?_)
              case c1 => simp
              case c2 => omega
              case c3 => have := hbe.size; simp; omega
              intro g1 cap1 w1 ho1 hb1
              rw [HE.out] at ho1
              go_wp2
              go_roundw
              case rel => exact ⟨k + 2, k + 2, done ++ [(s.data.toList.drop fr).take (k - fr)], g1, cap1, by go_num, by go_num, by rw [List.length_append]; rfl, by omega, HN.out, by rw [List.length_append, List.map_append]; exact ho1, (hbe.alloc hbe.size _).trans hb1⟩
              case measure => simp [intOf]; omega
            · have hb10 : ((s[k + 1].toNat : Int) == 10) = false := by
                cases h : ((s[k + 1].toNat : Int) == 10)
                · rfl
                · exact absurd (u8_num (n := 10) (by decide) h) hd
              have HN : Hid (LineAt s.data.toList (k + 1) fr done) := HC.out.skip (by rw [EL.out]; exact hlt) (by rw [HGet.out (k + 1) hl2]; exact fun h => hd (Option.some.inj h.2))
              clear hc hd
              go_wp2
              go_roundw
              case rel => exact ⟨k + 1, fr, done, g, cap, by go_num, rfl, rfl, by omega, HN.out, hown, hbe⟩
              case measure => simp [intOf]; omega
          · have hb13 : ((s[k].toNat : Int) == 13) = false := by
              cases h : ((s[k].toNat : Int) == 13)
              · rfl
              · exact absurd (u8_num (n := 13) (by decide) h) hc
            have HN : Hid (LineAt s.data.toList (k + 1) fr done) := HC.out.skip (by rw [EL.out]; exact hlt) (by rw [HGet.out k hlt]; exact fun h => hc (Option.some.inj h.1))
            clear hc
            go_wp2
            go_roundw
            case rel => exact ⟨k + 1, fr, done, g, cap, by go_num, rfl, rfl, by omega, HN.out, hown, hbe⟩
            case measure => simp [intOf]; omega
        · have hl2' : ¬ ((k : Int) + 1 < s.size) := by omega
          have HN : Hid (LineAt s.data.toList (k + 1) fr done) := HC.out.skip (by rw [EL.out]; exact hlt) (by rw [List.getElem?_eq_none (i := k + 1) (by rw [EL.out]; omega)]; exact fun h => by cases h.2)
          go_wp2
          go_roundw
          case rel => exact ⟨k + 1, fr, done, g, cap, by go_num, rfl, rfl, by omega, HN.out, hown, hbe⟩
          case measure => simp [intOf]; omega
      · have hks : k = s.size := by omega
        have hne : ((k : Int) == s.size) = true := by rw [hks]; simp
        have HN : Hid (LineAt s.data.toList (k + 1) fr (done ++ [(s.data.toList.drop fr).take (k - fr)])) := HC.out.last (by rw [EL.out]; exact hks)
        have HE2 : Hid (s.extract fr s.size = bytesOf ((s.data.toList.drop fr).take (k - fr))) := by rw [← hks]; exact HE.out
        clear hks
        go_wp2_with (at_builtin; refine wp_append_str rfl _ _ rfl w.heap.size _ done.length _ rfl (hown.alloc _) _ (s.extract fr s.size) rfl ?c1 ?c2 ?c3 ?_)
        case c1 => simp
        case c2 => omega
        case c3 => have := hbe.size; simp; omega
        intro g1 cap1 w1 ho1 hb1
        rw [HE2.out] at ho1
        go_wp2
        go_roundw
        case rel => exact ⟨k + 1, fr, done ++ [(s.data.toList.drop fr).take (k - fr)], g1, cap1, by go_num, rfl, by rw [List.length_append]; rfl, by omega, HN.out, by rw [List.length_append, List.map_append]; exact ho1, (hbe.alloc hbe.size _).trans hb1⟩
        case measure => simp [intOf]; omega
    · have hd : done = linesL s.data.toList := by
        obtain ⟨_, _, h3 | h3⟩ := HC.out
        · have := h3.1; rw [EL.out] at this; exact absurd this hout
        · exact h3.2
      have HD : Hid (done = linesL s.data.toList) := hd
      clear hd
      go_wp2
      go_ret
      have e : linesB s.data.toList = done.map bytesOf := by rw [HD.out]; rfl
      rw [e, List.length_map]
      exact ⟨⟨g, cap, rfl, hown⟩, hbe⟩
end Go.Proofs.YtanebchmeaomgaaGreatDoor
namespace Go.Proofs.YtanebchmeaomgaaGreatDoor
open Go.RowKit M
set_option linter.unusedVariables false

def piecesB (l : List UInt8) : List ByteArray := (cutsB 32 l).map bytesOf
theorem u8_32B {c : UInt8} (h : ((c.toNat : Int) == 32) = true) : c = 32 := by
  rw [beq_iff_eq] at h
  exact UInt8.toNat_inj.1 (by simpa using Int.ofNat.inj h)

/-- How far a text is cut. -/
def CutAtB (l : List UInt8) (k fr : Nat) (done : List (List UInt8)) : Prop :=
  done.length ≤ k ∧ fr ≤ k ∧ ((k ≤ l.length ∧ cutsB 32 l = done ++ cutsB 32 (l.drop fr) ∧ 32 ∉ (l.drop fr).take (k - fr)) ∨ (k = l.length + 1 ∧ done = cutsB 32 l))

theorem CutAtB.start (l : List UInt8) : CutAtB l 0 0 [] := ⟨Nat.le_refl _, Nat.le_refl _, .inl ⟨Nat.zero_le _, by simp, by simp⟩⟩

theorem take_nextB (l : List UInt8) (fr k : Nat) (hf : fr ≤ k) (hk : k < l.length) : (l.drop fr).take (k + 1 - fr) = (l.drop fr).take (k - fr) ++ [l[k]] := by
  have h1 : k - fr < (l.drop fr).length := by rw [List.length_drop]; omega
  rw [show k + 1 - fr = (k - fr) + 1 by omega, List.take_succ_eq_append_getElem h1, List.getElem_drop]
  congr 3
  omega

theorem CutAtB.skip {l : List UInt8} {k fr : Nat} {done : List (List UInt8)} (h : CutAtB l k fr done) (hk : k < l.length) (hc : ¬ l[k] = 32) : CutAtB l (k + 1) fr done := by
  obtain ⟨h1, h2, h3 | h3⟩ := h
  · refine ⟨by omega, by omega, .inl ⟨by omega, h3.2.1, ?_⟩⟩
    rw [take_nextB l fr k h2 hk]
    intro hm
    rcases List.mem_append.1 hm with hm | hm
    · exact h3.2.2 hm
    · simp at hm; exact hc hm.symm
  · exact absurd hk (by omega)

theorem drop_partsB (l : List UInt8) (fr k : Nat) (hf : fr ≤ k) (hk : k < l.length) : l.drop fr = (l.drop fr).take (k - fr) ++ l[k] :: l.drop (k + 1) := by
  conv => lhs; rw [← List.take_append_drop (k - fr) (l.drop fr)]
  rw [List.drop_drop, show fr + (k - fr) = k by omega, List.drop_eq_getElem_cons hk]

theorem CutAtB.cut {l : List UInt8} {k fr : Nat} {done : List (List UInt8)} (h : CutAtB l k fr done) (hk : k < l.length) (hc : l[k] = 32) : CutAtB l (k + 1) (k + 1) (done ++ [(l.drop fr).take (k - fr)]) := by
  obtain ⟨h1, h2, h3 | h3⟩ := h
  · refine ⟨by simp; omega, Nat.le_refl _, .inl ⟨by omega, ?_, by simp⟩⟩
    rw [h3.2.1, List.append_assoc]
    congr 1
    conv => lhs; rw [drop_partsB l fr k h2 hk, hc]
    rw [cutsB_app _ h3.2.2]
    rfl
  · exact absurd hk (by omega)

theorem CutAtB.last {l : List UInt8} {k fr : Nat} {done : List (List UInt8)} (h : CutAtB l k fr done) (hk : k = l.length) : CutAtB l (k + 1) (k + 1) (done ++ [(l.drop fr).take (k - fr)]) := by
  obtain ⟨h1, h2, h3 | h3⟩ := h
  · refine ⟨by simp; omega, Nat.le_refl _, .inr ⟨by omega, ?_⟩⟩
    have e : (l.drop fr).take (k - fr) = l.drop fr := List.take_of_length_le (by rw [List.length_drop]; omega)
    rw [e] at h3 ⊢
    rw [h3.2.1, cutsB_none h3.2.2]
  · exact absurd hk (by omega)

set_option maxHeartbeats 2000000 in
theorem l2SplitB_any (s : ByteArray) (w : World) (hs : s.size ≤ 1048576) :
    Calls Tryz.prog 161 #[.string s, .int .u8 32] w fun e w' => (∃ g cap, e = .returned (.slice (some ⟨g, 0, none⟩) (piecesB s.data.toList).length cap) ∧ w'.ownsRow w.heap.size 9 1 (.slice (some ⟨g, 0, none⟩) (piecesB s.data.toList).length cap) (piecesB s.data.toList).length (strCells (piecesB s.data.toList))) ∧ Below w.heap.size w w' := by
  have el : s.data.toList.length = s.size := Array.length_toList
  have EL : Hid (s.data.toList.length = s.size) := el
  clear el
  go_enter Tryz.func161, Tryz.ntmps161
  go_wp2
  go_loopw [5, 6, 7] (fun v f i wr => ∃ (k fr : Nat) (done : List (List UInt8)) (g cap : Nat), i = .int .i64 k ∧ f = .int .i64 fr ∧ v = .slice (some ⟨g, 0, none⟩) done.length cap ∧ k ≤ s.size + 1 ∧ CutAtB s.data.toList k fr done ∧ wr.ownsRow w.heap.size 9 1 (.slice (some ⟨g, 0, none⟩) done.length cap) done.length (strCells (done.map bytesOf)) ∧ Below w.heap.size w wr) (fun _ _ i _ => s.size + 1 - (intOf i).toNat)
  case atStart => exact ⟨0, 0, [], w.heap.size, 0, rfl, rfl, rfl, Nat.zero_le _, CutAtB.start _, World.ownsRow_made w #[] 0 (Nat.le_refl _) (by decide) rfl, (Below.refl _ _).alloc (Nat.le_refl _) _⟩
  case round =>
    obtain ⟨k, fr, done, g, cap, rfl, rfl, rfl, hk1, hC, hown, hbe⟩ := hrel
    have HC : Hid (CutAtB s.data.toList k fr done) := hC
    have hdl : done.length ≤ k := hC.1
    have hfk : fr ≤ k := hC.2.1
    clear hC
    by_cases hout : k ≤ s.size
    · have HE : Hid (s.extract fr k = bytesOf ((s.data.toList.drop fr).take (k - fr))) := extract_pieceB s fr k
      by_cases hlt : k < s.size
      · have hne : ((k : Int) == s.size) = false := by
          apply beq_eq_false_iff_ne.2; omega
        by_cases hc : s[k] = 32
        · have hb32 : ((s[k].toNat : Int) == 32) = true := by rw [hc]; rfl
          have HN : Hid (CutAtB s.data.toList (k + 1) (k + 1) (done ++ [(s.data.toList.drop fr).take (k - fr)])) := HC.out.cut (by rw [EL.out]; exact hlt) hc
          clear hc
          go_wp2_with (at_builtin; refine wp_append_str rfl _ _ rfl w.heap.size _ done.length _ rfl (hown.alloc _) _ (s.extract fr k) rfl ?c1 ?c2 ?c3 ?_)
          case c1 => simp
          case c2 => omega
          case c3 => have := hbe.size; simp; omega
          intro g1 cap1 w1 ho1 hb1
          rw [HE.out] at ho1
          go_wp2
          go_roundw
          case rel => exact ⟨k + 1, k + 1, done ++ [(s.data.toList.drop fr).take (k - fr)], g1, cap1, by go_num, by go_num, by rw [List.length_append]; rfl, by omega, HN.out, by rw [List.length_append, List.map_append]; exact ho1, (hbe.alloc hbe.size _).trans hb1⟩
          case measure => simp [intOf]; omega
        · have hb32 : ((s[k].toNat : Int) == 32) = false := by
            cases h : ((s[k].toNat : Int) == 32)
            · rfl
            · exact absurd (u8_32B h) hc
          have HN : Hid (CutAtB s.data.toList (k + 1) fr done) := HC.out.skip (by rw [EL.out]; exact hlt) hc
          clear hc
          go_wp2
          go_roundw
          case rel => exact ⟨k + 1, fr, done, g, cap, by go_num, rfl, rfl, by omega, HN.out, hown, hbe⟩
          case measure => simp [intOf]; omega
      · have hks : k = s.size := by omega
        have hne : ((k : Int) == s.size) = true := by rw [hks]; simp
        have HN : Hid (CutAtB s.data.toList (k + 1) (k + 1) (done ++ [(s.data.toList.drop fr).take (k - fr)])) := HC.out.last (by rw [EL.out]; exact hks)
        clear hks
        go_wp2_with (at_builtin; refine wp_append_str rfl _ _ rfl w.heap.size _ done.length _ rfl (hown.alloc _) _ (s.extract fr k) rfl ?c1 ?c2 ?c3 ?_)
        case c1 => simp
        case c2 => omega
        case c3 => have := hbe.size; simp; omega
        intro g1 cap1 w1 ho1 hb1
        rw [HE.out] at ho1
        go_wp2
        go_roundw
        case rel => exact ⟨k + 1, k + 1, done ++ [(s.data.toList.drop fr).take (k - fr)], g1, cap1, by go_num, by go_num, by rw [List.length_append]; rfl, by omega, HN.out, by rw [List.length_append, List.map_append]; exact ho1, (hbe.alloc hbe.size _).trans hb1⟩
        case measure => simp [intOf]; omega
    · have hd : done = cutsB 32 s.data.toList := by
        obtain ⟨_, _, h3 | h3⟩ := HC.out
        · have := h3.1; rw [EL.out] at this; exact absurd this hout
        · exact h3.2
      have HD : Hid (done = cutsB 32 s.data.toList) := hd
      clear hd
      go_wp2
      go_ret
      have e : piecesB s.data.toList = done.map bytesOf := by rw [HD.out]; rfl
      rw [e, List.length_map]
      exact ⟨⟨g, cap, rfl, hown⟩, hbe⟩
end Go.Proofs.YtanebchmeaomgaaGreatDoor
namespace Go.Proofs.YtanebchmeaomgaaGreatDoor
open M
set_option linter.unusedVariables false

theorem snocInd {P : List Hd → Prop} (nil : P []) (append_singleton : ∀ l x, P l → P (l ++ [x])) (l : List Hd) : P l := by
  have : ∀ r : List Hd, P r.reverse := by
    intro r
    induction r with
    | nil => exact nil
    | cons x r ih => rw [List.reverse_cons]; exact append_singleton _ _ ih
  have h := this l.reverse
  rwa [List.reverse_reverse] at h
def sizeF (hs : List Hd) : Int := hs.foldl (fun z h => if h.1 = lenName then (parseNum h.2.data.toList 9999999).1 else if h.1 = codName then -1 else z) 0
def toldF (hs : List Hd) : Nat := (lensOf hs).length + (codsOf hs).length
def stepC (st : List Int × Nat) (h : Hd) : List Int × Nat :=
  if h.1 = lenName then st else if h.1 = codName then (if codOk h then st else (st.1 ++ [501], st.2)) else (if 8 < st.2 + 1 then st.1 ++ [431] else st.1, st.2 + 1)
theorem stepC_len {st : List Int × Nat} {h : Hd} (e : h.1 = lenName) : stepC st h = st := if_pos e
theorem stepC_cod {st : List Int × Nat} {h : Hd} (e0 : ¬ h.1 = lenName) (e : h.1 = codName) : stepC st h = (st.1 ++ (if codOk h then [] else [501]), st.2) := by
  unfold stepC; rw [if_neg e0, if_pos e]; split <;> simp
theorem stepC_oth {st : List Int × Nat} {h : Hd} (e0 : ¬ h.1 = lenName) (e : ¬ h.1 = codName) : stepC st h = (st.1 ++ (if 8 < st.2 + 1 then [431] else []), st.2 + 1) := by
  unfold stepC; rw [if_neg e0, if_neg e]; split <;> simp
def codesF (hs : List Hd) : List Int := (hs.foldl stepC ([], 0)).1
theorem lens_snoc (hs : List Hd) (h : Hd) : lensOf (hs ++ [h]) = lensOf hs ++ (if h.1 = lenName then [h] else []) := by
  simp only [lensOf, List.filter_append]
  by_cases e : h.1 = lenName <;> simp [e]
theorem cods_snoc (hs : List Hd) (h : Hd) : codsOf (hs ++ [h]) = codsOf hs ++ (if h.1 = codName then [h] else []) := by
  simp only [codsOf, List.filter_append]
  by_cases e : h.1 = codName <;> simp [e]
theorem oth_snoc (hs : List Hd) (h : Hd) : othOf (hs ++ [h]) = othOf hs ++ (if h.1 = lenName ∨ h.1 = codName then [] else [h]) := by
  simp only [othOf, List.filter_append]
  by_cases e : h.1 = lenName <;> by_cases e2 : h.1 = codName <;> simp [e, e2]
theorem len_cod {h : Hd} (e : h.1 = lenName) : ¬ h.1 = codName := by rw [e]; decide
theorem fold_snd (hs : List Hd) : (hs.foldl stepC ([], 0)).2 = (othOf hs).length := by
  induction hs using snocInd with
  | nil => rfl
  | append_singleton hs h ih =>
    rw [List.foldl_append, List.foldl_cons, List.foldl_nil, oth_snoc]
    by_cases e : h.1 = lenName
    · rw [stepC_len e]; simp [e, ih]
    · by_cases e2 : h.1 = codName
      · rw [stepC_cod e e2]; simp [e2, ih]
      · rw [stepC_oth e e2]; simp [e, e2, ih]
theorem codes_len {hs : List Hd} {h : Hd} (e : h.1 = lenName) : codesF (hs ++ [h]) = codesF hs := by
  unfold codesF; rw [List.foldl_append, List.foldl_cons, List.foldl_nil, stepC_len e]
theorem codes_cod {hs : List Hd} {h : Hd} (e : h.1 = codName) : codesF (hs ++ [h]) = codesF hs ++ (if codOk h then [] else [501]) := by
  unfold codesF; rw [List.foldl_append, List.foldl_cons, List.foldl_nil, stepC_cod (fun e2 => len_cod e2 e) e]
theorem codes_oth {hs : List Hd} {h : Hd} (e : ¬ h.1 = lenName) (e2 : ¬ h.1 = codName) : codesF (hs ++ [h]) = codesF hs ++ (if 8 < (othOf hs).length + 1 then [431] else []) := by
  unfold codesF; rw [List.foldl_append, List.foldl_cons, List.foldl_nil, stepC_oth e e2, fold_snd]
theorem size_len {hs : List Hd} {h : Hd} (e : h.1 = lenName) : sizeF (hs ++ [h]) = (parseNum h.2.data.toList 9999999).1 := by
  unfold sizeF; rw [List.foldl_append, List.foldl_cons, List.foldl_nil, if_pos e]
theorem size_cod {hs : List Hd} {h : Hd} (e : h.1 = codName) : sizeF (hs ++ [h]) = -1 := by
  unfold sizeF; rw [List.foldl_append, List.foldl_cons, List.foldl_nil, if_neg (fun e2 => len_cod e2 e), if_pos e]
theorem size_oth {hs : List Hd} {h : Hd} (e : ¬ h.1 = lenName) (e2 : ¬ h.1 = codName) : sizeF (hs ++ [h]) = sizeF hs := by
  unfold sizeF; rw [List.foldl_append, List.foldl_cons, List.foldl_nil, if_neg e, if_neg e2]
theorem told_len {hs : List Hd} {h : Hd} (e : h.1 = lenName) : toldF (hs ++ [h]) = toldF hs + 1 := by
  unfold toldF; rw [lens_snoc, cods_snoc, if_pos e, if_neg (len_cod e)]; simp; omega
theorem told_cod {hs : List Hd} {h : Hd} (e : h.1 = codName) : toldF (hs ++ [h]) = toldF hs + 1 := by
  unfold toldF; rw [lens_snoc, cods_snoc, if_pos e, if_neg (fun e2 => len_cod e2 e)]; simp; omega
theorem told_oth {hs : List Hd} {h : Hd} (e : ¬ h.1 = lenName) (e2 : ¬ h.1 = codName) : toldF (hs ++ [h]) = toldF hs := by
  unfold toldF; rw [lens_snoc, cods_snoc, if_neg e, if_neg e2]; simp
theorem codes_is (hs : List Hd) : ((431 : Int) ∈ codesF hs ↔ 8 < (othOf hs).length) ∧ ((501 : Int) ∈ codesF hs ↔ (codsOf hs).all codOk = false) ∧ (∀ c ∈ codesF hs, c = 431 ∨ c = 501) := by
  induction hs using snocInd with
  | nil => simp [codesF, othOf, codsOf]
  | append_singleton hs h ih =>
    obtain ⟨i1, i2, i3⟩ := ih
    by_cases e : h.1 = lenName
    · have eo : othOf (hs ++ [h]) = othOf hs := by rw [oth_snoc]; simp [e]
      have ec : codsOf (hs ++ [h]) = codsOf hs := by rw [cods_snoc]; simp [len_cod e]
      rw [codes_len e, eo, ec]
      exact ⟨i1, i2, i3⟩
    · by_cases e2 : h.1 = codName
      · have eo : othOf (hs ++ [h]) = othOf hs := by rw [oth_snoc]; simp [e2]
        have ec : codsOf (hs ++ [h]) = codsOf hs ++ [h] := by rw [cods_snoc]; simp [e2]
        rw [codes_cod e2, eo, ec]
        cases hc : codOk h
        · simp [hc, i1]
          intro c hc
          rcases hc with hc | hc
          · exact i3 c hc
          · exact .inr hc
        · simp [hc, i1]
          refine ⟨by simpa using i2, i3⟩
      · have eo : othOf (hs ++ [h]) = othOf hs ++ [h] := by rw [oth_snoc]; simp [e, e2]
        have ec : codsOf (hs ++ [h]) = codsOf hs := by rw [cods_snoc]; simp [e2]
        rw [codes_oth e e2, eo, ec]
        by_cases h8 : 8 < (othOf hs).length + 1
        · rw [if_pos h8]
          refine ⟨by simp; omega, by simpa using i2, fun c hc => ?_⟩
          rcases List.mem_append.1 hc with hc | hc
          · exact i3 c hc
          · exact .inl (by simpa using hc)
        · rw [if_neg h8]
          refine ⟨by simp [i1]; omega, by simpa using i2, fun c hc => i3 c (by simpa using hc)⟩
theorem size_is (hs : List Hd) (h : toldF hs ≤ 1) : sizeF hs = if chkF hs then -1 else (lenF hs : Int) := by
  induction hs using snocInd with
  | nil => rfl
  | append_singleton hs x ih =>
    by_cases e : x.1 = lenName
    · rw [told_len e] at h
      have h0 : toldF hs = 0 := by omega
      have hl : lensOf hs = [] := List.length_eq_zero_iff.1 (by unfold toldF at h0; omega)
      have hc : codsOf hs = [] := List.length_eq_zero_iff.1 (by unfold toldF at h0; omega)
      rw [size_len e]
      unfold chkF lenF
      rw [lens_snoc, cods_snoc, if_pos e, if_neg (len_cod e), hl, hc]
      have : 0 ≤ (parseNum x.2.data.toList 9999999).1 := by unfold parseNum; split <;> simp
      show _ = ((numOf x : Nat) : Int)
      unfold numOf
      omega
    · by_cases e2 : x.1 = codName
      · rw [size_cod e2]
        unfold chkF
        rw [cods_snoc, if_pos e2]
        simp
      · rw [told_oth e e2] at h
        rw [size_oth e e2, ih h]
        unfold chkF lenF
        rw [lens_snoc, cods_snoc, if_neg e, if_neg e2, List.append_nil, List.append_nil]
def leastF (l cs : List Int) : Int := (cs.find? fun c => decide (c ∈ l)).getD 0
def codesG (hs : List Hd) : List Int := codesF hs ++ if 200 < sizeF hs then [413] else []
/-- The code that comes of it is the code of the document's order. -/
theorem least_is (hs : List Hd) (h : toldF hs ≤ 1) (hn : (lensOf hs).all numOk = true) : leastF (codesG hs) [431, 501, 413] = frameC hs := by
  obtain ⟨i1, i2, i3⟩ := codes_is hs
  have h1 : (431 : Int) ∈ codesG hs ↔ 8 < (othOf hs).length := by
    unfold codesG; rw [List.mem_append, i1]
    constructor
    · rintro (h | h)
      · exact h
      · split at h <;> simp at h
    · exact .inl
  have h2 : (501 : Int) ∈ codesG hs ↔ (codsOf hs).all codOk = false := by
    unfold codesG; rw [List.mem_append, i2]
    constructor
    · rintro (h | h)
      · exact h
      · split at h <;> simp at h
    · exact .inl
  have h3 : (413 : Int) ∈ codesG hs ↔ (lensOf hs).any (fun h => decide (200 < numOf h)) = true := by
    have hno : ¬ (413 : Int) ∈ codesF hs := fun hm => by rcases i3 _ hm with h | h <;> simp at h
    have : (413 : Int) ∈ codesG hs ↔ 200 < sizeF hs := by
      unfold codesG; rw [List.mem_append]
      constructor
      · rintro (h | h)
        · exact absurd h hno
        · split at h
          · assumption
          · simp at h
      · intro h; right; rw [if_pos h]; simp
    rw [this, size_is hs h]
    unfold chkF lenF
    unfold toldF at h
    cases hc : codsOf hs with
    | cons y ys =>
      have : lensOf hs = [] := List.length_eq_zero_iff.1 (by rw [hc] at h; simp at h; omega)
      simp [this]
    | nil =>
      cases hl : lensOf hs with
      | nil => simp
      | cons y ys =>
        have : ys = [] := List.length_eq_zero_iff.1 (by rw [hl] at h; simp at h; omega)
        subst this
        simp
        omega
  unfold frameC leastF
  rw [if_neg (by unfold toldF at h; omega), if_neg (by rw [hn]; simp)]
  simp only [List.find?_cons, List.find?_nil, h1, h2, h3]
  by_cases c1 : 8 < (othOf hs).length
  · simp [c1]
  · cases c2 : (codsOf hs).all codOk
    · simp [c1]
    · cases c3 : (lensOf hs).any (fun h => decide (200 < numOf h))
      · simp [c1]
      · simp [c1]
end Go.Proofs.YtanebchmeaomgaaGreatDoor
namespace Go.Proofs.YtanebchmeaomgaaGreatDoor
open Go.RowKit M
set_option linter.unusedVariables false

def intCells (l : List Int) : List Value := l.map (Value.int .i64)
theorem intCells_append (l k : List Int) : intCells (l ++ k) = intCells l ++ intCells k := by simp [intCells]
theorem infoInt : (Tryz.prog.info? 3).map (fun i => (i.zero, i.size, i.bytes)) = some (some (.int .i64 0), 1, 8) := by kernel_rfl
def RowsI (w : World) (B : Nat) (v : Value) (l : List Int) : Prop := w.ownsRow B 3 1 v l.length (intCells l)
/-- 'l = append(l, n)', and where the row lies then. -/
theorem wp_append_int2 {w : World} {ops : Array Oper} {rest : List Oper} {o : Oper} {a : Act} {Q : Exit → Act → World → Prop} (hgd : o.guard = none) (s x : Operand)
    (ho : o.op = .call { callee := .builtin .append, args := #[s, x], argTypes := #[41, 41] })
    (B : Nat) (v : Value) (n : Nat) (l : List Int) (hs : a.eval s = v) (hown : w.ownsRow B 3 1 v n (intCells l))
    (N : Nat) (c : Int) (hx : a.eval x = .slice (some ⟨N, 0, none⟩) 1 1) (hc0 : w.cell? ⟨N, 0, none⟩ = some (.int .i64 c)) (hlen : n + 1 ≤ 1099511627776) (hB : B ≤ w.heap.size)
    (h : ∀ g cap w', w'.ownsRow B 3 1 (.slice (some ⟨g, 0, none⟩) (n + 1) cap) (n + 1) (intCells (l ++ [c])) → w.grownBy w' v.ownBlock → (v.ownBlock = some g ∨ g = w.heap.size) → wpList Tryz.prog ops Q rest (a.put o.dst (.slice (some ⟨g, 0, none⟩) (n + 1) cap)) w') : wpList Tryz.prog ops Q (o :: rest) a w := by
  obtain ⟨i0, hi, hz0, hz1, hz2⟩ := info_parts infoInt
  have hnews : ∀ j u, [Value.int .i64 c][j]? = some u → w.cell? ((⟨N, 0, none⟩ : Addr).add j) = some u := by
    intro j u hj
    have e : ∀ k, (⟨N, 0, none⟩ : Addr).add k = ⟨N, k, none⟩ := fun k => by unfold Addr.add; split <;> simp_all
    rw [e]
    match j, hj with
    | 0, hj => simp at hj; subst hj; exact hc0
  have hone : ∀ u ∈ [Value.int .i64 c], u.oneCell' = true := by
    intro u hu; simp at hu; subst hu; rfl
  have hex := run_append_own (P := Tryz.prog) w B 41 o.type 3 i0 _ 1 8 Tryz.underlying41 hi hz0 hz1 hz2 rfl (by decide) v n _ hown ⟨N, 0, none⟩ 1 1 [.int .i64 c] rfl hnews hone (by unfold maxLen; omega) (by omega) hB
  obtain ⟨v', w', hrun, ho', hg, _⟩ := hex
  obtain ⟨g, cap, rfl⟩ : ∃ g cap, v' = .slice (some ⟨g, 0, none⟩) (n + 1) cap := by
    rcases ho'.2 with ⟨_, h0⟩ | ⟨g, cap, cur, hv, _⟩
    · omega
    · exact ⟨g, cap, hv⟩
  have hwhere : v.ownBlock = some g ∨ g = w.heap.size := by
    rcases hown.2 with ⟨rfl, h0⟩ | ⟨g1, cap1, cur1, rfl, hg1, hh1, hn1, hm1, hs1, ht1⟩
    · right
      have hr := run_append_nil (P := Tryz.prog) w 41 o.type 3 i0 _ Tryz.underlying41 hi hz0 ⟨N, 0, none⟩ 1 1 [.int .i64 c] (by rw [hz1]; rfl) hnews (by decide) (by decide) (by rw [hz2]; decide)
      rw [hr] at hrun
      have := congrArg (fun r => match r with | Result.ok (Value.slice (some a) _ _) _ => a.block | _ => 0) hrun
      exact this.symm
    · by_cases hroom : n + 1 ≤ cap1
      · left
        have hr := run_append_room (P := Tryz.prog) w 41 o.type 3 i0 Tryz.underlying41 hi g1 n cap1 cur1 hh1 ⟨N, 0, none⟩ 1 1 [.int .i64 c] (by rw [hz1]; rfl) hnews hone hroom (by rw [hz1, hs1]; simp only [List.length_cons, List.length_nil]; omega)
        rw [hr] at hrun
        have := congrArg (fun r => match r with | Result.ok (Value.slice (some a) _ _) _ => a.block | _ => 0) hrun
        have : g1 = g := this
        rw [← this]; rfl
      · right
        have hr := run_append_grow (P := Tryz.prog) w 41 o.type 3 i0 _ Tryz.underlying41 hi hz0 ⟨g1, 0, none⟩ n cap1 (intCells l) (by rw [hz1]; exact hown.1) (fun j u hu => hown.cells (g := g1) rfl j u hu) ⟨N, 0, none⟩ 1 1 [.int .i64 c] (by rw [hz1]; rfl) hnews (by omega) (by omega) (by rw [hz2]; exact growslice_fits (by omega) (by omega))
        rw [hr] at hrun
        have := congrArg (fun r => match r with | Result.ok (Value.slice (some a) _ _) _ => a.block | _ => 0) hrun
        exact this.symm
  refine wpList_plain hgd fun K hK => ?_
  unfold Oper.wp execOp
  simp only [ho, resolve, invoke, builtin, Sem.run_bind, Sem.run_pure, Result.andThen_ok, List.map_toArray, List.map_cons, List.map_nil, hs, hx, hrun]
  exact hK _ _ (h g cap w' (by rw [intCells_append]; exact ho') hg hwhere)

/-- What the specification keeps, in a block of its own, and the lines that it reads. -/
def FrR (C N : Nat) (w0 : World) (m p : ByteArray) (os : List Hd) (z t : Int) (cs : List Int) (lv : Value) (ls : List ByteArray) (W : World) : Prop :=
  ∃ hv cv, W.heap[N]? = some (Obj.cells #[.string m, .string p, hv, .string ⟨#[]⟩, .int .i64 z, .int .i64 t, cv] 120) ∧ RowsH W (N + 1) hv os ∧ RowsI W (N + 1) cv cs ∧ W.ownsRow (N + 1) 9 1 lv ls.length (strCells ls) ∧ ApartV hv cv ∧ ApartV hv lv ∧ ApartV cv lv ∧ Below C w0 W ∧ C ≤ N
/-- The same when it has read these heads. -/
def FrS (C N : Nat) (w0 : World) (m p : ByteArray) (hs : List Hd) (lv : Value) (ls : List ByteArray) (W : World) : Prop :=
  FrR C N w0 m p (othOf hs) (sizeF hs) (toldF hs) (codesF hs) lv ls W
theorem FrR.set_size {C N : Nat} {w0 W : World} {m p : ByteArray} {os : List Hd} {z t : Int} {cs : List Int} {lv : Value} {ls : List ByteArray} (h : FrR C N w0 m p os z t cs lv ls W) (z' : Int) : FrR C N w0 m p os z' t cs lv ls (W.setCell ⟨N, 4, none⟩ (.int .i64 z')) := by
  obtain ⟨hv, cv, h1, h2, h3, h4, h5, h6, h7, h8, h9⟩ := h
  have hN : N < N + 1 := Nat.lt_succ_self _
  refine ⟨hv, cv, ?_, ownsRow_setCell_below (a := ⟨N, 4, none⟩) h2 hN _, ownsRow_setCell_below (a := ⟨N, 4, none⟩) h3 hN _, ownsRow_setCell_below (a := ⟨N, 4, none⟩) h4 hN _, h5, h6, h7, h8.setCell (p := ⟨N, 4, none⟩) h9 _, h9⟩
  have := set_heap h1 4 (.int .i64 z')
  simpa using this
theorem FrR.set_told {C N : Nat} {w0 W : World} {m p : ByteArray} {os : List Hd} {z t : Int} {cs : List Int} {lv : Value} {ls : List ByteArray} (h : FrR C N w0 m p os z t cs lv ls W) (t' : Int) : FrR C N w0 m p os z t' cs lv ls (W.setCell ⟨N, 5, none⟩ (.int .i64 t')) := by
  obtain ⟨hv, cv, h1, h2, h3, h4, h5, h6, h7, h8, h9⟩ := h
  have hN : N < N + 1 := Nat.lt_succ_self _
  refine ⟨hv, cv, ?_, ownsRow_setCell_below (a := ⟨N, 5, none⟩) h2 hN _, ownsRow_setCell_below (a := ⟨N, 5, none⟩) h3 hN _, ownsRow_setCell_below (a := ⟨N, 5, none⟩) h4 hN _, h5, h6, h7, h8.setCell (p := ⟨N, 5, none⟩) h9 _, h9⟩
  have := set_heap h1 5 (.int .i64 t')
  simpa using this
theorem FrR.cells {C N : Nat} {w0 W : World} {m p : ByteArray} {os : List Hd} {z t : Int} {cs : List Int} {lv : Value} {ls : List ByteArray} (h : FrR C N w0 m p os z t cs lv ls W) :
    W.cell? ⟨N, 4, none⟩ = some (.int .i64 z) ∧ W.cell? ⟨N, 5, none⟩ = some (.int .i64 t) ∧ W.frozen? ⟨N, 4, none⟩ = false ∧ W.frozen? ⟨N, 5, none⟩ = false := by
  obtain ⟨hv, cv, h1, _⟩ := h
  refine ⟨?_, ?_, ?_, ?_⟩
  · unfold World.cell?; rw [h1]; rfl
  · unfold World.cell?; rw [h1]; rfl
  · unfold World.frozen?; rw [h1]; rfl
  · unfold World.frozen?; rw [h1]; rfl
theorem FrR.bel {C N : Nat} {w0 W : World} {m p : ByteArray} {os : List Hd} {z t : Int} {cs : List Int} {lv : Value} {ls : List ByteArray} (h : FrR C N w0 m p os z t cs lv ls W) : Below C w0 W ∧ N < W.heap.size := by
  obtain ⟨_, _, h1, _, _, _, _, _, _, h8, _⟩ := h
  exact ⟨h8, (Array.getElem?_eq_some_iff.1 h1).1⟩
theorem FrS.next {C N : Nat} {w0 W W' : World} {m p : ByteArray} {hs : List Hd} {lv : Value} {ls : List ByteArray} (h : FrS C N w0 m p hs lv ls W) (hb : Below W.heap.size W W') : FrS C N w0 m p hs lv ls W' := by
  obtain ⟨hv, cv, h1, h2, h3, h4, h5, h6, h7, h8, h9⟩ := h
  have hlt := (Array.getElem?_eq_some_iff.1 h1).1
  exact ⟨hv, cv, (hb.block _ hlt).trans h1, ownsH_below h2 hb, owns_below h3 hb, owns_below h4 hb, h5, h6, h7, h8.trans (hb.mono (Nat.le_of_lt (Nat.lt_of_le_of_lt h9 hlt))), h9⟩
theorem FrS.first {C N : Nat} {w0 W : World} {m p : ByteArray} {hs : List Hd} {lv : Value} {ls : List ByteArray} (h : FrS C N w0 m p hs lv ls W) (m' p' : ByteArray) : FrS C N w0 m' p' hs lv ls ((W.setCell ⟨N, 0, none⟩ (.string m')).setCell ⟨N, 1, none⟩ (.string p')) := by
  obtain ⟨hv, cv, h1, h2, h3, h4, h5, h6, h7, h8, h9⟩ := h
  have hN : N < N + 1 := Nat.lt_succ_self _
  refine ⟨hv, cv, ?_, ?_, ?_, ?_, h5, h6, h7, ?_, h9⟩
  · have := set_heap (set_heap h1 0 (.string m')) 1 (.string p')
    simpa using this
  · exact ownsRow_setCell_below (a := ⟨N, 1, none⟩) (ownsRow_setCell_below (a := ⟨N, 0, none⟩) h2 hN _) hN _
  · exact ownsRow_setCell_below (a := ⟨N, 1, none⟩) (ownsRow_setCell_below (a := ⟨N, 0, none⟩) h3 hN _) hN _
  · exact ownsRow_setCell_below (a := ⟨N, 1, none⟩) (ownsRow_setCell_below (a := ⟨N, 0, none⟩) h4 hN _) hN _
  · exact (h8.setCell (p := ⟨N, 0, none⟩) h9 _).setCell (p := ⟨N, 1, none⟩) h9 _
theorem FrS.cell {C N : Nat} {w0 W : World} {m p : ByteArray} {hs : List Hd} {lv : Value} {ls : List ByteArray} (h : FrS C N w0 m p hs lv ls W) :
    W.cell? ⟨N, 0, none⟩ = some (.string m) ∧ W.cell? ⟨N, 1, none⟩ = some (.string p) ∧ W.cell? ⟨N, 4, none⟩ = some (.int .i64 (sizeF hs)) ∧ W.cell? ⟨N, 5, none⟩ = some (.int .i64 (toldF hs)) ∧ (∀ k, k < 7 → W.frozen? ⟨N, k, none⟩ = false) := by
  obtain ⟨hv, cv, h1, _⟩ := h
  refine ⟨?_, ?_, ?_, ?_, fun k hk => ?_⟩
  · unfold World.cell?; rw [h1]; rfl
  · unfold World.cell?; rw [h1]; rfl
  · unfold World.cell?; rw [h1]; rfl
  · unfold World.cell?; rw [h1]; rfl
  · unfold World.frozen?; rw [h1]; rfl
/-- A row of texts, as it is read. -/
theorem rowS_cell {w : World} {B g n cap : Nat} {ls : List ByteArray} (h : w.ownsRow B 9 1 (.slice (some ⟨g, 0, none⟩) n cap) n (strCells ls)) (j : Nat) (hj : j < ls.length) : w.cell? ⟨g, j, none⟩ = some (.string ls[j]) := by
  have := h.cells (g := g) rfl j (.string ls[j]) (by simp [strCells, List.getElem?_eq_getElem hj])
  have e : (⟨g, 0, none⟩ : Addr).add j = ⟨g, j, none⟩ := by unfold Addr.add; split <;> simp_all
  first | exact this | (rw [e] at this; exact this)

theorem cutsB_le (c : UInt8) : ∀ (l : List UInt8), ∀ x ∈ cutsB c l, x.length ≤ l.length := by
  intro l
  induction l with
  | nil => intro x hx; simp [cutsB] at hx; subst hx; simp
  | cons y r ih =>
    intro x hx
    rw [cutsB] at hx
    split at hx
    · rcases List.mem_cons.1 hx with rfl | hx
      · simp
      · have := ih x hx; simp; omega
    · split at hx
      · simp at hx; subst hx; simp
      · rename_i l q e
        rcases List.mem_cons.1 hx with rfl | hx
        · have := ih l (by rw [e]; simp); simp; omega
        · have := ih x (by rw [e]; simp [hx]); simp; omega
theorem cell_far {w : World} {g N i j : Nat} {v u : Value} (h : w.cell? ⟨g, i, none⟩ = some v) (hne : g ≠ N) : (w.setCell ⟨N, j, none⟩ u).cell? ⟨g, i, none⟩ = some v :=
  (World.cell?_setCell_other _ _ _ _ (fun e => by have := congrArg Addr.block e; simp only at this; omega)).trans h
/-- What l3First hands back. -/
def FirstIs (C N : Nat) (w0 : World) (hs : List Hd) (lv : Value) (ls : List ByteArray) (r : Option (ByteArray × ByteArray)) (e : Ending) (W : World) : Prop :=
  match r with
  | none => e = .returned (.bool false) ∧ Below C w0 W
  | some (m, p) => e = .returned (.bool true) ∧ FrS C N w0 m p hs lv ls W
theorem proto_bneF (c : List UInt8) : (((bytesOf c).toList) != [72, 84, 84, 80, 47, 49, 46, 49]) = !decide (c = proto) := by
  rw [ByteArray.toList_eq]
  show (c != proto) = _
  by_cases h : c = proto <;> simp [h]
theorem proto_beqF (c : List UInt8) : (((bytesOf c).toList) == [72, 84, 84, 80, 47, 49, 46, 49]) = decide (c = proto) := by
  rw [ByteArray.toList_eq]
  show (c == proto) = _
  by_cases h : c = proto <;> simp [h]
set_option maxHeartbeats 4000000 in
theorem l3First_any (C N : Nat) (w0 : World) (m p : ByteArray) (hs : List Hd) (lv : Value) (ls : List ByteArray) (line : ByteArray) (w : World) (h : FrS C N w0 m p hs lv ls w) (hl : line.size ≤ 1048576) :
    Calls Tryz.prog 120 #[.pointer (some ⟨N, 0, none⟩), .string line] w fun e w' => FirstIs C N w0 hs lv ls (firstS line.data.toList) e w' := by
  have HF := hide h
  have HSp := hide (l2SplitB_any line w hl)
  clear h
  go_enter Tryz.func120, Tryz.ntmps120
  go_wp2_with fail
  refine HSp.out.mono ?_
  rintro e w1 ⟨⟨g, cap, rfl, hown⟩, b1⟩
  have hF1 := HF.out.next b1
  have hB1 : Below C w0 w1 := by obtain ⟨_, _, _, _, _, _, _, _, _, h8, _⟩ := hF1; exact h8
  have HF1 := hide hF1
  have HB1 := hide hB1
  obtain ⟨hNlt, hgN⟩ : N < w.heap.size ∧ w.heap.size ≤ g := by
    refine ⟨?_, (hown.lt g rfl).1⟩
    obtain ⟨_, _, h1, _⟩ := HF.out
    exact (Array.getElem?_eq_some_iff.1 h1).1
  obtain ⟨c0, c1, _, _, fr⟩ := hF1.cell
  have f0 := fr 0 (by decide)
  have f1 := fr 1 (by decide)
  unfold piecesB at hown ⊢
  obtain ⟨L, hL⟩ : ∃ L, cutsB 32 line.data.toList = L := ⟨_, rfl⟩
  have HL := hide hL
  rw [hL] at hown ⊢
  clear hL fr hF1 hB1 HSp b1
  by_cases h3 : L.length = 3
  · obtain ⟨a, b, c, rfl⟩ : ∃ a b c, L = [a, b, c] := by
      match L, h3 with
      | [a, b, c], _ => exact ⟨a, b, c, rfl⟩
    have r0 := rowS_cell hown 0 (by simp)
    have r1 := rowS_cell hown 1 (by simp)
    have r2 := rowS_cell hown 2 (by simp)
    simp only [List.map_cons, List.map_nil, List.getElem_cons_zero, List.getElem_cons_succ] at r0 r1 r2
    have hln : ([bytesOf a, bytesOf b, bytesOf c] : List ByteArray).length = 3 := rfl
    simp only [List.map_cons, List.map_nil]
    rw [hln]
    have hgd : w1.heap.size ≥ 0 := Nat.zero_le _
    have pb := proto_bneF c
    have pe := proto_beqF c
    have za : (bytesOf a).size ≤ maxLen ∧ (bytesOf b).size ≤ maxLen := by
      have ha := cutsB_le 32 line.data.toList a (by rw [HL.out]; simp)
      have hb := cutsB_le 32 line.data.toList b (by rw [HL.out]; simp)
      have el : line.data.toList.length = line.size := Array.length_toList
      have e1 : (bytesOf a).size = a.length := by simp [bytesOf, ByteArray.size]
      have e2 : (bytesOf b).size = b.length := by simp [bytesOf, ByteArray.size]
      rw [e1, e2]
      unfold maxLen
      omega
    have HM := hide (fun (W : World) => l3Method_any (bytesOf a) W za.1)
    have HT := hide (fun (W : World) => l3Target_any (bytesOf b) W za.2)
    clear za hgd
    by_cases hc : c = proto
    · rw [decide_eq_true hc] at pb pe
      have hfs : firstS line.data.toList = if methB (bytesOf a) = true ∧ targB (bytesOf b) = true then some (bytesOf a, bytesOf b) else none := by
        unfold firstS; rw [HL.out]; simp [hc]
      have HFs := hide hfs
      clear hfs h3 hc
      obtain ⟨w2, hw2⟩ : ∃ w2, w1.setCell ⟨N, 0, none⟩ (.string (bytesOf a)) = w2 := ⟨_, rfl⟩
      obtain ⟨w3, hw3⟩ : ∃ w3, w2.setCell ⟨N, 1, none⟩ (.string (bytesOf b)) = w3 := ⟨_, rfl⟩
      have hF3 := HF1.out.first (bytesOf a) (bytesOf b)
      rw [hw2, hw3] at hF3
      have hB3 : Below C w0 w3 := by obtain ⟨_, _, _, _, _, _, _, _, _, h8, _⟩ := hF3; exact h8
      have HF3 := hide hF3
      have HB3 := hide hB3
      have hne : g ≠ N := by omega
      have t0 : w2.cell? ⟨g, 0, none⟩ = some (.string (bytesOf a)) := by rw [← hw2]; exact cell_far r0 hne
      have t1 : w2.cell? ⟨g, 1, none⟩ = some (.string (bytesOf b)) := by rw [← hw2]; exact cell_far r1 hne
      have u0 : w3.cell? ⟨g, 0, none⟩ = some (.string (bytesOf a)) := by rw [← hw3]; exact cell_far t0 hne
      have u1 : w3.cell? ⟨g, 1, none⟩ = some (.string (bytesOf b)) := by rw [← hw3]; exact cell_far t1 hne
      have v1 : w2.cell? ⟨N, 1, none⟩ = some (.string p) := by rw [← hw2]; exact (World.cell?_setCell_other _ _ _ _ (by simp)).trans c1
      have v2 : w2.frozen? ⟨N, 1, none⟩ = false := by
        rw [← hw2]
        obtain ⟨_, _, h1, _⟩ := HF1.out
        have := set_heap h1 0 (.string (bytesOf a))
        unfold World.frozen?; rw [this]; rfl
      clear hF3 hB3 hown
      cases hm : methB (bytesOf a)
      · have HE : Hid (firstS line.data.toList = none) := hide (by rw [HFs.out, hm]; simp)
        clear HFs
        go_wp2_with (first | (go_at_call 135; refine (HM.out _).mono ?_; rintro e w' ⟨rfl, rfl⟩; rw [hm]) | (go_at_call 136; refine (HT.out _).mono ?_; rintro e w' ⟨rfl, rfl⟩))
        go_ret
        rw [HE.out]
        exact ⟨rfl, HB3.out⟩
      · cases ht : targB (bytesOf b)
        · have HE : Hid (firstS line.data.toList = none) := hide (by rw [HFs.out, ht]; simp)
          clear HFs
          go_wp2_with (first | (go_at_call 135; refine (HM.out _).mono ?_; rintro e w' ⟨rfl, rfl⟩; rw [hm]) | (go_at_call 136; refine (HT.out _).mono ?_; rintro e w' ⟨rfl, rfl⟩; rw [ht]))
          go_ret
          rw [HE.out]
          exact ⟨rfl, HB3.out⟩
        · have HE : Hid (firstS line.data.toList = some (bytesOf a, bytesOf b)) := hide (by rw [HFs.out, hm, ht]; simp)
          clear HFs
          go_wp2_with (first | (go_at_call 135; refine (HM.out _).mono ?_; rintro e w' ⟨rfl, rfl⟩; rw [hm]) | (go_at_call 136; refine (HT.out _).mono ?_; rintro e w' ⟨rfl, rfl⟩; rw [ht]))
          go_ret
          rw [HE.out]
          exact ⟨rfl, HF3.out⟩
    · rw [decide_eq_false hc] at pb pe
      have HE : Hid (firstS line.data.toList = none) := hide (by unfold firstS; rw [HL.out]; simp [hc])
      clear h3 hc hown
      go_wp2
      go_ret
      rw [HE.out]
      exact ⟨rfl, HB1.out⟩
  · have HE : Hid (firstS line.data.toList = none) := hide (by
      unfold firstS; rw [HL.out]
      split
      · exact absurd rfl h3
      · rfl)
    have e : (L.map bytesOf).length = L.length := List.length_map _
    rw [e]
    obtain ⟨n, hn⟩ : ∃ n, L.length = n := ⟨_, rfl⟩
    rw [hn] at h3 ⊢
    have hn1 : ((n : Int) == 3) = false := by apply beq_eq_false_iff_ne.2; omega
    have hn2 : ((n : Int) != 3) = true := by simp only [bne, hn1]; rfl
    clear h3 e hn hown
    go_wp2
    go_ret
    rw [HE.out]
    exact ⟨rfl, HB1.out⟩
end Go.Proofs.YtanebchmeaomgaaGreatDoor
namespace Go.Proofs.YtanebchmeaomgaaGreatDoor
open Go.RowKit M
set_option linter.unusedVariables false

theorem apart_grown {w : World} {B g n cap s m : Nat} {e : TypeId} {v v2 : Value} {xs : List Value} (h : ApartV v v2) (h2 : w.ownsRow B e s v2 m xs) (hw : v.ownBlock = some g ∨ g = w.heap.size) : ApartV (.slice (some ⟨g, 0, none⟩) n cap) v2 := by
  right
  intro he
  have e' : v2.ownBlock = some g := he.symm
  rcases hw with hw | hw
  · rcases h with h | h
    · rw [hw] at h; cases h
    · exact h (by rw [hw, e'])
  · have := (World.ownsRow.lt h2 g e').2
    omega
theorem row_kept {w w' : World} {B s m : Nat} {e : TypeId} {v v2 : Value} {xs : List Value} (h : w.ownsRow B e s v2 m xs) (ha : ApartV v v2) (hg : w.grownBy w' v.ownBlock) : w'.ownsRow B e s v2 m xs :=
  World.ownsRow.kept h hg (by
    rcases ha.symm with h | h
    · exact .inl h
    · exact .inr h)
theorem row_alloc {w : World} {B s m : Nat} {e : TypeId} {v : Value} {xs : List Value} (h : w.ownsRow B e s v m xs) (o : Obj) : (w.alloc o).ownsRow B e s v m xs := h.alloc o
theorem row_grown {w w' : World} {B n s : Nat} {e : TypeId} {v : Value} {xs : List Value} (h : w.ownsRow B e s v n xs) (hB : B ≤ w.heap.size) (hg : w.grownBy w' v.ownBlock) : Below B w w' :=
  ⟨hg.os, hg.tape, hg.output, hg.size, fun k hk => hg.block k (Nat.lt_of_lt_of_le hk hB) (fun e => by have := h.lt k e.symm; omega)⟩

/-- A code is laid behind. -/
theorem fr_codes {C N : Nat} {w0 W Wa W' : World} {m p : ByteArray} {os : List Hd} {z t : Int} {cs : List Int} {hv cv lv : Value} {ls : List ByteArray} {g cap : Nat} {c : Int}
    (h1 : W.heap[N]? = some (Obj.cells #[.string m, .string p, hv, .string ⟨#[]⟩, .int .i64 z, .int .i64 t, cv] 120)) (h2 : RowsH W (N + 1) hv os) (h3 : RowsI W (N + 1) cv cs) (h4 : W.ownsRow (N + 1) 9 1 lv ls.length (strCells ls)) (h5 : ApartV hv cv) (h6 : ApartV hv lv) (h7 : ApartV cv lv) (h8 : Below C w0 W) (h9 : C ≤ N)
    (ha : Below W.heap.size W Wa) (hg : Wa.grownBy W' cv.ownBlock) (hown : W'.ownsRow (N + 1) 3 1 (.slice (some ⟨g, 0, none⟩) (cs.length + 1) cap) (cs.length + 1) (intCells (cs ++ [c]))) (hwh : cv.ownBlock = some g ∨ g = Wa.heap.size) :
    FrR C N w0 m p os z t (cs ++ [c]) lv ls (W'.setCell ⟨N, 6, none⟩ (.slice (some ⟨g, 0, none⟩) (cs.length + 1) cap)) := by
  have hN : N < N + 1 := Nat.lt_succ_self _
  have hlt := (Array.getElem?_eq_some_iff.1 h1).1
  have h3a : Wa.ownsRow (N + 1) 3 1 cv cs.length (intCells cs) := owns_below h3 ha
  have h2a : RowsH Wa (N + 1) hv os := ownsH_below h2 ha
  have h4a := owns_below h4 ha
  have hbg : Below (N + 1) Wa W' := row_grown h3a (Nat.le_trans hlt ha.size) hg
  have h1' : W'.heap[N]? = _ := (hbg.block N hN).trans ((ha.block N hlt).trans h1)
  have hb' : Below C w0 W' := (h8.trans (ha.mono (by omega))).trans (hbg.mono (by omega))
  refine ⟨hv, .slice (some ⟨g, 0, none⟩) (cs.length + 1) cap, ?_, ?_, ?_, ?_, ?_, h6, ?_, hb'.setCell (p := ⟨N, 6, none⟩) h9 _, h9⟩
  · have := set_heap h1' 6 (.slice (some ⟨g, 0, none⟩) (cs.length + 1) cap)
    simpa using this
  · exact ownsRow_setCell_below (a := ⟨N, 6, none⟩) (row_kept h2a h5.symm hg) hN _
  · unfold RowsI
    rw [List.length_append]
    exact ownsRow_setCell_below (a := ⟨N, 6, none⟩) hown hN _
  · exact ownsRow_setCell_below (a := ⟨N, 6, none⟩) (row_kept h4a h7 hg) hN _
  · exact (apart_grown h5.symm h2a hwh).symm
  · exact apart_grown h7 h4a hwh
/-- A head is laid behind. -/
theorem fr_heads {C N : Nat} {w0 W Wa W' : World} {m p : ByteArray} {os : List Hd} {z t : Int} {cs : List Int} {hv cv lv : Value} {ls : List ByteArray} {g cap : Nat} {c : Hd}
    (h1 : W.heap[N]? = some (Obj.cells #[.string m, .string p, hv, .string ⟨#[]⟩, .int .i64 z, .int .i64 t, cv] 120)) (h2 : RowsH W (N + 1) hv os) (h3 : RowsI W (N + 1) cv cs) (h4 : W.ownsRow (N + 1) 9 1 lv ls.length (strCells ls)) (h5 : ApartV hv cv) (h6 : ApartV hv lv) (h7 : ApartV cv lv) (h8 : Below C w0 W) (h9 : C ≤ N)
    (ha : Below W.heap.size W Wa) (hg : Wa.grownBy W' hv.ownBlock) (hown : W'.ownsRow (N + 1) 82 2 (.slice (some ⟨g, 0, none⟩) (os.length + 1) cap) (os.length + 1) (hdCells (os ++ [c]))) (hwh : hv.ownBlock = some g ∨ g = Wa.heap.size) :
    FrR C N w0 m p (os ++ [c]) z t cs lv ls (W'.setCell ⟨N, 2, none⟩ (.slice (some ⟨g, 0, none⟩) (os.length + 1) cap)) := by
  have hN : N < N + 1 := Nat.lt_succ_self _
  have hlt := (Array.getElem?_eq_some_iff.1 h1).1
  have h3a : Wa.ownsRow (N + 1) 3 1 cv cs.length (intCells cs) := owns_below h3 ha
  have h2a : Wa.ownsRow (N + 1) 82 2 hv os.length (hdCells os) := ownsH_below h2 ha
  have h4a := owns_below h4 ha
  have hbg : Below (N + 1) Wa W' := row_grown h2a (Nat.le_trans hlt ha.size) hg
  have h1' : W'.heap[N]? = _ := (hbg.block N hN).trans ((ha.block N hlt).trans h1)
  have hb' : Below C w0 W' := (h8.trans (ha.mono (by omega))).trans (hbg.mono (by omega))
  refine ⟨.slice (some ⟨g, 0, none⟩) (os.length + 1) cap, cv, ?_, ?_, ?_, ?_, ?_, ?_, h7, hb'.setCell (p := ⟨N, 2, none⟩) h9 _, h9⟩
  · have := set_heap h1' 2 (.slice (some ⟨g, 0, none⟩) (os.length + 1) cap)
    simpa using this
  · unfold RowsH
    rw [List.length_append]
    exact ownsRow_setCell_below (a := ⟨N, 2, none⟩) hown hN _
  · exact ownsRow_setCell_below (a := ⟨N, 2, none⟩) (row_kept h3a h5 hg) hN _
  · exact ownsRow_setCell_below (a := ⟨N, 2, none⟩) (row_kept h4a h6 hg) hN _
  · exact apart_grown h5 h3a hwh
  · exact apart_grown h6 h4a hwh
theorem FrR.next {C N : Nat} {w0 W W' : World} {m p : ByteArray} {os : List Hd} {z t : Int} {cs : List Int} {lv : Value} {ls : List ByteArray} (h : FrR C N w0 m p os z t cs lv ls W) (hb : Below W.heap.size W W') : FrR C N w0 m p os z t cs lv ls W' := by
  obtain ⟨hv, cv, h1, h2, h3, h4, h5, h6, h7, h8, h9⟩ := h
  have hlt := (Array.getElem?_eq_some_iff.1 h1).1
  exact ⟨hv, cv, (hb.block _ hlt).trans h1, ownsH_below h2 hb, owns_below h3 hb, owns_below h4 hb, h5, h6, h7, h8.trans (hb.mono (Nat.le_of_lt (Nat.lt_of_le_of_lt h9 hlt))), h9⟩
/-- The same at one step of a drawn region. -/
theorem step_append_head2 {ops : Array Oper} {o : Oper} {a : Act} {w : World} {K : Act → World → Prop} {Q : Exit → Act → World → Prop} {E : Prop} (hgd : o.guard = none) (s x : Operand)
    (ho : o.op = .call { callee := .builtin .append, args := #[s, x], argTypes := #[37, 37] })
    (B : Nat) (v : Value) (n : Nat) (l : List Hd) (hs : a.eval s = v) (hown : w.ownsRow B 82 2 v n (hdCells l))
    (N : Nat) (c : Hd) (hx : a.eval x = .slice (some ⟨N, 0, none⟩) 1 1) (hc0 : w.cell? ⟨N, 0, none⟩ = some (.string c.1)) (hc1 : w.cell? ⟨N, 1, none⟩ = some (.string c.2)) (hlen : n + 1 ≤ 1099511627776) (hB : B ≤ w.heap.size)
    (h : ∀ g cap w', w'.ownsRow B 82 2 (.slice (some ⟨g, 0, none⟩) (n + 1) cap) (n + 1) (hdCells (l ++ [c])) → w.grownBy w' v.ownBlock → (v.ownBlock = some g ∨ g = w.heap.size) → K (a.put o.dst (.slice (some ⟨g, 0, none⟩) (n + 1) cap)) w') :
    if Region.wanted o (yielded ops a.tmps) = true then Oper.wp Tryz.prog o a w K Q else E := by
  have hwt : Region.wanted o (yielded ops a.tmps) = true := by simp [Region.wanted, hgd]
  rw [if_pos hwt]
  obtain ⟨i0, hi, hz0, hz1, hz2⟩ := info_parts infoHd
  have hnews : ∀ j u, [Value.string c.1, Value.string c.2][j]? = some u → w.cell? ((⟨N, 0, none⟩ : Addr).add j) = some u := by
    intro j u hj
    have e : ∀ k, (⟨N, 0, none⟩ : Addr).add k = ⟨N, k, none⟩ := fun k => by unfold Addr.add; split <;> simp_all
    rw [e]
    match j, hj with
    | 0, hj => simp at hj; subst hj; exact hc0
    | 1, hj => simp at hj; subst hj; exact hc1
  have hone : ∀ u ∈ [Value.string c.1, Value.string c.2], u.oneCell' = true := by
    intro u hu; simp at hu; rcases hu with rfl | rfl <;> rfl
  have hex := run_append_own (P := Tryz.prog) w B 37 o.type 82 i0 _ 2 32 Tryz.underlying37 hi hz0 hz1 hz2 rfl (by decide) v n _ hown ⟨N, 0, none⟩ 1 1 [.string c.1, .string c.2] rfl hnews hone (by unfold maxLen; omega) (by omega) hB
  obtain ⟨v', w', hrun, ho', hg, _⟩ := hex
  obtain ⟨g, cap, rfl⟩ : ∃ g cap, v' = .slice (some ⟨g, 0, none⟩) (n + 1) cap := by
    rcases ho'.2 with ⟨_, h0⟩ | ⟨g, cap, cur, hv, _⟩
    · omega
    · exact ⟨g, cap, hv⟩
  have hwhere : v.ownBlock = some g ∨ g = w.heap.size := by
    rcases hown.2 with ⟨rfl, h0⟩ | ⟨g1, cap1, cur1, rfl, hg1, hh1, hn1, hm1, hs1, ht1⟩
    · right
      have hr := run_append_nil (P := Tryz.prog) w 37 o.type 82 i0 _ Tryz.underlying37 hi hz0 ⟨N, 0, none⟩ 1 1 [.string c.1, .string c.2] (by rw [hz1]; rfl) hnews (by decide) (by decide) (by rw [hz2]; decide)
      rw [hr] at hrun
      have := congrArg (fun r => match r with | Result.ok (Value.slice (some a) _ _) _ => a.block | _ => 0) hrun
      exact this.symm
    · by_cases hroom : n + 1 ≤ cap1
      · left
        have hr := run_append_room (P := Tryz.prog) w 37 o.type 82 i0 Tryz.underlying37 hi g1 n cap1 cur1 hh1 ⟨N, 0, none⟩ 1 1 [.string c.1, .string c.2] (by rw [hz1]; rfl) hnews hone hroom (by rw [hz1, hs1]; simp only [List.length_cons, List.length_nil]; omega)
        rw [hr] at hrun
        have := congrArg (fun r => match r with | Result.ok (Value.slice (some a) _ _) _ => a.block | _ => 0) hrun
        have : g1 = g := this
        rw [← this]; rfl
      · right
        have hr := run_append_grow (P := Tryz.prog) w 37 o.type 82 i0 _ Tryz.underlying37 hi hz0 ⟨g1, 0, none⟩ n cap1 (hdCells l) (by rw [hz1]; exact hown.1) (fun j u hu => hown.cells (g := g1) rfl j u hu) ⟨N, 0, none⟩ 1 1 [.string c.1, .string c.2] (by rw [hz1]; rfl) hnews (by omega) (by omega) (by rw [hz2]; exact growslice_fits (by omega) (by omega))
        rw [hr] at hrun
        have := congrArg (fun r => match r with | Result.ok (Value.slice (some a) _ _) _ => a.block | _ => 0) hrun
        exact this.symm
  unfold Oper.wp execOp
  simp only [ho, resolve, invoke, builtin, Sem.run_bind, Sem.run_pure, Result.andThen_ok, List.map_toArray, List.map_cons, List.map_nil, hs, hx, hrun]
  exact h g cap w' (by rw [hdCells_append]; exact ho') hg hwhere
end Go.Proofs.YtanebchmeaomgaaGreatDoor
namespace Go.Proofs.YtanebchmeaomgaaGreatDoor
open Go.RowKit M

set_option maxHeartbeats 1000000 in
theorem specLower_any (s : ByteArray) (w : World) (hs : s.size ≤ 140737488355328) :
    Calls Tryz.prog 162 #[.string s] w fun e w' => e = .returned (.string ⟨(lowL s.data.toList).toArray⟩) ∧ Below w.heap.size w w' := by
  go_enter Tryz.func162, Tryz.ntmps162
  go_wp2
  go_loopw [3, 4] (fun v i wr => ∃ k : Nat, k ≤ s.size ∧ i = .int .i64 k ∧ wr.ownsRow w.heap.size 5 1 v k (Lib.byteCells (lowL (s.data.toList.take k))) ∧ Below w.heap.size w wr) (fun _ i _ => s.size - (intOf i).toNat)
  case atStart => exact ⟨0, Nat.zero_le _, rfl, World.ownsRow_made w #[] 0 (Nat.le_refl _) (by decide) rfl, (Below.refl _ _).alloc (Nat.le_refl _) _⟩
  case round =>
    obtain ⟨k, hk, rfl, hown, hbe⟩ := hrel
    by_cases hlt : k < s.size
    · have HL : Hid (lowL (s.data.toList.take (k + 1)) = lowL (s.data.toList.take k) ++ [lowB s[k]]) := lowL_snoc s k hlt
      cases hb : isB ((s[k]).toNat : Int) 3
      · go_wp2_with (first | (go_at_call 173; refine (l1Large_any _ _).mono ?_; rintro e w' ⟨rfl, rfl⟩; rw [hb]) | (at_builtin; refine wp_append_byte rfl _ _ rfl w.heap.size _ k _ rfl (hown.alloc _) _ (lowB s[k]) rfl ?c1 ?c2 ?c3 ?_))
        case c1 => rw [lowB_no _ hb]; simp
        case c2 => omega
        case c3 => have := hbe.size; simp; omega
        intro v1 w1 ho1 hb1
        rw [← HL.out] at ho1
        go_wp2
        go_roundw
        case rel => exact ⟨k + 1, by omega, by go_num, ho1, (hbe.alloc hbe.size _).trans hb1⟩
        case measure => simp [intOf]; omega
      · have hc := isB3 hb
        go_wp2_with (first | (go_at_call 173; refine (l1Large_any _ _).mono ?_; rintro e w' ⟨rfl, rfl⟩; rw [hb]) | (at_builtin; refine wp_append_byte rfl _ _ rfl w.heap.size _ k _ rfl (hown.alloc _) _ (lowB s[k]) rfl ?c1 ?c2 ?c3 ?_))
        case c1 => rw [lowB_yes _ hb]; simp
        case c2 => omega
        case c3 => have := hbe.size; simp; omega
        intro v1 w1 ho1 hb1
        rw [← HL.out] at ho1
        go_wp2
        go_roundw
        case rel => exact ⟨k + 1, by omega, by go_num, ho1, (hbe.alloc hbe.size _).trans hb1⟩
        case measure => simp [intOf]; omega
    · have hcv := conv_own hown
      go_wp2
      go_ret
      exact ⟨ret_str (by rw [take_all s k hlt]), hbe⟩
end Go.Proofs.YtanebchmeaomgaaGreatDoor
namespace Go.Proofs.YtanebchmeaomgaaGreatDoor
open M
set_option linter.unusedVariables false

/-- What a line gives. -/
def okLine (l : List UInt8) : Option Hd :=
  match headS l with
  | none => none
  | some h => if h.1 = lenName ∧ numOk h = false then none else some h
/-- What all of them give. -/
def okLines : List (List UInt8) → Option (List Hd)
  | [] => some []
  | l :: ls => match okLine l with
    | none => none
    | some h => (okLines ls).map (h :: ·)
theorem okLines_snoc : ∀ (ls : List (List UInt8)) (l : List UInt8) (hs : List Hd), okLines ls = some hs → okLines (ls ++ [l]) = (okLine l).map fun h => hs ++ [h]
  | [], l, hs, h => by
    simp [okLines] at h
    subst h
    simp only [List.nil_append, okLines]
    cases okLine l <;> rfl
  | x :: ls, l, hs, h => by
    rw [okLines] at h
    simp only [List.cons_append, okLines]
    cases hx : okLine x with
    | none => rw [hx] at h; cases h
    | some y =>
      rw [hx] at h
      obtain ⟨q, hq, rfl⟩ := Option.map_eq_some_iff.1 h
      simp only
      rw [okLines_snoc ls l q hq]
      cases okLine l <;> rfl
theorem okLines_bad : ∀ (ls ms : List (List UInt8)), okLines ls = none → okLines (ls ++ ms) = none
  | [], ms, h => by cases h
  | x :: ls, ms, h => by
    rw [okLines] at h
    simp only [List.cons_append, okLines]
    cases hx : okLine x with
    | none => rfl
    | some y =>
      rw [hx] at h
      simp only at h ⊢
      rw [okLines_bad ls ms (by cases e : okLines ls with | none => rfl | some q => rw [e] at h; cases h)]
      rfl
theorem lens_cons (h : Hd) (hs : List Hd) : lensOf (h :: hs) = if h.1 = lenName then h :: lensOf hs else lensOf hs := by
  unfold lensOf
  rw [List.filter_cons]
  by_cases e : h.1 = lenName <;> simp [e]
/-- They are the heads, each with a number where it tells a length. -/
theorem okLines_is : ∀ (ls : List (List UInt8)), okLines ls = (match headsS ls with | none => none | some hs => if (lensOf hs).all numOk then some hs else none)
  | [] => rfl
  | l :: ls => by
    simp only [okLines, headsS, okLine]
    cases hl : headS l with
    | none => rfl
    | some h =>
      simp only
      rw [okLines_is ls]
      by_cases e : h.1 = lenName
      · cases hn : numOk h
        · simp only [e, and_self, if_true]
          cases headsS ls with
          | none => rfl
          | some hs => simp [lensOf, e, hn]
        · simp only [e, Bool.true_eq_false, and_false, if_false]
          cases headsS ls with
          | none => rfl
          | some hs =>
            have : (lensOf (h :: hs)).all numOk = (lensOf hs).all numOk := by rw [lens_cons, if_pos e, List.all_cons, hn, Bool.true_and]
            simp only [Option.map_some, this]
            cases (lensOf hs).all numOk <;> rfl
      · simp only [e, false_and, if_false]
        cases headsS ls with
        | none => rfl
        | some hs =>
          have : lensOf (h :: hs) = lensOf hs := by rw [lens_cons, if_neg e]
          simp only [Option.map_some, this]
          cases (lensOf hs).all numOk <;> rfl
/-- The code of what stands ahead of a body, as the specification reads it. -/
def readC (t : List UInt8) : Int :=
  match readS t with
  | none => 400
  | some (m, p, hs) => frameC hs
end Go.Proofs.YtanebchmeaomgaaGreatDoor
