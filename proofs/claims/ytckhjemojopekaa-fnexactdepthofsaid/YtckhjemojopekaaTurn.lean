/-
  What strings.Clone does.
  What the specification's and the program's HeadOf do.
  Rows of bytes that the call itself made: what string(b) gives of one; where the walk wants it.
  What the program's calls on kinds of bytes do: isOf, isOneOf: each computes, and turns nothing in memory.
  What the program's Lower does.
  What the specification's l1In does; a byte as an int.
  What spec.l1Large does.
  What the specification's Lower does.
  The laws' marks, as texts.
  Data as memory holds them: leafs, and rows of rows of leafs; their sizes, and what they are when they are marked.
  What turns none but certain blocks.
-/
import Derived.Test.YtckhjemojopekaaShelf
import Derived.WalkKit
import Derived.WalkSpells
import Derived.WalkLawsBesides
import Derived.Test.YtckhjemojopekaaHeads
import Derived.Test.YtckhjemojopekaaSliceEq
import Derived.Test.YtckhjemojopekaaRows
import Derived.Deep.Light
import Derived.Lib.BufferWrite
import Derived.Laws.IdiomStrings
import Derived.Laws.BytesArg
import Derived.Test.YtckhjemojopekaaMath
import Derived.Lib.ConvBytes
import Derived.Test.YtckhjemojopekaaMathQuote
import Derived.Below
namespace Go.Proofs.Ytckhjemojopekaa
open Go.RowKit

set_option maxHeartbeats 400000 in
theorem clone_any (s : ByteArray) (w : World) (hs : s.size ≤ 281474976710656) :
    Calls Try.prog 45 #[.string s] w fun e w' => e = .returned (.string s) ∧ Below w.heap.size w w' := by
  go_enter Try.func45, Try.ntmps45
  go_wp2_with (go_at_call 72; refine (Try.stringslite_Clone s _ hs).mono ?_; rintro e w1 ⟨rfl, hb1⟩)
  go_ret
  exact ⟨rfl, hb1⟩
end Go.Proofs.Ytckhjemojopekaa
namespace Go.Proofs.Ytckhjemojopekaa
open Go.RowKit M
set_option linter.unusedVariables false

theorem neStrB {x y : ByteArray} (h : ¬ x = y) : (x.toList == y.toList) = false := by
  rw [beq_eq_false_iff_ne]; exact fun e => h (strInj e)
theorem eqStrB {x y : ByteArray} (h : x = y) : (x.toList == y.toList) = true := by rw [h]; simp

theorem ret_twoH {x y : ByteArray} {a b : Bool} (h1 : x = y) (h2 : a = b) : Ending.returned (.tuple #[.string x, .bool a]) = .returned (.tuple #[.string y, .bool b]) := by rw [h1, h2]

set_option maxHeartbeats 400000 in
theorem specHeadOf_any (a : Option Addr) (hs : List Hd) (cap B : Nat) (name : ByteArray) (w : World) (h : Hds w B a hs) (hl : hs.length ≤ maxLen) :
    Calls Try.prog 19 #[.slice a hs.length cap, .string name] w fun e w' => e = .returned (.tuple #[.string (hdOf hs name).1, .bool (hdOf hs name).2]) ∧ w' = w := by
  unfold maxLen at hl
  go_enter Try.func19, Try.ntmps19
  go_wp2
  go_loop [6] (fun i => ∃ k : Nat, k ≤ hs.length ∧ i = .int .i64 k ∧ hdOf hs name = hdOf (hs.drop k) name) (fun i => hs.length - (intOf i).toNat)
  case atStart => exact ⟨0, Nat.zero_le _, rfl, rfl⟩
  case round =>
    obtain ⟨k, hk, rfl, ht⟩ := hrel
    have HT : Hid (hdOf hs name = hdOf (hs.drop k) name) := ht
    clear ht
    by_cases hlt : k < hs.length
    · obtain ⟨b, o, rfl, hb, hc⟩ := h (by omega)
      have hcx := (hc k hlt).1
      have hcy := (hc k hlt).2
      clear hc
      by_cases he : hs[k].1 = name
      · have e1 := eqStrB he
        have HE : Hid (hdOf hs name = (hs[k].2, true)) := hdOf_at hs k hlt name HT.out he
        clear he
        go_wp2
        go_ret2
        exact ⟨ret_twoH (by rw [HE.out]) (by rw [HE.out]), rfl⟩
      · have e1 := neStrB he
        have HE : Hid (hdOf hs name = hdOf (hs.drop (k + 1)) name) := hdOf_next hs k hlt name HT.out he
        clear he
        go_wp2
        go_round
        case rel => exact ⟨k + 1, by omega, by go_num, HE.out⟩
        case measure => simp [intOf]; omega
    · have HE : Hid (hdOf hs name = (ByteArray.empty, false)) := hdOf_end hs k hlt name HT.out
      go_wp2
      go_ret2
      exact ⟨ret_twoH (by rw [HE.out]; rfl) (by rw [HE.out]), rfl⟩

set_option maxHeartbeats 1000000 in
theorem headOf_any (a : Option Addr) (hs : List Hd) (cap B : Nat) (name : ByteArray) (w : World) (h : Hds w B a hs) (hB : B ≤ w.heap.size) (hl : hs.length ≤ maxLen) (hz : ∀ x ∈ hs, x.2.size ≤ 281474976710656) :
    Calls Try.prog 22 #[.slice a hs.length cap, .string name] w fun e w' => e = .returned (.tuple #[.string (hdOf hs name).1, .bool (hdOf hs name).2]) ∧ Below w.heap.size w w' := by
  unfold maxLen at hl
  go_enter Try.func22, Try.ntmps22
  go_wp2
  go_loopw [10] (fun i wr => ∃ k : Nat, k ≤ hs.length ∧ i = .int .i64 k ∧ hdOf hs name = hdOf (hs.drop k) name ∧ Below w.heap.size w wr) (fun i _ => hs.length - (intOf i).toNat)
  case atStart => exact ⟨0, Nat.zero_le _, rfl, rfl, Below.refl _ _⟩
  case round =>
    obtain ⟨k, hk, rfl, ht, hbe⟩ := hrel
    have HT : Hid (hdOf hs name = hdOf (hs.drop k) name) := ht
    clear ht
    by_cases hlt : k < hs.length
    · obtain ⟨b, o, rfl, hb, hc⟩ := (h.below hbe hB) (by omega)
      have hcx := (hc k hlt).1
      have hcy := (hc k hlt).2
      have hz2 := hz _ (List.getElem_mem hlt)
      clear hc
      by_cases he : hs[k].1 = name
      · have e1 := eqStrB he
        have HE : Hid (hdOf hs name = (hs[k].2, true)) := hdOf_at hs k hlt name HT.out he
        clear he
        go_wp2_with fail
        refine (clone_any hs[k].2 _ hz2).mono ?_
        rintro e w1 ⟨rfl, b1⟩
        have c1 := (hbe.alloc hbe.size (Obj.cells #[.string hs[k].1, .string hs[k].2] 82)).trans (b1.mono (by have := hbe.size; simp; omega))
        go_wp2
        go_ret2
        exact ⟨ret_twoH (by rw [HE.out]) (by rw [HE.out]), c1⟩
      · have e1 := neStrB he
        have HE : Hid (hdOf hs name = hdOf (hs.drop (k + 1)) name) := hdOf_next hs k hlt name HT.out he
        clear he
        go_wp2
        go_roundw
        case rel => exact ⟨k + 1, by omega, by go_num, HE.out, hbe.alloc hbe.size _⟩
        case measure => simp [intOf]; omega
    · have HE : Hid (hdOf hs name = (ByteArray.empty, false)) := hdOf_end hs k hlt name HT.out
      go_wp2
      go_ret2
      exact ⟨ret_twoH (by rw [HE.out]; rfl) (by rw [HE.out]), hbe⟩
end Go.Proofs.Ytckhjemojopekaa
namespace Go.Proofs.Ytckhjemojopekaa
open Go.RowKit

theorem ret_str {l m : List UInt8} (h : l = m) : Ending.returned (.string ⟨l.toArray⟩) = .returned (.string ⟨m.toArray⟩) := by rw [h]

/-- 'string(b)' of a row of bytes that the call owns: its bytes; the world is as it was. -/
theorem conv_own {w : World} {B n : Nat} {v : Value} {l : List UInt8} (h : w.ownsRow B 5 1 v n (Lib.byteCells l)) :
    (convert 83 9 v).run Try.prog w = .ok (.string ⟨l.toArray⟩) w := by
  have hn : n = l.length := by have := h.1; rw [Lib.byteCells_length] at this; omega
  subst hn
  rcases h.2 with ⟨rfl, h0⟩ | ⟨g, cap, cur, rfl, _, hg, _, _, _, htk⟩
  · have : l = [] := List.length_eq_zero_iff.1 h0
    subst this
    exact run_convert_bytes_nil w 83 5 Try.underlying83 Try.underlying5 0 0 9 Try.underlying9
  · refine run_convert_bytes_back w 83 9 5 _ cap l Try.underlying83 Try.underlying5 Try.underlying9 ?_
    intro j hj
    exact h.cells (g := g) rfl j _ (by simp [Lib.byteCells, List.getElem?_eq_getElem hj])

/-- What grew by writes to a row that the call owns is as it was below. -/
theorem below_grown {w w' : World} {B n : Nat} {e : TypeId} {v : Value} {xs : List Value} (h : w.ownsRow B e 1 v n xs) (hB : B ≤ w.heap.size) (hg : w.grownBy w' v.ownBlock) : Below B w w' :=
  ⟨hg.os, hg.tape, hg.output, hg.size, fun k hk => hg.block k (Nat.lt_of_lt_of_le hk hB) (fun e => by have := h.lt k e.symm; omega)⟩

theorem info_byte : (Try.prog.info? 5).map (fun i => (i.zero, i.size, i.bytes)) = some (some (.int .u8 0), 1, 1) := by kernel_rfl

/-- 'b = append(b, c)' on a row of bytes that the call owns. -/
theorem wp_append_byte {w : World} {ops : Array Oper} {rest : List Oper} {o : Oper} {a : Act} {Q : Exit → Act → World → Prop} (hgd : o.guard = none) (s x : Operand)
    (ho : o.op = .call { callee := .builtin .append, args := #[s, x], argTypes := #[83, 83] })
    (B : Nat) (v : Value) (n : Nat) (l : List UInt8) (hs : a.eval s = v) (hown : w.ownsRow B 5 1 v n (Lib.byteCells l))
    (ad : Addr) (c : UInt8) (hx : a.eval x = .slice (some ad) 1 1) (hcell : w.cell? ad = some (.int .u8 c.toNat)) (hlen : n + 1 ≤ 140737488355328) (hB : B ≤ w.heap.size)
    (h : ∀ v' w', w'.ownsRow B 5 1 v' (n + 1) (Lib.byteCells (l ++ [c])) → Below B w w' → wpList Try.prog ops Q rest (a.put o.dst v') w') : wpList Try.prog ops Q (o :: rest) a w := by
  obtain ⟨i0, hi, hz0, hz1, hz2⟩ := info_parts info_byte
  refine wpList_append_own w hgd s x 83 ho B 5 i0 (.int .u8 0) 1 1 Try.underlying83 hi hz0 hz1 hz2 rfl (by decide) v n _ hs hown ad 1 1 [.int .u8 c.toNat] hx rfl ?_ ?_ ?_ ?_ hB ?_
  · intro j u hj
    match j, hj with
    | 0, hj =>
      simp at hj; subst hj
      have : ad.add 0 = ad := by unfold Addr.add; split <;> simp_all
      rw [this]; exact hcell
  · intro u hu; simp at hu; subst hu; rfl
  · unfold maxLen; omega
  · omega
  · intro v' w' ho' hg _
    refine h v' w' ?_ (below_grown hown hB hg)
    rw [Lib.byteCells_append]
    exact ho'

/-- A row of bytes in block N, none of them frozen. -/
def RowAt (w : World) (N : Nat) (l : List UInt8) : Prop := ∀ j (hj : j < l.length), w.cell? ⟨N, j, none⟩ = some (.int .u8 l[j].toNat) ∧ w.frozen? ⟨N, j, none⟩ = false

theorem RowAt.alloc {w : World} {N : Nat} {l : List UInt8} (h : RowAt w N l) (hN : N < w.heap.size) (o : Obj) : RowAt (w.alloc o) N l := fun j hj =>
  ⟨(World.cell?_alloc_past o N j hN).trans (h j hj).1, (World.frozen?_alloc_past o N j hN).trans (h j hj).2⟩

theorem RowAt.set {w : World} {N : Nat} {l : List UInt8} (h : RowAt w N l) (k : Nat) (hk : k < l.length) (c : UInt8) : RowAt (w.setCell ⟨N, k, none⟩ (.int .u8 c.toNat)) N (l.set k c) := by
  intro j hj
  have hj' : j < l.length := by simpa using hj
  refine ⟨?_, by rw [World.frozen?_setCell]; exact (h j hj').2⟩
  by_cases e : k = j
  · subst e
    rw [World.cell?_setCell_same _ _ _ (h k hk).1]
    simp
  · have hne : (⟨N, k, none⟩ : Addr) ≠ ⟨N, j, none⟩ := fun e' => e (congrArg Addr.off e')
    rw [World.cell?_setCell_other _ _ _ _ hne, (h j hj').1]
    simp [e]

/-- 'string(b)' of such a row. -/
theorem conv_row {w : World} {N n cap : Nat} {l : List UInt8} (h : RowAt w N l) (hn : l.length = n) :
    (convert 83 9 (.slice (some ⟨N, 0, none⟩) n cap)).run Try.prog w = .ok (.string ⟨l.toArray⟩) w := by
  subst hn
  refine run_convert_bytes_back w 83 9 5 _ cap l Try.underlying83 Try.underlying5 Try.underlying9 ?_
  intro j hj
  have : (⟨N, 0, none⟩ : Addr).add j = ⟨N, j, none⟩ := by
    unfold Addr.add; split <;> simp_all
  rw [this]; exact (h j hj).1

/-- 'string(b)' of the end of such a row. -/
theorem conv_at {w : World} {N o n cap : Nat} {pre l : List UInt8} (h : RowAt w N (pre ++ l)) (ho : pre.length = o) (hn : l.length = n) :
    (convert 83 9 (.slice (some ⟨N, o, none⟩) n cap)).run Try.prog w = .ok (.string ⟨l.toArray⟩) w := by
  subst hn ho
  refine run_convert_bytes_back w 83 9 5 _ cap l Try.underlying83 Try.underlying5 Try.underlying9 ?_
  intro j hj
  have e : (⟨N, pre.length, none⟩ : Addr).add j = ⟨N, pre.length + j, none⟩ := by
    unfold Addr.add; split <;> simp_all
  rw [e, (h (pre.length + j) (by simp; omega)).1]
  simp

end Go.Proofs.Ytckhjemojopekaa
namespace Go.Proofs.Ytckhjemojopekaa
open Go.RowKit M

set_option maxHeartbeats 400000 in
theorem isOf_any (c k : Int) (w : World) :
    Calls Try.prog 73 #[.int .u8 c, .int .i64 k] w fun e w' => e = .returned (.bool (isB c k)) ∧ w' = w := by
  go_enter Try.func73, Try.ntmps73
  go_wp2
  all_goals
    go_ret
    refine ⟨ret_bool ?_, rfl⟩
    go_light
    unfold isB
    simp_all
    try omega

set_option maxHeartbeats 400000 in
theorem isOneOf_any (c : Int) (ks : List Int) (n b o cap : Nat) (w : World) (hn : ks.length = n) (hl : ks.length ≤ maxLen)
    (hc : ∀ i, i < ks.length → w.cell? ⟨b, o + i, none⟩ = some (.int .i64 (ks.getD i 0))) :
    Calls Try.prog 46 #[.int .u8 c, .slice (some ⟨b, o, none⟩) n cap] w fun e w' => e = .returned (.bool (anyB c ks)) ∧ w' = w := by
  subst hn
  unfold maxLen at hl
  go_enter Try.func46, Try.ntmps46
  go_wp2
  go_loop [9] (fun i => ∃ k : Nat, k ≤ ks.length ∧ i = .int .i64 k ∧ anyB c (ks.take k) = false) (fun i => ks.length - (intOf i).toNat)
  case atStart => exact ⟨0, Nat.zero_le _, rfl, rfl⟩
  case round =>
    obtain ⟨k, hk, rfl, hn⟩ := hrel
    have HN : Hid (anyB c (ks.take k) = false) := hn; clear hn
    by_cases hlt : k < ks.length
    · have hcx := hc k hlt
      go_wp2_with (go_at_call 73; refine (isOf_any _ _ _).mono ?_; rintro e w' ⟨rfl, rfl⟩)
      · go_ret
        exact ⟨ret_bool (by rw [anyB_of c ks k hlt (by assumption)]), rfl⟩
      · go_round
        case rel => exact ⟨k + 1, by omega, by go_num, anyB_snoc c ks k hlt HN.out (by assumption)⟩
        case measure => simp [intOf]; omega
    · go_wp2
      go_ret
      exact ⟨ret_bool (by rw [← HN.out, List.take_of_length_le (by omega)]), rfl⟩
theorem cells1 (w : World) (a : Int) (T : TypeId) : ∀ i, i < [a].length → (w.alloc (Obj.cells #[.int .i64 a] T)).cell? ⟨w.heap.size, 0 + i, none⟩ = some (.int .i64 ([a].getD i 0)) := by
  intro i hi
  match i, hi with
  | 0, _ => simp

theorem cells3 (w : World) (n : Nat) (a b c : Int) (T : TypeId) (hn : w.heap.size = n) : ∀ i, i < [a, b, c].length → (w.alloc (Obj.cells #[.int .i64 a, .int .i64 b, .int .i64 c] T)).cell? ⟨n, 0 + i, none⟩ = some (.int .i64 ([a, b, c].getD i 0)) := by
  subst hn
  intro i hi
  match i, hi with
  | 0, _ => simp
  | 1, _ => simp
  | 2, _ => simp
end Go.Proofs.Ytckhjemojopekaa
namespace Go.Proofs.Ytckhjemojopekaa
open Go.RowKit M

theorem bytes_row (w : World) (s : ByteArray) : RowAt (Lib.bytesWorld w 5 s) w.heap.size s.data.toList := by
  intro j hj
  have e : s.data.toList.length = s.size := Array.length_toList
  refine ⟨?_, ?_⟩
  · rw [Lib.bytesWorld_cell w 5 s j (by omega)]
    simp [List.getD, List.getElem?_eq_getElem hj]
  · have hsz : j < (Lib.bytesCells w 5 s).size := by
      simp only [Lib.bytesCells, Array.size_append, Array.size_map]
      have : s.data.size = s.size := rfl
      omega
    simp [World.frozen?, Lib.bytesWorld_at_new]
    omega

set_option maxHeartbeats 1000000 in
theorem lower_any (s : ByteArray) (w : World) (hs : s.size ≤ 140737488355328) :
    Calls Try.prog 23 #[.string s] w fun e w' => e = .returned (.string ⟨(lowL s.data.toList).toArray⟩) ∧ Below w.heap.size w w' := by
  have hcv := Lib.run_convert_string_bytes (P := Try.prog) w 9 83 5 s Try.underlying9 Try.underlying83 Try.underlying5
  have el : s.data.toList.length = s.size := Array.length_toList
  have EL : Hid (s.data.toList.length = s.size) := el
  clear el
  go_enter Try.func23, Try.ntmps23
  go_wp2
  clear hcv
  go_loopw [10] (fun i wr => ∃ k : Nat, k ≤ s.size ∧ i = .int .i64 k ∧ RowAt wr w.heap.size (mixL s.data.toList k) ∧ Below w.heap.size w wr ∧ w.heap.size < wr.heap.size) (fun i _ => s.size - (intOf i).toNat)
  case atStart =>
    refine ⟨0, Nat.zero_le _, rfl, by rw [mixL_zero]; exact bytes_row w s, ⟨rfl, rfl, rfl, ?_, fun k hk => Lib.bytesWorld_at_old w _ s k hk⟩, ?_⟩
    · rw [Lib.bytesWorld_size]; omega
    · rw [Lib.bytesWorld_size]; omega
  case round =>
    obtain ⟨k, hk, rfl, hrow, hbe, hN⟩ := hrel
    by_cases hlt : k < s.size
    · have hl := mixL_length s.data.toList k
      have hkl : k < (mixL s.data.toList k).length := by rw [hl]; have := EL.out; omega
      have hkl' : k < s.data.toList.length := by have := EL.out; omega
      obtain ⟨hc0, hf0⟩ := hrow k hkl
      rw [mixL_get _ _ hkl' hkl] at hc0
      have hc : wr.cell? ⟨w.heap.size, k, none⟩ = some (.int .u8 (s[k]).toNat) := hc0
      clear hc0 hl
      cases hb : isB ((s[k]).toNat : Int) 3
      · go_wp2_with (go_at_call 46; refine (isOneOf_any _ [3] 1 _ 0 1 _ rfl (by decide) (cells1 _ 3 87)).mono ?_; rintro e w' ⟨rfl, rfl⟩; rw [anyB_one, hb])
        go_roundw
        case rel =>
          refine ⟨k + 1, by omega, by go_num, ?_, hbe.alloc hbe.size _, by simp; omega⟩
          have e : mixL s.data.toList (k + 1) = mixL s.data.toList k := by
            rw [mixL_succ _ _ hkl']
            have e2 : lowB s.data.toList[k] = (mixL s.data.toList k)[k] := by
              rw [mixL_get _ _ hkl' hkl]; exact lowB_no _ hb
            rw [e2, List.set_getElem_self]
          rw [e]; exact hrow.alloc hN _
        case measure => simp [intOf]; omega
      · have h65 := isB3 hb
        go_wp2_with (go_at_call 46; refine (isOneOf_any _ [3] 1 _ 0 1 _ rfl (by decide) (cells1 _ 3 87)).mono ?_; rintro e w' ⟨rfl, rfl⟩; rw [anyB_one, hb])
        have hv : (Value.int IntKind.u8 (((s[k]).toNat : Int) - 65 + 97)) = Value.int IntKind.u8 ((lowB s[k]).toNat : Int) := by
          rw [lowB_yes _ hb]
          congr 1
          simp
          omega
        rw [hv]
        go_roundw
        case rel =>
          refine ⟨k + 1, by omega, by go_num, ?_, (hbe.setCell (Nat.le_refl _) _).alloc (by simp; exact hbe.size) _, by simp; omega⟩
          rw [mixL_succ _ _ hkl']
          exact (hrow.set k hkl _).alloc (by simpa using hN) _
        case measure => simp [intOf]; omega
    · have hcw := conv_row (cap := grownCap w s.size 0 5) hrow (show (mixL s.data.toList k).length = s.size by rw [mixL_length]; exact EL.out)
      rw [mixL_all _ _ (by have := EL.out; omega)] at hcw
      go_wp2
      go_ret
      exact ⟨rfl, hbe⟩
end Go.Proofs.Ytckhjemojopekaa
namespace Go.Proofs.Ytckhjemojopekaa
open Go.RowKit M

set_option maxHeartbeats 400000 in
theorem l1In_any (x a b : Int) (w : World) :
    Calls Try.prog 71 #[.int .i64 x, .int .i64 a, .int .i64 b] w fun e w' => e = .returned (.bool (inB x a b)) ∧ w' = w := by
  go_enter Try.func71, Try.ntmps71
  go_wp2
  all_goals
    go_ret
    refine ⟨ret_bool ?_, rfl⟩
    go_light
    unfold inB
    simp_all
    try omega

theorem wrap64_u8 (c : UInt8) : wrap64 (c.toNat : Int) = c.toNat := by
  have := c.toNat_lt
  unfold wrap64
  omega
end Go.Proofs.Ytckhjemojopekaa
namespace Go.Proofs.Ytckhjemojopekaa
open Go.RowKit M

set_option maxHeartbeats 400000 in
theorem l1Large_any (c : UInt8) (w : World) :
    Calls Try.prog 43 #[.int .u8 c.toNat] w fun e w' => e = .returned (.bool (isB c.toNat 3)) ∧ w' = w := by
  go_enter Try.func43, Try.ntmps43
  go_wp2_with (go_at_call 71; refine (l1In_any _ _ _ _).mono ?_; rintro e w' ⟨rfl, rfl⟩; rw [wrap64_u8, inB_large])
  go_ret
  exact ⟨rfl, rfl⟩
end Go.Proofs.Ytckhjemojopekaa
namespace Go.Proofs.Ytckhjemojopekaa
open Go.RowKit M

set_option maxHeartbeats 1000000 in
theorem specLower_any (s : ByteArray) (w : World) (hs : s.size ≤ 140737488355328) :
    Calls Try.prog 20 #[.string s] w fun e w' => e = .returned (.string ⟨(lowL s.data.toList).toArray⟩) ∧ Below w.heap.size w w' := by
  go_enter Try.func20, Try.ntmps20
  go_wp2
  go_loopw [3, 4] (fun v i wr => ∃ k : Nat, k ≤ s.size ∧ i = .int .i64 k ∧ wr.ownsRow w.heap.size 5 1 v k (Lib.byteCells (lowL (s.data.toList.take k))) ∧ Below w.heap.size w wr) (fun _ i _ => s.size - (intOf i).toNat)
  case atStart => exact ⟨0, Nat.zero_le _, rfl, World.ownsRow_made w #[] 0 (Nat.le_refl _) (by decide) rfl, (Below.refl _ _).alloc (Nat.le_refl _) _⟩
  case round =>
    obtain ⟨k, hk, rfl, hown, hbe⟩ := hrel
    by_cases hlt : k < s.size
    · have HL : Hid (lowL (s.data.toList.take (k + 1)) = lowL (s.data.toList.take k) ++ [lowB s[k]]) := lowL_snoc s k hlt
      cases hb : isB ((s[k]).toNat : Int) 3
      · go_wp2_with (first | (go_at_call 43; refine (l1Large_any _ _).mono ?_; rintro e w' ⟨rfl, rfl⟩; rw [hb]) | (at_builtin; refine wp_append_byte rfl _ _ rfl w.heap.size _ k _ rfl (hown.alloc _) _ (lowB s[k]) rfl ?c1 ?c2 ?c3 ?_))
        case c1 => rw [lowB_no _ hb]; simp
        case c2 => omega
        case c3 => have := hbe.size; simp; omega
        intro v1 w1 ho1 hb1
        rw [← HL.out] at ho1
        go_wp2
        go_roundw
        case rel => exact ⟨k + 1, by omega, by go_num, ho1, (hbe.alloc hbe.size _).trans hb1⟩
        case measure => simp [intOf]; omega
      · have hc := isB3 hb
        go_wp2_with (first | (go_at_call 43; refine (l1Large_any _ _).mono ?_; rintro e w' ⟨rfl, rfl⟩; rw [hb]) | (at_builtin; refine wp_append_byte rfl _ _ rfl w.heap.size _ k _ rfl (hown.alloc _) _ (lowB s[k]) rfl ?c1 ?c2 ?c3 ?_))
        case c1 => rw [lowB_yes _ hb]; simp
        case c2 => omega
        case c3 => have := hbe.size; simp; omega
        intro v1 w1 ho1 hb1
        rw [← HL.out] at ho1
        go_wp2
        go_roundw
        case rel => exact ⟨k + 1, by omega, by go_num, ho1, (hbe.alloc hbe.size _).trans hb1⟩
        case measure => simp [intOf]; omega
    · have hcv := conv_own hown
      go_wp2
      go_ret
      exact ⟨ret_str (by rw [take_all s k hlt]), hbe⟩
end Go.Proofs.Ytckhjemojopekaa
namespace Go.Proofs.Ytckhjemojopekaa
open Go.RowKit M
set_option linter.unusedVariables false

def dg (m : Nat) : UInt8 := UInt8.ofNat (48 + m % 10)
/-- The digits of a number, the last behind. -/
def mtL (n : Nat) : List UInt8 := if h : n = 0 then [] else mtL (n / 10) ++ [dg n]
termination_by n
decreasing_by omega
/-- The mark of a number. -/
def mt (n : Nat) : ByteArray := bytesOf (109 :: mtL n)

theorem mtL_zero : mtL 0 = [] := by rw [mtL]; simp
theorem mtL_step (n : Nat) (h : 0 < n) : mtL n = mtL (n / 10) ++ [dg n] := by rw [mtL, dif_neg (by omega)]
end Go.Proofs.Ytckhjemojopekaa
namespace Go.Proofs.Ytckhjemojopekaa
open Go.RowKit M
set_option linter.unusedVariables false

/-- A leaf: a cell's value, or a slice: of each element its leafs. -/
inductive Lf where
  | c (v : Value)
  | l (rows : List (List Lf))

/-- What an int or a byte is marked with. -/
def mkI (kd : IntKind) (k : Nat) : Int := match kd with
  | .u8 => ((k % 256 : Nat) : Int)
  | _ => (k : Int)
def mkV (k : Nat) : Value → Value
  | .int kd _ => .int kd (mkI kd k)
  | .bool _ => .bool ((k : Int) % 3 == 0)
  | .string _ => .string (mt k)
  | v => v
def szV : Value → Nat
  | .string s => s.size
  | _ => 0
def okV : Value → Prop
  | .string s => s.size ≤ maxLen
  | .int k n => (Lit.int k n).wf = true
  | _ => True

mutual
/-- How many marks it takes. -/
def cntF : Lf → Nat
  | .c _ => 1
  | .l rows => cntRs rows
def cntRs : List (List Lf) → Nat
  | [] => 0
  | r :: rs => cntR r + cntRs rs
def cntR : List Lf → Nat
  | [] => 0
  | x :: r => cntF x + cntR r
end
mutual
/-- Its size, as the laws count it. -/
def szF : Lf → Nat
  | .c v => szV v
  | .l rows => szRs rows
def szRs : List (List Lf) → Nat
  | [] => 0
  | r :: rs => 1 + szR r + szRs rs
def szR : List Lf → Nat
  | [] => 0
  | x :: r => szF x + szR r
end
mutual
/-- Its texts are short enough, and no element has more than twelve leafs. -/
def okF : Lf → Prop
  | .c v => okV v
  | .l rows => okRs rows ∧ rows.length ≤ maxLen
def okRs : List (List Lf) → Prop
  | [] => True
  | r :: rs => (okR r ∧ r.length ≤ 12) ∧ okRs rs
def okR : List Lf → Prop
  | [] => True
  | x :: r => okF x ∧ okR r
end
mutual
/-- Marked, from k on. -/
def mkF (k : Nat) : Lf → Lf
  | .c v => .c (mkV k v)
  | .l rows => .l (mkRs k rows)
def mkRs (k : Nat) : List (List Lf) → List (List Lf)
  | [] => []
  | r :: rs => mkR k r :: mkRs (k + cntR r) rs
def mkR (k : Nat) : List Lf → List Lf
  | [] => []
  | x :: r => mkF k x :: mkR (k + cntF x) r
end

mutual
theorem cnt_leF : ∀ x : Lf, okF x → cntF x ≤ 1 + 12 * szF x
  | .c v, _ => by unfold cntF; omega
  | .l rows, h => by
    unfold okF at h
    unfold cntF szF
    have := cnt_leRs rows h.1
    omega
theorem cnt_leRs : ∀ rows : List (List Lf), okRs rows → cntRs rows ≤ 12 * szRs rows
  | [], _ => by unfold cntRs; omega
  | r :: rs, h => by
    unfold okRs at h
    unfold cntRs szRs
    have h1 := cnt_leR r h.1.1
    have h2 := cnt_leRs rs h.2
    have h3 := h.1.2
    omega
theorem cnt_leR : ∀ r : List Lf, okR r → cntR r ≤ r.length + 12 * szR r
  | [], _ => by unfold cntR; omega
  | x :: r, h => by
    unfold okR at h
    unfold cntR szR
    have h1 := cnt_leF x h.1
    have h2 := cnt_leR r h.2
    rw [List.length_cons]
    omega
end

theorem cntRs_cons (r : List Lf) (rs : List (List Lf)) : cntRs (r :: rs) = cntR r + cntRs rs := by rw [cntRs]
theorem szRs_cons (r : List Lf) (rs : List (List Lf)) : szRs (r :: rs) = 1 + szR r + szRs rs := by rw [szRs]
theorem cntRs_append (a b : List (List Lf)) : cntRs (a ++ b) = cntRs a + cntRs b := by
  induction a with
  | nil => show cntRs b = cntRs [] + cntRs b; rw [cntRs]; omega
  | cons r a ih => rw [List.cons_append, cntRs_cons, cntRs_cons, ih]; omega
theorem szRs_append (a b : List (List Lf)) : szRs (a ++ b) = szRs a + szRs b := by
  induction a with
  | nil => show szRs b = szRs [] + szRs b; rw [szRs]; omega
  | cons r a ih => rw [List.cons_append, szRs_cons, szRs_cons, ih]; omega
theorem cntRs_one (r : List Lf) : cntRs [r] = cntR r := by rw [cntRs_cons, cntRs]; omega
theorem szRs_one (r : List Lf) : szRs [r] = 1 + szR r := by rw [szRs_cons, szRs]; omega
theorem mkRs_length (k : Nat) (rows : List (List Lf)) : (mkRs k rows).length = rows.length := by
  induction rows generalizing k with
  | nil => rw [mkRs]
  | cons r rs ih => rw [mkRs, List.length_cons, List.length_cons, ih]
theorem mkR_length (k : Nat) (r : List Lf) : (mkR k r).length = r.length := by
  induction r generalizing k with
  | nil => rw [mkR]
  | cons x r ih => rw [mkR, List.length_cons, List.length_cons, ih]
theorem szRs_mem (rows : List (List Lf)) (r : List Lf) (h : r ∈ rows) : szR r ≤ szRs rows := by
  induction rows with
  | nil => cases h
  | cons x l ih =>
    rw [szRs_cons]
    rcases List.mem_cons.1 h with rfl | h
    · omega
    · have := ih h; omega
theorem szRs_len (rows : List (List Lf)) : rows.length ≤ szRs rows := by
  induction rows with
  | nil => exact Nat.zero_le _
  | cons x l ih => rw [szRs_cons, List.length_cons]; omega
theorem okRs_mem (rows : List (List Lf)) (h : okRs rows) (r : List Lf) (hr : r ∈ rows) : okR r ∧ r.length ≤ 12 := by
  induction rows with
  | nil => cases hr
  | cons x l ih =>
    unfold okRs at h
    rcases List.mem_cons.1 hr with rfl | hr
    · exact h.1
    · exact ih h.2 hr
theorem okRs_of (rows : List (List Lf)) (h : ∀ r ∈ rows, okR r ∧ r.length ≤ 12) : okRs rows := by
  induction rows with
  | nil => unfold okRs; trivial
  | cons x l ih => unfold okRs; exact ⟨h x (List.mem_cons_self ..), ih fun r hr => h r (List.mem_cons_of_mem _ hr)⟩

section typed
variable {α : Type} (f : α → List Lf)
/-- Where the marks of element j begin. -/
def kAtF (k0 : Nat) (l : List α) (j : Nat) : Nat := k0 + cntRs ((l.take j).map f)
theorem kAtF_zero (k0 : Nat) (l : List α) : kAtF f k0 l 0 = k0 := by simp [kAtF, cntRs]
theorem kAtF_all (k0 : Nat) (l : List α) : kAtF f k0 l l.length = k0 + cntRs (l.map f) := by simp [kAtF]
theorem kAtF_next (k0 : Nat) (l : List α) (j : Nat) (hj : j < l.length) : kAtF f k0 l (j + 1) = kAtF f k0 l j + cntR (f l[j]) := by
  unfold kAtF
  rw [List.take_succ_eq_append_getElem hj, List.map_append, cntRs_append, List.map_cons, List.map_nil, cntRs_one]
  omega
theorem kAtF_le (k0 : Nat) (l : List α) (j : Nat) : k0 ≤ kAtF f k0 l j ∧ kAtF f k0 l j ≤ k0 + cntRs (l.map f) := by
  unfold kAtF
  have h : cntRs ((l.take j).map f) + cntRs ((l.drop j).map f) = cntRs (l.map f) := by
    rw [← cntRs_append, ← List.map_append, List.take_append_drop]
  omega
theorem szAtF_next (l : List α) (j : Nat) (hj : j < l.length) : szRs ((l.take (j + 1)).map f) = szRs ((l.take j).map f) + 1 + szR (f l[j]) := by
  rw [List.take_succ_eq_append_getElem hj, List.map_append, szRs_append, List.map_cons, List.map_nil, szRs_one]
  omega
theorem mkRs_at (k0 : Nat) (l : List α) (j : Nat) (hj : j < l.length) : (mkRs k0 (l.map f))[j]? = some (mkR (kAtF f k0 l j) (f l[j])) := by
  induction l generalizing k0 j with
  | nil => cases hj
  | cons x l ih =>
    rw [List.map_cons, mkRs]
    cases j with
    | zero => rw [kAtF_zero]; rfl
    | succ j =>
      rw [List.getElem?_cons_succ, ih (k0 + cntR (f x)) j (by simpa using hj)]
      have e : kAtF f (k0 + cntR (f x)) l j = kAtF f k0 (x :: l) (j + 1) := by
        unfold kAtF
        rw [List.take_succ_cons, List.map_cons, cntRs_cons]
        omega
      rw [e]
      rfl
theorem map_at (l : List α) (j : Nat) (hj : j < l.length) : (l.map f)[j]? = some (f l[j]) := by
  rw [List.getElem?_map, List.getElem?_eq_getElem hj]
  rfl
end typed
end Go.Proofs.Ytckhjemojopekaa
namespace Go.Proofs.Ytckhjemojopekaa
open Go.RowKit
set_option linter.unusedVariables false

/-- No block that was there is turned, but those of S. -/
structure Turn (S : Nat → Prop) (w w' : World) : Prop where
  os : w'.os = w.os
  tape : w'.tape = w.tape
  output : w'.output = w.output
  size : w.heap.size ≤ w'.heap.size
  block : ∀ i, i < w.heap.size → ¬ S i → w'.heap[i]? = w.heap[i]?
theorem Turn.refl (S : Nat → Prop) (w : World) : Turn S w w := ⟨rfl, rfl, rfl, Nat.le_refl _, fun _ _ _ => rfl⟩
theorem Turn.trans {S : Nat → Prop} {a b c : World} (h : Turn S a b) (k : Turn S b c) : Turn S a c :=
  ⟨k.os.trans h.os, k.tape.trans h.tape, k.output.trans h.output, Nat.le_trans h.size k.size, fun i hi hS => (k.block i (Nat.lt_of_lt_of_le hi h.size) hS).trans (h.block i hi hS)⟩
theorem Turn.wide {S T : Nat → Prop} {a b : World} (h : Turn S a b) (hT : ∀ x, S x → T x) : Turn T a b := ⟨h.os, h.tape, h.output, h.size, fun i hi hS => h.block i hi (fun e => hS (hT i e))⟩
theorem Turn.of_below {S : Nat → Prop} {a b : World} (h : Below a.heap.size a b) : Turn S a b := ⟨h.os, h.tape, h.output, h.size, fun i hi _ => h.block i hi⟩
theorem Turn.set {S : Nat → Prop} (w : World) (p : Addr) (v : Value) (h : S p.block) : Turn S w (w.setCell p v) := ⟨rfl, rfl, rfl, by simp, fun i _ hS => Below.heap_setCell w p v i (fun e => hS (by rw [e]; exact h))⟩
theorem Turn.below {S : Nat → Prop} {a b : World} {C : Nat} (h : Turn S a b) (hC : ∀ x, S x → C ≤ x) (hz : C ≤ a.heap.size) : Below C a b := ⟨h.os, h.tape, h.output, h.size, fun i hi => h.block i (by omega) (fun e => by have := hC i e; omega)⟩
theorem Turn.cell {S : Nat → Prop} {a b : World} (h : Turn S a b) {i : Nat} (hi : i < a.heap.size) (hS : ¬ S i) (o : Nat) : b.cell? ⟨i, o, none⟩ = a.cell? ⟨i, o, none⟩ := by
  have := h.block i hi hS
  simp only [World.cell?, this]
theorem Turn.frozen {S : Nat → Prop} {a b : World} (h : Turn S a b) {i : Nat} (hi : i < a.heap.size) (hS : ¬ S i) (o : Nat) : b.frozen? ⟨i, o, none⟩ = a.frozen? ⟨i, o, none⟩ := by
  have := h.block i hi hS
  simp only [World.frozen?, this]
end Go.Proofs.Ytckhjemojopekaa
