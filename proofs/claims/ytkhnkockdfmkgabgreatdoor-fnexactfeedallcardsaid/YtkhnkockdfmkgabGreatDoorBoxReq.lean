/-
  Rows of bytes that the call itself made: what string(b) gives of one; where the walk wants it.
  What the program's Lower does.
  Rows of heads that the call itself made: one more behind, and what they hold.
  A request that lies in a box of the call's own.
-/
import Derived.Test.YtkhnkockdfmkgabGreatDoorRows
import Derived.WalkKit
import Derived.WalkSpells
import Derived.WalkLawsBesides
import Derived.Deep.Light
import Derived.Lib.BufferWrite
import Derived.Laws.IdiomStrings
import Derived.Laws.BytesArg
import Derived.Test.YtkhnkockdfmkgabGreatDoorSpecVal
import Derived.Lib.ConvBytes
import Derived.WalkSmall
import Derived.Laws.OwnMore
namespace Go.Proofs.YtkhnkockdfmkgabGreatDoor
open Go.RowKit

theorem ret_str {l m : List UInt8} (h : l = m) : Ending.returned (.string ⟨l.toArray⟩) = .returned (.string ⟨m.toArray⟩) := by rw [h]

/-- 'string(b)' of a row of bytes that the call owns: its bytes; the world is as it was. -/
theorem conv_own {w : World} {B n : Nat} {v : Value} {l : List UInt8} (h : w.ownsRow B 5 1 v n (Lib.byteCells l)) :
    (convert 22 9 v).run Tryz.prog w = .ok (.string ⟨l.toArray⟩) w := by
  have hn : n = l.length := by have := h.1; rw [Lib.byteCells_length] at this; omega
  subst hn
  rcases h.2 with ⟨rfl, h0⟩ | ⟨g, cap, cur, rfl, _, hg, _, _, _, htk⟩
  · have : l = [] := List.length_eq_zero_iff.1 h0
    subst this
    exact run_convert_bytes_nil w 22 5 Tryz.underlying22 Tryz.underlying5 0 0 9 Tryz.underlying9
  · refine run_convert_bytes_back w 22 9 5 _ cap l Tryz.underlying22 Tryz.underlying5 Tryz.underlying9 ?_
    intro j hj
    exact h.cells (g := g) rfl j _ (by simp [Lib.byteCells, List.getElem?_eq_getElem hj])

/-- What grew by writes to a row that the call owns is as it was below. -/
theorem below_grown {w w' : World} {B n : Nat} {e : TypeId} {v : Value} {xs : List Value} (h : w.ownsRow B e 1 v n xs) (hB : B ≤ w.heap.size) (hg : w.grownBy w' v.ownBlock) : Below B w w' :=
  ⟨hg.os, hg.tape, hg.output, hg.size, fun k hk => hg.block k (Nat.lt_of_lt_of_le hk hB) (fun e => by have := h.lt k e.symm; omega)⟩

theorem info_byte : (Tryz.prog.info? 5).map (fun i => (i.zero, i.size, i.bytes)) = some (some (.int .u8 0), 1, 1) := by kernel_rfl

/-- 'b = append(b, c)' on a row of bytes that the call owns. -/
theorem wp_append_byte {w : World} {ops : Array Oper} {rest : List Oper} {o : Oper} {a : Act} {Q : Exit → Act → World → Prop} (hgd : o.guard = none) (s x : Operand)
    (ho : o.op = .call { callee := .builtin .append, args := #[s, x], argTypes := #[22, 22] })
    (B : Nat) (v : Value) (n : Nat) (l : List UInt8) (hs : a.eval s = v) (hown : w.ownsRow B 5 1 v n (Lib.byteCells l))
    (ad : Addr) (c : UInt8) (hx : a.eval x = .slice (some ad) 1 1) (hcell : w.cell? ad = some (.int .u8 c.toNat)) (hlen : n + 1 ≤ 140737488355328) (hB : B ≤ w.heap.size)
    (h : ∀ v' w', w'.ownsRow B 5 1 v' (n + 1) (Lib.byteCells (l ++ [c])) → Below B w w' → wpList Tryz.prog ops Q rest (a.put o.dst v') w') : wpList Tryz.prog ops Q (o :: rest) a w := by
  obtain ⟨i0, hi, hz0, hz1, hz2⟩ := info_parts info_byte
  refine wpList_append_own w hgd s x 22 ho B 5 i0 (.int .u8 0) 1 1 Tryz.underlying22 hi hz0 hz1 hz2 rfl (by decide) v n _ hs hown ad 1 1 [.int .u8 c.toNat] hx rfl ?_ ?_ ?_ ?_ hB ?_
  · intro j u hj
    match j, hj with
    | 0, hj =>
      simp at hj; subst hj
      have : ad.add 0 = ad := by unfold Addr.add; split <;> simp_all
      rw [this]; exact hcell
  · intro u hu; simp at hu; subst hu; rfl
  · unfold maxLen; omega
  · omega
  · intro v' w' ho' hg _
    refine h v' w' ?_ (below_grown hown hB hg)
    rw [Lib.byteCells_append]
    exact ho'

/-- A row of bytes in block N, none of them frozen. -/
def RowAt (w : World) (N : Nat) (l : List UInt8) : Prop := ∀ j (hj : j < l.length), w.cell? ⟨N, j, none⟩ = some (.int .u8 l[j].toNat) ∧ w.frozen? ⟨N, j, none⟩ = false

theorem RowAt.alloc {w : World} {N : Nat} {l : List UInt8} (h : RowAt w N l) (hN : N < w.heap.size) (o : Obj) : RowAt (w.alloc o) N l := fun j hj =>
  ⟨(World.cell?_alloc_past o N j hN).trans (h j hj).1, (World.frozen?_alloc_past o N j hN).trans (h j hj).2⟩

theorem RowAt.set {w : World} {N : Nat} {l : List UInt8} (h : RowAt w N l) (k : Nat) (hk : k < l.length) (c : UInt8) : RowAt (w.setCell ⟨N, k, none⟩ (.int .u8 c.toNat)) N (l.set k c) := by
  intro j hj
  have hj' : j < l.length := by simpa using hj
  refine ⟨?_, by rw [World.frozen?_setCell]; exact (h j hj').2⟩
  by_cases e : k = j
  · subst e
    rw [World.cell?_setCell_same _ _ _ (h k hk).1]
    simp
  · have hne : (⟨N, k, none⟩ : Addr) ≠ ⟨N, j, none⟩ := fun e' => e (congrArg Addr.off e')
    rw [World.cell?_setCell_other _ _ _ _ hne, (h j hj').1]
    simp [e]

/-- 'string(b)' of such a row. -/
theorem conv_row {w : World} {N n cap : Nat} {l : List UInt8} (h : RowAt w N l) (hn : l.length = n) :
    (convert 22 9 (.slice (some ⟨N, 0, none⟩) n cap)).run Tryz.prog w = .ok (.string ⟨l.toArray⟩) w := by
  subst hn
  refine run_convert_bytes_back w 22 9 5 _ cap l Tryz.underlying22 Tryz.underlying5 Tryz.underlying9 ?_
  intro j hj
  have : (⟨N, 0, none⟩ : Addr).add j = ⟨N, j, none⟩ := by
    unfold Addr.add; split <;> simp_all
  rw [this]; exact (h j hj).1

/-- 'string(b)' of the end of such a row. -/
theorem conv_at {w : World} {N o n cap : Nat} {pre l : List UInt8} (h : RowAt w N (pre ++ l)) (ho : pre.length = o) (hn : l.length = n) :
    (convert 22 9 (.slice (some ⟨N, o, none⟩) n cap)).run Tryz.prog w = .ok (.string ⟨l.toArray⟩) w := by
  subst hn ho
  refine run_convert_bytes_back w 22 9 5 _ cap l Tryz.underlying22 Tryz.underlying5 Tryz.underlying9 ?_
  intro j hj
  have e : (⟨N, pre.length, none⟩ : Addr).add j = ⟨N, pre.length + j, none⟩ := by
    unfold Addr.add; split <;> simp_all
  rw [e, (h (pre.length + j) (by simp; omega)).1]
  simp

end Go.Proofs.YtkhnkockdfmkgabGreatDoor
namespace Go.Proofs.YtkhnkockdfmkgabGreatDoor
open Go.RowKit M

theorem bytes_row (w : World) (s : ByteArray) : RowAt (Lib.bytesWorld w 5 s) w.heap.size s.data.toList := by
  intro j hj
  have e : s.data.toList.length = s.size := Array.length_toList
  refine ⟨?_, ?_⟩
  · rw [Lib.bytesWorld_cell w 5 s j (by omega)]
    simp [List.getD, List.getElem?_eq_getElem hj]
  · have hsz : j < (Lib.bytesCells w 5 s).size := by
      simp only [Lib.bytesCells, Array.size_append, Array.size_map]
      have : s.data.size = s.size := rfl
      omega
    simp [World.frozen?, Lib.bytesWorld_at_new]
    omega

set_option maxHeartbeats 1000000 in
theorem lower_any (s : ByteArray) (w : World) (hs : s.size ≤ 140737488355328) :
    Calls Tryz.prog 77 #[.string s] w fun e w' => e = .returned (.string ⟨(lowL s.data.toList).toArray⟩) ∧ Below w.heap.size w w' := by
  have hcv := Lib.run_convert_string_bytes (P := Tryz.prog) w 9 22 5 s Tryz.underlying9 Tryz.underlying22 Tryz.underlying5
  have el : s.data.toList.length = s.size := Array.length_toList
  have EL : Hid (s.data.toList.length = s.size) := el
  clear el
  go_enter Tryz.func77, Tryz.ntmps77
  go_wp2
  clear hcv
  go_loopw [10] (fun i wr => ∃ k : Nat, k ≤ s.size ∧ i = .int .i64 k ∧ RowAt wr w.heap.size (mixL s.data.toList k) ∧ Below w.heap.size w wr ∧ w.heap.size < wr.heap.size) (fun i _ => s.size - (intOf i).toNat)
  case atStart =>
    refine ⟨0, Nat.zero_le _, rfl, by rw [mixL_zero]; exact bytes_row w s, ⟨rfl, rfl, rfl, ?_, fun k hk => Lib.bytesWorld_at_old w _ s k hk⟩, ?_⟩
    · rw [Lib.bytesWorld_size]; omega
    · rw [Lib.bytesWorld_size]; omega
  case round =>
    obtain ⟨k, hk, rfl, hrow, hbe, hN⟩ := hrel
    by_cases hlt : k < s.size
    · have hl := mixL_length s.data.toList k
      have hkl : k < (mixL s.data.toList k).length := by rw [hl]; have := EL.out; omega
      have hkl' : k < s.data.toList.length := by have := EL.out; omega
      obtain ⟨hc0, hf0⟩ := hrow k hkl
      rw [mixL_get _ _ hkl' hkl] at hc0
      have hc : wr.cell? ⟨w.heap.size, k, none⟩ = some (.int .u8 (s[k]).toNat) := hc0
      clear hc0 hl
      cases hb : isB ((s[k]).toNat : Int) 3
      · go_wp2_with (go_at_call 93; refine (isOneOf_any _ [3] 1 _ 0 1 _ rfl (by decide) (cells1 _ 3 111)).mono ?_; rintro e w' ⟨rfl, rfl⟩; rw [anyB_one, hb])
        go_roundw
        case rel =>
          refine ⟨k + 1, by omega, by go_num, ?_, hbe.alloc hbe.size _, by simp; omega⟩
          have e : mixL s.data.toList (k + 1) = mixL s.data.toList k := by
            rw [mixL_succ _ _ hkl']
            have e2 : lowB s.data.toList[k] = (mixL s.data.toList k)[k] := by
              rw [mixL_get _ _ hkl' hkl]; exact lowB_no _ hb
            rw [e2, List.set_getElem_self]
          rw [e]; exact hrow.alloc hN _
        case measure => simp [intOf]; omega
      · have h65 := isB3 hb
        go_wp2_with (go_at_call 93; refine (isOneOf_any _ [3] 1 _ 0 1 _ rfl (by decide) (cells1 _ 3 111)).mono ?_; rintro e w' ⟨rfl, rfl⟩; rw [anyB_one, hb])
        have hv : (Value.int IntKind.u8 (((s[k]).toNat : Int) - 65 + 97)) = Value.int IntKind.u8 ((lowB s[k]).toNat : Int) := by
          rw [lowB_yes _ hb]
          congr 1
          simp
          omega
        rw [hv]
        go_roundw
        case rel =>
          refine ⟨k + 1, by omega, by go_num, ?_, (hbe.setCell (Nat.le_refl _) _).alloc (by simp; exact hbe.size) _, by simp; omega⟩
          rw [mixL_succ _ _ hkl']
          exact (hrow.set k hkl _).alloc (by simpa using hN) _
        case measure => simp [intOf]; omega
    · have hcw := conv_row (cap := grownCap w s.size 0 5) hrow (show (mixL s.data.toList k).length = s.size by rw [mixL_length]; exact EL.out)
      rw [mixL_all _ _ (by have := EL.out; omega)] at hcw
      go_wp2
      go_ret
      exact ⟨rfl, hbe⟩
end Go.Proofs.YtkhnkockdfmkgabGreatDoor
namespace Go.Proofs.YtkhnkockdfmkgabGreatDoor
open Go.RowKit M
set_option linter.unusedVariables false

def hdCells (hs : List Hd) : List Value := hs.flatMap fun h => [.string h.1, .string h.2]
theorem hdCells_length (hs : List Hd) : (hdCells hs).length = hs.length * 2 := by
  induction hs with
  | nil => rfl
  | cons h r ih => simp only [hdCells, List.flatMap_cons, List.length_append, List.length_cons, List.length_nil] at *; omega
theorem hdCells_append (hs ts : List Hd) : hdCells (hs ++ ts) = hdCells hs ++ hdCells ts := by simp [hdCells]
theorem hdCells_at (hs : List Hd) : ∀ j (hj : j < hs.length), (hdCells hs)[j * 2]? = some (.string hs[j].1) ∧ (hdCells hs)[j * 2 + 1]? = some (.string hs[j].2) := by
  induction hs with
  | nil => intro j hj; cases hj
  | cons h r ih =>
    intro j hj
    have e : hdCells (h :: r) = .string h.1 :: .string h.2 :: hdCells r := rfl
    rw [e]
    cases j with
    | zero => exact ⟨rfl, rfl⟩
    | succ j =>
      have h1 := ih j (by simpa using hj)
      have e1 : (j + 1) * 2 = j * 2 + 1 + 1 := by omega
      rw [e1]
      simp only [List.getElem?_cons_succ, List.getElem_cons_succ]
      exact h1

theorem infoHd : (Tryz.prog.info? 72).map (fun i => (i.zero, i.size, i.bytes)) = some (some (.agg #[.string ByteArray.empty, .string ByteArray.empty]), 2, 32) := by kernel_rfl

/-- A row that the call owns stays where only new memory is laid. -/
theorem ownsH_below {B : Nat} {v : Value} {n : Nat} {xs : List Value} {w w' : World} (h : w.ownsRow B 72 2 v n xs) (hb : Below w.heap.size w w') : w'.ownsRow B 72 2 v n xs :=
  h.kept (row := none) ⟨hb.os, hb.tape, hb.output, hb.size, fun k hk _ => hb.block k hk⟩ (Classical.em _)
theorem belowH_grown {w w' : World} {B n : Nat} {v : Value} {xs : List Value} (h : w.ownsRow B 72 2 v n xs) (hB : B ≤ w.heap.size) (hg : w.grownBy w' v.ownBlock) : Below B w w' :=
  ⟨hg.os, hg.tape, hg.output, hg.size, fun k hk => hg.block k (Nat.lt_of_lt_of_le hk hB) (fun e => by have := h.lt k e.symm; omega)⟩

/-- 'l = append(l, h)' on a row of heads that the call owns. -/
theorem wp_append_head {w : World} {ops : Array Oper} {rest : List Oper} {o : Oper} {a : Act} {Q : Exit → Act → World → Prop} (hgd : o.guard = none) (s x : Operand)
    (ho : o.op = .call { callee := .builtin .append, args := #[s, x], argTypes := #[45, 45] })
    (B : Nat) (v : Value) (n : Nat) (l : List Hd) (hs : a.eval s = v) (hown : w.ownsRow B 72 2 v n (hdCells l))
    (N : Nat) (c : Hd) (hx : a.eval x = .slice (some ⟨N, 0, none⟩) 1 1) (hc0 : w.cell? ⟨N, 0, none⟩ = some (.string c.1)) (hc1 : w.cell? ⟨N, 1, none⟩ = some (.string c.2)) (hlen : n + 1 ≤ 1099511627776) (hB : B ≤ w.heap.size)
    (h : ∀ g cap w', w'.ownsRow B 72 2 (.slice (some ⟨g, 0, none⟩) (n + 1) cap) (n + 1) (hdCells (l ++ [c])) → Below B w w' → wpList Tryz.prog ops Q rest (a.put o.dst (.slice (some ⟨g, 0, none⟩) (n + 1) cap)) w') : wpList Tryz.prog ops Q (o :: rest) a w := by
  obtain ⟨i0, hi, hz0, hz1, hz2⟩ := info_parts infoHd
  refine wpList_append_own w hgd s x 45 ho B 72 i0 _ 2 32 Tryz.underlying45 hi hz0 hz1 hz2 rfl (by decide) v n _ hs hown ⟨N, 0, none⟩ 1 1 [.string c.1, .string c.2] hx rfl ?_ ?_ ?_ ?_ hB ?_
  · intro j u hj
    have e : ∀ k, (⟨N, 0, none⟩ : Addr).add k = ⟨N, k, none⟩ := fun k => by unfold Addr.add; split <;> simp_all
    rw [e]
    match j, hj with
    | 0, hj => simp at hj; subst hj; exact hc0
    | 1, hj => simp at hj; subst hj; exact hc1
  · intro u hu; simp at hu; rcases hu with rfl | rfl <;> rfl
  · unfold maxLen; omega
  · omega
  · intro v' w' ho' hg _
    obtain ⟨g, cap, rfl⟩ : ∃ g cap, v' = .slice (some ⟨g, 0, none⟩) (n + 1) cap := by
      rcases ho'.2 with ⟨_, h0⟩ | ⟨g, cap, cur, hv, _⟩
      · omega
      · exact ⟨g, cap, hv⟩
    refine h g cap w' ?_ (belowH_grown hown hB hg)
    rw [hdCells_append]
    exact ho'

theorem ownsH_hds {w : World} {B g n c : Nat} {hs : List Hd} (h : w.ownsRow B 72 2 (.slice (some ⟨g, 0, none⟩) n c) n (hdCells hs)) (hn : n = hs.length) : Hds w w.heap.size (some ⟨g, 0, none⟩) hs := fun h0 =>
  ⟨g, 0, rfl, (h.lt g rfl).2, fun j hj => by
    have hx := hdCells_at hs j hj
    have hl := hdCells_length hs
    rw [Nat.zero_add]
    exact ⟨by rw [h.cellAt (j * 2) (by omega)]; exact hx.1, by rw [h.cellAt (j * 2 + 1) (by omega)]; exact hx.2⟩⟩
theorem ownsH_cap {w : World} {B g n c : Nat} {xs : List Value} (h : w.ownsRow B 72 2 (.slice (some ⟨g, 0, none⟩) n c) n xs) : n ≤ c ∧ c ≤ maxLen := by
  rcases h.2 with ⟨e, _⟩ | ⟨g', cap', cur, hv, _, _, h1, h2, _⟩
  · cases e
  · cases hv; exact ⟨h1, h2⟩
theorem ownsH_grown {w w' : World} {B N g n c : Nat} {xs : List Value} (h : w.ownsRow B 72 2 (.slice (some ⟨g, 0, none⟩) n c) n xs) (hg : w.grownBy w' (some N)) (hN : N < B) : w'.ownsRow B 72 2 (.slice (some ⟨g, 0, none⟩) n c) n xs :=
  h.kept hg (.inr (by have := (h.lt g rfl).1; simp [Value.ownBlock]; omega))

/-- Few short heads. -/
def FewH (n : Nat) (hs : List Hd) : Prop := hs.length ≤ n ∧ ∀ h ∈ hs, h.1.size ≤ 60 ∧ h.2.size ≤ 60
theorem FewH.snoc {n : Nat} {hs : List Hd} {h : Hd} (H : FewH n hs) (h1 : h.1.size ≤ 60) (h2 : h.2.size ≤ 60) : FewH (n + 1) (hs ++ [h]) := ⟨by have := H.1; simp; omega, fun x hx => by
  rcases List.mem_append.1 hx with hx | hx
  · exact H.2 x hx
  · simp at hx; subst hx; exact ⟨h1, h2⟩⟩
theorem FewH.mono {n m : Nat} {hs : List Hd} (h : FewH n hs) (hm : n ≤ m) : FewH m hs := ⟨Nat.le_trans h.1 hm, h.2⟩
theorem FewH.short {n : Nat} {hs : List Hd} (h : FewH n hs) : ShortH hs := fun x hx => ⟨Nat.le_trans (h.2 x hx).1 (by decide), Nat.le_trans (h.2 x hx).2 (by decide)⟩
end Go.Proofs.YtkhnkockdfmkgabGreatDoor
namespace Go.Proofs.YtkhnkockdfmkgabGreatDoor
open Go.RowKit M

/-- The box N holds this request. -/
def BoxR (w : World) (N : Nat) (a : Option Addr) (cap : Nat) (r : Rq) : Prop :=
  N < w.heap.size ∧ w.cell? ⟨N, 0, none⟩ = some (.string r.m) ∧ w.cell? ⟨N, 1, none⟩ = some (.string r.p) ∧ w.cell? ⟨N, 2, none⟩ = some (.slice a r.hs.length cap) ∧ w.cell? ⟨N, 3, none⟩ = some (.string r.b)

theorem BoxR.below {w w' : World} {N C : Nat} {a : Option Addr} {cap : Nat} {r : Rq} (h : BoxR w N a cap r) (hb : Below C w w') (hC : N < C) : BoxR w' N a cap r := by
  obtain ⟨h0, h1, h2, h3, h4⟩ := h
  exact ⟨Nat.lt_of_lt_of_le h0 hb.size, (hb.cell (p := ⟨N, 0, none⟩) hC).trans h1, (hb.cell (p := ⟨N, 1, none⟩) hC).trans h2, (hb.cell (p := ⟨N, 2, none⟩) hC).trans h3, (hb.cell (p := ⟨N, 3, none⟩) hC).trans h4⟩
theorem BoxR.next {w w' : World} {N : Nat} {a : Option Addr} {cap : Nat} {r : Rq} (h : BoxR w N a cap r) (hb : Below w.heap.size w w') : BoxR w' N a cap r := h.below hb h.1

theorem BoxR.made (w : World) (a : Option Addr) (cap : Nat) (r : Rq) (T : TypeId) : BoxR (w.alloc (Obj.cells #[Value.string r.m, Value.string r.p, Value.slice a r.hs.length cap, Value.string r.b] T)) w.heap.size a cap r := ⟨by simp, by simp, by simp, by simp, by simp⟩
theorem BoxR.alloc {w : World} {N : Nat} {a : Option Addr} {cap : Nat} {r : Rq} (h : BoxR w N a cap r) (o : Obj) : BoxR (w.alloc o) N a cap r := h.next ((Below.refl _ _).alloc (Nat.le_refl _) _)
theorem Hds.alloc {w : World} {B : Nat} {a : Option Addr} {hs : List Hd} (h : Hds w B a hs) (hB : B ≤ w.heap.size) (o : Obj) : Hds (w.alloc o) B a hs := h.below ((Below.refl w.heap.size w).alloc (Nat.le_refl _) o) hB

/-- The cells of two boxes, one by one. -/
theorem keep8 {w : World} {N M : Nat} {a b : Option Addr} {cap cap' : Nat} {r q : Rq} (hx : BoxR w N a cap r) (hy : BoxR w M b cap' q) :
    w.cell? ⟨N, 0, none⟩ = some (.string r.m) ∧ w.cell? ⟨N, 1, none⟩ = some (.string r.p) ∧ w.cell? ⟨N, 2, none⟩ = some (.slice a r.hs.length cap) ∧ w.cell? ⟨N, 3, none⟩ = some (.string r.b) ∧ w.cell? ⟨M, 0, none⟩ = some (.string q.m) ∧ w.cell? ⟨M, 1, none⟩ = some (.string q.p) ∧ w.cell? ⟨M, 2, none⟩ = some (.slice b q.hs.length cap') ∧ w.cell? ⟨M, 3, none⟩ = some (.string q.b) := by
  obtain ⟨_, h1, h2, h3, h4⟩ := hx
  obtain ⟨_, g1, g2, g3, g4⟩ := hy
  exact ⟨h1, h2, h3, h4, g1, g2, g3, g4⟩
theorem keep4 {w : World} {N : Nat} {a : Option Addr} {cap : Nat} {r : Rq} (hx : BoxR w N a cap r) :
    w.cell? ⟨N, 0, none⟩ = some (.string r.m) ∧ w.cell? ⟨N, 1, none⟩ = some (.string r.p) ∧ w.cell? ⟨N, 2, none⟩ = some (.slice a r.hs.length cap) ∧ w.cell? ⟨N, 3, none⟩ = some (.string r.b) := by
  obtain ⟨_, h1, h2, h3, h4⟩ := hx
  exact ⟨h1, h2, h3, h4⟩
theorem BoxR.drew {w : World} {N : Nat} {a : Option Addr} {cap : Nat} {r : Rq} (h : BoxR w N a cap r) : BoxR w.drew N a cap r := h
theorem below_drew {w w' : World} {C : Nat} (h : Below C w w') : Below C w w'.drew := ⟨h.os, h.tape, h.output, h.size, h.block⟩
theorem Hds.drew {w : World} {B : Nat} {a : Option Addr} {hs : List Hd} (h : Hds w B a hs) : Hds w.drew B a hs := h

/-- The box N holds this head. -/
def BoxH (w : World) (N : Nat) (x y : ByteArray) : Prop := N < w.heap.size ∧ w.cell? ⟨N, 0, none⟩ = some (.string x) ∧ w.cell? ⟨N, 1, none⟩ = some (.string y)
theorem BoxH.next {w w' : World} {N : Nat} {x y : ByteArray} (h : BoxH w N x y) (hb : Below w.heap.size w w') : BoxH w' N x y :=
  ⟨Nat.lt_of_lt_of_le h.1 hb.size, (hb.cell (p := ⟨N, 0, none⟩) h.1).trans h.2.1, (hb.cell (p := ⟨N, 1, none⟩) h.1).trans h.2.2⟩
theorem BoxH.made (w : World) (x y : ByteArray) (T : TypeId) : BoxH (w.alloc (Obj.cells #[Value.string x, Value.string y] T)) w.heap.size x y := ⟨by simp, by simp, by simp⟩
end Go.Proofs.YtkhnkockdfmkgabGreatDoor
