/-
  What the specification's l3First, l3Least do, and what is known of what they write in.
-/
import Derived.Test.YtkhnkockdfmkgaaGreatDoorSpecLines
import Derived.Test.YtkhnkockdfmkgaaGreatDoorSpecSplitB
import Derived.Test.YtkhnkockdfmkgaaGreatDoorSpecReq
import Derived.Test.YtkhnkockdfmkgaaGreatDoorSortHeads
import Derived.Test.YtkhnkockdfmkgaaGreatDoorReadLines
import Derived.Test.YtkhnkockdfmkgaaGreatDoorMathRead
import Derived.Test.YtkhnkockdfmkgaaGreatDoorInts
namespace Go.Proofs.YtkhnkockdfmkgaaGreatDoor
open Go.RowKit M
set_option linter.unusedVariables false

def intCells (l : List Int) : List Value := l.map (Value.int .i64)
theorem intCells_append (l k : List Int) : intCells (l ++ k) = intCells l ++ intCells k := by simp [intCells]
theorem infoInt : (Tryz.prog.info? 3).map (fun i => (i.zero, i.size, i.bytes)) = some (some (.int .i64 0), 1, 8) := by kernel_rfl
def RowsI (w : World) (B : Nat) (v : Value) (l : List Int) : Prop := w.ownsRow B 3 1 v l.length (intCells l)
/-- 'l = append(l, n)', and where the row lies then. -/
theorem wp_append_int2 {w : World} {ops : Array Oper} {rest : List Oper} {o : Oper} {a : Act} {Q : Exit → Act → World → Prop} (hgd : o.guard = none) (s x : Operand)
    (ho : o.op = .call { callee := .builtin .append, args := #[s, x], argTypes := #[36, 36] })
    (B : Nat) (v : Value) (n : Nat) (l : List Int) (hs : a.eval s = v) (hown : w.ownsRow B 3 1 v n (intCells l))
    (N : Nat) (c : Int) (hx : a.eval x = .slice (some ⟨N, 0, none⟩) 1 1) (hc0 : w.cell? ⟨N, 0, none⟩ = some (.int .i64 c)) (hlen : n + 1 ≤ 1099511627776) (hB : B ≤ w.heap.size)
    (h : ∀ g cap w', w'.ownsRow B 3 1 (.slice (some ⟨g, 0, none⟩) (n + 1) cap) (n + 1) (intCells (l ++ [c])) → w.grownBy w' v.ownBlock → (v.ownBlock = some g ∨ g = w.heap.size) → wpList Tryz.prog ops Q rest (a.put o.dst (.slice (some ⟨g, 0, none⟩) (n + 1) cap)) w') : wpList Tryz.prog ops Q (o :: rest) a w := by
  obtain ⟨i0, hi, hz0, hz1, hz2⟩ := info_parts infoInt
  have hnews : ∀ j u, [Value.int .i64 c][j]? = some u → w.cell? ((⟨N, 0, none⟩ : Addr).add j) = some u := by
    intro j u hj
    have e : ∀ k, (⟨N, 0, none⟩ : Addr).add k = ⟨N, k, none⟩ := fun k => by unfold Addr.add; split <;> simp_all
    rw [e]
    match j, hj with
    | 0, hj => simp at hj; subst hj; exact hc0
  have hone : ∀ u ∈ [Value.int .i64 c], u.oneCell' = true := by
    intro u hu; simp at hu; subst hu; rfl
  have hex := run_append_own (P := Tryz.prog) w B 36 o.type 3 i0 _ 1 8 Tryz.underlying36 hi hz0 hz1 hz2 rfl (by decide) v n _ hown ⟨N, 0, none⟩ 1 1 [.int .i64 c] rfl hnews hone (by unfold maxLen; omega) (by omega) hB
  obtain ⟨v', w', hrun, ho', hg, _⟩ := hex
  obtain ⟨g, cap, rfl⟩ : ∃ g cap, v' = .slice (some ⟨g, 0, none⟩) (n + 1) cap := by
    rcases ho'.2 with ⟨_, h0⟩ | ⟨g, cap, cur, hv, _⟩
    · omega
    · exact ⟨g, cap, hv⟩
  have hwhere : v.ownBlock = some g ∨ g = w.heap.size := by
    rcases hown.2 with ⟨rfl, h0⟩ | ⟨g1, cap1, cur1, rfl, hg1, hh1, hn1, hm1, hs1, ht1⟩
    · right
      have hr := run_append_nil (P := Tryz.prog) w 36 o.type 3 i0 _ Tryz.underlying36 hi hz0 ⟨N, 0, none⟩ 1 1 [.int .i64 c] (by rw [hz1]; rfl) hnews (by decide) (by decide) (by rw [hz2]; decide)
      rw [hr] at hrun
      have := congrArg (fun r => match r with | Result.ok (Value.slice (some a) _ _) _ => a.block | _ => 0) hrun
      exact this.symm
    · by_cases hroom : n + 1 ≤ cap1
      · left
        have hr := run_append_room (P := Tryz.prog) w 36 o.type 3 i0 Tryz.underlying36 hi g1 n cap1 cur1 hh1 ⟨N, 0, none⟩ 1 1 [.int .i64 c] (by rw [hz1]; rfl) hnews hone hroom (by rw [hz1, hs1]; simp only [List.length_cons, List.length_nil]; omega)
        rw [hr] at hrun
        have := congrArg (fun r => match r with | Result.ok (Value.slice (some a) _ _) _ => a.block | _ => 0) hrun
        have : g1 = g := this
        rw [← this]; rfl
      · right
        have hr := run_append_grow (P := Tryz.prog) w 36 o.type 3 i0 _ Tryz.underlying36 hi hz0 ⟨g1, 0, none⟩ n cap1 (intCells l) (by rw [hz1]; exact hown.1) (fun j u hu => hown.cells (g := g1) rfl j u hu) ⟨N, 0, none⟩ 1 1 [.int .i64 c] (by rw [hz1]; rfl) hnews (by omega) (by omega) (by rw [hz2]; exact growslice_fits (by omega) (by omega))
        rw [hr] at hrun
        have := congrArg (fun r => match r with | Result.ok (Value.slice (some a) _ _) _ => a.block | _ => 0) hrun
        exact this.symm
  refine wpList_plain hgd fun K hK => ?_
  unfold Oper.wp execOp
  simp only [ho, resolve, invoke, builtin, Sem.run_bind, Sem.run_pure, Result.andThen_ok, List.map_toArray, List.map_cons, List.map_nil, hs, hx, hrun]
  exact hK _ _ (h g cap w' (by rw [intCells_append]; exact ho') hg hwhere)

/-- What the specification keeps, in a block of its own, and the lines that it reads. -/
def FrR (C N : Nat) (w0 : World) (m p : ByteArray) (os : List Hd) (z t : Int) (cs : List Int) (lv : Value) (ls : List ByteArray) (W : World) : Prop :=
  ∃ hv cv, W.heap[N]? = some (Obj.cells #[.string m, .string p, hv, .string ⟨#[]⟩, .int .i64 z, .int .i64 t, cv] 81) ∧ RowsH W (N + 1) hv os ∧ RowsI W (N + 1) cv cs ∧ W.ownsRow (N + 1) 9 1 lv ls.length (strCells ls) ∧ ApartV hv cv ∧ ApartV hv lv ∧ ApartV cv lv ∧ Below C w0 W ∧ C ≤ N
/-- The same when it has read these heads. -/
def FrS (C N : Nat) (w0 : World) (m p : ByteArray) (hs : List Hd) (lv : Value) (ls : List ByteArray) (W : World) : Prop :=
  FrR C N w0 m p (othOf hs) (sizeF hs) (toldF hs) (codesF hs) lv ls W
theorem FrR.set_size {C N : Nat} {w0 W : World} {m p : ByteArray} {os : List Hd} {z t : Int} {cs : List Int} {lv : Value} {ls : List ByteArray} (h : FrR C N w0 m p os z t cs lv ls W) (z' : Int) : FrR C N w0 m p os z' t cs lv ls (W.setCell ⟨N, 4, none⟩ (.int .i64 z')) := by
  obtain ⟨hv, cv, h1, h2, h3, h4, h5, h6, h7, h8, h9⟩ := h
  have hN : N < N + 1 := Nat.lt_succ_self _
  refine ⟨hv, cv, ?_, ownsRow_setCell_below (a := ⟨N, 4, none⟩) h2 hN _, ownsRow_setCell_below (a := ⟨N, 4, none⟩) h3 hN _, ownsRow_setCell_below (a := ⟨N, 4, none⟩) h4 hN _, h5, h6, h7, h8.setCell (p := ⟨N, 4, none⟩) h9 _, h9⟩
  have := set_heap h1 4 (.int .i64 z')
  simpa using this
theorem FrR.set_told {C N : Nat} {w0 W : World} {m p : ByteArray} {os : List Hd} {z t : Int} {cs : List Int} {lv : Value} {ls : List ByteArray} (h : FrR C N w0 m p os z t cs lv ls W) (t' : Int) : FrR C N w0 m p os z t' cs lv ls (W.setCell ⟨N, 5, none⟩ (.int .i64 t')) := by
  obtain ⟨hv, cv, h1, h2, h3, h4, h5, h6, h7, h8, h9⟩ := h
  have hN : N < N + 1 := Nat.lt_succ_self _
  refine ⟨hv, cv, ?_, ownsRow_setCell_below (a := ⟨N, 5, none⟩) h2 hN _, ownsRow_setCell_below (a := ⟨N, 5, none⟩) h3 hN _, ownsRow_setCell_below (a := ⟨N, 5, none⟩) h4 hN _, h5, h6, h7, h8.setCell (p := ⟨N, 5, none⟩) h9 _, h9⟩
  have := set_heap h1 5 (.int .i64 t')
  simpa using this
theorem FrR.cells {C N : Nat} {w0 W : World} {m p : ByteArray} {os : List Hd} {z t : Int} {cs : List Int} {lv : Value} {ls : List ByteArray} (h : FrR C N w0 m p os z t cs lv ls W) :
    W.cell? ⟨N, 4, none⟩ = some (.int .i64 z) ∧ W.cell? ⟨N, 5, none⟩ = some (.int .i64 t) ∧ W.frozen? ⟨N, 4, none⟩ = false ∧ W.frozen? ⟨N, 5, none⟩ = false := by
  obtain ⟨hv, cv, h1, _⟩ := h
  refine ⟨?_, ?_, ?_, ?_⟩
  · unfold World.cell?; rw [h1]; rfl
  · unfold World.cell?; rw [h1]; rfl
  · unfold World.frozen?; rw [h1]; rfl
  · unfold World.frozen?; rw [h1]; rfl
theorem FrR.bel {C N : Nat} {w0 W : World} {m p : ByteArray} {os : List Hd} {z t : Int} {cs : List Int} {lv : Value} {ls : List ByteArray} (h : FrR C N w0 m p os z t cs lv ls W) : Below C w0 W ∧ N < W.heap.size := by
  obtain ⟨_, _, h1, _, _, _, _, _, _, h8, _⟩ := h
  exact ⟨h8, (Array.getElem?_eq_some_iff.1 h1).1⟩
theorem FrS.next {C N : Nat} {w0 W W' : World} {m p : ByteArray} {hs : List Hd} {lv : Value} {ls : List ByteArray} (h : FrS C N w0 m p hs lv ls W) (hb : Below W.heap.size W W') : FrS C N w0 m p hs lv ls W' := by
  obtain ⟨hv, cv, h1, h2, h3, h4, h5, h6, h7, h8, h9⟩ := h
  have hlt := (Array.getElem?_eq_some_iff.1 h1).1
  exact ⟨hv, cv, (hb.block _ hlt).trans h1, ownsH_below h2 hb, owns_below h3 hb, owns_below h4 hb, h5, h6, h7, h8.trans (hb.mono (Nat.le_of_lt (Nat.lt_of_le_of_lt h9 hlt))), h9⟩
theorem FrS.first {C N : Nat} {w0 W : World} {m p : ByteArray} {hs : List Hd} {lv : Value} {ls : List ByteArray} (h : FrS C N w0 m p hs lv ls W) (m' p' : ByteArray) : FrS C N w0 m' p' hs lv ls ((W.setCell ⟨N, 0, none⟩ (.string m')).setCell ⟨N, 1, none⟩ (.string p')) := by
  obtain ⟨hv, cv, h1, h2, h3, h4, h5, h6, h7, h8, h9⟩ := h
  have hN : N < N + 1 := Nat.lt_succ_self _
  refine ⟨hv, cv, ?_, ?_, ?_, ?_, h5, h6, h7, ?_, h9⟩
  · have := set_heap (set_heap h1 0 (.string m')) 1 (.string p')
    simpa using this
  · exact ownsRow_setCell_below (a := ⟨N, 1, none⟩) (ownsRow_setCell_below (a := ⟨N, 0, none⟩) h2 hN _) hN _
  · exact ownsRow_setCell_below (a := ⟨N, 1, none⟩) (ownsRow_setCell_below (a := ⟨N, 0, none⟩) h3 hN _) hN _
  · exact ownsRow_setCell_below (a := ⟨N, 1, none⟩) (ownsRow_setCell_below (a := ⟨N, 0, none⟩) h4 hN _) hN _
  · exact (h8.setCell (p := ⟨N, 0, none⟩) h9 _).setCell (p := ⟨N, 1, none⟩) h9 _
theorem FrS.cell {C N : Nat} {w0 W : World} {m p : ByteArray} {hs : List Hd} {lv : Value} {ls : List ByteArray} (h : FrS C N w0 m p hs lv ls W) :
    W.cell? ⟨N, 0, none⟩ = some (.string m) ∧ W.cell? ⟨N, 1, none⟩ = some (.string p) ∧ W.cell? ⟨N, 4, none⟩ = some (.int .i64 (sizeF hs)) ∧ W.cell? ⟨N, 5, none⟩ = some (.int .i64 (toldF hs)) ∧ (∀ k, k < 7 → W.frozen? ⟨N, k, none⟩ = false) := by
  obtain ⟨hv, cv, h1, _⟩ := h
  refine ⟨?_, ?_, ?_, ?_, fun k hk => ?_⟩
  · unfold World.cell?; rw [h1]; rfl
  · unfold World.cell?; rw [h1]; rfl
  · unfold World.cell?; rw [h1]; rfl
  · unfold World.cell?; rw [h1]; rfl
  · unfold World.frozen?; rw [h1]; rfl
/-- A row of texts, as it is read. -/
theorem rowS_cell {w : World} {B g n cap : Nat} {ls : List ByteArray} (h : w.ownsRow B 9 1 (.slice (some ⟨g, 0, none⟩) n cap) n (strCells ls)) (j : Nat) (hj : j < ls.length) : w.cell? ⟨g, j, none⟩ = some (.string ls[j]) := by
  have := h.cells (g := g) rfl j (.string ls[j]) (by simp [strCells, List.getElem?_eq_getElem hj])
  have e : (⟨g, 0, none⟩ : Addr).add j = ⟨g, j, none⟩ := by unfold Addr.add; split <;> simp_all
  first | exact this | (rw [e] at this; exact this)

theorem cutsB_le (c : UInt8) : ∀ (l : List UInt8), ∀ x ∈ cutsB c l, x.length ≤ l.length := by
  intro l
  induction l with
  | nil => intro x hx; simp [cutsB] at hx; subst hx; simp
  | cons y r ih =>
    intro x hx
    rw [cutsB] at hx
    split at hx
    · rcases List.mem_cons.1 hx with rfl | hx
      · simp
      · have := ih x hx; simp; omega
    · split at hx
      · simp at hx; subst hx; simp
      · rename_i l q e
        rcases List.mem_cons.1 hx with rfl | hx
        · have := ih l (by rw [e]; simp); simp; omega
        · have := ih x (by rw [e]; simp [hx]); simp; omega
theorem cell_far {w : World} {g N i j : Nat} {v u : Value} (h : w.cell? ⟨g, i, none⟩ = some v) (hne : g ≠ N) : (w.setCell ⟨N, j, none⟩ u).cell? ⟨g, i, none⟩ = some v :=
  (World.cell?_setCell_other _ _ _ _ (fun e => by have := congrArg Addr.block e; simp only at this; omega)).trans h
/-- What l3First hands back. -/
def FirstIs (C N : Nat) (w0 : World) (hs : List Hd) (lv : Value) (ls : List ByteArray) (r : Option (ByteArray × ByteArray)) (e : Ending) (W : World) : Prop :=
  match r with
  | none => e = .returned (.bool false) ∧ Below C w0 W
  | some (m, p) => e = .returned (.bool true) ∧ FrS C N w0 m p hs lv ls W
theorem proto_bneF (c : List UInt8) : (((bytesOf c).toList) != [72, 84, 84, 80, 47, 49, 46, 49]) = !decide (c = proto) := by
  rw [ByteArray.toList_eq]
  show (c != proto) = _
  by_cases h : c = proto <;> simp [h]
theorem proto_beqF (c : List UInt8) : (((bytesOf c).toList) == [72, 84, 84, 80, 47, 49, 46, 49]) = decide (c = proto) := by
  rw [ByteArray.toList_eq]
  show (c == proto) = _
  by_cases h : c = proto <;> simp [h]
set_option maxHeartbeats 4000000 in
theorem l3First_any (C N : Nat) (w0 : World) (m p : ByteArray) (hs : List Hd) (lv : Value) (ls : List ByteArray) (line : ByteArray) (w : World) (h : FrS C N w0 m p hs lv ls w) (hl : line.size ≤ 1048576) :
    Calls Tryz.prog 86 #[.pointer (some ⟨N, 0, none⟩), .string line] w fun e w' => FirstIs C N w0 hs lv ls (firstS line.data.toList) e w' := by
  have HF := hide h
  have HSp := hide (l2SplitB_any line w hl)
  clear h
  go_enter Tryz.func86, Tryz.ntmps86
  go_wp2_with fail
  refine HSp.out.mono ?_
  rintro e w1 ⟨⟨g, cap, rfl, hown⟩, b1⟩
  have hF1 := HF.out.next b1
  have hB1 : Below C w0 w1 := by obtain ⟨_, _, _, _, _, _, _, _, _, h8, _⟩ := hF1; exact h8
  have HF1 := hide hF1
  have HB1 := hide hB1
  obtain ⟨hNlt, hgN⟩ : N < w.heap.size ∧ w.heap.size ≤ g := by
    refine ⟨?_, (hown.lt g rfl).1⟩
    obtain ⟨_, _, h1, _⟩ := HF.out
    exact (Array.getElem?_eq_some_iff.1 h1).1
  obtain ⟨c0, c1, _, _, fr⟩ := hF1.cell
  have f0 := fr 0 (by decide)
  have f1 := fr 1 (by decide)
  unfold piecesB at hown ⊢
  obtain ⟨L, hL⟩ : ∃ L, cutsB 32 line.data.toList = L := ⟨_, rfl⟩
  have HL := hide hL
  rw [hL] at hown ⊢
  clear hL fr hF1 hB1 HSp b1
  by_cases h3 : L.length = 3
  · obtain ⟨a, b, c, rfl⟩ : ∃ a b c, L = [a, b, c] := by
      match L, h3 with
      | [a, b, c], _ => exact ⟨a, b, c, rfl⟩
    have r0 := rowS_cell hown 0 (by simp)
    have r1 := rowS_cell hown 1 (by simp)
    have r2 := rowS_cell hown 2 (by simp)
    simp only [List.map_cons, List.map_nil, List.getElem_cons_zero, List.getElem_cons_succ] at r0 r1 r2
    have hln : ([bytesOf a, bytesOf b, bytesOf c] : List ByteArray).length = 3 := rfl
    simp only [List.map_cons, List.map_nil]
    rw [hln]
    have hgd : w1.heap.size ≥ 0 := Nat.zero_le _
    have pb := proto_bneF c
    have pe := proto_beqF c
    have za : (bytesOf a).size ≤ maxLen ∧ (bytesOf b).size ≤ maxLen := by
      have ha := cutsB_le 32 line.data.toList a (by rw [HL.out]; simp)
      have hb := cutsB_le 32 line.data.toList b (by rw [HL.out]; simp)
      have el : line.data.toList.length = line.size := Array.length_toList
      have e1 : (bytesOf a).size = a.length := by simp [bytesOf, ByteArray.size]
      have e2 : (bytesOf b).size = b.length := by simp [bytesOf, ByteArray.size]
      rw [e1, e2]
      unfold maxLen
      omega
    have HM := hide (fun (W : World) => l3Method_any (bytesOf a) W za.1)
    have HT := hide (fun (W : World) => l3Target_any (bytesOf b) W za.2)
    clear za hgd
    by_cases hc : c = proto
    · rw [decide_eq_true hc] at pb pe
      have hfs : firstS line.data.toList = if methB (bytesOf a) = true ∧ targB (bytesOf b) = true then some (bytesOf a, bytesOf b) else none := by
        unfold firstS; rw [HL.out]; simp [hc]
      have HFs := hide hfs
      clear hfs h3 hc
      obtain ⟨w2, hw2⟩ : ∃ w2, w1.setCell ⟨N, 0, none⟩ (.string (bytesOf a)) = w2 := ⟨_, rfl⟩
      obtain ⟨w3, hw3⟩ : ∃ w3, w2.setCell ⟨N, 1, none⟩ (.string (bytesOf b)) = w3 := ⟨_, rfl⟩
      have hF3 := HF1.out.first (bytesOf a) (bytesOf b)
      rw [hw2, hw3] at hF3
      have hB3 : Below C w0 w3 := by obtain ⟨_, _, _, _, _, _, _, _, _, h8, _⟩ := hF3; exact h8
      have HF3 := hide hF3
      have HB3 := hide hB3
      have hne : g ≠ N := by omega
      have t0 : w2.cell? ⟨g, 0, none⟩ = some (.string (bytesOf a)) := by rw [← hw2]; exact cell_far r0 hne
      have t1 : w2.cell? ⟨g, 1, none⟩ = some (.string (bytesOf b)) := by rw [← hw2]; exact cell_far r1 hne
      have u0 : w3.cell? ⟨g, 0, none⟩ = some (.string (bytesOf a)) := by rw [← hw3]; exact cell_far t0 hne
      have u1 : w3.cell? ⟨g, 1, none⟩ = some (.string (bytesOf b)) := by rw [← hw3]; exact cell_far t1 hne
      have v1 : w2.cell? ⟨N, 1, none⟩ = some (.string p) := by rw [← hw2]; exact (World.cell?_setCell_other _ _ _ _ (by simp)).trans c1
      have v2 : w2.frozen? ⟨N, 1, none⟩ = false := by
        rw [← hw2]
        obtain ⟨_, _, h1, _⟩ := HF1.out
        have := set_heap h1 0 (.string (bytesOf a))
        unfold World.frozen?; rw [this]; rfl
      clear hF3 hB3 hown
      cases hm : methB (bytesOf a)
      · have HE : Hid (firstS line.data.toList = none) := hide (by rw [HFs.out, hm]; simp)
        clear HFs
        go_wp2_with (first | (go_at_call 119; refine (HM.out _).mono ?_; rintro e w' ⟨rfl, rfl⟩; rw [hm]) | (go_at_call 120; refine (HT.out _).mono ?_; rintro e w' ⟨rfl, rfl⟩))
        go_ret
        rw [HE.out]
        exact ⟨rfl, HB3.out⟩
      · cases ht : targB (bytesOf b)
        · have HE : Hid (firstS line.data.toList = none) := hide (by rw [HFs.out, ht]; simp)
          clear HFs
          go_wp2_with (first | (go_at_call 119; refine (HM.out _).mono ?_; rintro e w' ⟨rfl, rfl⟩; rw [hm]) | (go_at_call 120; refine (HT.out _).mono ?_; rintro e w' ⟨rfl, rfl⟩; rw [ht]))
          go_ret
          rw [HE.out]
          exact ⟨rfl, HB3.out⟩
        · have HE : Hid (firstS line.data.toList = some (bytesOf a, bytesOf b)) := hide (by rw [HFs.out, hm, ht]; simp)
          clear HFs
          go_wp2_with (first | (go_at_call 119; refine (HM.out _).mono ?_; rintro e w' ⟨rfl, rfl⟩; rw [hm]) | (go_at_call 120; refine (HT.out _).mono ?_; rintro e w' ⟨rfl, rfl⟩; rw [ht]))
          go_ret
          rw [HE.out]
          exact ⟨rfl, HF3.out⟩
    · rw [decide_eq_false hc] at pb pe
      have HE : Hid (firstS line.data.toList = none) := hide (by unfold firstS; rw [HL.out]; simp [hc])
      clear h3 hc hown
      go_wp2
      go_ret
      rw [HE.out]
      exact ⟨rfl, HB1.out⟩
  · have HE : Hid (firstS line.data.toList = none) := hide (by
      unfold firstS; rw [HL.out]
      split
      · exact absurd rfl h3
      · rfl)
    have e : (L.map bytesOf).length = L.length := List.length_map _
    rw [e]
    obtain ⟨n, hn⟩ : ∃ n, L.length = n := ⟨_, rfl⟩
    rw [hn] at h3 ⊢
    have hn1 : ((n : Int) == 3) = false := by apply beq_eq_false_iff_ne.2; omega
    have hn2 : ((n : Int) != 3) = true := by simp only [bne, hn1]; rfl
    clear h3 e hn hown
    go_wp2
    go_ret
    rw [HE.out]
    exact ⟨rfl, HB1.out⟩
end Go.Proofs.YtkhnkockdfmkgaaGreatDoor
