/-
  What the specification keeps, when a code or a head is laid behind.
-/
import Derived.Test.YtkhnkockdfmkgaaGreatDoorSpecFrame
import Derived.Deep.RegionLaw
namespace Go.Proofs.YtkhnkockdfmkgaaGreatDoor
open Go.RowKit M
set_option linter.unusedVariables false

theorem apart_grown {w : World} {B g n cap s m : Nat} {e : TypeId} {v v2 : Value} {xs : List Value} (h : ApartV v v2) (h2 : w.ownsRow B e s v2 m xs) (hw : v.ownBlock = some g ∨ g = w.heap.size) : ApartV (.slice (some ⟨g, 0, none⟩) n cap) v2 := by
  right
  intro he
  have e' : v2.ownBlock = some g := he.symm
  rcases hw with hw | hw
  · rcases h with h | h
    · rw [hw] at h; cases h
    · exact h (by rw [hw, e'])
  · have := (World.ownsRow.lt h2 g e').2
    omega
theorem row_kept {w w' : World} {B s m : Nat} {e : TypeId} {v v2 : Value} {xs : List Value} (h : w.ownsRow B e s v2 m xs) (ha : ApartV v v2) (hg : w.grownBy w' v.ownBlock) : w'.ownsRow B e s v2 m xs :=
  World.ownsRow.kept h hg (by
    rcases ha.symm with h | h
    · exact .inl h
    · exact .inr h)
theorem row_alloc {w : World} {B s m : Nat} {e : TypeId} {v : Value} {xs : List Value} (h : w.ownsRow B e s v m xs) (o : Obj) : (w.alloc o).ownsRow B e s v m xs := h.alloc o
theorem row_grown {w w' : World} {B n s : Nat} {e : TypeId} {v : Value} {xs : List Value} (h : w.ownsRow B e s v n xs) (hB : B ≤ w.heap.size) (hg : w.grownBy w' v.ownBlock) : Below B w w' :=
  ⟨hg.os, hg.tape, hg.output, hg.size, fun k hk => hg.block k (Nat.lt_of_lt_of_le hk hB) (fun e => by have := h.lt k e.symm; omega)⟩

/-- A code is laid behind. -/
theorem fr_codes {C N : Nat} {w0 W Wa W' : World} {m p : ByteArray} {os : List Hd} {z t : Int} {cs : List Int} {hv cv lv : Value} {ls : List ByteArray} {g cap : Nat} {c : Int}
    (h1 : W.heap[N]? = some (Obj.cells #[.string m, .string p, hv, .string ⟨#[]⟩, .int .i64 z, .int .i64 t, cv] 81)) (h2 : RowsH W (N + 1) hv os) (h3 : RowsI W (N + 1) cv cs) (h4 : W.ownsRow (N + 1) 9 1 lv ls.length (strCells ls)) (h5 : ApartV hv cv) (h6 : ApartV hv lv) (h7 : ApartV cv lv) (h8 : Below C w0 W) (h9 : C ≤ N)
    (ha : Below W.heap.size W Wa) (hg : Wa.grownBy W' cv.ownBlock) (hown : W'.ownsRow (N + 1) 3 1 (.slice (some ⟨g, 0, none⟩) (cs.length + 1) cap) (cs.length + 1) (intCells (cs ++ [c]))) (hwh : cv.ownBlock = some g ∨ g = Wa.heap.size) :
    FrR C N w0 m p os z t (cs ++ [c]) lv ls (W'.setCell ⟨N, 6, none⟩ (.slice (some ⟨g, 0, none⟩) (cs.length + 1) cap)) := by
  have hN : N < N + 1 := Nat.lt_succ_self _
  have hlt := (Array.getElem?_eq_some_iff.1 h1).1
  have h3a : Wa.ownsRow (N + 1) 3 1 cv cs.length (intCells cs) := owns_below h3 ha
  have h2a : RowsH Wa (N + 1) hv os := ownsH_below h2 ha
  have h4a := owns_below h4 ha
  have hbg : Below (N + 1) Wa W' := row_grown h3a (Nat.le_trans hlt ha.size) hg
  have h1' : W'.heap[N]? = _ := (hbg.block N hN).trans ((ha.block N hlt).trans h1)
  have hb' : Below C w0 W' := (h8.trans (ha.mono (by omega))).trans (hbg.mono (by omega))
  refine ⟨hv, .slice (some ⟨g, 0, none⟩) (cs.length + 1) cap, ?_, ?_, ?_, ?_, ?_, h6, ?_, hb'.setCell (p := ⟨N, 6, none⟩) h9 _, h9⟩
  · have := set_heap h1' 6 (.slice (some ⟨g, 0, none⟩) (cs.length + 1) cap)
    simpa using this
  · exact ownsRow_setCell_below (a := ⟨N, 6, none⟩) (row_kept h2a h5.symm hg) hN _
  · unfold RowsI
    rw [List.length_append]
    exact ownsRow_setCell_below (a := ⟨N, 6, none⟩) hown hN _
  · exact ownsRow_setCell_below (a := ⟨N, 6, none⟩) (row_kept h4a h7 hg) hN _
  · exact (apart_grown h5.symm h2a hwh).symm
  · exact apart_grown h7 h4a hwh
/-- A head is laid behind. -/
theorem fr_heads {C N : Nat} {w0 W Wa W' : World} {m p : ByteArray} {os : List Hd} {z t : Int} {cs : List Int} {hv cv lv : Value} {ls : List ByteArray} {g cap : Nat} {c : Hd}
    (h1 : W.heap[N]? = some (Obj.cells #[.string m, .string p, hv, .string ⟨#[]⟩, .int .i64 z, .int .i64 t, cv] 81)) (h2 : RowsH W (N + 1) hv os) (h3 : RowsI W (N + 1) cv cs) (h4 : W.ownsRow (N + 1) 9 1 lv ls.length (strCells ls)) (h5 : ApartV hv cv) (h6 : ApartV hv lv) (h7 : ApartV cv lv) (h8 : Below C w0 W) (h9 : C ≤ N)
    (ha : Below W.heap.size W Wa) (hg : Wa.grownBy W' hv.ownBlock) (hown : W'.ownsRow (N + 1) 65 2 (.slice (some ⟨g, 0, none⟩) (os.length + 1) cap) (os.length + 1) (hdCells (os ++ [c]))) (hwh : hv.ownBlock = some g ∨ g = Wa.heap.size) :
    FrR C N w0 m p (os ++ [c]) z t cs lv ls (W'.setCell ⟨N, 2, none⟩ (.slice (some ⟨g, 0, none⟩) (os.length + 1) cap)) := by
  have hN : N < N + 1 := Nat.lt_succ_self _
  have hlt := (Array.getElem?_eq_some_iff.1 h1).1
  have h3a : Wa.ownsRow (N + 1) 3 1 cv cs.length (intCells cs) := owns_below h3 ha
  have h2a : Wa.ownsRow (N + 1) 65 2 hv os.length (hdCells os) := ownsH_below h2 ha
  have h4a := owns_below h4 ha
  have hbg : Below (N + 1) Wa W' := row_grown h2a (Nat.le_trans hlt ha.size) hg
  have h1' : W'.heap[N]? = _ := (hbg.block N hN).trans ((ha.block N hlt).trans h1)
  have hb' : Below C w0 W' := (h8.trans (ha.mono (by omega))).trans (hbg.mono (by omega))
  refine ⟨.slice (some ⟨g, 0, none⟩) (os.length + 1) cap, cv, ?_, ?_, ?_, ?_, ?_, ?_, h7, hb'.setCell (p := ⟨N, 2, none⟩) h9 _, h9⟩
  · have := set_heap h1' 2 (.slice (some ⟨g, 0, none⟩) (os.length + 1) cap)
    simpa using this
  · unfold RowsH
    rw [List.length_append]
    exact ownsRow_setCell_below (a := ⟨N, 2, none⟩) hown hN _
  · exact ownsRow_setCell_below (a := ⟨N, 2, none⟩) (row_kept h3a h5 hg) hN _
  · exact ownsRow_setCell_below (a := ⟨N, 2, none⟩) (row_kept h4a h6 hg) hN _
  · exact apart_grown h5 h3a hwh
  · exact apart_grown h6 h4a hwh
theorem FrR.next {C N : Nat} {w0 W W' : World} {m p : ByteArray} {os : List Hd} {z t : Int} {cs : List Int} {lv : Value} {ls : List ByteArray} (h : FrR C N w0 m p os z t cs lv ls W) (hb : Below W.heap.size W W') : FrR C N w0 m p os z t cs lv ls W' := by
  obtain ⟨hv, cv, h1, h2, h3, h4, h5, h6, h7, h8, h9⟩ := h
  have hlt := (Array.getElem?_eq_some_iff.1 h1).1
  exact ⟨hv, cv, (hb.block _ hlt).trans h1, ownsH_below h2 hb, owns_below h3 hb, owns_below h4 hb, h5, h6, h7, h8.trans (hb.mono (Nat.le_of_lt (Nat.lt_of_le_of_lt h9 hlt))), h9⟩
/-- The same at one step of a drawn region. -/
theorem step_append_head2 {ops : Array Oper} {o : Oper} {a : Act} {w : World} {K : Act → World → Prop} {Q : Exit → Act → World → Prop} {E : Prop} (hgd : o.guard = none) (s x : Operand)
    (ho : o.op = .call { callee := .builtin .append, args := #[s, x], argTypes := #[24, 24] })
    (B : Nat) (v : Value) (n : Nat) (l : List Hd) (hs : a.eval s = v) (hown : w.ownsRow B 65 2 v n (hdCells l))
    (N : Nat) (c : Hd) (hx : a.eval x = .slice (some ⟨N, 0, none⟩) 1 1) (hc0 : w.cell? ⟨N, 0, none⟩ = some (.string c.1)) (hc1 : w.cell? ⟨N, 1, none⟩ = some (.string c.2)) (hlen : n + 1 ≤ 1099511627776) (hB : B ≤ w.heap.size)
    (h : ∀ g cap w', w'.ownsRow B 65 2 (.slice (some ⟨g, 0, none⟩) (n + 1) cap) (n + 1) (hdCells (l ++ [c])) → w.grownBy w' v.ownBlock → (v.ownBlock = some g ∨ g = w.heap.size) → K (a.put o.dst (.slice (some ⟨g, 0, none⟩) (n + 1) cap)) w') :
    if Region.wanted o (yielded ops a.tmps) = true then Oper.wp Tryz.prog o a w K Q else E := by
  have hwt : Region.wanted o (yielded ops a.tmps) = true := by simp [Region.wanted, hgd]
  rw [if_pos hwt]
  obtain ⟨i0, hi, hz0, hz1, hz2⟩ := info_parts infoHd
  have hnews : ∀ j u, [Value.string c.1, Value.string c.2][j]? = some u → w.cell? ((⟨N, 0, none⟩ : Addr).add j) = some u := by
    intro j u hj
    have e : ∀ k, (⟨N, 0, none⟩ : Addr).add k = ⟨N, k, none⟩ := fun k => by unfold Addr.add; split <;> simp_all
    rw [e]
    match j, hj with
    | 0, hj => simp at hj; subst hj; exact hc0
    | 1, hj => simp at hj; subst hj; exact hc1
  have hone : ∀ u ∈ [Value.string c.1, Value.string c.2], u.oneCell' = true := by
    intro u hu; simp at hu; rcases hu with rfl | rfl <;> rfl
  have hex := run_append_own (P := Tryz.prog) w B 24 o.type 65 i0 _ 2 32 Tryz.underlying24 hi hz0 hz1 hz2 rfl (by decide) v n _ hown ⟨N, 0, none⟩ 1 1 [.string c.1, .string c.2] rfl hnews hone (by unfold maxLen; omega) (by omega) hB
  obtain ⟨v', w', hrun, ho', hg, _⟩ := hex
  obtain ⟨g, cap, rfl⟩ : ∃ g cap, v' = .slice (some ⟨g, 0, none⟩) (n + 1) cap := by
    rcases ho'.2 with ⟨_, h0⟩ | ⟨g, cap, cur, hv, _⟩
    · omega
    · exact ⟨g, cap, hv⟩
  have hwhere : v.ownBlock = some g ∨ g = w.heap.size := by
    rcases hown.2 with ⟨rfl, h0⟩ | ⟨g1, cap1, cur1, rfl, hg1, hh1, hn1, hm1, hs1, ht1⟩
    · right
      have hr := run_append_nil (P := Tryz.prog) w 24 o.type 65 i0 _ Tryz.underlying24 hi hz0 ⟨N, 0, none⟩ 1 1 [.string c.1, .string c.2] (by rw [hz1]; rfl) hnews (by decide) (by decide) (by rw [hz2]; decide)
      rw [hr] at hrun
      have := congrArg (fun r => match r with | Result.ok (Value.slice (some a) _ _) _ => a.block | _ => 0) hrun
      exact this.symm
    · by_cases hroom : n + 1 ≤ cap1
      · left
        have hr := run_append_room (P := Tryz.prog) w 24 o.type 65 i0 Tryz.underlying24 hi g1 n cap1 cur1 hh1 ⟨N, 0, none⟩ 1 1 [.string c.1, .string c.2] (by rw [hz1]; rfl) hnews hone hroom (by rw [hz1, hs1]; simp only [List.length_cons, List.length_nil]; omega)
        rw [hr] at hrun
        have := congrArg (fun r => match r with | Result.ok (Value.slice (some a) _ _) _ => a.block | _ => 0) hrun
        have : g1 = g := this
        rw [← this]; rfl
      · right
        have hr := run_append_grow (P := Tryz.prog) w 24 o.type 65 i0 _ Tryz.underlying24 hi hz0 ⟨g1, 0, none⟩ n cap1 (hdCells l) (by rw [hz1]; exact hown.1) (fun j u hu => hown.cells (g := g1) rfl j u hu) ⟨N, 0, none⟩ 1 1 [.string c.1, .string c.2] (by rw [hz1]; rfl) hnews (by omega) (by omega) (by rw [hz2]; exact growslice_fits (by omega) (by omega))
        rw [hr] at hrun
        have := congrArg (fun r => match r with | Result.ok (Value.slice (some a) _ _) _ => a.block | _ => 0) hrun
        exact this.symm
  unfold Oper.wp execOp
  simp only [ho, resolve, invoke, builtin, Sem.run_bind, Sem.run_pure, Result.andThen_ok, List.map_toArray, List.map_cons, List.map_nil, hs, hx, hrun]
  exact h g cap w' (by rw [hdCells_append]; exact ho') hg hwhere
end Go.Proofs.YtkhnkockdfmkgaaGreatDoor
