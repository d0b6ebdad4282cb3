/-
  What the program's ParseNum does.
  Rows of heads that the call itself made: one more behind, and what they hold.
  Rows of heads that the call owns.
  What the program's tellsLength and tellsCoding do.
-/
import Derived.Test.YtkhnkockdfmkgaaDoorAllOf
import Derived.Test.YtkhnkockdfmkgaaDoorSpecVal
import Derived.Test.YtkhnkockdfmkgaaDoorShelf
import Derived.Lib.ConvBytes
import Derived.Test.YtkhnkockdfmkgaaDoorExtract
import Derived.WalkSmall
import Derived.Laws.OwnMore
import Derived.Laws.Append
import Derived.Laws.AppendOwn
namespace Go.Proofs.YtkhnkockdfmkgaaDoor
open Go.RowKit M

theorem atoi_calls (s : ByteArray) (w : World) (hd : digs s.data.toList = true) (h0 : 0 < s.size) (h7 : s.size ≤ 7) :
    Calls Tryd.prog 57 #[.string s] w fun e w' => e = .returned (.tuple #[.int .i64 (decVal s.data.toList), .nilIface]) ∧ Below w.heap.size w w' := by
  refine (Tryd.strconv_Atoi s (decVal s.data.toList : Int) (by omega) (atoi_val _ hd (by rw [len_list]; omega)) w).mono ?_
  rintro e w' ⟨rfl, t, rfl⟩
  exact ⟨rfl, below_bytes _ _ _⟩

set_option maxHeartbeats 1000000 in
theorem parseNum_any (s : ByteArray) (most : Int) (w : World) (hs : s.size ≤ maxLen) :
    Calls Tryd.prog 45 #[.string s, .int .i64 most] w fun e w' => e = .returned (.tuple #[.int .i64 (parseNum s.data.toList most).1, .bool (parseNum s.data.toList most).2]) ∧ Below w.heap.size w w' := by
  have hs' := hs
  unfold maxLen at hs'
  cases hin : inB (s.size : Int) 1 7
  · have HQ : Hid (parseNum s.data.toList most = (0, false)) := parseNum_no (not_size hin)
    have h : s.size < 1 ∨ 7 < s.size := by simp [inB] at hin; omega
    clear hin
    rcases h with h | h
    · go_enter Tryd.func45, Tryd.ntmps45
      go_wp2
      go_ret2
      exact ⟨ret_two (by rw [HQ.out]), Below.refl _ _⟩
    · have h' : ¬ s.size < 1 := by omega
      go_enter Tryd.func45, Tryd.ntmps45
      go_wp2
      go_ret2
      exact ⟨ret_two (by rw [HQ.out]), Below.refl _ _⟩
  · have h0 : 0 < s.size := by simp [inB] at hin; omega
    have h7 : ¬ 7 < s.size := by simp [inB] at hin; omega
    have h1n : ¬ s.size < 1 := by omega
    have HIN : Hid (inB (s.size : Int) 1 7 = true) := hin
    clear hin
    cases hd : allB s.data.toList [4]
    · have HQ : Hid (parseNum s.data.toList most = (0, false)) := parseNum_no (not_digs hd)
      go_enter Tryd.func45, Tryd.ntmps45
      go_wp2_with (go_at_call 56; refine (allOf_any s [4] 1 _ 0 1 _ rfl hs (by decide) (cells1 w 4 77)).mono ?_; rintro e w' ⟨rfl, rfl⟩; rw [hd])
      go_ret2
      exact ⟨ret_two (by rw [HQ.out]), (Below.refl _ _).alloc (Nat.le_refl _) _⟩
    · have HD : Hid (digs s.data.toList = true) := hd
      have hrest : (1 < s.size → (((s[0]).toNat : Int) == 48) = false) → Calls Tryd.prog 45 #[.string s, .int .i64 most] w fun e w' => e = .returned (.tuple #[.int .i64 (parseNum s.data.toList most).1, .bool (parseNum s.data.toList most).2]) ∧ Below w.heap.size w w' := by
        intro hz
        have hv : decVal s.data.toList < 100000000 := by
          have h1 := decVal_lt _ hd
          have h3 := Nat.pow_le_pow_right (show 0 < 10 by decide) (show s.data.toList.length ≤ 8 by rw [len_list]; omega)
          omega
        by_cases hm : most < (decVal s.data.toList : Int)
        · have HQ : Hid (parseNum s.data.toList most = (0, false)) := parseNum_no (not_most hm)
          by_cases h1 : 1 < s.size
          · have hz' := hz h1
            have h1' : (1 : Int) < s.size := by omega
            clear hz
            go_enter Tryd.func45, Tryd.ntmps45
            go_wp2_with (first | (go_at_call 56; refine (allOf_any s [4] 1 _ 0 1 _ rfl hs (by decide) (cells1 w 4 77)).mono ?_; rintro e w' ⟨rfl, rfl⟩; rw [hd]) | (go_at_call 57; refine (atoi_calls s _ HD.out h0 (by omega)).mono ?_; rintro e w1 ⟨rfl, hb1⟩))
            go_ret2
            exact ⟨ret_two (by rw [HQ.out]), ((Below.refl _ _).alloc (Nat.le_refl _) _).trans (hb1.mono (by simp))⟩
          · have h1' : ¬ (1 : Int) < s.size := by omega
            clear hz
            go_enter Tryd.func45, Tryd.ntmps45
            go_wp2_with (first | (go_at_call 56; refine (allOf_any s [4] 1 _ 0 1 _ rfl hs (by decide) (cells1 w 4 77)).mono ?_; rintro e w' ⟨rfl, rfl⟩; rw [hd]) | (go_at_call 57; refine (atoi_calls s _ HD.out h0 (by omega)).mono ?_; rintro e w1 ⟨rfl, hb1⟩))
            go_ret2
            exact ⟨ret_two (by rw [HQ.out]), ((Below.refl _ _).alloc (Nat.le_refl _) _).trans (hb1.mono (by simp))⟩
        · have HQ : Hid (parseNum s.data.toList most = ((decVal s.data.toList : Int), true)) := parseNum_yes (is_ok h0 HIN.out HD.out hz hm)
          by_cases h1 : 1 < s.size
          · have hz' := hz h1
            have h1' : (1 : Int) < s.size := by omega
            clear hz
            go_enter Tryd.func45, Tryd.ntmps45
            go_wp2_with (first | (go_at_call 56; refine (allOf_any s [4] 1 _ 0 1 _ rfl hs (by decide) (cells1 w 4 77)).mono ?_; rintro e w' ⟨rfl, rfl⟩; rw [hd]) | (go_at_call 57; refine (atoi_calls s _ HD.out h0 (by omega)).mono ?_; rintro e w1 ⟨rfl, hb1⟩))
            go_ret2
            exact ⟨ret_two (by rw [HQ.out]), ((Below.refl _ _).alloc (Nat.le_refl _) _).trans (hb1.mono (by simp))⟩
          · have h1' : ¬ (1 : Int) < s.size := by omega
            clear hz
            go_enter Tryd.func45, Tryd.ntmps45
            go_wp2_with (first | (go_at_call 56; refine (allOf_any s [4] 1 _ 0 1 _ rfl hs (by decide) (cells1 w 4 77)).mono ?_; rintro e w' ⟨rfl, rfl⟩; rw [hd]) | (go_at_call 57; refine (atoi_calls s _ HD.out h0 (by omega)).mono ?_; rintro e w1 ⟨rfl, hb1⟩))
            go_ret2
            exact ⟨ret_two (by rw [HQ.out]), ((Below.refl _ _).alloc (Nat.le_refl _) _).trans (hb1.mono (by simp))⟩
      by_cases h1 : 1 < s.size
      · cases hz : (((s[0]).toNat : Int) == 48)
        · exact hrest (fun _ => hz)
        · have HQ : Hid (parseNum s.data.toList most = (0, false)) := parseNum_no (not_nought h0 h1 hz)
          have h1' : (1 : Int) < s.size := by omega
          clear hrest
          go_enter Tryd.func45, Tryd.ntmps45
          go_wp2_with (go_at_call 56; refine (allOf_any s [4] 1 _ 0 1 _ rfl hs (by decide) (cells1 w 4 77)).mono ?_; rintro e w' ⟨rfl, rfl⟩; rw [hd])
          go_ret2
          exact ⟨ret_two (by rw [HQ.out]), (Below.refl _ _).alloc (Nat.le_refl _) _⟩
      · exact hrest (fun h => absurd h h1)
end Go.Proofs.YtkhnkockdfmkgaaDoor
namespace Go.Proofs.YtkhnkockdfmkgaaDoor
open Go.RowKit M
set_option linter.unusedVariables false

def hdCells (hs : List Hd) : List Value := hs.flatMap fun h => [.string h.1, .string h.2]
theorem hdCells_length (hs : List Hd) : (hdCells hs).length = hs.length * 2 := by
  induction hs with
  | nil => rfl
  | cons h r ih => simp only [hdCells, List.flatMap_cons, List.length_append, List.length_cons, List.length_nil] at *; omega
theorem hdCells_append (hs ts : List Hd) : hdCells (hs ++ ts) = hdCells hs ++ hdCells ts := by simp [hdCells]
theorem hdCells_at (hs : List Hd) : ∀ j (hj : j < hs.length), (hdCells hs)[j * 2]? = some (.string hs[j].1) ∧ (hdCells hs)[j * 2 + 1]? = some (.string hs[j].2) := by
  induction hs with
  | nil => intro j hj; cases hj
  | cons h r ih =>
    intro j hj
    have e : hdCells (h :: r) = .string h.1 :: .string h.2 :: hdCells r := rfl
    rw [e]
    cases j with
    | zero => exact ⟨rfl, rfl⟩
    | succ j =>
      have h1 := ih j (by simpa using hj)
      have e1 : (j + 1) * 2 = j * 2 + 1 + 1 := by omega
      rw [e1]
      simp only [List.getElem?_cons_succ, List.getElem_cons_succ]
      exact h1

theorem infoHd : (Tryd.prog.info? 42).map (fun i => (i.zero, i.size, i.bytes)) = some (some (.agg #[.string ByteArray.empty, .string ByteArray.empty]), 2, 32) := by kernel_rfl

/-- A row that the call owns stays where only new memory is laid. -/
theorem ownsH_below {B : Nat} {v : Value} {n : Nat} {xs : List Value} {w w' : World} (h : w.ownsRow B 42 2 v n xs) (hb : Below w.heap.size w w') : w'.ownsRow B 42 2 v n xs :=
  h.kept (row := none) ⟨hb.os, hb.tape, hb.output, hb.size, fun k hk _ => hb.block k hk⟩ (Classical.em _)
theorem belowH_grown {w w' : World} {B n : Nat} {v : Value} {xs : List Value} (h : w.ownsRow B 42 2 v n xs) (hB : B ≤ w.heap.size) (hg : w.grownBy w' v.ownBlock) : Below B w w' :=
  ⟨hg.os, hg.tape, hg.output, hg.size, fun k hk => hg.block k (Nat.lt_of_lt_of_le hk hB) (fun e => by have := h.lt k e.symm; omega)⟩

/-- 'l = append(l, h)' on a row of heads that the call owns. -/
theorem wp_append_head {w : World} {ops : Array Oper} {rest : List Oper} {o : Oper} {a : Act} {Q : Exit → Act → World → Prop} (hgd : o.guard = none) (s x : Operand)
    (ho : o.op = .call { callee := .builtin .append, args := #[s, x], argTypes := #[24, 24] })
    (B : Nat) (v : Value) (n : Nat) (l : List Hd) (hs : a.eval s = v) (hown : w.ownsRow B 42 2 v n (hdCells l))
    (N : Nat) (c : Hd) (hx : a.eval x = .slice (some ⟨N, 0, none⟩) 1 1) (hc0 : w.cell? ⟨N, 0, none⟩ = some (.string c.1)) (hc1 : w.cell? ⟨N, 1, none⟩ = some (.string c.2)) (hlen : n + 1 ≤ 1099511627776) (hB : B ≤ w.heap.size)
    (h : ∀ g cap w', w'.ownsRow B 42 2 (.slice (some ⟨g, 0, none⟩) (n + 1) cap) (n + 1) (hdCells (l ++ [c])) → Below B w w' → wpList Tryd.prog ops Q rest (a.put o.dst (.slice (some ⟨g, 0, none⟩) (n + 1) cap)) w') : wpList Tryd.prog ops Q (o :: rest) a w := by
  obtain ⟨i0, hi, hz0, hz1, hz2⟩ := info_parts infoHd
  refine wpList_append_own w hgd s x 24 ho B 42 i0 _ 2 32 Tryd.underlying24 hi hz0 hz1 hz2 rfl (by decide) v n _ hs hown ⟨N, 0, none⟩ 1 1 [.string c.1, .string c.2] hx rfl ?_ ?_ ?_ ?_ hB ?_
  · intro j u hj
    have e : ∀ k, (⟨N, 0, none⟩ : Addr).add k = ⟨N, k, none⟩ := fun k => by unfold Addr.add; split <;> simp_all
    rw [e]
    match j, hj with
    | 0, hj => simp at hj; subst hj; exact hc0
    | 1, hj => simp at hj; subst hj; exact hc1
  · intro u hu; simp at hu; rcases hu with rfl | rfl <;> rfl
  · unfold maxLen; omega
  · omega
  · intro v' w' ho' hg _
    obtain ⟨g, cap, rfl⟩ : ∃ g cap, v' = .slice (some ⟨g, 0, none⟩) (n + 1) cap := by
      rcases ho'.2 with ⟨_, h0⟩ | ⟨g, cap, cur, hv, _⟩
      · omega
      · exact ⟨g, cap, hv⟩
    refine h g cap w' ?_ (belowH_grown hown hB hg)
    rw [hdCells_append]
    exact ho'

theorem ownsH_hds {w : World} {B g n c : Nat} {hs : List Hd} (h : w.ownsRow B 42 2 (.slice (some ⟨g, 0, none⟩) n c) n (hdCells hs)) (hn : n = hs.length) : Hds w w.heap.size (some ⟨g, 0, none⟩) hs := fun h0 =>
  ⟨g, 0, rfl, (h.lt g rfl).2, fun j hj => by
    have hx := hdCells_at hs j hj
    have hl := hdCells_length hs
    rw [Nat.zero_add]
    exact ⟨by rw [h.cellAt (j * 2) (by omega)]; exact hx.1, by rw [h.cellAt (j * 2 + 1) (by omega)]; exact hx.2⟩⟩
theorem ownsH_cap {w : World} {B g n c : Nat} {xs : List Value} (h : w.ownsRow B 42 2 (.slice (some ⟨g, 0, none⟩) n c) n xs) : n ≤ c ∧ c ≤ maxLen := by
  rcases h.2 with ⟨e, _⟩ | ⟨g', cap', cur, hv, _, _, h1, h2, _⟩
  · cases e
  · cases hv; exact ⟨h1, h2⟩
theorem ownsH_grown {w w' : World} {B N g n c : Nat} {xs : List Value} (h : w.ownsRow B 42 2 (.slice (some ⟨g, 0, none⟩) n c) n xs) (hg : w.grownBy w' (some N)) (hN : N < B) : w'.ownsRow B 42 2 (.slice (some ⟨g, 0, none⟩) n c) n xs :=
  h.kept hg (.inr (by have := (h.lt g rfl).1; simp [Value.ownBlock]; omega))

/-- Few short heads. -/
def FewH (n : Nat) (hs : List Hd) : Prop := hs.length ≤ n ∧ ∀ h ∈ hs, h.1.size ≤ 60 ∧ h.2.size ≤ 60
theorem FewH.snoc {n : Nat} {hs : List Hd} {h : Hd} (H : FewH n hs) (h1 : h.1.size ≤ 60) (h2 : h.2.size ≤ 60) : FewH (n + 1) (hs ++ [h]) := ⟨by have := H.1; simp; omega, fun x hx => by
  rcases List.mem_append.1 hx with hx | hx
  · exact H.2 x hx
  · simp at hx; subst hx; exact ⟨h1, h2⟩⟩
theorem FewH.mono {n m : Nat} {hs : List Hd} (h : FewH n hs) (hm : n ≤ m) : FewH m hs := ⟨Nat.le_trans h.1 hm, h.2⟩
theorem FewH.short {n : Nat} {hs : List Hd} (h : FewH n hs) : ShortH hs := fun x hx => ⟨Nat.le_trans (h.2 x hx).1 (by decide), Nat.le_trans (h.2 x hx).2 (by decide)⟩
end Go.Proofs.YtkhnkockdfmkgaaDoor
namespace Go.Proofs.YtkhnkockdfmkgaaDoor
open Go.RowKit M
set_option linter.unusedVariables false

/-- 'l = append(l, h)', and where the row lies then. -/
theorem wp_append_head2 {w : World} {ops : Array Oper} {rest : List Oper} {o : Oper} {a : Act} {Q : Exit → Act → World → Prop} (hgd : o.guard = none) (s x : Operand)
    (ho : o.op = .call { callee := .builtin .append, args := #[s, x], argTypes := #[24, 24] })
    (B : Nat) (v : Value) (n : Nat) (l : List Hd) (hs : a.eval s = v) (hown : w.ownsRow B 42 2 v n (hdCells l))
    (N : Nat) (c : Hd) (hx : a.eval x = .slice (some ⟨N, 0, none⟩) 1 1) (hc0 : w.cell? ⟨N, 0, none⟩ = some (.string c.1)) (hc1 : w.cell? ⟨N, 1, none⟩ = some (.string c.2)) (hlen : n + 1 ≤ 1099511627776) (hB : B ≤ w.heap.size)
    (h : ∀ g cap w', w'.ownsRow B 42 2 (.slice (some ⟨g, 0, none⟩) (n + 1) cap) (n + 1) (hdCells (l ++ [c])) → w.grownBy w' v.ownBlock → (v.ownBlock = some g ∨ g = w.heap.size) → wpList Tryd.prog ops Q rest (a.put o.dst (.slice (some ⟨g, 0, none⟩) (n + 1) cap)) w') : wpList Tryd.prog ops Q (o :: rest) a w := by
  obtain ⟨i0, hi, hz0, hz1, hz2⟩ := info_parts infoHd
  have hnews : ∀ j u, [Value.string c.1, Value.string c.2][j]? = some u → w.cell? ((⟨N, 0, none⟩ : Addr).add j) = some u := by
    intro j u hj
    have e : ∀ k, (⟨N, 0, none⟩ : Addr).add k = ⟨N, k, none⟩ := fun k => by unfold Addr.add; split <;> simp_all
    rw [e]
    match j, hj with
    | 0, hj => simp at hj; subst hj; exact hc0
    | 1, hj => simp at hj; subst hj; exact hc1
  have hone : ∀ u ∈ [Value.string c.1, Value.string c.2], u.oneCell' = true := by
    intro u hu; simp at hu; rcases hu with rfl | rfl <;> rfl
  have hex := run_append_own (P := Tryd.prog) w B 24 o.type 42 i0 _ 2 32 Tryd.underlying24 hi hz0 hz1 hz2 rfl (by decide) v n _ hown ⟨N, 0, none⟩ 1 1 [.string c.1, .string c.2] rfl hnews hone (by unfold maxLen; omega) (by omega) hB
  obtain ⟨v', w', hrun, ho', hg, _⟩ := hex
  obtain ⟨g, cap, rfl⟩ : ∃ g cap, v' = .slice (some ⟨g, 0, none⟩) (n + 1) cap := by
    rcases ho'.2 with ⟨_, h0⟩ | ⟨g, cap, cur, hv, _⟩
    · omega
    · exact ⟨g, cap, hv⟩
  have hwhere : v.ownBlock = some g ∨ g = w.heap.size := by
    rcases hown.2 with ⟨rfl, h0⟩ | ⟨g1, cap1, cur1, rfl, hg1, hh1, hn1, hm1, hs1, ht1⟩
    · right
      have hr := run_append_nil (P := Tryd.prog) w 24 o.type 42 i0 _ Tryd.underlying24 hi hz0 ⟨N, 0, none⟩ 1 1 [.string c.1, .string c.2] (by rw [hz1]; rfl) hnews (by decide) (by decide) (by rw [hz2]; decide)
      rw [hr] at hrun
      have := congrArg (fun r => match r with | Result.ok (Value.slice (some a) _ _) _ => a.block | _ => 0) hrun
      exact this.symm
    · by_cases hroom : n + 1 ≤ cap1
      · left
        have hr := run_append_room (P := Tryd.prog) w 24 o.type 42 i0 Tryd.underlying24 hi g1 n cap1 cur1 hh1 ⟨N, 0, none⟩ 1 1 [.string c.1, .string c.2] (by rw [hz1]; rfl) hnews hone hroom (by rw [hz1, hs1]; simp only [List.length_cons, List.length_nil]; omega)
        rw [hr] at hrun
        have := congrArg (fun r => match r with | Result.ok (Value.slice (some a) _ _) _ => a.block | _ => 0) hrun
        have : g1 = g := this
        rw [← this]; rfl
      · right
        have hr := run_append_grow (P := Tryd.prog) w 24 o.type 42 i0 _ Tryd.underlying24 hi hz0 ⟨g1, 0, none⟩ n cap1 (hdCells l) (by rw [hz1]; exact hown.1) (fun j u hu => hown.cells (g := g1) rfl j u hu) ⟨N, 0, none⟩ 1 1 [.string c.1, .string c.2] (by rw [hz1]; rfl) hnews (by omega) (by omega) (by rw [hz2]; exact growslice_fits (by omega) (by omega))
        rw [hr] at hrun
        have := congrArg (fun r => match r with | Result.ok (Value.slice (some a) _ _) _ => a.block | _ => 0) hrun
        exact this.symm
  refine wpList_plain hgd fun K hK => ?_
  unfold Oper.wp execOp
  simp only [ho, resolve, invoke, builtin, Sem.run_bind, Sem.run_pure, Result.andThen_ok, List.map_toArray, List.map_cons, List.map_nil, hs, hx, hrun]
  exact hK _ _ (h g cap w' (by rw [hdCells_append]; exact ho') hg hwhere)
/-- Two rows that do not lie in one block. -/
def ApartV (v v' : Value) : Prop := v.ownBlock = none ∨ v.ownBlock ≠ v'.ownBlock
theorem ApartV.symm {v v' : Value} (h : ApartV v v') : ApartV v' v := by
  rcases h with h | h
  · cases hv : v'.ownBlock with
    | none => exact .inl hv
    | some k => exact .inr (by rw [hv, h]; simp)
  · cases hv : v'.ownBlock with
    | none => exact .inl hv
    | some k => exact .inr (fun e => h e.symm)
/-- A row of heads. -/
def RowsH (w : World) (B : Nat) (v : Value) (hs : List Hd) : Prop := w.ownsRow B 42 2 v hs.length (hdCells hs)
theorem ApartV.grown {w : World} {B g n cap : Nat} {v v2 : Value} {hs : List Hd} (h : ApartV v v2) (h2 : RowsH w B v2 hs) (hw : v.ownBlock = some g ∨ g = w.heap.size) : ApartV (.slice (some ⟨g, 0, none⟩) n cap) v2 := by
  right
  intro e
  have e' : v2.ownBlock = some g := e.symm
  rcases hw with hw | hw
  · rcases h with h | h
    · rw [hw] at h; cases h
    · exact h (by rw [hw, e'])
  · have := (World.ownsRow.lt h2 g e').2
    omega
theorem RowsH.kept {w w' : World} {B : Nat} {v v2 : Value} {hs : List Hd} (h : RowsH w B v2 hs) (ha : ApartV v v2) (hg : w.grownBy w' v.ownBlock) : RowsH w' B v2 hs :=
  World.ownsRow.kept h hg (by
    rcases ha.symm with h | h
    · exact .inl h
    · exact .inr h)
/-- A row of heads as a slice that is read. -/
theorem RowsH.hds {w : World} {B : Nat} {v : Value} {hs : List Hd} (h : RowsH w B v hs) : ∃ a c, v = .slice a hs.length c ∧ Hds w w.heap.size a hs := by
  rcases h.2 with ⟨e, h0⟩ | ⟨g, cap, cur, e, _⟩
  · have : hs = [] := List.length_eq_zero_iff.1 h0
    subst this
    exact ⟨none, 0, e, fun h => absurd h (Nat.lt_irrefl _)⟩
  · subst e
    exact ⟨_, _, rfl, ownsH_hds h rfl⟩
theorem RowsH.base {w : World} {B C : Nat} {v : Value} {hs : List Hd} (h : RowsH w B v hs) (hC : C ≤ B) : RowsH w C v hs := by
  refine ⟨h.1, ?_⟩
  rcases h.2 with h | ⟨g, cap, cur, e, hB, hr⟩
  · exact .inl h
  · exact .inr ⟨g, cap, cur, e, Nat.le_trans hC hB, hr⟩
end Go.Proofs.YtkhnkockdfmkgaaDoor
namespace Go.Proofs.YtkhnkockdfmkgaaDoor
open Go.RowKit M
set_option linter.unusedVariables false

set_option maxHeartbeats 400000 in
theorem tellsLength_any (x y : ByteArray) (w : World) :
    Calls Tryd.prog 46 #[.agg #[.string x, .string y]] w fun e w' => e = .returned (.bool (decide (x = lenName))) ∧ Below w.heap.size w w' := by
  have e := lenEq x
  generalize decide (x = lenName) = z at *
  go_enter Tryd.func46, Tryd.ntmps46
  go_wp2
  go_ret
  exact ⟨rfl, (Below.refl _ _).alloc (Nat.le_refl _) _⟩

set_option maxHeartbeats 400000 in
theorem tellsCoding_any (x y : ByteArray) (w : World) :
    Calls Tryd.prog 51 #[.agg #[.string x, .string y]] w fun e w' => e = .returned (.bool (decide (x = codName))) ∧ Below w.heap.size w w' := by
  have e := codEq x
  generalize decide (x = codName) = z at *
  go_enter Tryd.func51, Tryd.ntmps51
  go_wp2
  go_ret
  exact ⟨rfl, (Below.refl _ _).alloc (Nat.le_refl _) _⟩
end Go.Proofs.YtkhnkockdfmkgaaDoor
