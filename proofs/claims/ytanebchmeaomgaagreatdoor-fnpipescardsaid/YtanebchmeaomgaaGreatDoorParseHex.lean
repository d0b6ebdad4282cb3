/-
  Small facts that what is parsed wants.
  What the specification's ParseNum does.
  What the program's ParseNum does.
  What the program's frameOf does.
  What the specification's and the program's HeadEnd do.
  What the program's sortHeads does: three rows of heads, each its own.
  What the specification's l1HexOf does.
  What the library's ParseUint and ParseInt do at base 16, of one to four digits; what the program's ParseHex does.
  What the library's ParseInt does at base 16, of one to four digits; what the program's ParseHex does.
-/
import Derived.Test.YtanebchmeaomgaaGreatDoorRows
import Derived.WalkKit
import Derived.WalkSpells
import Derived.WalkLawsBesides
import Derived.Lib.ConvBytes
import Derived.Test.YtanebchmeaomgaaGreatDoorSpecReq
import Derived.Test.YtanebchmeaomgaaGreatDoorMathGet
import Derived.Test.YtanebchmeaomgaaGreatDoorOwnBytes
import Derived.Test.YtanebchmeaomgaaGreatDoorShelf
import Derived.Test.YtanebchmeaomgaaGreatDoorReadLines
import Derived.Test.YtanebchmeaomgaaGreatDoorSameReqI
import Derived.Laws.Append
import Derived.Laws.AppendOwn
import Derived.Laws.Closers25b
import Derived.BigCall
import Derived.BigGuard
namespace Go.Proofs.YtanebchmeaomgaaGreatDoor
open Go.RowKit

theorem ret_two {a b : Int} {x y : Bool} (h : (a, x) = (b, y)) : Ending.returned (.tuple #[.int .i64 a, .bool x]) = .returned (.tuple #[.int .i64 b, .bool y]) := by
  cases h; rfl

theorem below_bytes (w : World) (e : TypeId) (s : ByteArray) : Below w.heap.size w (Lib.bytesWorld w e s) :=
  ⟨rfl, rfl, rfl, by rw [Lib.bytesWorld_size]; omega, fun k hk => Lib.bytesWorld_at_old w e s k hk⟩

theorem ret_int {k : IntKind} {a b : Int} (h : a = b) : Ending.returned (.int k a) = .returned (.int k b) := by rw [h]
end Go.Proofs.YtanebchmeaomgaaGreatDoor
namespace Go.Proofs.YtanebchmeaomgaaGreatDoor
open Go.RowKit M

set_option maxHeartbeats 1000000 in
theorem specParseNum_any (s : ByteArray) (most : Int) (w : World) (hs : s.size ≤ maxLen) :
    Calls Tryz.prog 164 #[.string s, .int .i64 most] w fun e w' => e = .returned (.tuple #[.int .i64 (parseNum s.data.toList most).1, .bool (parseNum s.data.toList most).2]) ∧ w' = w := by
  have ell := len_list s
  have EL : Hid (s.data.toList.length = s.size) := ell
  clear ell
  unfold maxLen at hs
  go_enter Tryz.func164, Tryz.ntmps164
  go_wp2
  go_loop [6, 7] (fun n i => ∃ k : Nat, k ≤ s.size ∧ k ≤ 8 ∧ i = .int .i64 k ∧ n = .int .i64 (decVal (s.data.toList.take k)) ∧ digs (s.data.toList.take k) = true) (fun _ i => s.size - (intOf i).toNat)
  case atStart => exact ⟨0, Nat.zero_le _, Nat.zero_le _, rfl, rfl, rfl⟩
  case round =>
    obtain ⟨k, hk, hk8, rfl, rfl, hn⟩ := hrel
    have HN : Hid (digs (s.data.toList.take k) = true) := hn
    have hv : decVal (s.data.toList.take k) < 100000000 := by
      have h1 := decVal_lt _ hn
      have h2 : (s.data.toList.take k).length ≤ k := List.length_take_le _ _
      have h3 := Nat.pow_le_pow_right (show 0 < 10 by decide) h2
      have h4 := pow_le8 hk8
      omega
    clear hn
    by_cases hlt : k < s.size
    · by_cases hl8 : k < 8
      · cases hb : isB ((s[k]).toNat : Int) 4
        · go_wp2_with (go_at_call 159; refine (l1Digit_any _ _).mono ?_; rintro e w' ⟨rfl, rfl⟩; rw [hb])
          go_ret2
          refine ⟨ret_two ?_, rfl⟩
          rw [parseNum_no (not_digs (digs_not s k hlt hb))]
        · have hc := isB4 hb
          have HV : Hid (decVal (s.data.toList.take (k + 1)) = decVal (s.data.toList.take k) * 10 + (s[k].toNat - 48)) := decVal_step s k hlt
          generalize decVal (s.data.toList.take k) = v at *
          go_wp2_with (go_at_call 159; refine (l1Digit_any _ _).mono ?_; rintro e w' ⟨rfl, rfl⟩; rw [hb])
          go_round
          case rel =>
            refine ⟨k + 1, by omega, by omega, by go_num, ?_, digs_snoc s k hlt HN.out hb⟩
            rw [HV.out]
            congr 1
            omega
          case measure => simp [intOf]; omega
      · have hin : inB (s.size : Int) 1 7 = false := by simp [inB]; omega
        go_wp2_with (go_at_call 123; refine (l1In_any _ _ _ _).mono ?_; rintro e w' ⟨rfl, rfl⟩; rw [hin])
        go_ret2
        exact ⟨ret_two (by rw [parseNum_no (not_size hin)]), rfl⟩
    · have HD : Hid (digs s.data.toList = true) := by
        have := HN.out
        rwa [take_all s k hlt] at this
      rw [take_all s k hlt] at hv ⊢
      cases hin : inB (s.size : Int) 1 7
      · go_wp2_with (go_at_call 123; refine (l1In_any _ _ _ _).mono ?_; rintro e w' ⟨rfl, rfl⟩; rw [hin])
        go_ret2
        exact ⟨ret_two (by rw [parseNum_no (not_size hin)]), rfl⟩
      · have h0 : 0 < s.size := by simp [inB] at hin; omega
        have hk1 : ¬ (k : Int) < s.size := by omega
        by_cases h1 : 1 < s.size
        · have h1' : (1 : Int) < s.size := by omega
          cases hz : (((s[0]).toNat : Int) == 48)
          · by_cases hm : most < (decVal s.data.toList : Int)
            · have HP := parseNum_no (not_most hm)
              have HQ : Hid (parseNum s.data.toList most = (0, false)) := HP
              clear HP
              go_wp2_with (go_at_call 123; refine (l1In_any _ _ _ _).mono ?_; rintro e w' ⟨rfl, rfl⟩; rw [hin])
              go_ret2
              exact ⟨ret_two (by rw [HQ.out]), rfl⟩
            · have HQ : Hid (parseNum s.data.toList most = ((decVal s.data.toList : Int), true)) := parseNum_yes (is_ok h0 hin HD.out (fun _ => hz) hm)
              go_wp2_with (go_at_call 123; refine (l1In_any _ _ _ _).mono ?_; rintro e w' ⟨rfl, rfl⟩; rw [hin])
              go_ret2
              exact ⟨ret_two (by rw [HQ.out]), rfl⟩
          · have HQ : Hid (parseNum s.data.toList most = (0, false)) := parseNum_no (not_nought h0 h1 hz)
            go_wp2_with (go_at_call 123; refine (l1In_any _ _ _ _).mono ?_; rintro e w' ⟨rfl, rfl⟩; rw [hin])
            go_ret2
            exact ⟨ret_two (by rw [HQ.out]), rfl⟩
        · have h1' : ¬ (1 : Int) < s.size := by omega
          by_cases hm : most < (decVal s.data.toList : Int)
          · have HQ : Hid (parseNum s.data.toList most = (0, false)) := parseNum_no (not_most hm)
            go_wp2_with (go_at_call 123; refine (l1In_any _ _ _ _).mono ?_; rintro e w' ⟨rfl, rfl⟩; rw [hin])
            go_ret2
            exact ⟨ret_two (by rw [HQ.out]), rfl⟩
          · have HQ : Hid (parseNum s.data.toList most = ((decVal s.data.toList : Int), true)) := parseNum_yes (is_ok h0 hin HD.out (fun h => absurd h h1) hm)
            go_wp2_with (go_at_call 123; refine (l1In_any _ _ _ _).mono ?_; rintro e w' ⟨rfl, rfl⟩; rw [hin])
            go_ret2
            exact ⟨ret_two (by rw [HQ.out]), rfl⟩
end Go.Proofs.YtanebchmeaomgaaGreatDoor
namespace Go.Proofs.YtanebchmeaomgaaGreatDoor
open Go.RowKit M

theorem atoi_calls (s : ByteArray) (w : World) (hd : digs s.data.toList = true) (h0 : 0 < s.size) (h7 : s.size ≤ 7) :
    Calls Tryz.prog 212 #[.string s] w fun e w' => e = .returned (.tuple #[.int .i64 (decVal s.data.toList), .nilIface]) ∧ Below w.heap.size w w' := by
  refine (Tryz.strconv_Atoi s (decVal s.data.toList : Int) (by omega) (atoi_val _ hd (by rw [len_list]; omega)) w).mono ?_
  rintro e w' ⟨rfl, t, rfl⟩
  exact ⟨rfl, below_bytes _ _ _⟩

set_option maxHeartbeats 1000000 in
theorem parseNum_any (s : ByteArray) (most : Int) (w : World) (hs : s.size ≤ maxLen) :
    Calls Tryz.prog 200 #[.string s, .int .i64 most] w fun e w' => e = .returned (.tuple #[.int .i64 (parseNum s.data.toList most).1, .bool (parseNum s.data.toList most).2]) ∧ Below w.heap.size w w' := by
  have hs' := hs
  unfold maxLen at hs'
  cases hin : inB (s.size : Int) 1 7
  · have HQ : Hid (parseNum s.data.toList most = (0, false)) := parseNum_no (not_size hin)
    have h : s.size < 1 ∨ 7 < s.size := by simp [inB] at hin; omega
    clear hin
    rcases h with h | h
    · go_enter Tryz.func200, Tryz.ntmps200
      go_wp2
      go_ret2
      exact ⟨ret_two (by rw [HQ.out]), Below.refl _ _⟩
    · have h' : ¬ s.size < 1 := by omega
      go_enter Tryz.func200, Tryz.ntmps200
      go_wp2
      go_ret2
      exact ⟨ret_two (by rw [HQ.out]), Below.refl _ _⟩
  · have h0 : 0 < s.size := by simp [inB] at hin; omega
    have h7 : ¬ 7 < s.size := by simp [inB] at hin; omega
    have h1n : ¬ s.size < 1 := by omega
    have HIN : Hid (inB (s.size : Int) 1 7 = true) := hin
    clear hin
    cases hd : allB s.data.toList [4]
    · have HQ : Hid (parseNum s.data.toList most = (0, false)) := parseNum_no (not_digs hd)
      go_enter Tryz.func200, Tryz.ntmps200
      go_wp2_with (go_at_call 167; refine (allOf_any s [4] 1 _ 0 1 _ rfl hs (by decide) (cells1 w 4 205)).mono ?_; rintro e w' ⟨rfl, rfl⟩; rw [hd])
      go_ret2
      exact ⟨ret_two (by rw [HQ.out]), (Below.refl _ _).alloc (Nat.le_refl _) _⟩
    · have HD : Hid (digs s.data.toList = true) := hd
      have hrest : (1 < s.size → (((s[0]).toNat : Int) == 48) = false) → Calls Tryz.prog 200 #[.string s, .int .i64 most] w fun e w' => e = .returned (.tuple #[.int .i64 (parseNum s.data.toList most).1, .bool (parseNum s.data.toList most).2]) ∧ Below w.heap.size w w' := by
        intro hz
        have hv : decVal s.data.toList < 100000000 := by
          have h1 := decVal_lt _ hd
          have h3 := Nat.pow_le_pow_right (show 0 < 10 by decide) (show s.data.toList.length ≤ 8 by rw [len_list]; omega)
          omega
        by_cases hm : most < (decVal s.data.toList : Int)
        · have HQ : Hid (parseNum s.data.toList most = (0, false)) := parseNum_no (not_most hm)
          by_cases h1 : 1 < s.size
          · have hz' := hz h1
            have h1' : (1 : Int) < s.size := by omega
            clear hz
            go_enter Tryz.func200, Tryz.ntmps200
            go_wp2_with (first | (go_at_call 167; refine (allOf_any s [4] 1 _ 0 1 _ rfl hs (by decide) (cells1 w 4 205)).mono ?_; rintro e w' ⟨rfl, rfl⟩; rw [hd]) | (go_at_call 212; refine (atoi_calls s _ HD.out h0 (by omega)).mono ?_; rintro e w1 ⟨rfl, hb1⟩))
            go_ret2
            exact ⟨ret_two (by rw [HQ.out]), ((Below.refl _ _).alloc (Nat.le_refl _) _).trans (hb1.mono (by simp))⟩
          · have h1' : ¬ (1 : Int) < s.size := by omega
            clear hz
            go_enter Tryz.func200, Tryz.ntmps200
            go_wp2_with (first | (go_at_call 167; refine (allOf_any s [4] 1 _ 0 1 _ rfl hs (by decide) (cells1 w 4 205)).mono ?_; rintro e w' ⟨rfl, rfl⟩; rw [hd]) | (go_at_call 212; refine (atoi_calls s _ HD.out h0 (by omega)).mono ?_; rintro e w1 ⟨rfl, hb1⟩))
            go_ret2
            exact ⟨ret_two (by rw [HQ.out]), ((Below.refl _ _).alloc (Nat.le_refl _) _).trans (hb1.mono (by simp))⟩
        · have HQ : Hid (parseNum s.data.toList most = ((decVal s.data.toList : Int), true)) := parseNum_yes (is_ok h0 HIN.out HD.out hz hm)
          by_cases h1 : 1 < s.size
          · have hz' := hz h1
            have h1' : (1 : Int) < s.size := by omega
            clear hz
            go_enter Tryz.func200, Tryz.ntmps200
            go_wp2_with (first | (go_at_call 167; refine (allOf_any s [4] 1 _ 0 1 _ rfl hs (by decide) (cells1 w 4 205)).mono ?_; rintro e w' ⟨rfl, rfl⟩; rw [hd]) | (go_at_call 212; refine (atoi_calls s _ HD.out h0 (by omega)).mono ?_; rintro e w1 ⟨rfl, hb1⟩))
            go_ret2
            exact ⟨ret_two (by rw [HQ.out]), ((Below.refl _ _).alloc (Nat.le_refl _) _).trans (hb1.mono (by simp))⟩
          · have h1' : ¬ (1 : Int) < s.size := by omega
            clear hz
            go_enter Tryz.func200, Tryz.ntmps200
            go_wp2_with (first | (go_at_call 167; refine (allOf_any s [4] 1 _ 0 1 _ rfl hs (by decide) (cells1 w 4 205)).mono ?_; rintro e w' ⟨rfl, rfl⟩; rw [hd]) | (go_at_call 212; refine (atoi_calls s _ HD.out h0 (by omega)).mono ?_; rintro e w1 ⟨rfl, hb1⟩))
            go_ret2
            exact ⟨ret_two (by rw [HQ.out]), ((Below.refl _ _).alloc (Nat.le_refl _) _).trans (hb1.mono (by simp))⟩
      by_cases h1 : 1 < s.size
      · cases hz : (((s[0]).toNat : Int) == 48)
        · exact hrest (fun _ => hz)
        · have HQ : Hid (parseNum s.data.toList most = (0, false)) := parseNum_no (not_nought h0 h1 hz)
          have h1' : (1 : Int) < s.size := by omega
          clear hrest
          go_enter Tryz.func200, Tryz.ntmps200
          go_wp2_with (go_at_call 167; refine (allOf_any s [4] 1 _ 0 1 _ rfl hs (by decide) (cells1 w 4 205)).mono ?_; rintro e w' ⟨rfl, rfl⟩; rw [hd])
          go_ret2
          exact ⟨ret_two (by rw [HQ.out]), (Below.refl _ _).alloc (Nat.le_refl _) _⟩
      · exact hrest (fun h => absurd h h1)
end Go.Proofs.YtanebchmeaomgaaGreatDoor
namespace Go.Proofs.YtanebchmeaomgaaGreatDoor
open Go.RowKit M
set_option linter.unusedVariables false

/-- The code of what is told of a body, of the three lists. -/
def frC (l1 l2 : List Hd) (n3 : Nat) : Int :=
  if 1 < l1.length + l2.length then 400
  else if l1.all numOk = false then 400
  else if 8 < n3 then 431
  else if l2.all codOk = false then 501
  else if l1.any (fun h => decide (200 < numOf h)) = true then 413 else 0
theorem frameC_eq (hs : List Hd) : frameC hs = frC (lensOf hs) (codsOf hs) (othOf hs).length := rfl
/-- The number that the last of them tells. -/
def lastN (l : List Hd) : Int := match l.getLast? with | none => 0 | some h => (parseNum h.2.data.toList 9999999).1
theorem lastN_snoc (l : List Hd) (k : Nat) (hk : k < l.length) : lastN (l.take (k + 1)) = (parseNum l[k].2.data.toList 9999999).1 := by
  unfold lastN
  rw [List.take_succ_eq_append_getElem hk, List.getLast?_concat]
def MemF (w : World) (ck : Bool) (n : Int) (W : World) : Prop :=
  W.heap[w.heap.size]? = some (Obj.cells #[.bool false, .int .i64 0] 218) ∧ W.heap[w.heap.size + 1]? = some (Obj.cells #[.bool ck, .int .i64 n] 218) ∧ Below w.heap.size w W ∧ w.heap.size + 2 ≤ W.heap.size
theorem MemF.next {w W W' : World} {ck : Bool} {n : Int} (h : MemF w ck n W) (hb : Below W.heap.size W W') : MemF w ck n W' := by
  obtain ⟨h1, h2, h3, h4⟩ := h
  exact ⟨(hb.block _ (by omega)).trans h1, (hb.block _ (by omega)).trans h2, h3.trans (hb.mono h3.size), Nat.le_trans h4 hb.size⟩
theorem MemF.set_n {w W : World} {ck : Bool} {n : Int} (h : MemF w ck n W) (n' : Int) : MemF w ck n' (W.setCell ⟨w.heap.size + 1, 1, none⟩ (.int .i64 n')) := by
  obtain ⟨h1, h2, h3, h4⟩ := h
  exact ⟨set_other h1 (by omega) _, set_heap h2 1 _, h3.setCell (p := ⟨w.heap.size + 1, 1, none⟩) (by show w.heap.size ≤ w.heap.size + 1; omega) _, by simpa using h4⟩
theorem MemF.set_ck {w W : World} {ck : Bool} {n : Int} (h : MemF w ck n W) (ck' : Bool) : MemF w ck' n (W.setCell ⟨w.heap.size + 1, 0, none⟩ (.bool ck')) := by
  obtain ⟨h1, h2, h3, h4⟩ := h
  exact ⟨set_other h1 (by omega) _, set_heap h2 0 _, h3.setCell (p := ⟨w.heap.size + 1, 0, none⟩) (by show w.heap.size ≤ w.heap.size + 1; omega) _, by simpa using h4⟩
theorem MemF.cells {w W : World} {ck : Bool} {n : Int} (h : MemF w ck n W) : W.cell? ⟨w.heap.size, 0, none⟩ = some (.bool false) ∧ W.cell? ⟨w.heap.size, 1, none⟩ = some (.int .i64 0) ∧ W.frozen? ⟨w.heap.size, 0, none⟩ = false ∧ W.frozen? ⟨w.heap.size, 1, none⟩ = false ∧ W.cell? ⟨w.heap.size + 1, 0, none⟩ = some (.bool ck) ∧ W.cell? ⟨w.heap.size + 1, 1, none⟩ = some (.int .i64 n) ∧ W.frozen? ⟨w.heap.size + 1, 0, none⟩ = false ∧ W.frozen? ⟨w.heap.size + 1, 1, none⟩ = false := by
  obtain ⟨h1, h2, h3, h4⟩ := h
  refine ⟨?_, ?_, ?_, ?_, ?_, ?_, ?_, ?_⟩
  · unfold World.cell?; rw [h1]; rfl
  · unfold World.cell?; rw [h1]; rfl
  · unfold World.frozen?; rw [h1]; rfl
  · unfold World.frozen?; rw [h1]; rfl
  · unfold World.cell?; rw [h2]; rfl
  · unfold World.cell?; rw [h2]; rfl
  · unfold World.frozen?; rw [h2]; rfl
  · unfold World.frozen?; rw [h2]; rfl
theorem frame_desc : (Tryz.prog.info? 218).map (·.size) = some 2 := by kernel_rfl
theorem results_frame (tmps : Array Value) (N : Nat) (W : World) (v0 v1 : Value) (c : Int) (h6 : tmps.getD 6 undef = .pointer (some ⟨N, 0, none⟩)) (h7 : tmps.getD 7 undef = .int .i64 c) (hg : W.heap[N]? = some (Obj.cells #[v0, v1] 218)) :
    (results Tryz.f185 tmps).run Tryz.prog W = .ok (.tuple #[.agg #[v0, v1], .int .i64 c]) W := by
  rw [results_cell_tmp rfl]
  have hl := run_loadVar_row (P := Tryz.prog) W N 218 218 #[v0, v1] (0, 0) _ hg Tryz.underlying218 rfl frame_desc
  simp at h6 h7
  simp [h6, h7, asAddr, hl]
theorem set2_heap {w : World} {N : Nat} {a0 a1 : Value} {t : TypeId} (h : w.heap[N]? = some (.cells #[a0, a1] t)) (v0 v1 : Value) : ((w.setCell ⟨N, 0, none⟩ v0).setCell ⟨N, 1, none⟩ v1).heap[N]? = some (.cells #[v0, v1] t) := set_heap (set_heap h 0 v0) 1 v1
theorem set2_below {w W : World} {C N : Nat} (h : Below C W w) (hN : C ≤ N) (v0 v1 : Value) : Below C W ((w.setCell ⟨N, 0, none⟩ v0).setCell ⟨N, 1, none⟩ v1) := (h.setCell (p := ⟨N, 0, none⟩) hN _).setCell (p := ⟨N, 1, none⟩) hN _
theorem chk_bne (s : ByteArray) : (((⟨(lowL s.data.toList).toArray⟩ : ByteArray).toList) != [99, 104, 117, 110, 107, 101, 100]) = !decide (lowL s.data.toList = inPcs) := by
  rw [ByteArray.toList_eq]
  show ((lowL s.data.toList).toArray.toList != inPcs) = _
  by_cases h : lowL s.data.toList = inPcs <;> simp [h]

theorem chk_beq (s : ByteArray) : (((⟨(lowL s.data.toList).toArray⟩ : ByteArray).toList) == [99, 104, 117, 110, 107, 101, 100]) = decide (lowL s.data.toList = inPcs) := by
  rw [ByteArray.toList_eq]
  show ((lowL s.data.toList).toArray.toList == inPcs) = _
  by_cases h : lowL s.data.toList = inPcs <;> simp [h]

/-- What frameOf hands back. -/
def FrameIs (l1 l2 : List Hd) (n3 : Nat) (e : Ending) : Prop :=
  ∃ (ck : Bool) (n : Int), e = .returned (.tuple #[.agg #[.bool ck, .int .i64 n], .int .i64 (frC l1 l2 n3)]) ∧ (frC l1 l2 n3 = 0 → ck = !l2.isEmpty ∧ n = lastN l1)

set_option maxRecDepth 100000 in
set_option maxHeartbeats 4000000 in
theorem frameOf_any (a1 a2 a3 : Option Addr) (l1 l2 : List Hd) (n3 c1 c2 c3 B : Nat) (w : World) (h1 : Hds w B a1 l1) (h2 : Hds w B a2 l2) (hB : B ≤ w.heap.size) (hl1 : l1.length ≤ 1048576) (hl2 : l2.length ≤ 1048576) (hl3 : n3 ≤ 1048576) (hz1 : ∀ x ∈ l1, x.2.size ≤ 1048576) (hz2 : ∀ x ∈ l2, x.2.size ≤ 1048576) :
    Calls Tryz.prog 185 #[.slice a1 l1.length c1, .slice a2 l2.length c2, .slice a3 n3 c3] w fun e w' => FrameIs l1 l2 n3 e ∧ Below w.heap.size w w' := by
  have HH1 := hide h1
  have HH2 := hide h2
  have hM0 : MemF w false 0 ((w.alloc (Obj.cells #[.bool false, .int .i64 0] 218)).alloc (Obj.cells #[.bool false, .int .i64 0] 218)) := by
    refine ⟨?_, ?_, ((Below.refl _ w).alloc (Nat.le_refl _) _).alloc (by simp) _, by simp⟩
    all_goals
      show ((w.heap.push _).push _)[_]? = _
      first | (simp [Array.getElem_push]; done) | (simp [Array.getElem?_push]; done) | rfl
  have HM0 := hide hM0
  clear h1 h2 hM0
  by_cases hs : 1 < l1.length + l2.length
  · have HF : Hid (frC l1 l2 n3 = 400) := by show frC _ _ _ = _; unfold frC; rw [if_pos hs]
    have hs' : (1 : Int) < (l1.length : Int) + l2.length := by omega
    clear hs
    go_enter Tryz.func185, Tryz.ntmps185
    go_wp2
    refine bodyPost_ret (results_frame _ w.heap.size _ _ _ _ rfl rfl HM0.out.1) rfl ?_
    exact ⟨⟨_, _, by rw [HF.out], fun e => by rw [HF.out] at e; cases e⟩, HM0.out.2.2.1⟩
  · have hs' : ¬ ((1 : Int) < (l1.length : Int) + l2.length) := by omega
    go_enter Tryz.func185, Tryz.ntmps185
    go_wp2
    go_loopw [24] (fun i wr => ∃ k : Nat, k ≤ l1.length ∧ i = .int .i64 k ∧ (l1.take k).all numOk = true ∧ MemF w false (lastN (l1.take k)) wr) (fun i _ => l1.length - (intOf i).toNat)
    case atStart => exact ⟨0, Nat.zero_le _, rfl, rfl, HM0.out⟩
    case round =>
      obtain ⟨k, hk, rfl, hok, hM⟩ := hrel
      have HOk := hide hok
      clear hok
      by_cases hlt : k < l1.length
      · obtain ⟨b, o, rfl, hb, hc⟩ := HH1.out.below hM.2.2.1 hB (by omega)
        have hcx := (hc k hlt).1
        have hcy := (hc k hlt).2
        have hzk := hz1 _ (List.getElem_mem hlt)
        obtain ⟨x, hx⟩ : ∃ x, l1[k].1 = x := ⟨_, rfl⟩
        obtain ⟨y, hy⟩ : ∃ y, l1[k].2 = y := ⟨_, rfl⟩
        rw [hx] at hcx
        rw [hy] at hcy hzk
        have HY := hide hy
        have ba : Below wr.heap.size wr (wr.alloc (Obj.cells #[.string x, .string y] 82)) := (Below.refl _ _).alloc (Nat.le_refl _) _
        have HM1 := hide (hM.next ba)
        have HP := hide (parseNum_any y 9999999 (wr.alloc (Obj.cells #[.string x, .string y] 82)) (by unfold maxLen; omega))
        clear hc hM ba hx hy
        cases hpn : (parseNum y.data.toList 9999999).2
        · have HF : Hid (frC l1 l2 n3 = 400) := by
            show frC _ _ _ = _
            unfold frC
            rw [if_neg hs, if_pos]
            rw [List.all_eq_false]
            exact ⟨l1[k], List.getElem_mem hlt, by unfold numOk; rw [HY.out, hpn]; simp⟩
          rw [hpn] at HP
          generalize (parseNum y.data.toList 9999999).1 = z at HP
          go_wp2_with fail
          refine HP.out.mono ?_
          rintro e w1 ⟨rfl, b1⟩
          have hM2 := HM1.out.next b1
          obtain ⟨q0, q1, f0, f1, q2, q3, f2, f3⟩ := hM2.cells
          have HM2 := hide hM2
          clear HP HM1 b1 hM2
          go_wp2
          refine bodyPost_ret (results_frame _ w.heap.size _ _ _ _ rfl rfl (set2_heap HM2.out.1 _ _)) rfl ?_
          exact ⟨⟨_, _, by rw [HF.out], fun e => by rw [HF.out] at e; cases e⟩, set2_below HM2.out.2.2.1 (Nat.le_refl _) _ _⟩
        · rw [hpn] at HP
          have HL : Hid (lastN (l1.take (k + 1)) = (parseNum y.data.toList 9999999).1) := by show lastN _ = _; rw [lastN_snoc l1 k hlt, HY.out]
          have HA : Hid ((l1.take (k + 1)).all numOk = true) := by
            show (l1.take (k + 1)).all numOk = true
            rw [List.take_succ_eq_append_getElem hlt, List.all_append, HOk.out]
            simp [numOk, HY.out, hpn]
          generalize (parseNum y.data.toList 9999999).1 = z at HP HL
          go_wp2_with fail
          refine HP.out.mono ?_
          rintro e w1 ⟨rfl, b1⟩
          have hM2 := HM1.out.next b1
          obtain ⟨q0, q1, f0, f1, q2, q3, f2, f3⟩ := hM2.cells
          have HM3 := hide (hM2.set_n z)
          clear HP HM1 b1 hM2
          go_wp2
          go_roundw
          case rel => exact ⟨k + 1, by omega, by go_num, HA.out, by rw [HL.out]; exact HM3.out⟩
          case measure => simp [intOf]; omega
      · rw [List.take_of_length_le (by omega)] at hM
        have hall : l1.all numOk = true := by have := HOk.out; rwa [List.take_of_length_le (by omega)] at this
        have HAll := hide hall
        have HM := hide hM
        obtain ⟨q0, q1, f0, f1, q2, q3, f2, f3⟩ := hM.cells
        clear hM hall
        by_cases h8 : 8 < n3
        · have HF : Hid (frC l1 l2 n3 = 431) := by show frC _ _ _ = _; unfold frC; rw [if_neg hs, if_neg (by rw [HAll.out]; simp), if_pos h8]
          have h8' : (8 : Int) < n3 := by omega
          clear h8
          go_wp2
          refine bodyPost_ret (results_frame _ w.heap.size _ _ _ _ rfl rfl (set2_heap HM.out.1 _ _)) rfl ?_
          exact ⟨⟨_, _, by rw [HF.out], fun e => by rw [HF.out] at e; cases e⟩, set2_below HM.out.2.2.1 (Nat.le_refl _) _ _⟩
        · have h8' : ¬ ((8 : Int) < n3) := by omega
          go_wp2
          go_loopw [46] (fun i wr2 => ∃ k2 : Nat, k2 ≤ l2.length ∧ i = .int .i64 k2 ∧ (l2.take k2).all codOk = true ∧ MemF w (!(l2.take k2).isEmpty) (lastN l1) wr2) (fun i _ => l2.length - (intOf i).toNat)
          case atStart => exact ⟨0, Nat.zero_le _, rfl, rfl, HM.out⟩
          case round =>
            clear q0 q1 f0 f1 q2 q3 f2 f3 HM
            obtain ⟨k2, hk2, rfl, hok2, hM2⟩ := hrel
            have HOk2 := hide hok2
            clear hok2
            by_cases hlt2 : k2 < l2.length
            · obtain ⟨b, o, rfl, hb, hc⟩ := HH2.out.below hM2.2.2.1 hB (by omega)
              have hcx := (hc k2 hlt2).1
              have hcy := (hc k2 hlt2).2
              have hzk := hz2 _ (List.getElem_mem hlt2)
              obtain ⟨x, hx⟩ : ∃ x, l2[k2].1 = x := ⟨_, rfl⟩
              obtain ⟨y, hy⟩ : ∃ y, l2[k2].2 = y := ⟨_, rfl⟩
              rw [hx] at hcx
              rw [hy] at hcy hzk
              have HY := hide hy
              have ba : Below wr.heap.size wr (wr.alloc (Obj.cells #[.string x, .string y] 82)) := (Below.refl _ _).alloc (Nat.le_refl _) _
              have HM3 := hide (hM2.next ba)
              have HP := hide (lower_any y (wr.alloc (Obj.cells #[.string x, .string y] 82)) (by omega))
              clear hc hM2 ba hx hy
              by_cases hcd : lowL y.data.toList = inPcs
              · have hbn : (((⟨(lowL y.data.toList).toArray⟩ : ByteArray).toList) != [99, 104, 117, 110, 107, 101, 100]) = false := by rw [chk_bne, decide_eq_true hcd]; rfl
                have hbq : (((⟨(lowL y.data.toList).toArray⟩ : ByteArray).toList) == [99, 104, 117, 110, 107, 101, 100]) = true := by rw [chk_beq, decide_eq_true hcd]
                have HA : Hid ((l2.take (k2 + 1)).all codOk = true) := by
                  show (l2.take (k2 + 1)).all codOk = true
                  rw [List.take_succ_eq_append_getElem hlt2, List.all_append, HOk2.out]
                  simp [codOk, HY.out, hcd]
                have HEm : Hid ((l2.take (k2 + 1)).isEmpty = false) := by
                  show (l2.take (k2 + 1)).isEmpty = false
                  cases l2 with
                  | nil => simp at hlt2
                  | cons _ _ => rfl
                generalize (⟨(lowL y.data.toList).toArray⟩ : ByteArray) = ly at *
                clear hcd
                go_wp2_with fail
                refine HP.out.mono ?_
                rintro e w1 ⟨rfl, b1⟩
                have hM4 := HM3.out.next b1
                obtain ⟨q0, q1, f0, f1, q2, q3, f2, f3⟩ := hM4.cells
                have HM5 := hide (hM4.set_ck true)
                clear HP HM3 b1 hM4
                go_wp2
                go_roundw
                case rel => exact ⟨k2 + 1, by omega, by go_num, HA.out, by rw [HEm.out]; exact HM5.out⟩
                case measure => simp [intOf]; omega
              · have hbn : (((⟨(lowL y.data.toList).toArray⟩ : ByteArray).toList) != [99, 104, 117, 110, 107, 101, 100]) = true := by rw [chk_bne, decide_eq_false hcd]; rfl
                have hbq : (((⟨(lowL y.data.toList).toArray⟩ : ByteArray).toList) == [99, 104, 117, 110, 107, 101, 100]) = false := by rw [chk_beq, decide_eq_false hcd]
                have HF : Hid (frC l1 l2 n3 = 501) := by
                  show frC _ _ _ = _
                  unfold frC
                  rw [if_neg hs, if_neg (by rw [HAll.out]; simp), if_neg h8, if_pos]
                  rw [List.all_eq_false]
                  exact ⟨l2[k2], List.getElem_mem hlt2, by unfold codOk; rw [HY.out]; simp [hcd]⟩
                generalize (⟨(lowL y.data.toList).toArray⟩ : ByteArray) = ly at *
                clear hcd
                go_wp2_with fail
                refine HP.out.mono ?_
                rintro e w1 ⟨rfl, b1⟩
                have hM4 := HM3.out.next b1
                obtain ⟨q0, q1, f0, f1, q2, q3, f2, f3⟩ := hM4.cells
                have HM4 := hide hM4
                clear HP HM3 b1 hM4
                go_wp2
                refine bodyPost_ret (results_frame _ w.heap.size _ _ _ _ rfl rfl (set2_heap HM4.out.1 _ _)) rfl ?_
                exact ⟨⟨_, _, by rw [HF.out], fun e => by rw [HF.out] at e; cases e⟩, set2_below HM4.out.2.2.1 (Nat.le_refl _) _ _⟩
            · rw [List.take_of_length_le (by omega)] at hM2
              have hall2 : l2.all codOk = true := by have := HOk2.out; rwa [List.take_of_length_le (by omega)] at this
              have HM := hide hM2
              obtain ⟨q0, q1, f0, f1, q2, q3, f2, f3⟩ := hM2.cells
              obtain ⟨em, hem⟩ : ∃ em, (!l2.isEmpty) = em := ⟨_, rfl⟩
              have HEm := hide hem
              rw [hem] at q2 HM
              have hlast : lastN l1 ≤ 9999999 ∧ 0 ≤ lastN l1 ∧ (200 < lastN l1 ↔ l1.any (fun h => decide (200 < numOf h)) = true) := by
                have hp : ∀ h : Hd, 0 ≤ (parseNum h.2.data.toList 9999999).1 ∧ (parseNum h.2.data.toList 9999999).1 ≤ 9999999 := by
                  intro h
                  unfold parseNum
                  split
                  · rename_i hb
                    have := (parseB_iff _ _).1 hb
                    have h5 := this.2.2.2.2
                    exact ⟨by simp, h5⟩
                  · exact ⟨by simp, by simp⟩
                match l1, hs with
                | [], _ => simp [lastN]
                | [h], _ =>
                  have := hp h
                  simp [lastN, numOf]
                  omega
                | h :: h' :: r, hs => exact absurd hs (by simp; omega)
              obtain ⟨L, hL⟩ : ∃ L, lastN l1 = L := ⟨_, rfl⟩
              rw [hL] at hlast HM q3
              have HLs := hide hL
              obtain ⟨hl9, hl0, hliff⟩ := hlast
              clear hM2 hem hL
              by_cases h200 : 200 < L
              · have HF : Hid (frC l1 l2 n3 = 413) := by
                  show frC _ _ _ = _
                  unfold frC
                  rw [if_neg hs, if_neg (by rw [HAll.out]; simp), if_neg h8, if_neg (by rw [hall2]; simp), if_pos (hliff.1 h200)]
                clear hliff hall2
                go_wp2
                refine bodyPost_ret (results_frame _ w.heap.size _ _ _ _ rfl rfl (set2_heap HM.out.1 _ _)) rfl ?_
                exact ⟨⟨_, _, by rw [HF.out], fun e => by rw [HF.out] at e; cases e⟩, set2_below HM.out.2.2.1 (Nat.le_refl _) _ _⟩
              · have HF : Hid (frC l1 l2 n3 = 0) := by
                  show frC _ _ _ = _
                  unfold frC
                  rw [if_neg hs, if_neg (by rw [HAll.out]; simp), if_neg h8, if_neg (by rw [hall2]; simp), if_neg (fun e => h200 (hliff.2 e))]
                clear hliff hall2
                go_wp2
                refine bodyPost_ret (results_frame _ w.heap.size _ _ _ _ rfl rfl (set2_heap HM.out.1 _ _)) rfl ?_
                exact ⟨⟨_, _, by rw [HF.out], fun _ => ⟨HEm.out.symm, HLs.out.symm⟩⟩, set2_below HM.out.2.2.1 (Nat.le_refl _) _ _⟩
end Go.Proofs.YtanebchmeaomgaaGreatDoor
namespace Go.Proofs.YtanebchmeaomgaaGreatDoor
open Go.RowKit M
set_option linter.unusedVariables false

set_option maxRecDepth 100000 in
set_option maxHeartbeats 1000000 in
theorem specHeadEnd_any (a : Option Addr) (l : List UInt8) (cap B : Nat) (w : World) (h : Byt w B a l) (hl : l.length ≤ cap) (hm : cap ≤ maxLen) :
    Calls Tryz.prog 23 #[.slice a l.length cap] w fun e w' => e = .returned (.int .i64 (heL l)) ∧ ∀ D, Below D w w' := by
  unfold maxLen at hm
  go_enter Tryz.func23, Tryz.ntmps23
  go_wp2
  go_loopw [3] (fun i wr => ∃ k n : Nat, k ≤ l.length ∧ k ≤ 400 ∧ i = .int .i64 k ∧ (∀ j, j < k → Lib.occAt (l.take 400) two4 j = false) ∧ wr = w.drewN n) (fun i _ => 500 - (intOf i).toNat)
  case atStart => exact ⟨0, 0, Nat.zero_le _, Nat.zero_le _, rfl, fun j hj => absurd hj (Nat.not_lt_zero _), rfl⟩
  case round =>
    obtain ⟨k, n, hk, hk4, rfl, hn, rfl⟩ := hrel
    have HN : Hid (∀ j, j < k → Lib.occAt (l.take 400) two4 j = false) := hn
    clear hn
    by_cases h1 : k + 3 < l.length
    · by_cases h2 : k + 3 < 400
      · obtain ⟨b, o, rfl, hb, hc⟩ := h (by omega)
        have hby : Byt (w.drewN n) B (some ⟨b, o, none⟩) l := fun _ => ⟨b, o, rfl, hb, hc⟩
        have hcv := conv_byt ((hby.drop k).take 4) 4 (cap - k) (by rw [List.length_take, List.length_drop]; omega)
        have e1 := two4_beq ((l.drop k).take 4)
        have h1' : ((k : Int) + 3 < (l.length : Int)) := by omega
        have h2' : ((k : Int) + 3 < 400) := by omega
        obtain ⟨q, hq⟩ : ∃ q, (l.drop k).take 4 = q := ⟨_, rfl⟩
        rw [hq] at hcv e1
        by_cases hqq : q = two4
        · rw [decide_eq_true hqq] at e1
          have HE : Hid (heL l = k + 4) := heL_at (by omega) (by omega) HN.out (by rw [hq]; exact hqq)
          clear hby hc hq hqq
          go_wp2
          go_ret
          exact ⟨ret_intE HE.out.symm, fun D => below_drewN (Below.refl _ _) _⟩
        · rw [decide_eq_false hqq] at e1
          have HE : Hid (∀ j, j < k + 1 → Lib.occAt (l.take 400) two4 j = false) := fun j hj => by
            by_cases e : j < k
            · exact HN.out j e
            · have : j = k := by omega
              subst this
              rw [occ_at l j (by omega), hq]; simp [hqq]
          clear hby hc hq hqq
          go_wp2
          go_roundw
          case rel => exact ⟨k + 1, n, by omega, by omega, by go_num, HE.out, rfl⟩
          case measure => simp [intOf]; omega
      · have HE : Hid (heL l = -1) := heL_none (by omega) HN.out
        have h1' : ((k : Int) + 3 < (l.length : Int)) := by omega
        have h2' : ¬ ((k : Int) + 3 < 400) := by omega
        go_wp2
        go_ret
        exact ⟨ret_intE HE.out.symm, fun D => below_drewN (Below.refl _ _) _⟩
    · have HE : Hid (heL l = -1) := heL_none (by omega) HN.out
      have h1' : ¬ ((k : Int) + 3 < (l.length : Int)) := by omega
      go_wp2
      go_ret
      exact ⟨ret_intE HE.out.symm, fun D => below_drewN (Below.refl _ _) _⟩

theorem min_take (l : List UInt8) : (min (l.length : Int) 400).toNat = (l.take 400).length := by rw [List.length_take]; omega

theorem mark_cells (w : World) (T : TypeId) : ∀ i, i < 4 → (w.alloc (.cells #[.int .u8 13, .int .u8 10, .int .u8 13, .int .u8 10] T (4, 5))).cell? ((⟨w.heap.size, 0, none⟩ : Addr).add i) = some (.int .u8 (([13, 10, 13, 10] : List Int).getD i 0)) := by
  intro i hi
  have e : (⟨w.heap.size, 0, none⟩ : Addr).add i = ⟨w.heap.size, i, none⟩ := by unfold Addr.add; split <;> simp_all
  rw [e, World.cell?_alloc_mark]
  match i, hi with
  | 0, _ => rfl
  | 1, _ => rfl
  | 2, _ => rfl
  | 3, _ => rfl

/-- bytes.Index of two line's ends among the first 400 bytes. -/
theorem index_two {w : World} {b o : Nat} {l : List UInt8} (cap B : Nat) (m : Int) (h : Byt w B (some ⟨b, o, none⟩) l) (hB : B ≤ w.heap.size) (hl : l.length ≤ cap) (h0 : 0 < w.heap.size) (hmx : w.cell? ⟨0, 0, none⟩ = some (.int .i64 m)) :
    Calls Tryz.prog 59 #[.slice (some ⟨b, o, none⟩) (l.take 400).length cap, .slice (some ⟨w.heap.size, 0, none⟩) 4 4] (w.alloc (.cells #[.int .u8 13, .int .u8 10, .int .u8 13, .int .u8 10] 5 (4, 5))) fun e w' => e = .returned (.int .i64 (Lib.index (l.take 400) two4)) ∧ Below w.heap.size w w' := by
  have hb0 : Below w.heap.size w (w.alloc (.cells #[.int .u8 13, .int .u8 10, .int .u8 13, .int .u8 10] 5 (4, 5))) := (Below.refl _ _).alloc (Nat.le_refl _) _
  have ht := (h.take 400).below hb0 hB
  have hlen : (l.take 400).length ≤ 400 := by rw [List.length_take]; omega
  have hlen2 : (l.take 400).length ≤ l.length := by rw [List.length_take]; omega
  have hc := Tryz.bytes_Index_at ⟨b, o, none⟩ ⟨w.heap.size, 0, none⟩ (l.take 400).length cap 4 4 (numsOf (l.take 400)) [13, 10, 13, 10] m (w.alloc (.cells #[.int .u8 13, .int .u8 10, .int .u8 13, .int .u8 10] 5 (4, 5)))
    (numsOf_length _) rfl (numsOf_range _) (by decide) (by
      intro i hi
      obtain ⟨b', o', e, _, hcc⟩ := ht (by omega)
      cases e
      exact numsOf_cells hcc i hi) (mark_cells w _) (by omega) (by omega) (by decide) ((hb0.cell (p := ⟨0, 0, none⟩) h0).trans hmx)
  refine hc.mono ?_
  rintro e w1 ⟨rfl, q, rfl⟩
  refine ⟨ret_intE ?_, below_drewN hb0 _⟩
  rw [numsOf_bytes]
  rfl

set_option maxRecDepth 100000 in
set_option maxHeartbeats 1000000 in
theorem headEnd_any (b o : Nat) (l : List UInt8) (cap B : Nat) (m : Int) (w : World) (h : Byt w B (some ⟨b, o, none⟩) l) (hB : B ≤ w.heap.size) (hl : l.length ≤ cap) (hm : cap ≤ maxLen) (h0 : 0 < w.heap.size) (hmx : w.cell? ⟨0, 0, none⟩ = some (.int .i64 m)) :
    Calls Tryz.prog 22 #[.slice (some ⟨b, o, none⟩) l.length cap] w fun e w' => e = .returned (.int .i64 (heL l)) ∧ Below w.heap.size w w' := by
  unfold maxLen at hm
  have hI := index_two cap B m h hB hl h0 hmx
  have kc := fun (w : World) (C : Array Value) (n c : Nat) => Lib.run_convert_bytes_const w 22 5 C n c Tryz.underlying22 Tryz.underlying5
  have hmt : Hid ((min (l.length : Int) 400).toNat = (l.take 400).length) := min_take l
  have HE : Hid (heL l = if 0 ≤ Lib.index (l.take 400) two4 then Lib.index (l.take 400) two4 + 4 else -1) := rfl
  have hbd : Lib.index (l.take 400) two4 ≤ 400 := by
    have := Lib.index_le (l.take 400) two4
    rw [List.length_take] at this; omega
  have hge := Lib.index_ge (l.take 400) two4
  obtain ⟨i, hi⟩ : ∃ i, Lib.index (l.take 400) two4 = i := ⟨_, rfl⟩
  rw [hi] at hI HE hbd hge
  obtain ⟨z, hz⟩ : ∃ z, heL l = z := ⟨_, rfl⟩
  rw [hz] at HE ⊢
  obtain ⟨k, hk⟩ : ∃ k, (l.take 400).length = k := ⟨_, rfl⟩
  rw [hk] at hI hmt
  clear hi hz hmx h0 h hk
  go_enter Tryz.func22, Tryz.ntmps22
  go_wp2_with fail
  rw [hmt.out]
  refine hI.mono ?_
  rintro e w1 ⟨rfl, b1⟩
  by_cases h0 : i < 0
  · have hz := HE.out
    rw [if_neg (by omega)] at hz
    subst hz
    go_wp2
    go_ret
    exact ⟨rfl, b1⟩
  · have hz := HE.out
    rw [if_pos (by omega)] at hz
    subst hz
    go_wp2
    go_ret
    exact ⟨rfl, b1⟩
end Go.Proofs.YtanebchmeaomgaaGreatDoor
namespace Go.Proofs.YtanebchmeaomgaaGreatDoor
open Go.RowKit M
set_option linter.unusedVariables false

/-- What stands in the three rows when k heads are sorted. -/
def SortI (w : World) (hs : List Hd) (k : Nat) (v1 v2 v3 : Value) (W : World) : Prop :=
  RowsH W w.heap.size v1 (lensOf (hs.take k)) ∧ RowsH W w.heap.size v2 (codsOf (hs.take k)) ∧ RowsH W w.heap.size v3 (othOf (hs.take k)) ∧ ApartV v1 v2 ∧ ApartV v1 v3 ∧ ApartV v2 v3 ∧ Below w.heap.size w W
theorem SortI.next {w W W' : World} {hs : List Hd} {k : Nat} {v1 v2 v3 : Value} (h : SortI w hs k v1 v2 v3 W) (hb : Below W.heap.size W W') : SortI w hs k v1 v2 v3 W' := by
  obtain ⟨h1, h2, h3, h4, h5, h6, h7⟩ := h
  exact ⟨ownsH_below h1 hb, ownsH_below h2 hb, ownsH_below h3 hb, h4, h5, h6, h7.trans (hb.mono h7.size)⟩
theorem lens_le (hs : List Hd) : (lensOf hs).length ≤ hs.length := List.length_filter_le _ _
theorem cods_le (hs : List Hd) : (codsOf hs).length ≤ hs.length := List.length_filter_le _ _
theorem oth_le (hs : List Hd) : (othOf hs).length ≤ hs.length := List.length_filter_le _ _
theorem sort_len {hs : List Hd} {k : Nat} (hk : k < hs.length) (h : hs[k].1 = lenName) : lensOf (hs.take (k + 1)) = lensOf (hs.take k) ++ [hs[k]] ∧ codsOf (hs.take (k + 1)) = codsOf (hs.take k) ∧ othOf (hs.take (k + 1)) = othOf (hs.take k) := by
  rw [List.take_succ_eq_append_getElem hk]
  have hne : ¬ lenName = codName := by decide
  simp only [lensOf, codsOf, othOf, List.filter_append]
  simp [h, hne]
theorem sort_cod {hs : List Hd} {k : Nat} (hk : k < hs.length) (h0 : ¬ hs[k].1 = lenName) (h : hs[k].1 = codName) : lensOf (hs.take (k + 1)) = lensOf (hs.take k) ∧ codsOf (hs.take (k + 1)) = codsOf (hs.take k) ++ [hs[k]] ∧ othOf (hs.take (k + 1)) = othOf (hs.take k) := by
  rw [List.take_succ_eq_append_getElem hk]
  simp only [lensOf, codsOf, othOf, List.filter_append]
  simp [h]
  rw [h] at h0
  exact h0
theorem sort_oth {hs : List Hd} {k : Nat} (hk : k < hs.length) (h0 : ¬ hs[k].1 = lenName) (h : ¬ hs[k].1 = codName) : lensOf (hs.take (k + 1)) = lensOf (hs.take k) ∧ codsOf (hs.take (k + 1)) = codsOf (hs.take k) ∧ othOf (hs.take (k + 1)) = othOf (hs.take k) ++ [hs[k]] := by
  rw [List.take_succ_eq_append_getElem hk]
  simp only [lensOf, codsOf, othOf, List.filter_append]
  simp [h0, h]

set_option maxRecDepth 100000 in
set_option maxHeartbeats 4000000 in
theorem sortHeads_any (a : Option Addr) (hs : List Hd) (cap B : Nat) (w : World) (h : Hds w B a hs) (hB : B ≤ w.heap.size) (hl : hs.length ≤ 1048576) :
    Calls Tryz.prog 184 #[.slice a hs.length cap] w fun e w' => (∃ v1 v2 v3, e = .returned (.tuple #[v1, v2, v3]) ∧ RowsH w' w.heap.size v1 (lensOf hs) ∧ RowsH w' w.heap.size v2 (codsOf hs) ∧ RowsH w' w.heap.size v3 (othOf hs)) ∧ Below w.heap.size w w' := by
  have HH := hide h
  clear h
  go_enter Tryz.func184, Tryz.ntmps184
  go_wp2
  go_loopw [2, 3, 4, 9] (fun v1 v2 v3 i wr => ∃ k : Nat, k ≤ hs.length ∧ i = .int .i64 k ∧ SortI w hs k v1 v2 v3 wr) (fun _ _ _ i _ => hs.length - (intOf i).toNat)
  case atStart => exact ⟨0, Nat.zero_le _, rfl, World.ownsRow_nil _ _ _ _, World.ownsRow_nil _ _ _ _, World.ownsRow_nil _ _ _ _, .inl rfl, .inl rfl, .inl rfl, Below.refl _ _⟩
  case round =>
    obtain ⟨k, hk, rfl, hS⟩ := hrel
    by_cases hlt : k < hs.length
    · obtain ⟨b, o, rfl, hb, hc⟩ := HH.out.below hS.2.2.2.2.2.2 hB (by omega)
      have hcx := (hc k hlt).1
      have hcy := (hc k hlt).2
      obtain ⟨x, hx⟩ : ∃ x, hs[k].1 = x := ⟨_, rfl⟩
      obtain ⟨y, hy⟩ : ∃ y, hs[k].2 = y := ⟨_, rfl⟩
      rw [hx] at hcx
      rw [hy] at hcy
      have HE : Hid (hs[k] = (x, y)) := by show hs[k] = (x, y); rw [← hx, ← hy]
      have ba : Below wr.heap.size wr (wr.alloc (Obj.cells #[.string x, .string y] 82)) := (Below.refl _ _).alloc (Nat.le_refl _) _
      have HS1 := hide (hS.next ba)
      have HT1 := hide (tellsLength_any x y (wr.alloc (Obj.cells #[.string x, .string y] 82)))
      have BH1 := hide (BoxH.made wr x y 82)
      clear hc hS ba
      by_cases hlen : x = lenName
      · have HSt := hide (sort_len hlt (by rw [hx]; exact hlen))
        rw [decide_eq_true hlen] at HT1
        clear hx hy hlen
        go_wp2_with fail
        refine HT1.out.mono ?_
        rintro e w1 ⟨rfl, b1⟩
        have hS2 := HS1.out.next b1
        have BH2 := hide (BH1.out.next b1)
        obtain ⟨hl2, q0, q1⟩ := BH2.out
        clear HT1 HS1 BH1 b1
        have ba := (Below.refl w1.heap.size w1).alloc (Nat.le_refl _) (Obj.cells #[Value.string x, Value.string y] 82)
        obtain ⟨r1, r2, r3, a12, a13, a23, hbe⟩ := hS2.next ba
        have BN := BoxH.made w1 x y 82
        have hle := lens_le (hs.take k)
        rw [List.length_take] at hle
        go_wp2_with (at_builtin; refine wp_append_head2 rfl _ _ rfl w.heap.size u2 _ (lensOf (hs.take k)) rfl r1 w1.heap.size (x, y) rfl BN.2.1 BN.2.2 ?c1 ?c2 ?_)
        case c1 => omega
        case c2 => exact hbe.size
        intro g cp w3 ho3 hg3 hw3'
        have hw3 : _ ∨ g = _ := hw3'.imp id (fun e => e.trans (World.size_alloc _ (Obj.cells #[Value.string x, Value.string y] 82)).symm)
        have R2 := r2.kept a12 hg3
        have R3 := r3.kept a13 hg3
        have R1 : RowsH w3 w.heap.size (.slice (some ⟨g, 0, none⟩) ((lensOf (hs.take k)).length + 1) cp) (lensOf (hs.take (k + 1))) := by
          unfold RowsH
          rw [HSt.out.1, HE.out, List.length_append]
          exact ho3
        have B3 := hbe.trans (belowH_grown r1 hbe.size hg3)
        have HF : Hid (SortI w hs (k + 1) (.slice (some ⟨g, 0, none⟩) ((lensOf (hs.take k)).length + 1) cp) u3 u4 w3) := ⟨R1, by rw [HSt.out.2.1]; exact R2, by rw [HSt.out.2.2]; exact R3, a12.grown r2 hw3, a13.grown r3 hw3, a23, B3⟩
        clear R1 R2 R3 B3 r1 r2 r3 ho3 hg3 hw3 hbe ba hS2 BN q0 q1
        go_wp2
        go_roundw
        case rel => exact ⟨k + 1, by omega, by go_num, HF.out⟩
        case measure => simp [intOf]; omega
      · rw [decide_eq_false hlen] at HT1
        go_wp2_with fail
        refine HT1.out.mono ?_
        rintro e w1 ⟨rfl, b1⟩
        have HS2 := hide (HS1.out.next b1)
        have BH2 := hide (BH1.out.next b1)
        obtain ⟨hl2, q0, q1⟩ := BH2.out
        have HT2 := hide (tellsCoding_any x y w1)
        clear HT1 HS1 BH1 b1
        by_cases hcod : x = codName
        · have HSt := hide (sort_cod hlt (by rw [hx]; exact hlen) (by rw [hx]; exact hcod))
          rw [decide_eq_true hcod] at HT2
          clear hx hy hlen hcod
          go_wp2_with fail
          refine HT2.out.mono ?_
          rintro e w2 ⟨rfl, b2⟩
          have hS3 := HS2.out.next b2
          have BH3 := hide (BH2.out.next b2)
          obtain ⟨hl3, p0, p1⟩ := BH3.out
          clear HT2 HS2 BH2 b2 q0 q1
          have ba := (Below.refl w2.heap.size w2).alloc (Nat.le_refl _) (Obj.cells #[Value.string x, Value.string y] 82)
          obtain ⟨r1, r2, r3, a12, a13, a23, hbe⟩ := hS3.next ba
          have BN := BoxH.made w2 x y 82
          have hle := cods_le (hs.take k)
          rw [List.length_take] at hle
          go_wp2_with (at_builtin; refine wp_append_head2 rfl _ _ rfl w.heap.size u3 _ (codsOf (hs.take k)) rfl r2 w2.heap.size (x, y) rfl BN.2.1 BN.2.2 ?c1 ?c2 ?_)
          case c1 => omega
          case c2 => exact hbe.size
          intro g cp w3 ho3 hg3 hw3'
          have hw3 : _ ∨ g = _ := hw3'.imp id (fun e => e.trans (World.size_alloc _ (Obj.cells #[Value.string x, Value.string y] 82)).symm)
          have R1 := r1.kept a12.symm hg3
          have R3 := r3.kept a23 hg3
          have R2 : RowsH w3 w.heap.size (.slice (some ⟨g, 0, none⟩) ((codsOf (hs.take k)).length + 1) cp) (codsOf (hs.take (k + 1))) := by
            unfold RowsH
            rw [HSt.out.2.1, HE.out, List.length_append]
            exact ho3
          have B3 := hbe.trans (belowH_grown r2 hbe.size hg3)
          have HF : Hid (SortI w hs (k + 1) u2 (.slice (some ⟨g, 0, none⟩) ((codsOf (hs.take k)).length + 1) cp) u4 w3) := ⟨by rw [HSt.out.1]; exact R1, R2, by rw [HSt.out.2.2]; exact R3, (a12.symm.grown r1 hw3).symm, a13, a23.grown r3 hw3, B3⟩
          clear R1 R2 R3 B3 r1 r2 r3 ho3 hg3 hw3 hbe ba hS3 BN p0 p1
          go_wp2
          go_roundw
          case rel => exact ⟨k + 1, by omega, by go_num, HF.out⟩
          case measure => simp [intOf]; omega
        · have HSt := hide (sort_oth hlt (by rw [hx]; exact hlen) (by rw [hx]; exact hcod))
          rw [decide_eq_false hcod] at HT2
          clear hx hy hlen hcod
          go_wp2_with fail
          refine HT2.out.mono ?_
          rintro e w2 ⟨rfl, b2⟩
          have hS3 := HS2.out.next b2
          have BH3 := hide (BH2.out.next b2)
          obtain ⟨hl3, p0, p1⟩ := BH3.out
          clear HT2 HS2 BH2 b2 q0 q1
          have ba := (Below.refl w2.heap.size w2).alloc (Nat.le_refl _) (Obj.cells #[Value.string x, Value.string y] 82)
          obtain ⟨r1, r2, r3, a12, a13, a23, hbe⟩ := hS3.next ba
          have BN := BoxH.made w2 x y 82
          have hle := oth_le (hs.take k)
          rw [List.length_take] at hle
          go_wp2_with (at_builtin; refine wp_append_head2 rfl _ _ rfl w.heap.size u4 _ (othOf (hs.take k)) rfl r3 w2.heap.size (x, y) rfl BN.2.1 BN.2.2 ?c1 ?c2 ?_)
          case c1 => omega
          case c2 => exact hbe.size
          intro g cp w3 ho3 hg3 hw3'
          have hw3 : _ ∨ g = _ := hw3'.imp id (fun e => e.trans (World.size_alloc _ (Obj.cells #[Value.string x, Value.string y] 82)).symm)
          have R1 := r1.kept a13.symm hg3
          have R2 := r2.kept a23.symm hg3
          have R3 : RowsH w3 w.heap.size (.slice (some ⟨g, 0, none⟩) ((othOf (hs.take k)).length + 1) cp) (othOf (hs.take (k + 1))) := by
            unfold RowsH
            rw [HSt.out.2.2, HE.out, List.length_append]
            exact ho3
          have B3 := hbe.trans (belowH_grown r3 hbe.size hg3)
          have HF : Hid (SortI w hs (k + 1) u2 u3 (.slice (some ⟨g, 0, none⟩) ((othOf (hs.take k)).length + 1) cp) w3) := ⟨by rw [HSt.out.1]; exact R1, by rw [HSt.out.2.1]; exact R2, R3, a12, (a13.symm.grown r1 hw3).symm, (a23.symm.grown r2 hw3).symm, B3⟩
          clear R1 R2 R3 B3 r1 r2 r3 ho3 hg3 hw3 hbe ba hS3 BN p0 p1
          go_wp2
          go_roundw
          case rel => exact ⟨k + 1, by omega, by go_num, HF.out⟩
          case measure => simp [intOf]; omega
    · obtain ⟨r1, r2, r3, _, _, _, hbe⟩ := hS
      rw [List.take_of_length_le (by omega)] at r1 r2 r3
      go_wp2
      refine bodyPost_ret (v := .tuple #[u2, u3, u4]) (by simp [results, Tryz.results184, go_sem]) rfl ?_
      exact ⟨⟨_, _, _, rfl, r1, r2, r3⟩, hbe⟩
end Go.Proofs.YtanebchmeaomgaaGreatDoor
namespace Go.Proofs.YtanebchmeaomgaaGreatDoor
open Go.RowKit M

set_option maxHeartbeats 400000 in
theorem l1HexOf_any (c : UInt8) (w : World) :
    Calls Tryz.prog 187 #[.int .u8 c.toNat] w fun e w' => e = .returned (.int .i64 (hexOf c)) ∧ w' = w := by
  cases h4 : isB (c.toNat : Int) 4
  · cases h5 : isB (c.toNat : Int) 5
    · cases h6 : isB (c.toNat : Int) 6
      · have HO : Hid (hexOf c = -1) := hexOf_no (by simp [isHex, anyB, h4, h5, h6])
        go_enter Tryz.func187, Tryz.ntmps187
        go_wp2_with (first | (go_at_call 159; refine (l1Digit_any _ _).mono ?_; rintro e w' ⟨rfl, rfl⟩; rw [h4]) | (go_at_call 123; refine (l1In_any _ _ _ _).mono ?_; rintro e w' ⟨rfl, rfl⟩; (try rw [wrap64_u8]); first | rw [inB_hexs, h5] | rw [inB_hexl, h6]))
        go_ret
        exact ⟨ret_int HO.out.symm, rfl⟩
      · have hh : isHex c = true := by simp [isHex, anyB, h4, h5, h6]
        have HO : Hid (hexOf c = (c.toNat : Int) - 65 + 10) := by
          show _ = _
          rw [hexOf_yes hh, hexW_6 h4 h5]
          have := isB6 h6
          omega
        have hb := isB6 h6
        go_enter Tryz.func187, Tryz.ntmps187
        go_wp2_with (first | (go_at_call 159; refine (l1Digit_any _ _).mono ?_; rintro e w' ⟨rfl, rfl⟩; rw [h4]) | (go_at_call 123; refine (l1In_any _ _ _ _).mono ?_; rintro e w' ⟨rfl, rfl⟩; (try rw [wrap64_u8]); first | rw [inB_hexs, h5] | rw [inB_hexl, h6]))
        go_ret
        exact ⟨ret_int HO.out.symm, rfl⟩
    · have hh : isHex c = true := by simp [isHex, anyB, h4, h5]
      have HO : Hid (hexOf c = (c.toNat : Int) - 97 + 10) := by
        show _ = _
        rw [hexOf_yes hh, hexW_5 h4 h5]
        have := isB5 h5
        omega
      have hb := isB5 h5
      go_enter Tryz.func187, Tryz.ntmps187
      go_wp2_with (first | (go_at_call 159; refine (l1Digit_any _ _).mono ?_; rintro e w' ⟨rfl, rfl⟩; rw [h4]) | (go_at_call 123; refine (l1In_any _ _ _ _).mono ?_; rintro e w' ⟨rfl, rfl⟩; (try rw [wrap64_u8]); rw [inB_hexs, h5]))
      go_ret
      exact ⟨ret_int HO.out.symm, rfl⟩
  · have hh : isHex c = true := by simp [isHex, anyB, h4]
    have HO : Hid (hexOf c = (c.toNat : Int) - 48) := by
      show _ = _
      rw [hexOf_yes hh, hexW_4 h4]
      have := isB4 h4
      omega
    have hb := isB4 h4
    go_enter Tryz.func187, Tryz.ntmps187
    go_wp2_with (go_at_call 159; refine (l1Digit_any _ _).mono ?_; rintro e w' ⟨rfl, rfl⟩; rw [h4])
    go_ret
    exact ⟨ret_int HO.out.symm, rfl⟩

end Go.Proofs.YtanebchmeaomgaaGreatDoor
namespace Go.Proofs.YtanebchmeaomgaaGreatDoor
open Go.RowKit M

theorem low_small : ∀ d : Fin 256, 97 ≤ d.val → d.val ≤ 102 → bits .or .u8 (d.val : Int) 32 = (d.val : Int) := by decide +kernel
theorem low_large : ∀ d : Fin 256, 65 ≤ d.val → d.val ≤ 70 → bits .or .u8 (d.val : Int) 32 = (d.val : Int) + 32 := by decide +kernel

set_option maxHeartbeats 4000000 in
set_option maxRecDepth 100000 in
theorem parseUint_16 (t : ByteArray) (w : World) (h0 : 0 < t.size) (h4 : t.size ≤ 4) (hh : hexs t.data.toList = true) :
    Calls Tryz.prog 234 #[.string t, .int .i64 16, .int .i64 64] w fun e w' => e = .returned (.tuple #[.int .u64 (hexVal t.data.toList), .nilIface]) ∧ Below w.heap.size w w' := by
  have hemp : t.toList.isEmpty = false := by
    rw [← decide_eq_emptyBytes]
    exact decide_eq_false (fun h => by rw [h] at h0; exact absurd h0 (by decide))
  have hcv := Lib.run_convert_string_bytes (P := Tryz.prog) w 9 22 5 t Tryz.underlying9 Tryz.underlying22 Tryz.underlying5
  have hB : ∀ j (hj : j < t.size), (Lib.bytesWorld w 5 t).cell? ⟨w.heap.size, j, none⟩ = some (.int .u8 (t[j]).toNat) := fun j hj => by
    rw [Lib.bytesWorld_cell w 5 t j hj]
    have e := len_list t
    have : t.data.toList.getD j 0 = t[j] := by
      simp only [List.getD, List.getElem?_eq_getElem (show j < t.data.toList.length by omega), Option.getD_some]; rfl
    rw [this]
  have hbel := below_bytes w 5 t
  obtain ⟨W1, hW1⟩ : ∃ W1, W1 = Lib.bytesWorld w 5 t := ⟨_, rfl⟩
  rw [← hW1] at hcv hB hbel
  clear hW1
  have HB : Hid (∀ j (hj : j < t.size), W1.cell? ⟨w.heap.size, j, none⟩ = some (.int .u8 (t[j]).toNat)) := hB
  have HBE : Hid (Below w.heap.size w W1) := hbel
  have HH : Hid (hexs t.data.toList = true) := hh
  clear hB hbel hh
  have hmv : IntKind.u64.wrap (IntKind.u64.wrap 18446744073709551616 - 1) = 18446744073709551615 := by
    rw [IntKind.wrap_u64, IntKind.wrap_u64]
    decide
  go_enter Tryz.func234, Tryz.ntmps234
  go_wp2
  go_loop [12, 13, 101] (fun vu vn vi => ∃ (k : Nat) (a : Int), vu = .bool false ∧ vn = .int .u64 a ∧ vi = .int .i64 k ∧ k ≤ t.size ∧ Hid (a = (hexVal (t.data.toList.take k) : Int) ∧ hexs (t.data.toList.take k) = true))
    (fun _ _ vi => t.size - (intOf vi).toNat)
  case atStart => exact ⟨0, 0, rfl, rfl, rfl, by omega, rfl, rfl⟩
  case round =>
    obtain ⟨k, a, rfl, rfl, rfl, hk, hx⟩ := hrel
    obtain ⟨ha, hhx⟩ := hx.out
    clear hx
    have hlt16 := hexVal_lt t k hk hhx
    have hp16 := pow16_le (show k ≤ 5 by omega)
    have a0 : 0 ≤ a := by omega
    have a1 : a < 1048576 := by omega
    have HA : Hid (a = (hexVal (t.data.toList.take k) : Int)) := ha
    have HX : Hid (hexs (t.data.toList.take k) = true) := hhx
    clear ha hhx hlt16 hp16
    by_cases hkn : k < t.size
    · have hc := HB.out k hkn
      have hhex := hexs_get t HH.out k hkn
      have HS : Hid (hexVal (t.data.toList.take (k + 1)) = hexVal (t.data.toList.take k) * 16 + hexW t[k]) := hexVal_step t k hkn
      have HX2 : Hid (hexs (t.data.toList.take (k + 1)) = true) := hexs_snoc t k hkn HX.out hhex
      generalize t[k] = c at hc hhex HS
      have hc256 : c.toNat < 256 := c.toNat_lt
      have hfin : ∀ d : Int, d = (hexW c : Int) → Hid (a * 16 + d = (hexVal (t.data.toList.take (k + 1)) : Int) ∧ hexs (t.data.toList.take (k + 1)) = true) := by
        intro d hd
        refine ⟨?_, HX2.out⟩
        rw [hd, HA.out, HS.out]
        simp
      have HFIN : Hid (∀ d : Int, d = (hexW c : Int) → Hid (a * 16 + d = (hexVal (t.data.toList.take (k + 1)) : Int) ∧ hexs (t.data.toList.take (k + 1)) = true)) := hfin
      clear hfin HS HX2
      have HC : Hid (isHex c = true) := hhex
      clear hhex
      rcases isHex_cases HC.out with e4 | ⟨e4, e5⟩ | ⟨e4, e5, e6⟩
      · have hd := isB4 e4
        have HD : Hid ((c.toNat : Int) - 48 = (hexW c : Int)) := by
          show _ = _
          rw [hexW_4 e4]; omega
        clear e4
        go_wp2
        refine ⟨⟨k + 1, a * 16 + ((c.toNat : Int) - 48), rfl, rfl, by go_num, by omega, HFIN.out _ HD.out⟩, by simp [intOf]; omega⟩
      · have hd := isB5 e5
        have hlow := low_small ⟨c.toNat, hc256⟩ (by simp; omega) (by simp; omega)
        have hlow' : bits .or .u8 (c.toNat : Int) 32 = (c.toNat : Int) := hlow
        have HD : Hid ((c.toNat : Int) - 97 + 10 = (hexW c : Int)) := by
          show _ = _
          rw [hexW_5 e4 e5]; omega
        clear e4 e5 hlow
        go_wp2_with (go_at_call 237; refine (Tryz.internal_strconv_lower _ _).mono ?_; rintro e w' ⟨rfl, rfl⟩; rw [hlow'])
        refine ⟨⟨k + 1, a * 16 + ((c.toNat : Int) - 97 + 10), rfl, rfl, by go_num, by omega, HFIN.out _ HD.out⟩, by simp [intOf]; omega⟩
      · have hd := isB6 e6
        have hlow := low_large ⟨c.toNat, hc256⟩ (by simp; omega) (by simp; omega)
        have hlow' : bits .or .u8 (c.toNat : Int) 32 = (c.toNat : Int) + 32 := hlow
        have HD : Hid ((c.toNat : Int) + 32 - 97 + 10 = (hexW c : Int)) := by
          show _ = _
          rw [hexW_6 e4 e5]; omega
        clear e4 e5 e6 hlow
        go_wp2_with (go_at_call 237; refine (Tryz.internal_strconv_lower _ _).mono ?_; rintro e w' ⟨rfl, rfl⟩; rw [hlow'])
        refine ⟨⟨k + 1, a * 16 + ((c.toNat : Int) + 32 - 97 + 10), rfl, rfl, by go_num, by omega, HFIN.out _ HD.out⟩, by simp [intOf]; omega⟩
    · go_wp2
      go_ret2
      refine ⟨?_, HBE.out⟩
      rw [HA.out, take_all t k hkn]; rfl
end Go.Proofs.YtanebchmeaomgaaGreatDoor
namespace Go.Proofs.YtanebchmeaomgaaGreatDoor
open Go.RowKit M

set_option maxHeartbeats 2000000 in
set_option maxRecDepth 100000 in
theorem parseIntIn_16 (t : ByteArray) (w : World) (h0 : 0 < t.size) (h4 : t.size ≤ 4) (hh : hexs t.data.toList = true) :
    Calls Tryz.prog 227 #[.string t, .int .i64 16, .int .i64 64] w fun e w' => e = .returned (.tuple #[.int .i64 (hexVal t.data.toList), .nilIface]) ∧ Below w.heap.size w w' := by
  have hemp : t.toList.isEmpty = false := by
    rw [← decide_eq_emptyBytes]
    exact decide_eq_false (fun h => by rw [h] at h0; exact absurd h0 (by decide))
  have HP : Hid (∀ W, Calls Tryz.prog 234 #[.string t, .int .i64 16, .int .i64 64] W fun e w' => e = .returned (.tuple #[.int .u64 (hexVal t.data.toList), .nilIface]) ∧ Below W.heap.size W w') := fun W => parseUint_16 t W h0 h4 hh
  have hg := hexs_get t hh 0 h0
  have hne : (((t[0]).toNat : Int) == 43) = false ∧ (((t[0]).toNat : Int) == 45) = false := by
    rw [beq_eq_false_iff_ne, beq_eq_false_iff_ne]
    rcases isHex_cases hg with e4 | ⟨_, e5⟩ | ⟨_, _, e6⟩
    · have := isB4 e4; omega
    · have := isB5 e5; omega
    · have := isB6 e6; omega
  obtain ⟨hn1, hn2⟩ := hne
  have hv : hexVal t.data.toList < 1048576 := by
    have h1 := hexVal_lt t t.size (Nat.le_refl _) (by rw [take_all t t.size (by omega)]; exact hh)
    rw [take_all t t.size (by omega)] at h1
    have := pow16_le (show t.size ≤ 5 by omega)
    omega
  clear hg hh
  obtain ⟨a, ha⟩ : ∃ a : Int, a = (hexVal t.data.toList : Int) := ⟨_, rfl⟩
  rw [← ha] at HP ⊢
  have a0 : 0 ≤ a := by omega
  have a1 : a < 1048576 := by omega
  clear ha hv
  go_enter Tryz.func227, Tryz.ntmps227
  go_wp2_with (go_at_call 234; refine (HP.out _).mono ?_; rintro e w1 ⟨rfl, hb1⟩)
  go_ret2
  exact ⟨rfl, hb1⟩

set_option maxHeartbeats 1000000 in
theorem parseInt_16 (t : ByteArray) (w : World) (h0 : 0 < t.size) (h4 : t.size ≤ 4) (hh : hexs t.data.toList = true) :
    Calls Tryz.prog 239 #[.string t, .int .i64 16, .int .i64 64] w fun e w' => e = .returned (.tuple #[.int .i64 (hexVal t.data.toList), .nilIface]) ∧ Below w.heap.size w w' := by
  have HP : Hid (∀ W, Calls Tryz.prog 227 #[.string t, .int .i64 16, .int .i64 64] W fun e w' => e = .returned (.tuple #[.int .i64 (hexVal t.data.toList), .nilIface]) ∧ Below W.heap.size W w') := fun W => parseIntIn_16 t W h0 h4 hh
  clear hh
  generalize (hexVal t.data.toList : Int) = a at *
  go_enter Tryz.func239, Tryz.ntmps239
  go_wp2_with (go_at_call 227; refine (HP.out _).mono ?_; rintro e w1 ⟨rfl, hb1⟩)
  go_ret2
  exact ⟨rfl, hb1⟩

set_option maxHeartbeats 1000000 in
theorem parseHex_any (s : ByteArray) (w : World) (hs : s.size ≤ maxLen) :
    Calls Tryz.prog 236 #[.string s] w fun e w' => e = .returned (.tuple #[.int .i64 (parseHex s.data.toList).1, .bool (parseHex s.data.toList).2]) ∧ Below w.heap.size w w' := by
  have hs' := hs
  unfold maxLen at hs'
  cases hin : inB (s.size : Int) 1 4
  · have HQ : Hid (parseHex s.data.toList = (0, false)) := parseHex_size hin
    have h : s.size < 1 ∨ 4 < s.size := by simp [inB] at hin; omega
    clear hin
    rcases h with h | h
    · go_enter Tryz.func236, Tryz.ntmps236
      go_wp2
      go_ret2
      exact ⟨ret_two (by rw [HQ.out]), Below.refl _ _⟩
    · have h' : ¬ s.size < 1 := by omega
      go_enter Tryz.func236, Tryz.ntmps236
      go_wp2
      go_ret2
      exact ⟨ret_two (by rw [HQ.out]), Below.refl _ _⟩
  · have h0 : 0 < s.size := by simp [inB] at hin; omega
    have h4 : ¬ 4 < s.size := by simp [inB] at hin; omega
    have h1n : ¬ s.size < 1 := by omega
    have HIN : Hid (inB (s.size : Int) 1 4 = true) := hin
    clear hin
    cases hd : allB s.data.toList [4, 5, 6]
    · have HQ : Hid (parseHex s.data.toList = (0, false)) := parseHex_no hd
      go_enter Tryz.func236, Tryz.ntmps236
      go_wp2_with (go_at_call 167; refine (allOf_any s [4, 5, 6] 3 _ 0 3 _ rfl hs (by decide) (cells3 w _ 4 5 6 205 rfl)).mono ?_; rintro e w' ⟨rfl, rfl⟩; rw [hd])
      go_ret2
      exact ⟨ret_two (by rw [HQ.out]), (Below.refl _ _).alloc (Nat.le_refl _) _⟩
    · have HP : Hid (∀ W, Calls Tryz.prog 239 #[.string s, .int .i64 16, .int .i64 64] W fun e w' => e = .returned (.tuple #[.int .i64 (hexVal s.data.toList), .nilIface]) ∧ Below W.heap.size W w') := fun W => parseInt_16 s W h0 (by omega) hd
      have HQ : Hid (parseHex s.data.toList = ((hexVal s.data.toList : Int), true)) := parseHex_yes HIN.out hd
      have hv : hexVal s.data.toList < 1048576 := by
        have h1 := hexVal_lt s s.size (Nat.le_refl _) (by rw [take_all s s.size (by omega)]; exact hd)
        rw [take_all s s.size (by omega)] at h1
        have := pow16_le (show s.size ≤ 5 by omega)
        omega
      go_enter Tryz.func236, Tryz.ntmps236
      go_wp2_with (first | (go_at_call 167; refine (allOf_any s [4, 5, 6] 3 _ 0 3 _ rfl hs (by decide) (cells3 w _ 4 5 6 205 rfl)).mono ?_; rintro e w' ⟨rfl, rfl⟩; rw [hd]) | (go_at_call 239; refine (HP.out _).mono ?_; rintro e w1 ⟨rfl, hb1⟩))
      go_ret2
      exact ⟨ret_two (by rw [HQ.out]), ((Below.refl _ _).alloc (Nat.le_refl _) _).trans (hb1.mono (by simp))⟩
end Go.Proofs.YtanebchmeaomgaaGreatDoor
