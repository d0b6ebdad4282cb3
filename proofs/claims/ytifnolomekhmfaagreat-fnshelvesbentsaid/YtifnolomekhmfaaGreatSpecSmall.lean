/-
  What impl.Above does.
  What writing one byte into a strings.Builder does that the call made itself.
  What the program's calls on kinds of bytes do: isOf, isOneOf: each computes, and turns nothing in memory.
  What the program's Quote does.
  What the program's PathText does.
  Which paths are left over; a map of their texts.
  What impl.lacking does.
  What cmp.Compare[string] does.
  Whether a list of texts comes ahead of another: what cmp.Compare[string], slices.Compare[[]string,string] and impl.LessPath do.
  What the program's allOf does: whether all bytes of a text are of one of these kinds.
  What the program's Plain does.
  What SmallName (the program's) does.
-/
import Derived.Test.YtifnolomekhmfaaGreatMapHeld
import Derived.Test.YtifnolomekhmfaaGreatMathPath
import Derived.Test.YtifnolomekhmfaaGreatHide
import Derived.Lib.Builder
import Derived.Test.YtifnolomekhmfaaGreatRows
import Derived.Test.YtifnolomekhmfaaGreatEqBs
import Derived.WalkKit
import Derived.WalkSpells
import Derived.WalkLawsBesides
import Derived.Deep.Light
import Derived.Test.YtifnolomekhmfaaGreatShelf
import Derived.Test.YtifnolomekhmfaaGreatSpecLess
import Derived.Test.YtifnolomekhmfaaGreatMathTree
import Derived.Test.YtifnolomekhmfaaGreatMathOrder
namespace Go.Proofs.YtifnolomekhmfaaGreat
open Go.RowKit M
set_option linter.unusedVariables false

set_option maxHeartbeats 400000 in
theorem above_any (b o : Nat) (ss : List ByteArray) (cap B : Nat) (w : World) (h : Strs w B (some ⟨b, o, none⟩) ss) (hB : B ≤ w.heap.size) (hl : ss.length ≤ 1048576) (hs : ∀ s ∈ ss, s.size ≤ 281474976710656) (hc : ss.length ≤ cap) (hc' : cap ≤ maxLen) :
    Calls Tryz.prog 45 #[.slice (some ⟨b, o, none⟩) ss.length cap] w fun e w' => e = .returned (.slice (some ⟨w.heap.size, 0, none⟩) (aboveL ss).length (aboveL ss).length) ∧ RowS w' w.heap.size (aboveL ss) ∧ Below w.heap.size w w' := by
  unfold maxLen at hc'
  have hC := fun cap => copyPath_any (some ⟨b, o, none⟩) (aboveL ss) cap B w (h.take _) hB (by rw [aboveL_len]; omega) (fun s hs' => hs s (List.mem_of_mem_take hs'))
  rw [aboveL_len] at hC ⊢
  by_cases h0 : ss.length = 0
  · have h1 : ss.length - 1 = 0 := by omega
    rw [h1] at hC ⊢
    rw [h0] at hc ⊢
    clear h1
    have HC := hide hC
    clear hC
    go_enter Tryz.func45, Tryz.ntmps45
    go_wp2_with fail
    refine (HC.out _).mono ?_
    rintro e w1 ⟨rfl, hR, hb⟩
    go_wp2
    go_ret
    exact ⟨rfl, hR, hb⟩
  · have HC := hide hC
    clear hC
    have e1 : (ss.length : Int) - 1 = ((ss.length - 1 : Nat) : Int) := by omega
    obtain ⟨n, hn⟩ : ∃ n, ss.length = n + 1 := ⟨ss.length - 1, by omega⟩
    rw [hn] at HC hc ⊢
    have HN := hide hn
    clear e1 h0 hn
    simp only [Nat.add_sub_cancel] at HC ⊢
    have hl2 : n + 1 ≤ 1048576 := by rw [← HN.out]; exact hl
    go_enter Tryz.func45, Tryz.ntmps45
    go_wp2_with fail
    refine (HC.out _).mono ?_
    rintro e w1 ⟨rfl, hR, hb⟩
    go_wp2
    go_ret
    exact ⟨rfl, hR, hb⟩
end Go.Proofs.YtifnolomekhmfaaGreat
namespace Go.Proofs.YtifnolomekhmfaaGreat
open Go.RowKit

theorem bld_size : (Tryz.prog.info? 144).map (·.size) = some 2 := by kernel_rfl
theorem bld_lies : liesAt Tryz.prog Tryz.prog.depth 144 (2 / Tryz.prog.cellsOf 144) 0 144 1 = true := by kernel_rfl

set_option maxHeartbeats 1000000 in
set_option maxRecDepth 100000 in
theorem copyCheck_fresh (b : Nat) (w : World) (h0 : w.cell? ⟨b, 0, none⟩ = some (.pointer none)) (hsh : w.shape? b = some (144, 2)) (hfz : w.frozen? ⟨b, 0, none⟩ = false) :
    Calls Tryz.prog 163 #[.pointer (some ⟨b, 0, none⟩)] w fun e w' => e = .returned (.tuple #[]) ∧ w' = w.setCell ⟨b, 0, none⟩ (.pointer (some ⟨b, 0, none⟩)) := by
  obtain ⟨j, hj, hjs⟩ := Option.map_eq_some_iff.1 bld_size
  have q1 := Lib.run_to_unsafe w ⟨b, 0, none⟩ Tryz.underlying142 Tryz.underlying157 hj (by rw [hjs]; decide) hsh (Nat.zero_lt_succ 1)
  have q2 := Lib.run_from_unsafe w ⟨b, 0, none⟩ Tryz.underlying157 Tryz.underlying142 hj hsh bld_lies
  have q3 : ∀ x : Value, (callFunc 166 #[x]).run Tryz.prog w = .ok (.value x) w := fun x => by
    rw [run_callFunc_extern Tryz.func166 (by kernel_rfl) (by kernel_rfl) (by kernel_rfl) (e := Extern.AbiNoEscape.same) (by kernel_rfl), Lib.run_noEscape]
    rfl
  go_enter Tryz.func163, Tryz.ntmps163
  go_wp2
  go_end0
  exact ⟨rfl, rfl⟩

set_option maxHeartbeats 1000000 in
theorem copyCheck_used (b : Nat) (w : World) (h0 : w.cell? ⟨b, 0, none⟩ = some (.pointer (some ⟨b, 0, none⟩))) :
    Calls Tryz.prog 163 #[.pointer (some ⟨b, 0, none⟩)] w fun e w' => e = .returned (.tuple #[]) ∧ w' = w := by
  obtain ⟨j, hj, _⟩ := Option.map_eq_some_iff.1 bld_size
  have q := Lib.run_neq_ptr_same w ⟨b, 0, none⟩ Tryz.underlying142 hj
  go_enter Tryz.func163, Tryz.ntmps163
  go_wp2
  go_end0
  exact ⟨rfl, rfl⟩

theorem copyCheck_any (B b : Nat) (bs : List Value) (w : World) (h : Lib.IsBuilder 144 5 B b bs w) :
    Calls Tryz.prog 163 #[.pointer (some ⟨b, 0, none⟩)] w fun e w' => e = .returned (.tuple #[]) ∧ Lib.BuilderAt 144 5 B b (.pointer (some ⟨b, 0, none⟩)) bs w' ∧ Below B w w' := by
  rcases h with h | h
  · refine (copyCheck_fresh b w h.cell0 h.shape h.frozen0).mono ?_
    rintro e w' ⟨rfl, rfl⟩
    exact ⟨rfl, h.used _, (Below.refl B w).setCell (p := ⟨b, 0, none⟩) h.1 _⟩
  · refine (copyCheck_used b w h.cell0).mono ?_
    rintro e w' ⟨rfl, rfl⟩
    exact ⟨rfl, h, Below.refl B _⟩

/-- A builder stays what it is where only new memory is laid. -/
theorem bld_below {T e : TypeId} {B b : Nat} {bs : List Value} {w w' : World} (h : Lib.IsBuilder T e B b bs w) (hb : Below w.heap.size w w') : Lib.IsBuilder T e B b bs w' := by
  have go : ∀ p, Lib.BuilderAt T e B b p bs w → Lib.BuilderAt T e B b p bs w' := fun p hp => by
    have hlt := hp.lt
    obtain ⟨hB, v, hv, hown, hne⟩ := hp
    exact ⟨hB, v, (hb.block b hlt).trans hv, hown.kept (row := none) ⟨hb.os, hb.tape, hb.output, hb.size, fun k hk _ => hb.block k hk⟩ (Classical.em _), hne⟩
  exact h.elim (fun x => .inl (go _ x)) (fun x => .inr (go _ x))

set_option maxHeartbeats 2000000 in
set_option maxRecDepth 100000 in
theorem writeByte_any (B b : Nat) (l : List UInt8) (c : UInt8) (w : World) (h : Lib.IsBuilder 144 5 B b (Lib.byteCells l) w) (hlen : l.length + 1 ≤ 140737488355328) (hBw : B ≤ w.heap.size) :
    Calls Tryz.prog 155 #[.pointer (some ⟨b, 0, none⟩), .int .u8 c.toNat] w fun e w' => e = .returned .nilIface ∧ Lib.IsBuilder 144 5 B b (Lib.byteCells (l ++ [c])) w' ∧ Below B w w' := by
  obtain ⟨i0, hi, hz0, hz1, hz2⟩ := info_parts info_byte
  go_enter Tryz.func155, Tryz.ntmps155
  go_wp2_with fail
  refine (copyCheck_any B b _ w h).mono ?_
  rintro e w1 ⟨rfl, h1, hb1⟩
  have hlt := h1.lt
  obtain ⟨hB, v, hbk, hown, hne⟩ := h1
  rw [Lib.byteCells_length] at hown
  have c0 : w1.cell? ⟨b, 0, none⟩ = some (.pointer (some ⟨b, 0, none⟩)) := by rw [Lib.cell_of_heap hbk]; rfl
  have c1 : w1.cell? ⟨b, 1, none⟩ = some v := by rw [Lib.cell_of_heap hbk]; rfl
  go_wp2_with (at_builtin; refine wpList_append_own _ rfl _ _ 22 rfl B 5 i0 (.int .u8 0) 1 1 Tryz.underlying22 hi hz0 hz1 hz2 rfl (by decide) v l.length _ rfl (hown.alloc _) ⟨w1.heap.size, 0, none⟩ 1 1 [.int .u8 c.toNat] rfl rfl ?c1 ?c2 ?c3 ?c4 ?c5 ?_)
  case c1 =>
    intro j u hj
    match j, hj with
    | 0, hj => simp at hj; subst hj; simp [Addr.add]
  case c2 => intro u hu; simp at hu; subst hu; rfl
  case c3 => unfold maxLen; omega
  case c4 => omega
  case c5 => have := hb1.size; simp; omega
  intro v' w2 hown' hgrow _
  have hb2 : w2.heap[b]? = some (.cells #[.pointer (some ⟨b, 0, none⟩), v] 144 (0, 0)) := by
    rw [hgrow.block b (by simp; omega) (fun e => hne e.symm), Lib.alloc_old w1 _ b hlt]
    exact hbk
  have d0 : w2.cell? ⟨b, 0, none⟩ = some (.pointer (some ⟨b, 0, none⟩)) := by rw [Lib.cell_of_heap hb2]; rfl
  have d1 : w2.cell? ⟨b, 1, none⟩ = some v := by rw [Lib.cell_of_heap hb2]; rfl
  have f1 : w2.frozen? ⟨b, 1, none⟩ = false := Lib.frozen_of_heap hb2 1
  obtain ⟨g, cap, rfl⟩ : ∃ g cap, v' = .slice (some ⟨g, 0, none⟩) (l.length + 1) cap := by
    rcases hown'.2 with ⟨_, h0⟩ | ⟨g, cap, cur, hv, _⟩
    · omega
    · exact ⟨g, cap, hv⟩
  go_wp2
  go_ret
  refine ⟨rfl, .inr ?_, ?_⟩
  · refine Lib.BuilderAt.put (T := 144) (e := 5) hB hb2 (bs' := Lib.byteCells (l ++ [c])) ?_ (by decide)
    rw [Lib.byteCells_length, List.length_append, Lib.byteCells_append]
    exact hown'
  · exact ((hb1.alloc (by have := hb1.size; omega) _).grown hgrow (by have := hb1.size; simp; omega) (fun k hk => (hown.lt k hk).1)).setCell (p := ⟨b, 1, none⟩) hB _
end Go.Proofs.YtifnolomekhmfaaGreat
namespace Go.Proofs.YtifnolomekhmfaaGreat
open Go.RowKit M

set_option maxHeartbeats 400000 in
theorem isOf_any (c k : Int) (w : World) :
    Calls Tryz.prog 159 #[.int .u8 c, .int .i64 k] w fun e w' => e = .returned (.bool (isB c k)) ∧ w' = w := by
  go_enter Tryz.func159, Tryz.ntmps159
  go_wp2
  all_goals
    go_ret
    refine ⟨ret_bool ?_, rfl⟩
    go_light
    unfold isB
    simp_all
    try omega

set_option maxHeartbeats 400000 in
theorem isOneOf_any (c : Int) (ks : List Int) (n b o cap : Nat) (w : World) (hn : ks.length = n) (hl : ks.length ≤ maxLen)
    (hc : ∀ i, i < ks.length → w.cell? ⟨b, o + i, none⟩ = some (.int .i64 (ks.getD i 0))) :
    Calls Tryz.prog 142 #[.int .u8 c, .slice (some ⟨b, o, none⟩) n cap] w fun e w' => e = .returned (.bool (anyB c ks)) ∧ w' = w := by
  subst hn
  unfold maxLen at hl
  go_enter Tryz.func142, Tryz.ntmps142
  go_wp2
  go_loop [9] (fun i => ∃ k : Nat, k ≤ ks.length ∧ i = .int .i64 k ∧ anyB c (ks.take k) = false) (fun i => ks.length - (intOf i).toNat)
  case atStart => exact ⟨0, Nat.zero_le _, rfl, rfl⟩
  case round =>
    obtain ⟨k, hk, rfl, hn⟩ := hrel
    have HN : Hid (anyB c (ks.take k) = false) := hn; clear hn
    by_cases hlt : k < ks.length
    · have hcx := hc k hlt
      go_wp2_with (go_at_call 159; refine (isOf_any _ _ _).mono ?_; rintro e w' ⟨rfl, rfl⟩)
      · go_ret
        exact ⟨ret_bool (by rw [anyB_of c ks k hlt (by assumption)]), rfl⟩
      · go_round
        case rel => exact ⟨k + 1, by omega, by go_num, anyB_snoc c ks k hlt HN.out (by assumption)⟩
        case measure => simp [intOf]; omega
    · go_wp2
      go_ret
      exact ⟨ret_bool (by rw [← HN.out, List.take_of_length_le (by omega)]), rfl⟩
theorem cells1 (w : World) (a : Int) (T : TypeId) : ∀ i, i < [a].length → (w.alloc (Obj.cells #[.int .i64 a] T)).cell? ⟨w.heap.size, 0 + i, none⟩ = some (.int .i64 ([a].getD i 0)) := by
  intro i hi
  match i, hi with
  | 0, _ => simp

theorem cells3 (w : World) (n : Nat) (a b c : Int) (T : TypeId) (hn : w.heap.size = n) : ∀ i, i < [a, b, c].length → (w.alloc (Obj.cells #[.int .i64 a, .int .i64 b, .int .i64 c] T)).cell? ⟨n, 0 + i, none⟩ = some (.int .i64 ([a, b, c].getD i 0)) := by
  subst hn
  intro i hi
  match i, hi with
  | 0, _ => simp
  | 1, _ => simp
  | 2, _ => simp
end Go.Proofs.YtifnolomekhmfaaGreat
namespace Go.Proofs.YtifnolomekhmfaaGreat
open Go.RowKit M
set_option linter.unusedVariables false

theorem cells4 (w : World) (n : Nat) (a b c d : Int) (T : TypeId) (hn : w.heap.size = n) : ∀ i, i < [a, b, c, d].length → (w.alloc (Obj.cells #[.int .i64 a, .int .i64 b, .int .i64 c, .int .i64 d] T)).cell? ⟨n, 0 + i, none⟩ = some (.int .i64 ([a, b, c, d].getD i 0)) := by
  subst hn
  intro i hi
  match i, hi with
  | 0, _ => simp
  | 1, _ => simp
  | 2, _ => simp
  | 3, _ => simp

theorem free_any (c : Int) : freeB c = (anyB c [2, 3, 4, 7] || c == 46 || c == 95 || c == 126) := by
  simp only [freeB, anyB, List.any_cons, List.any_nil, Bool.or_false]
  have : isB c 7 = (c == 45) := by simp [isB]
  rw [this]
  simp only [Bool.or_assoc]

set_option maxHeartbeats 1000000 in
theorem stays_any (c : UInt8) (w : World) :
    Calls Tryz.prog 154 #[.int .u8 c.toNat] w fun e w' => e = .returned (.bool (freeB c.toNat)) ∧ Below w.heap.size w w' := by
  have HF := free_any (c.toNat : Int)
  cases hb : anyB (c.toNat : Int) [2, 3, 4, 7]
  · rw [hb] at HF
    have HF2 : Hid (freeB (c.toNat : Int) = (false || (c.toNat : Int) == 46 || (c.toNat : Int) == 95 || (c.toNat : Int) == 126)) := HF
    clear HF
    go_enter Tryz.func154, Tryz.ntmps154
    go_wp2_with (go_at_call 142; refine (isOneOf_any _ [2, 3, 4, 7] 4 _ 0 4 _ rfl (by decide) (cells4 _ _ 2 3 4 7 _ rfl)).mono ?_; rintro e w1 ⟨rfl, rfl⟩; rw [hb])
    all_goals
      go_ret
      refine ⟨ret_bool ?_, (Below.refl _ _).alloc (Nat.le_refl _) _⟩
      rw [HF2.out]
      simp_all
  · rw [hb] at HF
    have HF2 : Hid (freeB (c.toNat : Int) = true) := by show freeB (c.toNat : Int) = true; rw [HF]; simp
    clear HF
    go_enter Tryz.func154, Tryz.ntmps154
    go_wp2_with (go_at_call 142; refine (isOneOf_any _ [2, 3, 4, 7] 4 _ 0 4 _ rfl (by decide) (cells4 _ _ 2 3 4 7 _ rfl)).mono ?_; rintro e w1 ⟨rfl, rfl⟩; rw [hb])
    all_goals
      go_ret
      exact ⟨ret_bool HF2.out.symm, (Below.refl _ _).alloc (Nat.le_refl _) _⟩

set_option maxHeartbeats 2000000 in
theorem quote_any (s : ByteArray) (w : World) (hs : s.size ≤ 1099511627776) :
    Calls Tryz.prog 138 #[.string s] w fun e w' => e = .returned (.string ⟨(quoteL s.data.toList).toArray⟩) ∧ Below w.heap.size w w' := by
  go_enter Tryz.func138, Tryz.ntmps138
  go_wp2
  go_loopw [4] (fun i wr => ∃ k : Nat, k ≤ s.size ∧ i = .int .i64 k ∧ (quoteL (s.data.toList.take k)).length ≤ 3 * k ∧ Lib.IsBuilder 144 5 w.heap.size w.heap.size (Lib.byteCells (quoteL (s.data.toList.take k))) wr ∧ Below w.heap.size w wr) (fun i _ => s.size - (intOf i).toNat)
  case atStart => exact ⟨0, Nat.zero_le _, rfl, Nat.zero_le _, Lib.fresh_isBuilder _ _ w, (Below.refl _ _).alloc (Nat.le_refl _) _⟩
  case round =>
    obtain ⟨k, hk, rfl, hn3, hI, hbe⟩ := hrel
    by_cases hlt : k < s.size
    · have HL : Hid (quoteL (s.data.toList.take (k + 1)) = quoteL (s.data.toList.take k) ++ quoteB s[k]) := quoteL_snoc s k hlt
      have HK : Hid ((quoteL (s.data.toList.take (k + 1))).length ≤ 3 * (k + 1)) := by
        have h3 := quoteB_length s[k]
        show (quoteL (s.data.toList.take (k + 1))).length ≤ 3 * (k + 1)
        rw [HL.out, List.length_append]; omega
      cases hb : freeB ((s[k]).toNat : Int)
      · have HB : Hid (quoteB s[k] = [37, digL (s[k].toNat / 16), digL (s[k].toNat % 16)]) := quoteB_no hb
        have h256 := UInt8.toNat_lt s[k]
        go_wp2_with fail
        refine (stays_any s[k] wr).mono ?_
        rintro e w1 ⟨rfl, b1⟩
        rw [hb]
        have c1 := hbe.trans (b1.mono hbe.size)
        go_wp2_with fail
        refine (writeByte_any w.heap.size w.heap.size _ 37 w1 (bld_below hI b1) (by omega) c1.size).mono ?_
        rintro e w2 ⟨rfl, I2, b2⟩
        have c2 := c1.trans b2
        go_wp2_with fail
        rw [hex_at (s[k].toNat / 16) (by omega)]
        refine (writeByte_any w.heap.size w.heap.size _ (digL (s[k].toNat / 16)) w2 I2 (by simp; omega) c2.size).mono ?_
        rintro e w3 ⟨rfl, I3, b3⟩
        have c3 := c2.trans b3
        go_wp2_with fail
        rw [hex_at (s[k].toNat % 16) (by omega)]
        refine (writeByte_any w.heap.size w.heap.size _ (digL (s[k].toNat % 16)) w3 I3 (by simp; omega) c3.size).mono ?_
        rintro e w4 ⟨rfl, I4, b4⟩
        have HE := HL.out
        rw [HB.out] at HE
        have e4 : quoteL (s.data.toList.take k) ++ [37] ++ [digL (s[k].toNat / 16)] ++ [digL (s[k].toNat % 16)] = quoteL (s.data.toList.take (k + 1)) := by rw [HE]; simp
        rw [e4] at I4
        go_wp2
        go_roundw
        case rel => exact ⟨k + 1, by omega, by go_num, HK.out, I4, c3.trans b4⟩
        case measure => simp [intOf]; omega
      · have HB : Hid (quoteB s[k] = [s[k]]) := quoteB_yes hb
        go_wp2_with fail
        refine (stays_any s[k] wr).mono ?_
        rintro e w1 ⟨rfl, b1⟩
        rw [hb]
        have c1 := hbe.trans (b1.mono hbe.size)
        go_wp2_with fail
        refine (writeByte_any w.heap.size w.heap.size _ s[k] w1 (bld_below hI b1) (by omega) c1.size).mono ?_
        rintro e w2 ⟨rfl, I2, b2⟩
        have HE := HL.out
        rw [HB.out] at HE
        rw [← HE] at I2
        go_wp2
        go_roundw
        case rel => exact ⟨k + 1, by omega, by go_num, HK.out, I2, c1.trans b2⟩
        case measure => simp [intOf]; omega
    · go_wp2_with fail
      refine (Tryz.Builder_String_any w.heap.size w.heap.size _ wr hI hbe.size).mono ?_
      rintro e w1 ⟨rfl, b1⟩
      go_wp2
      go_ret
      exact ⟨ret_str (by rw [take_all s k hlt]), hbe.trans b1⟩
end Go.Proofs.YtifnolomekhmfaaGreat
namespace Go.Proofs.YtifnolomekhmfaaGreat
open Go.RowKit M
set_option linter.unusedVariables false

set_option maxHeartbeats 1000000 in
theorem pathText_any (a : Option Addr) (ss : List ByteArray) (cap : Nat) (w : World) (h : Strs w w.heap.size a ss) (hs : Short ss) (hl : ss.length ≤ maxLen) :
    Calls Tryz.prog 119 #[.slice a ss.length cap] w fun e w' => e = .returned (.string (bytesOf (ptextL ss))) ∧ Below w.heap.size w w' := by
  have hl' := hl
  unfold maxLen at hl'
  cases hp : pathB ss
  · go_enter Tryz.func119, Tryz.ntmps119
    go_wp2_with fail
    refine (pathOk_any a ss cap w h hs hl).mono ?_
    rintro e w1 ⟨rfl, b1⟩
    rw [hp]
    go_wp2
    go_ret
    exact ⟨by rw [ptextL_not hp]; rfl, b1⟩
  · have h4 := pathB_len hp
    have hmk := fun w => run_make_row' (P := Tryz.prog) 25 9 (.string ByteArray.empty) 16 Tryz.underlying25 info_str rfl .i64 .i64 ss.length (by omega) (by omega) w
    go_enter Tryz.func119, Tryz.ntmps119
    go_wp2_with fail
    refine (pathOk_any a ss cap w h hs hl).mono ?_
    rintro e w1 ⟨rfl, b1⟩
    rw [hp]
    go_wp2
    clear hmk
    go_loopw [14] (fun i wr => ∃ k : Nat, k ≤ ss.length ∧ i = .int .i64 k ∧ wr.rowIs w1.heap.size 9 ss.length (fun j => if j < k then .string ((ss.map qB).getD j ByteArray.empty) else .string ByteArray.empty) ∧ Below w1.heap.size w1 wr) (fun i _ => ss.length - (intOf i).toNat)
    case atStart => exact ⟨0, Nat.zero_le _, rfl, (World.rowIs_made w1 _ _ _).congr (fun i _ => by simp), (Below.refl _ _).alloc (Nat.le_refl _) _⟩
    case round =>
      obtain ⟨k, hk, rfl, hrow, hbe⟩ := hrel
      by_cases hlt : k < ss.length
      · have h8 := nameB_size (pathB_name hp k hlt)
        obtain ⟨b, o, rfl, hb, hc⟩ := ((h.below b1 (Nat.le_refl _)).below hbe b1.size) (by omega)
        have hcx := hc k hlt
        go_wp2_with fail
        refine (quote_any _ wr (by omega)).mono ?_
        rintro e w2 ⟨rfl, b2⟩
        have hrow1 := hrow.of_block (b2.block _ hrow.lt)
        have hcn := hrow1.cell hlt
        have hfn := hrow1.frozen k
        have hrow2 := (hrow1.set k (.string ⟨(quoteL (ss[k]).data.toList).toArray⟩)).congr (g := fun j => if j < k + 1 then .string ((ss.map qB).getD j ByteArray.empty) else .string ByteArray.empty) (fun j hj => by
          by_cases e : j = k
          · subst e; simp [List.getD, List.getElem?_eq_getElem hlt, qB, bytesOf]
          · simp only [e, if_false]
            by_cases e2 : j < k
            · rw [if_pos e2, if_pos (by omega)]
            · rw [if_neg e2, if_neg (by omega)])
        have HR : Hid _ := hrow2
        clear hrow2
        go_wp2
        go_roundw
        case rel => exact ⟨k + 1, by omega, by go_num, HR.out, (hbe.trans (b2.mono hbe.size)).setCell (Nat.le_refl _) _⟩
        case measure => simp [intOf]; omega
      · have hJ := Tryz.strings_Join w1.heap.size 0 ss.length (ss.map qB) ⟨#[47]⟩ wr (fun j x hx => by
            have hj : j < ss.length := by have := (List.getElem?_eq_some_iff.1 hx).1; simpa using this
            rw [Nat.zero_add, hrow.cell hj, if_pos (by omega)]
            rw [List.getD_eq_getElem?_getD, hx]; rfl) hrow.lt (by simp; omega) (by simp) (by have := join_le hp; exact Nat.le_trans this (by decide))
        rw [List.length_map, List.map_map] at hJ
        have HJ : Hid (bytesOf [47] ++ (⟨(Lib.join (ss.map ((fun x : ByteArray => x.data.toList) ∘ qB)) [47]).toArray⟩ : ByteArray) = bytesOf (ptextL ss)) := by
          show bytesOf [47] ++ bytesOf _ = _
          rw [bytesOf_append, ← List.map_map]
          by_cases h0 : ss = []
          · subst h0; rw [ptextL_nil]; rfl
          · rw [ptextL_some hp h0]; exact congrArg bytesOf (tellL_join ss h0)
        have hz := join_le hp
        rw [List.map_map] at hz
        go_wp2_with fail
        refine hJ.mono ?_
        rintro e w2 ⟨rfl, b2⟩
        go_wp2
        go_ret
        exact ⟨by rw [← HJ.out]; rfl, b1.trans ((hbe.mono b1.size).trans (b2.mono (Nat.le_trans b1.size hbe.size)))⟩
end Go.Proofs.YtifnolomekhmfaaGreat
namespace Go.Proofs.YtifnolomekhmfaaGreat
open Go.RowKit Go.Maps M
open Go.WideMaps (keyOf_string_mk)
set_option linter.unusedVariables false

theorem lawStr : Keyed Tryz.prog 9 := string_keyed Tryz.underlying9
theorem zeroInt (w : World) : (zeroValue 3).run Tryz.prog w = .ok (.int .i64 0) w := by kernel_rfl
/-- The map of a call, behind a call that only made memory. -/
theorem own_below {w w' : World} {b n : Nat} {D : DataW Unit} (h : w.ownsMap Tryz.prog 9 (plainElem Tryz.prog 3) b n D) (hb : Below w.heap.size w w') : w'.ownsMap Tryz.prog 9 (plainElem Tryz.prog 3) b n D :=
  h.kept (row := none) ⟨hb.os, hb.tape, hb.output, hb.size, fun k hk _ => hb.block k hk⟩ (by simp)
theorem pt_size (p : List ByteArray) : (pt p).size ≤ maxLen := by
  have := ptextL_len (ss := p)
  have e : (pt p).size = (ptextL p).length := by unfold pt; rw [bytesOf_size]
  rw [e]; unfold maxLen; omega
theorem pt_key (p : List ByteArray) : keyOf Tryz.prog 9 (.string (pt p)) = some (.string (pt p).data.toList) := keyOf_string_mk Tryz.underlying9 (pt_size p)
theorem name_size {p : List ByteArray} (h : pathB p = true) : ∀ s ∈ p, s.size ≤ 8 := fun s hs => nameB_size (pathB_all h s hs)
theorem short_path {p : List ByteArray} (h : pathB p = true) : Short p := fun s hs => by have := name_size h s hs; unfold maxLen; omega

def P1 (rs : List Rs) (k : Nat) (s : ByteArray) : Prop := ∃ r ∈ rs.take k, s = pt (aboveL r.pa)
def P2 (rs : List Rs) (k : Nat) (s : ByteArray) : Prop := ((∃ r ∈ rs, s = pt (aboveL r.pa)) ∧ s ≠ pt []) ∧ ∀ r ∈ rs.take k, r.co = true → s ≠ pt r.pa
theorem P1_next {rs : List Rs} {k : Nat} (hk : k < rs.length) (s : ByteArray) : (s = pt (aboveL rs[k].pa) ∨ P1 rs k s) ↔ P1 rs (k + 1) s := by
  unfold P1
  rw [List.take_succ_eq_append_getElem hk]
  constructor
  · rintro (h | ⟨r, hr, h⟩)
    · exact ⟨_, List.mem_append_right _ (List.mem_singleton.2 rfl), h⟩
    · exact ⟨r, List.mem_append_left _ hr, h⟩
  · rintro ⟨r, hr, h⟩
    rcases List.mem_append.1 hr with hr | hr
    · exact .inr ⟨r, hr, h⟩
    · simp at hr; subst hr; exact .inl h
theorem P2_yes {rs : List Rs} {k : Nat} (hk : k < rs.length) (hc : rs[k].co = true) (s : ByteArray) : (P2 rs k s ∧ s ≠ pt rs[k].pa) ↔ P2 rs (k + 1) s := by
  unfold P2
  rw [List.take_succ_eq_append_getElem hk]
  constructor
  · rintro ⟨⟨h1, h2⟩, h3⟩
    refine ⟨h1, fun r hr hc' => ?_⟩
    rcases List.mem_append.1 hr with hr | hr
    · exact h2 r hr hc'
    · simp at hr; subst hr; exact h3
  · rintro ⟨h1, h2⟩
    exact ⟨⟨h1, fun r hr hc' => h2 r (List.mem_append_left _ hr) hc'⟩, h2 _ (List.mem_append_right _ (List.mem_singleton.2 rfl)) hc⟩
theorem P2_no {rs : List Rs} {k : Nat} (hk : k < rs.length) (hc : rs[k].co = false) (s : ByteArray) : P2 rs k s ↔ P2 rs (k + 1) s := by
  unfold P2
  rw [List.take_succ_eq_append_getElem hk]
  constructor
  · rintro ⟨h1, h2⟩
    refine ⟨h1, fun r hr hc' => ?_⟩
    rcases List.mem_append.1 hr with hr | hr
    · exact h2 r hr hc'
    · simp at hr; subst hr; rw [hc] at hc'; cases hc'
  · rintro ⟨h1, h2⟩
    exact ⟨h1, fun r hr hc' => h2 r (List.mem_append_left _ hr) hc'⟩

end Go.Proofs.YtifnolomekhmfaaGreat
namespace Go.Proofs.YtifnolomekhmfaaGreat
open Go.RowKit Go.Maps M
open Go.WideMaps (keyOf_string_mk)
set_option linter.unusedVariables false

set_option maxRecDepth 100000 in
set_option maxHeartbeats 4000000 in
theorem lacking_any (a : Option Addr) (rs : List Rs) (cap B : Nat) (w : World) (h : Rss w B a rs) (hB : B ≤ w.heap.size) (hl : rs.length ≤ 12) (hr : ∀ r ∈ rs, resB r = true) :
    Calls Tryz.prog 79 #[.slice a rs.length cap] w fun e w' => e = .returned (.map (some w.heap.size)) ∧ (∃ n D, w'.ownsMap Tryz.prog 9 (plainElem Tryz.prog 3) w.heap.size n D ∧ Holds D (LeftP rs)) ∧ Below w.heap.size w w' := by
  have hmm := @run_makeMap Tryz.prog
  have HRB := hide hr
  clear hr
  go_enter Tryz.func79, Tryz.ntmps79
  go_wp2
  go_loopw [11] (fun i wr => ∃ (k : Nat) (D : DataW Unit), k ≤ rs.length ∧ i = .int .i64 k ∧ wr.ownsMap Tryz.prog 9 (plainElem Tryz.prog 3) w.heap.size k D ∧ Holds D (P1 rs k) ∧ Below w.heap.size w wr) (fun i _ => rs.length - (intOf i).toNat)
  case atStart => exact ⟨0, .map [], Nat.zero_le _, rfl, World.ownsMap_made _ _ _ _, Holds.nil.same (fun s => ⟨(fun h => h.elim), (fun ⟨r, hr, _⟩ => by simp at hr)⟩), (Below.refl _ _).alloc (Nat.le_refl _) _⟩
  case round =>
    obtain ⟨k, D, hk, rfl, hown, hho, hbe⟩ := hrel
    have HHO := hide hho
    clear hho
    by_cases hlt : k < rs.length
    · obtain ⟨b1, o1, rfl, hb1, hcc⟩ := (h.below hbe hB) (by omega)
      obtain ⟨pa, pc, qa, qc, ⟨hc0, hc1, hc2, hc3, hc4⟩, hin⟩ := hcc k hlt
      clear hcc
      have hrb := HRB.out _ (List.getElem_mem hlt)
      have hpb := resB_path hrb
      have h4 := pathB_len hpb
      have hpa := pathB_above hpb
      have h0 : 0 < rs[k].pa.length := by
        unfold resB at hrb
        simp only [Bool.and_eq_true, decide_eq_true_eq] at hrb
        exact hrb.1
      have HBA := hide ((Below.refl wr.heap.size wr).alloc (Nat.le_refl _) (Obj.cells #[.slice pa (rs[k]).pa.length pc, .bool (rs[k]).co, .string (rs[k]).bo, .int .i64 (rs[k]).ve, .slice qa (rs[k]).ps.length qc] 62))
      have hin2 := hin.below HBA.out (Nat.le_trans hB hbe.size)
      obtain ⟨b2, o2, rfl, _, _⟩ := hin2.ph h0
      have HA := hide (above_any b2 o2 rs[k].pa pc B _ hin2.ph (Nat.le_trans (Nat.le_trans hB hbe.size) HBA.out.size) (by omega) (fun s hs => by have := name_size hpb s hs; omega) hin2.pl hin2.pm)
      have hal : (aboveL rs[k].pa).length ≤ maxLen := by rw [aboveL_len]; unfold maxLen; omega
      have HT := hide (fun W g c (x : RowS W g (aboveL rs[k].pa)) => pathText_any (some ⟨g, 0, none⟩) (aboveL rs[k].pa) c W (x.strs' x.1) (short_path hpa) hal)
      have HN := hide (fun s => P1_next hlt s)
      have hkey := pt_key (aboveL rs[k].pa)
      have hzz : (0 : Nat) < 1 := by omega
      clear hrb hpb hpa h0 hin hin2
      go_wp2_with fail
      refine HA.out.mono ?_
      rintro e w1 ⟨rfl, r1, b3⟩
      have b4 := HBA.out.trans (b3.mono HBA.out.size)
      have r1' : RowS w1 (wr.heap.size + 1) (aboveL rs[k].pa) := by simpa using r1
      have HT1 := hide (HT.out w1 (wr.heap.size + 1) (aboveL rs[k].pa).length r1')
      clear r1 r1' b3 HA HT
      go_wp2_with fail
      refine HT1.out.mono ?_
      rintro e w2 ⟨rfl, b5⟩
      have b6 := b4.trans (b5.mono b4.size)
      have c2 := hbe.trans (b6.mono hbe.size)
      have hown2 := own_below hown b6
      have HK : Hid (keyOf Tryz.prog 9 (.string (bytesOf (ptextL (aboveL rs[k].pa)))) = some (.string (pt (aboveL rs[k].pa)).data.toList)) := hkey
      clear hown b4 b5 b6 HT1 hkey
      go_wp2_with (first
        | (at_lookup; refine wpList_lookup_own_int _ rfl _ _ 91 rfl 9 3 .i64 lawStr Tryz.underlying91 Tryz.underlying3 (zeroInt _) w.heap.size k _ rfl hown2 _ _ rfl HK.out ?_; intro c hat hwc)
        | (at_mapUpdate; refine wpList_mapUpdate_own _ rfl _ _ _ 91 rfl 9 3 lawStr Tryz.underlying91 _ w.heap.size k _ rfl hown2 (by unfold maxLen; omega) _ _ _ rfl rfl HK.out _ [] (plainElem_int Tryz.underlying3 (wrap64_wf _)) ?_; intro w3 hown3 hgrow3))
      go_roundw
      case rel => exact ⟨k + 1, _, by omega, by go_num, hown3, (HHO.out.put (pt (aboveL rs[k].pa)) _).same (HN.out), c2.grown hgrow3 c2.size (fun j hj => by cases hj; exact Nat.le_refl _)⟩
      case measure => simp [intOf]; omega
    · have HN : Hid (∀ s, P1 rs k s ↔ ∃ r ∈ rs, s = pt (aboveL r.pa)) := fun s => by unfold P1; rw [List.take_of_length_le (by omega)]
      have HT := hide (pathText_any none [] 0 wr (fun hh => absurd hh (by simp)) (fun s hs => by cases hs) (Nat.zero_le _))
      have hkey := pt_key []
      go_wp2_with fail
      refine HT.out.mono ?_
      rintro e w2 ⟨rfl, b5⟩
      have c2 := hbe.trans (b5.mono hbe.size)
      have hown2 := own_below hown b5
      have HK : Hid (keyOf Tryz.prog 9 (.string (bytesOf (ptextL []))) = some (.string (pt []).data.toList)) := hkey
      have hho2 := ((HHO.out.del (pt [])).same (Q := P2 rs 0) (fun s => by
        unfold P2
        rw [HN.out s]
        simp))
      have HHO2 := hide hho2
      clear hown b5 hkey hho2 HT HHO
      go_wp2_with (at_delete; refine wpList_delete_own _ rfl _ _ 91 9 rfl 3 lawStr Tryz.underlying91 _ w.heap.size k _ rfl hown2 _ _ rfl HK.out ?_; intro w3 hown3 hturn3)
      have c3 : Below w.heap.size w w3 := c2.grown hturn3.grown c2.size (fun j hj => by cases hj; exact Nat.le_refl _)
      clear hown2 c2 HK hturn3
      go_loopw [27] (fun i wr => ∃ (k n : Nat) (D : DataW Unit), k ≤ rs.length ∧ i = .int .i64 k ∧ wr.ownsMap Tryz.prog 9 (plainElem Tryz.prog 3) w.heap.size n D ∧ Holds D (P2 rs k) ∧ Below w.heap.size w wr) (fun i _ => rs.length - (intOf i).toNat)
      case atStart => exact ⟨0, k, _, Nat.zero_le _, rfl, hown3, HHO2.out, c3⟩
      case round =>
        clear HN
        obtain ⟨k, n, D, hk, rfl, hown, hho, hbe⟩ := hrel
        have HHO := hide hho
        clear hho
        by_cases hlt : k < rs.length
        · obtain ⟨b1, o1, rfl, hb1, hcc⟩ := (h.below hbe hB) (by omega)
          obtain ⟨pa, pc, qa, qc, ⟨hc0, hc1, hc2, hc3, hc4⟩, hin⟩ := hcc k hlt
          clear hcc
          have hpb := resB_path (HRB.out _ (List.getElem_mem hlt))
          have h4 := pathB_len hpb
          have HBA := hide ((Below.refl wr.heap.size wr).alloc (Nat.le_refl _) (Obj.cells #[.slice pa (rs[k]).pa.length pc, .bool (rs[k]).co, .string (rs[k]).bo, .int .i64 (rs[k]).ve, .slice qa (rs[k]).ps.length qc] 62))
          have hin2 := hin.below HBA.out (Nat.le_trans hB hbe.size)
          have HT := hide (pathText_any pa rs[k].pa pc _ (hin2.ph.mono (Nat.le_trans (Nat.le_trans hB hbe.size) HBA.out.size)) (short_path hpb) (by unfold maxLen; omega))
          have hkey := pt_key rs[k].pa
          have HY := hide (fun hc s => P2_yes hlt hc s)
          have HZ := hide (fun hc s => P2_no hlt hc s)
          clear hpb hin hin2
          obtain ⟨z, hz⟩ : ∃ z, rs[k].co = z := ⟨_, rfl⟩
          rw [hz] at hc1 HBA HT
          have HZZ := hide hz
          clear hz
          cases z
          · have hown2 := own_below hown HBA.out
            have c2 := hbe.trans (HBA.out.mono hbe.size)
            go_wp2
            go_roundw
            case rel => exact ⟨k + 1, n, D, by omega, by go_num, hown2, HHO.out.same (HZ.out HZZ.out), c2⟩
            case measure => simp [intOf]; omega
          · go_wp2_with fail
            refine HT.out.mono ?_
            rintro e w2 ⟨rfl, b5⟩
            have b6 := HBA.out.trans (b5.mono HBA.out.size)
            have c2 := hbe.trans (b6.mono hbe.size)
            have hown2 := own_below hown b6
            have HK : Hid (keyOf Tryz.prog 9 (.string (bytesOf (ptextL rs[k].pa))) = some (.string (pt rs[k].pa).data.toList)) := hkey
            clear hown b5 b6 HT hkey
            go_wp2_with (at_delete; refine wpList_delete_own _ rfl _ _ 91 9 rfl 3 lawStr Tryz.underlying91 _ w.heap.size n _ rfl hown2 _ _ rfl HK.out ?_; intro w3 hown3 hturn3)
            go_roundw
            case rel => exact ⟨k + 1, n, _, by omega, by go_num, hown3, (HHO.out.del (pt rs[k].pa)).same (HY.out HZZ.out), c2.grown hturn3.grown c2.size (fun j hj => by cases hj; exact Nat.le_refl _)⟩
            case measure => simp [intOf]; omega
        · have HL : Hid (∀ s, P2 rs k s ↔ LeftP rs s) := fun s => by unfold P2 LeftP; rw [List.take_of_length_le (by omega)]
          go_wp2
          go_ret
          exact ⟨rfl, ⟨n, D, hown, HHO.out.same HL.out⟩, hbe⟩
end Go.Proofs.YtifnolomekhmfaaGreat
namespace Go.Proofs.YtifnolomekhmfaaGreat
open Go.RowKit M
set_option linter.unusedVariables false

theorem neStr {x y : ByteArray} (h : ¬ x = y) : (x.toList == y.toList) = false := by
  rw [beq_eq_false_iff_ne]; exact fun e => h (str_inj e)

set_option maxHeartbeats 400000 in
theorem isNaN_any (x : ByteArray) (w : World) : Calls Tryz.prog 143 #[.string x] w fun e w' => e = .returned (.bool false) ∧ w' = w := by
  go_enter Tryz.func143, Tryz.ntmps143
  go_wp2
  go_ret
  exact ⟨ret_bool (by simp), rfl⟩

set_option maxHeartbeats 400000 in
theorem compare_any (x y : ByteArray) (w : World) : Calls Tryz.prog 127 #[.string x, .string y] w fun e w' => e = .returned (.int .i64 (cmpT x y)) ∧ w' = w := by
  by_cases h1 : lessT x y = true
  · have e1 : cmpT x y = -1 := by unfold cmpT; rw [if_pos h1]
    rw [e1]
    unfold lessT at h1
    go_enter Tryz.func127, Tryz.ntmps127
    go_wp2_with fail
    refine (isNaN_any x w).mono ?_
    rintro e w1 ⟨rfl, hw⟩; obtain rfl := hw.symm
    go_wp2_with fail
    refine (isNaN_any y w).mono ?_
    rintro e w1 ⟨rfl, hw⟩; obtain rfl := hw.symm
    go_wp2
    go_ret
    exact ⟨rfl, rfl⟩
  · by_cases h2 : x = y
    · subst h2
      rw [cmpT_same]
      have h1' : Op.bytesLess x.toList x.toList = false := by simpa [lessT] using h1
      go_enter Tryz.func127, Tryz.ntmps127
      go_wp2_with fail
      refine (isNaN_any x w).mono ?_
      rintro e w1 ⟨rfl, hw⟩; obtain rfl := hw.symm
      go_wp2_with fail
      refine (isNaN_any x w).mono ?_
      rintro e w1 ⟨rfl, hw⟩; obtain rfl := hw.symm
      go_wp2
      go_ret
      exact ⟨rfl, rfl⟩
    · have e1 : cmpT x y = 1 := by unfold cmpT; rw [if_neg h1, if_neg h2]
      rw [e1]
      have h1' : Op.bytesLess x.toList y.toList = false := by simpa [lessT] using h1
      have h2' := neStr h2
      go_enter Tryz.func127, Tryz.ntmps127
      go_wp2_with fail
      refine (isNaN_any x w).mono ?_
      rintro e w1 ⟨rfl, hw⟩; obtain rfl := hw.symm
      go_wp2_with fail
      refine (isNaN_any y w).mono ?_
      rintro e w1 ⟨rfl, hw⟩; obtain rfl := hw.symm
      go_wp2
      go_ret
      exact ⟨rfl, rfl⟩
end Go.Proofs.YtifnolomekhmfaaGreat
namespace Go.Proofs.YtifnolomekhmfaaGreat
open Go.RowKit M
set_option linter.unusedVariables false

set_option maxHeartbeats 400000 in
theorem slicesCompare_any (a b : Option Addr) (ss tt : List ByteArray) (cap cap' B C : Nat) (w : World) (h : Strs w B a ss) (h' : Strs w C b tt) (hl : ss.length ≤ maxLen) (hl' : tt.length ≤ maxLen) :
    Calls Tryz.prog 96 #[.slice a ss.length cap, .slice b tt.length cap'] w fun e w' => (∃ z : Int, e = .returned (.int .i64 z) ∧ decide (z < 0) = lessL ss tt) ∧ w' = w := by
  unfold maxLen at hl hl'
  go_enter Tryz.func96, Tryz.ntmps96
  go_wp2
  go_loop [11] (fun i => ∃ k : Nat, k ≤ ss.length ∧ k ≤ tt.length ∧ i = .int .i64 k ∧ lessL (ss.drop k) (tt.drop k) = lessL ss tt) (fun i => ss.length - (intOf i).toNat)
  case atStart => exact ⟨0, Nat.zero_le _, Nat.zero_le _, rfl, rfl⟩
  case round =>
    obtain ⟨k, hk, hk', rfl, ht⟩ := hrel
    have HT := hide ht
    clear ht
    by_cases hlt : k < ss.length
    · by_cases hlt' : k < tt.length
      · obtain ⟨b1, o1, rfl, hb1, hc1⟩ := h (by omega)
        obtain ⟨b2, o2, rfl, hb2, hc2⟩ := h' (by omega)
        have hcx := hc1 k hlt
        have hcy := hc2 k hlt'
        clear hc1 hc2
        go_wp2_with fail
        refine (compare_any ss[k] tt[k] w).mono ?_
        rintro e w1 ⟨rfl, hw⟩; obtain rfl := hw.symm
        by_cases he : ss[k] = tt[k]
        · have hz : cmpT ss[k] tt[k] = 0 := by rw [he]; exact cmpT_same _
          rw [hz]
          have HE := hide (lessL_step k hlt hlt' he)
          clear he hz
          go_wp2
          go_round
          case rel => exact ⟨k + 1, by omega, by omega, by go_num, by rw [← HE.out]; exact HT.out⟩
          case measure => simp [intOf]; omega
        · have hz : ¬ cmpT ss[k] tt[k] = 0 := fun e => he (cmpT_zero _ _ e)
          have HE := hide (lessL_at k hlt hlt' he)
          have HC := hide (cmpT_neg ss[k] tt[k])
          generalize cmpT ss[k] tt[k] = z at *
          clear he
          go_wp2
          go_ret
          exact ⟨⟨z, rfl, by rw [HC.out, ← HE.out]; exact HT.out⟩, rfl⟩
      · have HE := hide (lessL_end k (fun h => hlt' h.2) hk hk')
        have hnl : ¬ ss.length < tt.length := by omega
        obtain ⟨b1, o1, rfl, hb1, hc1⟩ := h (by omega)
        have hcx := hc1 k hlt
        go_wp2
        go_ret
        exact ⟨⟨1, rfl, by rw [← HT.out, HE.out]; simp [hnl]⟩, rfl⟩
    · have HE := hide (lessL_end k (fun h => hlt h.1) hk hk')
      by_cases hnl : ss.length < tt.length
      · go_wp2
        go_ret
        exact ⟨⟨-1, rfl, by rw [← HT.out, HE.out]; simp [hnl]⟩, rfl⟩
      · go_wp2
        go_ret
        exact ⟨⟨0, rfl, by rw [← HT.out, HE.out]; simp [hnl]⟩, rfl⟩

set_option maxHeartbeats 400000 in
theorem lessPath_any (a b : Option Addr) (ss tt : List ByteArray) (cap cap' B C : Nat) (w : World) (h : Strs w B a ss) (h' : Strs w C b tt) (hl : ss.length ≤ maxLen) (hl' : tt.length ≤ maxLen) :
    Calls Tryz.prog 42 #[.slice a ss.length cap, .slice b tt.length cap'] w fun e w' => e = .returned (.bool (lessL ss tt)) ∧ w' = w := by
  have hC := slicesCompare_any a b ss tt cap cap' B C w h h' hl hl'
  go_enter Tryz.func42, Tryz.ntmps42
  go_wp2_with fail
  refine hC.mono ?_
  rintro e w1 ⟨⟨z, rfl, hz⟩, hw⟩; obtain rfl := hw.symm
  have HZ := hide hz
  clear hz hC
  go_wp2
  go_ret
  exact ⟨ret_bool HZ.out, rfl⟩
end Go.Proofs.YtifnolomekhmfaaGreat
namespace Go.Proofs.YtifnolomekhmfaaGreat
open Go.RowKit M

set_option maxHeartbeats 400000 in
theorem allOf_any (s : ByteArray) (ks : List Int) (n b o cap : Nat) (w : World) (hn : ks.length = n) (hs : s.size ≤ maxLen) (hl : ks.length ≤ maxLen)
    (hc : ∀ i, i < ks.length → w.cell? ⟨b, o + i, none⟩ = some (.int .i64 (ks.getD i 0))) :
    Calls Tryz.prog 141 #[.string s, .slice (some ⟨b, o, none⟩) n cap] w fun e w' => e = .returned (.bool (allB s.data.toList ks)) ∧ w' = w := by
  subst hn
  unfold maxLen at hs
  have HC : Hid (∀ i, i < ks.length → w.cell? ⟨b, o + i, none⟩ = some (.int .i64 (ks.getD i 0))) := hc
  clear hc
  go_enter Tryz.func141, Tryz.ntmps141
  go_wp2
  go_loop [5] (fun i => ∃ k : Nat, k ≤ s.size ∧ i = .int .i64 k ∧ allB (s.data.toList.take k) ks = true) (fun i => s.size - (intOf i).toNat)
  case atStart => exact ⟨0, Nat.zero_le _, rfl, rfl⟩
  case round =>
    obtain ⟨k, hk, rfl, hn⟩ := hrel
    have HN : Hid (allB (s.data.toList.take k) ks = true) := hn; clear hn
    by_cases hlt : k < s.size
    · go_wp2_with (go_at_call 142; refine (isOneOf_any _ ks _ b o cap _ rfl hl HC.out).mono ?_; rintro e w' ⟨rfl, rfl⟩)
      · go_ret
        exact ⟨ret_bool (by rw [allB_not s ks k hlt (by assumption)]), rfl⟩
      · go_round
        case rel => exact ⟨k + 1, by omega, by go_num, allB_snoc s ks k hlt HN.out (by assumption)⟩
        case measure => simp [intOf]; omega
    · go_wp2
      go_ret
      exact ⟨ret_bool (by rw [← HN.out, take_all s k hlt]), rfl⟩
end Go.Proofs.YtifnolomekhmfaaGreat
namespace Go.Proofs.YtifnolomekhmfaaGreat
open Go.RowKit M

set_option maxHeartbeats 400000 in
theorem plain_any (s : ByteArray) (w : World) (hs : s.size ≤ maxLen) :
    Calls Tryz.prog 124 #[.string s] w fun e w' => e = .returned (.bool (allB s.data.toList [0])) ∧ Below w.heap.size w w' := by
  go_enter Tryz.func124, Tryz.ntmps124
  go_wp2_with (go_at_call 141; refine (allOf_any s [0] 1 _ 0 1 _ rfl hs (by decide) ?_).mono ?_)
  · intro i hi
    have : i = 0 := by simp at hi; omega
    subst this
    simp
  · rintro e w' ⟨rfl, rfl⟩
    go_wp2
    go_ret
    exact ⟨rfl, (Below.refl _ _).alloc (Nat.le_refl _) _⟩
end Go.Proofs.YtifnolomekhmfaaGreat
namespace Go.Proofs.YtifnolomekhmfaaGreat
open Go.RowKit M

set_option maxHeartbeats 400000 in
theorem smallName_any (s : ByteArray) (w : World) (hs : s.size ≤ maxLen) :
    Calls Tryz.prog 125 #[.string s] w fun e w' => e = .returned (.bool (smB s.data.toList)) ∧ Below w.heap.size w w' := by
  have hs' := hs
  unfold maxLen at hs'
  by_cases h0 : s.size < 1
  · have := smB_long s (.inl h0)
    have H : Hid (smB s.data.toList = false) := this
    clear this
    go_enter Tryz.func125, Tryz.ntmps125
    go_wp2
    go_ret
    exact ⟨ret_bool H.out.symm, Below.refl _ _⟩
  · by_cases h20 : 20 < s.size
    · have H : Hid (smB s.data.toList = false) := smB_long s (.inr h20)
      go_enter Tryz.func125, Tryz.ntmps125
      go_wp2
      go_ret
      exact ⟨ret_bool H.out.symm, Below.refl _ _⟩
    · have h1 : 0 < s.size := by omega
      have H : Hid (smB s.data.toList = (isB ((s[0]).toNat : Int) 2 && allB s.data.toList [2, 4, 7])) := smB_impl s h1 (by omega)
      cases hsm : isB ((s[0]).toNat : Int) 2
      · go_enter Tryz.func125, Tryz.ntmps125
        go_wp2_with (go_at_call 142; refine (isOneOf_any _ [2] 1 _ 0 1 _ rfl (by decide) (cells1 w 2 133)).mono ?_; rintro e w' ⟨rfl, rfl⟩; rw [anyB_one, hsm])
        go_ret
        exact ⟨ret_bool (by rw [H.out, hsm]; rfl), (Below.refl _ _).alloc (Nat.le_refl _) _⟩
      · go_enter Tryz.func125, Tryz.ntmps125
        go_wp2_with (first | (go_at_call 142; refine (isOneOf_any _ [2] 1 _ 0 1 _ rfl (by decide) (cells1 w 2 133)).mono ?_; rintro e w' ⟨rfl, rfl⟩; rw [anyB_one, hsm]) | (go_at_call 141; refine (allOf_any s [2, 4, 7] 3 _ 0 3 _ rfl hs (by decide) ?c1).mono ?_; rotate_left; rintro e w' ⟨rfl, rfl⟩))
        case c1 => exact cells3 _ _ 2 4 7 133 (by simp)
        go_ret
        exact ⟨ret_bool (by rw [H.out, hsm]; rfl), ((Below.refl _ _).alloc (Nat.le_refl _) _).alloc (by simp) _⟩
end Go.Proofs.YtifnolomekhmfaaGreat
