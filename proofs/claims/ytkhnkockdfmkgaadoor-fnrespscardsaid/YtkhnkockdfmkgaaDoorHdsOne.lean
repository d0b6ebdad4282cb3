/-
  What the program's putHead does.
  What the program's putLines does.
  What SmallName (the program's) does.
  What the program's Plain does.
  What strings.Clone does.
  What the program's Trim does.
  What the program's headOk does.
  What the program's headsOk does.
  What the program's codeOk and RespOk do.
  The library's table of powers of ten, as the row lists it; that it stays where only new memory is laid.
  What the program's NumText does.
  A list of one head, and of none.
-/
import Derived.Test.YtkhnkockdfmkgaaDoorAllOf
import Derived.Test.YtkhnkockdfmkgaaDoorMathPut
import Derived.Test.YtkhnkockdfmkgaaDoorExtract
import Derived.Test.YtkhnkockdfmkgaaDoorShelf
import Derived.WalkKit
import Derived.WalkSpells
import Derived.WalkLawsBesides
import Derived.Test.YtkhnkockdfmkgaaDoorSpecVal
import Derived.Test.YtkhnkockdfmkgaaDoorMathTrim
import Derived.Deep.RegionWith
import Derived.Test.YtkhnkockdfmkgaaDoorTells
import Derived.Test.YtkhnkockdfmkgaaDoorRows
import Derived.Lib.AppendIntMem
import Derived.Stop.LaidErr
import Derived.Test.YtkhnkockdfmkgaaDoorMathNum
namespace Go.Proofs.YtkhnkockdfmkgaaDoor
open Go.RowKit M
set_option linter.unusedVariables false

theorem BoxH.of {w w' : World} {N : Nat} {x y : ByteArray} {r : Option Nat} (h : BoxH w N x y) (hg : w.grownBy w' r) (hN : some N ≠ r) : BoxH w' N x y := by
  have hb := hg.block N h.1 hN
  exact ⟨Nat.lt_of_lt_of_le h.1 hg.size, (World.cell?_of_block (a := ⟨N, 0, none⟩) hb).trans h.2.1, (World.cell?_of_block (a := ⟨N, 1, none⟩) hb).trans h.2.2⟩

set_option maxHeartbeats 1000000 in
theorem putHead_any (w : World) (B : Nat) (v : Value) (l : List UInt8) (x y : ByteArray) (h : OwnY w B v l) (hB : B ≤ w.heap.size) (hl : l.length ≤ 1073741824) (hx : x.size ≤ 1073741824) (hy : y.size ≤ 1073741824) :
    Calls Tryd.prog 37 #[v, .agg #[.string x, .string y]] w fun e w' => (∃ v', e = .returned v' ∧ OwnY w' B v' (l ++ hdTxt (x, y))) ∧ Below B w w' := by
  have hb0 : Below B w (w.alloc (Obj.cells #[Value.string x, Value.string y] 42)) := (Below.refl B w).alloc hB _
  have BH0 := hide (BoxH.made w x y 42)
  have C0 := hide hb0
  have HO := hide (h.next ((Below.refl w.heap.size w).alloc (Nat.le_refl _) (Obj.cells #[Value.string x, Value.string y] 42)))
  have hne : Hid (v.ownBlock ≠ some w.heap.size) := fun e => by have := h.lt _ e; omega
  clear hb0 h
  go_enter Tryd.func37, Tryd.ntmps37
  go_wp2_with (at_builtin; refine wp_append_text rfl _ _ rfl B v l rfl HO.out x rfl ?c1 ?c2 ?_)
  case c1 => omega
  case c2 => simp; omega
  intro v1 w1 ho1 hg1 hb1
  have n0 : v.ownBlock ≠ some w.heap.size := hne.out
  have n1 : v1.ownBlock ≠ some w.heap.size := by
    rcases hb1 with e | e
    · rw [e]; exact n0
    · rw [e]; simp
  have c1 := C0.out.trans (HO.out.grown (by simp; omega) hg1)
  have x1 := BH0.out.of hg1 (fun e => n0 e.symm)
  have BH1 := hide x1
  have N1 := hide n1
  obtain ⟨_, x10, x11⟩ := x1
  have z1 := hg1.size
  simp at z1
  clear hg1 hb1 n0 n1
  go_wp2_with (at_builtin; refine wp_append_text rfl _ _ rfl B v1 (l ++ x.data.toList) rfl ho1 ⟨#[58, 32]⟩ rfl ?c1 ?c2 ?_)
  case c1 => have e : x.data.toList.length = x.size := Array.length_toList; have e2 : (⟨#[58, 32]⟩ : ByteArray).size = 2 := rfl; rw [List.length_append]; omega
  case c2 => omega
  intro v2 w2 ho2 hg2 hb2
  have n2 : v2.ownBlock ≠ some w.heap.size := by
    rcases hb2 with e | e
    · rw [e]; exact N1.out
    · rw [e]; simp; omega
  have c2 := c1.trans (ho1.grown (by omega) hg2)
  have x2 := BH1.out.of hg2 (fun e => N1.out e.symm)
  have BH2 := hide x2
  have N2 := hide n2
  obtain ⟨_, x20, x21⟩ := x2
  have z2 := hg2.size
  clear hg2 hb2 n2 x10 x11 ho1
  go_wp2_with (at_builtin; refine wp_append_text rfl _ _ rfl B v2 _ rfl ho2 y rfl ?c1 ?c2 ?_)
  case c1 => have e : x.data.toList.length = x.size := Array.length_toList; rw [List.length_append, List.length_append]; simp only [List.length_cons, List.length_nil]; omega
  case c2 => omega
  intro v3 w3 ho3 hg3 hb3
  have c3 := c2.trans (ho2.grown (by omega) hg3)
  have z3 := hg3.size
  clear hg3 hb3 x20 x21 ho2
  go_wp2_with (at_builtin; refine wp_append_text rfl _ _ rfl B v3 _ rfl ho3 ⟨#[13, 10]⟩ rfl ?c1 ?c2 ?_)
  case c1 => have e : x.data.toList.length = x.size := Array.length_toList; have e2 : y.data.toList.length = y.size := Array.length_toList; have e3 : (⟨#[13, 10]⟩ : ByteArray).size = 2 := rfl; simp only [List.length_append, List.length_cons]; omega
  case c2 => omega
  intro v4 w4 ho4 hg4 hb4
  have c4 := c3.trans (ho3.grown (by omega) hg4)
  have HO4 : Hid (OwnY w4 B v4 (l ++ hdTxt (x, y))) := by
    show OwnY w4 B v4 (l ++ hdTxt (x, y))
    have e : l ++ hdTxt (x, y) = l ++ (x.data.toList ++ 58 :: 32 :: (y.data.toList ++ [13, 10])) := by simp [hdTxt, crlf]
    rw [e]; exact ho4
  clear ho4 hg4 hb4 ho3
  go_wp2
  go_ret
  exact ⟨⟨v4, rfl, HO4.out⟩, c4⟩
end Go.Proofs.YtkhnkockdfmkgaaDoor
namespace Go.Proofs.YtkhnkockdfmkgaaDoor
open Go.RowKit M
set_option linter.unusedVariables false

set_option maxRecDepth 100000 in
set_option maxHeartbeats 4000000 in
theorem putLines_any (top : ByteArray) (a : Option Addr) (hs : List Hd) (cap B : Nat) (a2 : Option Addr) (hs2 : List Hd) (cap2 B2 : Nat) (w : World) (h : Hds w B a hs) (hB : B ≤ w.heap.size) (h2 : Hds w B2 a2 hs2) (hB2 : B2 ≤ w.heap.size) (ht : top.size ≤ 4194000) (hl : hs.length ≤ 1048576) (hsum : sumH hs ≤ 1048576) (hl2 : hs2.length ≤ 16) (hsum2 : sumH hs2 ≤ 1048576) :
    Calls Tryd.prog 17 #[.string top, .slice a hs.length cap, .slice a2 hs2.length cap2] w fun e w' => (∃ v, e = .returned v ∧ OwnY w' w.heap.size v (linesTxt top.data.toList hs hs2) ∧ (linesTxt top.data.toList hs hs2).length ≤ 33554432) ∧ Below w.heap.size w w' := by
  have HH := hide h
  have HH2 := hide h2
  clear h h2
  obtain ⟨sx, hsx⟩ : ∃ sx, top ++ (⟨#[13, 10]⟩ : ByteArray) = sx := ⟨_, rfl⟩
  have hcv := Lib.run_convert_string_bytes (P := Tryd.prog) w 9 22 5 sx Tryd.underlying9 Tryd.underlying22 Tryd.underlying5
  have hsz : sx.size ≤ 4194304 := by
    rw [← hsx]
    simp only [ByteArray.size_append]
    have e3 : (⟨#[13, 10]⟩ : ByteArray).size = 2 := rfl
    omega
  have HSX : Hid (sx.data.toList = top.data.toList ++ crlf) := by
    show sx.data.toList = top.data.toList ++ crlf
    rw [← hsx]
    simp [crlf]
  have HO1 := hide (OwnY.made w sx (by omega))
  go_enter Tryd.func17, Tryd.ntmps17
  go_wp2
  clear hcv hsx
  go_loopw [7, 17] (fun bv i wr => ∃ (k : Nat) (l : List UInt8), k ≤ hs.length ∧ i = .int .i64 k ∧ l = top.data.toList ++ crlf ++ hdsTxt (hs.take k) ∧ OwnY wr w.heap.size bv l ∧ Below w.heap.size w wr) (fun _ i _ => hs.length - (intOf i).toNat)
  case atStart => exact ⟨0, sx.data.toList, Nat.zero_le _, rfl, by rw [HSX.out]; simp [hdsTxt], HO1.out, below_bytesP w sx⟩
  case round =>
    obtain ⟨k, l, hk, rfl, hL, ho, hbe⟩ := hrel
    have hlz : l.length ≤ 16777216 := by
      have e : sx.data.toList.length = sx.size := Array.length_toList
      rw [hL, List.length_append, ← HSX.out, e, hdsTxt_len]
      have := sumH_take hs k
      rw [List.length_take]; omega
    have HL := hide hL
    clear hL
    by_cases hlt : k < hs.length
    · obtain ⟨b, o, rfl, hb, hc⟩ := HH.out.below hbe hB (by omega)
      have hcx := (hc k hlt).1
      have hcy := (hc k hlt).2
      have HS : Hid (hdsTxt (hs.take (k + 1)) = hdsTxt (hs.take k) ++ hdTxt hs[k]) := hdsTxt_snoc hs k hlt
      have hz1 : (hs[k]).1.size ≤ 1048576 := Nat.le_trans (sumH_mem hs _ (List.getElem_mem hlt)).1 hsum
      have hz2 : (hs[k]).2.size ≤ 1048576 := Nat.le_trans (sumH_mem hs _ (List.getElem_mem hlt)).2 hsum
      have ba : Below wr.heap.size wr (wr.alloc (Obj.cells #[.string hs[k].1, .string hs[k].2] 42)) := (Below.refl _ _).alloc (Nat.le_refl _) _
      have HP := hide (putHead_any _ w.heap.size u7 l hs[k].1 hs[k].2 (ho.next ba) (Nat.le_trans hbe.size ba.size) (by omega) (by omega) (by omega))
      have ca := hide (hbe.trans (ba.mono hbe.size))
      clear hc ho ba
      go_wp2_with fail
      refine HP.out.mono ?_
      rintro e w2 ⟨⟨v2, rfl, ho2⟩, b2⟩
      have c2 := ca.out.trans b2
      have HO2 := hide ho2
      clear ho2 HP
      go_wp2
      go_roundw
      case rel => exact ⟨k + 1, _, by omega, by go_num, by rw [HS.out, HL.out, List.append_assoc], HO2.out, c2⟩
      case measure => simp [intOf]; omega
    · have HL2 : Hid (l = top.data.toList ++ crlf ++ hdsTxt hs) := by
        show l = _
        rw [HL.out, List.take_of_length_le (by omega)]
      have HO3 := hide ho
      clear ho HL
      go_wp2
      go_loopw [7, 27] (fun bv i wr2 => ∃ (j : Nat) (l2 : List UInt8), j ≤ hs2.length ∧ i = .int .i64 j ∧ l2 = top.data.toList ++ crlf ++ hdsTxt hs ++ hdsTxt (hs2.take j) ∧ OwnY wr2 w.heap.size bv l2 ∧ Below w.heap.size w wr2) (fun _ i _ => hs2.length - (intOf i).toNat)
      case atStart => exact ⟨0, l, Nat.zero_le _, rfl, by rw [HL2.out]; simp [hdsTxt], HO3.out, hbe⟩
      case round =>
        clear hbe HO3 hlz
        obtain ⟨j, l2, hj, rfl, hL, ho, hbe⟩ := hrel
        have hlz : l2.length ≤ 16777216 := by
          have e : sx.data.toList.length = sx.size := Array.length_toList
          rw [hL, List.length_append, List.length_append, ← HSX.out, e, hdsTxt_len, hdsTxt_len]
          have := sumH_take hs2 j
          rw [List.length_take]; omega
        have HL := hide hL
        clear hL
        by_cases hlt2 : j < hs2.length
        · obtain ⟨b, o, rfl, hb, hc⟩ := HH2.out.below hbe hB2 (by omega)
          have hcx := (hc j hlt2).1
          have hcy := (hc j hlt2).2
          have HS : Hid (hdsTxt (hs2.take (j + 1)) = hdsTxt (hs2.take j) ++ hdTxt hs2[j]) := hdsTxt_snoc hs2 j hlt2
          have hz1 : (hs2[j]).1.size ≤ 1048576 := Nat.le_trans (sumH_mem hs2 _ (List.getElem_mem hlt2)).1 hsum2
          have hz2 : (hs2[j]).2.size ≤ 1048576 := Nat.le_trans (sumH_mem hs2 _ (List.getElem_mem hlt2)).2 hsum2
          have ba : Below wr.heap.size wr (wr.alloc (Obj.cells #[.string hs2[j].1, .string hs2[j].2] 42)) := (Below.refl _ _).alloc (Nat.le_refl _) _
          have HP := hide (putHead_any _ w.heap.size u7 l2 hs2[j].1 hs2[j].2 (ho.next ba) (Nat.le_trans hbe.size ba.size) (by omega) (by omega) (by omega))
          have ca := hide (hbe.trans (ba.mono hbe.size))
          clear hc ho ba
          go_wp2_with fail
          refine HP.out.mono ?_
          rintro e w2 ⟨⟨v2, rfl, ho2⟩, b2⟩
          have c2 := ca.out.trans b2
          have HO2 := hide ho2
          clear ho2 HP
          go_wp2
          go_roundw
          case rel => exact ⟨j + 1, _, by omega, by go_num, by rw [HS.out, HL.out, List.append_assoc], HO2.out, c2⟩
          case measure => simp [intOf]; omega
        · have HO3 := hide ho
          go_wp2_with (at_builtin; refine wp_append_text rfl _ _ rfl w.heap.size u7 l2 rfl HO3.out ⟨#[13, 10]⟩ rfl ?c1 ?c2 ?_)
          case c1 => have e2 : (⟨#[13, 10]⟩ : ByteArray).size = 2 := rfl; omega
          case c2 => exact hbe.size
          intro v4 w4 ho4 hg4 hb4
          have c4 := hbe.trans (HO3.out.grown hbe.size hg4)
          have HE4 : l2 ++ (⟨#[13, 10]⟩ : ByteArray).data.toList = linesTxt top.data.toList hs hs2 := by
            show l2 ++ [13, 10] = linesTxt top.data.toList hs hs2
            rw [HL.out, List.take_of_length_le (by omega)]
            simp [linesTxt, crlf]
          have hLz : (linesTxt top.data.toList hs hs2).length ≤ 33554432 := by
            rw [← HE4, List.length_append]
            have e : (⟨#[13, 10]⟩ : ByteArray).data.toList.length = 2 := rfl
            omega
          rw [HE4] at ho4
          have HO4 := hide ho4
          clear HE4 ho4 hg4 hb4 ho
          go_wp2
          go_ret
          exact ⟨⟨_, rfl, HO4.out, hLz⟩, c4⟩
end Go.Proofs.YtkhnkockdfmkgaaDoor
namespace Go.Proofs.YtkhnkockdfmkgaaDoor
open Go.RowKit M

set_option maxHeartbeats 400000 in
theorem smallName_any (s : ByteArray) (w : World) (hs : s.size ≤ maxLen) :
    Calls Tryd.prog 59 #[.string s] w fun e w' => e = .returned (.bool (smB s.data.toList)) ∧ Below w.heap.size w w' := by
  have hs' := hs
  unfold maxLen at hs'
  by_cases h0 : s.size < 1
  · have := smB_long s (.inl h0)
    have H : Hid (smB s.data.toList = false) := this
    clear this
    go_enter Tryd.func59, Tryd.ntmps59
    go_wp2
    go_ret
    exact ⟨ret_bool H.out.symm, Below.refl _ _⟩
  · by_cases h20 : 20 < s.size
    · have H : Hid (smB s.data.toList = false) := smB_long s (.inr h20)
      go_enter Tryd.func59, Tryd.ntmps59
      go_wp2
      go_ret
      exact ⟨ret_bool H.out.symm, Below.refl _ _⟩
    · have h1 : 0 < s.size := by omega
      have H : Hid (smB s.data.toList = (isB ((s[0]).toNat : Int) 2 && allB s.data.toList [2, 4, 7])) := smB_impl s h1 (by omega)
      cases hsm : isB ((s[0]).toNat : Int) 2
      · go_enter Tryd.func59, Tryd.ntmps59
        go_wp2_with (go_at_call 67; refine (isOneOf_any _ [2] 1 _ 0 1 _ rfl (by decide) (cells1 w 2 77)).mono ?_; rintro e w' ⟨rfl, rfl⟩; rw [anyB_one, hsm])
        go_ret
        exact ⟨ret_bool (by rw [H.out, hsm]; rfl), (Below.refl _ _).alloc (Nat.le_refl _) _⟩
      · go_enter Tryd.func59, Tryd.ntmps59
        go_wp2_with (first | (go_at_call 67; refine (isOneOf_any _ [2] 1 _ 0 1 _ rfl (by decide) (cells1 w 2 77)).mono ?_; rintro e w' ⟨rfl, rfl⟩; rw [anyB_one, hsm]) | (go_at_call 56; refine (allOf_any s [2, 4, 7] 3 _ 0 3 _ rfl hs (by decide) ?c1).mono ?_; rotate_left; rintro e w' ⟨rfl, rfl⟩))
        case c1 => exact cells3 _ _ 2 4 7 77 (by simp)
        go_ret
        exact ⟨ret_bool (by rw [H.out, hsm]; rfl), ((Below.refl _ _).alloc (Nat.le_refl _) _).alloc (by simp) _⟩
end Go.Proofs.YtkhnkockdfmkgaaDoor
namespace Go.Proofs.YtkhnkockdfmkgaaDoor
open Go.RowKit M

set_option maxHeartbeats 400000 in
theorem plain_any (s : ByteArray) (w : World) (hs : s.size ≤ maxLen) :
    Calls Tryd.prog 60 #[.string s] w fun e w' => e = .returned (.bool (allB s.data.toList [0])) ∧ Below w.heap.size w w' := by
  go_enter Tryd.func60, Tryd.ntmps60
  go_wp2_with (go_at_call 56; refine (allOf_any s [0] 1 _ 0 1 _ rfl hs (by decide) ?_).mono ?_)
  · intro i hi
    have : i = 0 := by simp at hi; omega
    subst this
    simp
  · rintro e w' ⟨rfl, rfl⟩
    go_wp2
    go_ret
    exact ⟨rfl, (Below.refl _ _).alloc (Nat.le_refl _) _⟩
end Go.Proofs.YtkhnkockdfmkgaaDoor
namespace Go.Proofs.YtkhnkockdfmkgaaDoor
open Go.RowKit

set_option maxHeartbeats 400000 in
theorem clone_any (s : ByteArray) (w : World) (hs : s.size ≤ 281474976710656) :
    Calls Tryd.prog 70 #[.string s] w fun e w' => e = .returned (.string s) ∧ Below w.heap.size w w' := by
  go_enter Tryd.func70, Tryd.ntmps70
  go_wp2_with (go_at_call 86; refine (Tryd.stringslite_Clone s _ hs).mono ?_; rintro e w1 ⟨rfl, hb1⟩)
  go_ret
  exact ⟨rfl, hb1⟩
end Go.Proofs.YtkhnkockdfmkgaaDoor
namespace Go.Proofs.YtkhnkockdfmkgaaDoor
open Go.RowKit M

set_option maxHeartbeats 1000000 in
theorem trim_any (s : ByteArray) (w : World) (hs : s.size ≤ 281474976710656) :
    Calls Tryd.prog 61 #[.string s] w fun e w' => (∃ t : ByteArray, e = .returned (.string t) ∧ t.data.toList = trimL s.data.toList) ∧ Below w.heap.size w w' := by
  go_enter Tryd.func61, Tryd.ntmps61
  go_wp2
  go_loopw [3] (fun i wr => ∃ a : Nat, a ≤ s.size ∧ i = .int .i64 a ∧ Below w.heap.size w wr ∧ trimL (cut s a s.size) = trimL s.data.toList) (fun i _ => s.size - (intOf i).toNat)
  case atStart => exact ⟨0, Nat.zero_le _, rfl, Below.refl _ _, by rw [cut_all]⟩
  case round =>
    obtain ⟨a, ha, rfl, hbe, hn⟩ := hrel
    have HN : Hid (trimL (cut s a s.size) = trimL s.data.toList) := hn; clear hn
    by_cases h0 : a < s.size
    · cases hb : bl s[a]
      · go_wp2_with (go_at_call 67; refine (isOneOf_any _ [1] 1 _ 0 1 _ rfl (by decide) (cells1 _ 1 77)).mono ?_; rintro e w' ⟨rfl, rfl⟩; rw [anyB_bl, hb])
        have hbe1 : Below w.heap.size w (wr.alloc (Obj.cells #[Value.int IntKind.i64 1] 77)) := hbe.alloc hbe.size _
        go_loopw [4] (fun j wx => ∃ b : Nat, a ≤ b ∧ b ≤ s.size ∧ j = .int .i64 b ∧ Below w.heap.size w wx ∧ trimL (cut s a b) = trimL s.data.toList) (fun j _ => (intOf j).toNat)
        case atStart => exact ⟨s.size, ha, Nat.le_refl _, rfl, hbe1, HN.out⟩
        case round =>
          clear hbe1 hbe
          obtain ⟨b, hab, hbs, rfl, hbx, hn⟩ := hrel
          have HB : Hid (trimL (cut s a b) = trimL s.data.toList) := hn; clear hn
          by_cases h1 : a < b
          · cases hb1 : bl s[b - 1]
            · have HD : Hid ((s.extract a b).data.toList = trimL s.data.toList) := by
                show _ = _
                rw [← HB.out, extract_cut, cut_trim_done s a b hbs h1 hb hb1]
              have hsz : (s.extract a b).size ≤ 281474976710656 := by rw [size_extract s a b hbs]; omega
              go_wp2_with (first | (go_at_call 67; refine (isOneOf_any _ [1] 1 _ 0 1 _ rfl (by decide) (cells1 _ 1 77)).mono ?_; rintro e w' ⟨rfl, rfl⟩; rw [anyB_bl, hb1]) | (go_at_call 70; refine (clone_any _ _ hsz).mono ?_; rintro e w1 ⟨rfl, hb2⟩))
              go_ret
              exact ⟨⟨_, rfl, HD.out⟩, (hbx.alloc hbx.size _).trans (hb2.mono (by have := hbx.size; simp; omega))⟩
            · go_wp2_with (go_at_call 67; refine (isOneOf_any _ [1] 1 _ 0 1 _ rfl (by decide) (cells1 _ 1 77)).mono ?_; rintro e w' ⟨rfl, rfl⟩; rw [anyB_bl, hb1])
              go_roundw
              case rel => exact ⟨b - 1, by omega, by omega, by go_num, hbx.alloc hbx.size _, by rw [← HB.out]; exact (cut_trim_back s a b hbs h1 hb1).symm⟩
              case measure => simp [intOf]; omega
          · have HD : Hid ((s.extract a b).data.toList = trimL s.data.toList) := by
              show _ = _
              rw [← HB.out, extract_cut, cut_empty s a b (by omega)]; rfl
            have hsz : (s.extract a b).size ≤ 281474976710656 := by rw [size_extract s a b hbs]; omega
            go_wp2_with (go_at_call 70; refine (clone_any _ _ hsz).mono ?_; rintro e w1 ⟨rfl, hb2⟩)
            go_ret
            exact ⟨⟨_, rfl, HD.out⟩, hbx.trans (hb2.mono hbx.size)⟩
      · go_wp2_with (go_at_call 67; refine (isOneOf_any _ [1] 1 _ 0 1 _ rfl (by decide) (cells1 _ 1 77)).mono ?_; rintro e w' ⟨rfl, rfl⟩; rw [anyB_bl, hb])
        go_roundw
        case rel => exact ⟨a + 1, by omega, by go_num, hbe.alloc hbe.size _, by rw [← HN.out]; exact (cut_trim_front s a s.size (Nat.le_refl _) h0 hb).symm⟩
        case measure => simp [intOf]; omega
    · have HD : Hid ((s.extract a s.size).data.toList = trimL s.data.toList) := by
        show _ = _
        rw [← HN.out, extract_cut, cut_empty s _ _ (by omega)]; rfl
      have hsz : (s.extract a s.size).size ≤ 281474976710656 := by rw [size_extract s _ _ (Nat.le_refl _)]; omega
      go_wp2
      go_loopw [4] (fun j wx => j = .int .i64 s.size ∧ wx = wr) (fun j _ => (intOf j).toNat)
      case atStart => exact ⟨rfl, rfl⟩
      case round =>
        obtain ⟨rfl, rfl⟩ := hrel
        go_wp2_with (go_at_call 70; refine (clone_any _ _ hsz).mono ?_; rintro e w1 ⟨rfl, hb2⟩)
        go_ret
        exact ⟨⟨_, rfl, HD.out⟩, hbe.trans (hb2.mono hbe.size)⟩
end Go.Proofs.YtkhnkockdfmkgaaDoor
namespace Go.Proofs.YtkhnkockdfmkgaaDoor
open Go.RowKit M
set_option linter.unusedVariables false

theorem below_drew0 {w w' : World} {C : Nat} (h : Below C w w') : Below C w w'.drew := ⟨h.os, h.tape, h.output, h.size, h.block⟩
theorem box1 {w w1 : World} {x y : ByteArray} {T : TypeId} (b1 : Below (w.alloc (Obj.cells #[Value.string x, Value.string y] T)).drew.heap.size (w.alloc (Obj.cells #[Value.string x, Value.string y] T)).drew w1) : w1.cell? ⟨w.heap.size, 1, none⟩ = some (.string y) := by
  have h : (w.alloc (Obj.cells #[Value.string x, Value.string y] T)).drew.cell? ⟨w.heap.size, 1, none⟩ = some (.string y) := by
    show (w.alloc (Obj.cells #[Value.string x, Value.string y] T)).cell? ⟨w.heap.size, 1, none⟩ = some (.string y)
    simp
  exact (b1.cell (p := ⟨w.heap.size, 1, none⟩) (by show w.heap.size < (w.alloc (Obj.cells #[Value.string x, Value.string y] T)).heap.size; simp)).trans h
theorem lt1 {w w1 : World} {x y : ByteArray} {T : TypeId} (b1 : Below (w.alloc (Obj.cells #[Value.string x, Value.string y] T)).drew.heap.size (w.alloc (Obj.cells #[Value.string x, Value.string y] T)).drew w1) : w.heap.size < w1.heap.size :=
  Nat.lt_of_lt_of_le (by show w.heap.size < (w.alloc (Obj.cells #[Value.string x, Value.string y] T)).heap.size; simp) b1.size

set_option maxHeartbeats 4000000 in
theorem headOk_any (x y : ByteArray) (w : World) (hx : x.size ≤ maxLen) (hy : y.size ≤ maxLen) (hy4 : y.size ≤ 281474976710656) :
    Calls Tryd.prog 50 #[.agg #[.string x, .string y]] w fun e w' => e = .returned (.bool (hdB (x, y))) ∧ Below w.heap.size w w' := by
  have hb0 : Below w.heap.size w (w.alloc (Obj.cells #[Value.string x, Value.string y] 42)).drew := below_drew0 ((Below.refl w.heap.size w).alloc (Nat.le_refl _) (Obj.cells #[Value.string x, Value.string y] 42))
  cases h1 : smB x.data.toList
  · have hz : hdB (x, y) = false := by simp [hdB, h1]
    rw [hz]
    clear hz
    go_enter Tryd.func50, Tryd.ntmps50
    go_wp2
    first | go_region_with ((go_at_call 59; refine (smallName_any x _ hx).mono ?_; rintro e w1 ⟨rfl, b1⟩; rw [h1]; have c1 := hb0.trans (Below.mono (w := (w.alloc (Obj.cells #[Value.string x, Value.string y] 42)).drew) b1 hb0.size); have k1 := box1 b1; have l1 := lt1 b1)) | fail
    all_goals
      go_wp2
      go_ret
      exact ⟨rfl, c1⟩
  · by_cases h2 : (y.size : Int) ≤ 60
    · cases h3 : allB y.data.toList [0]
      · have hz : hdB (x, y) = false := by simp [hdB, valB, h3]
        rw [hz]
        clear hz
        go_enter Tryd.func50, Tryd.ntmps50
        go_wp2
        first | go_region_with (first | (go_at_call 59; refine (smallName_any x _ hx).mono ?_; rintro e w1 ⟨rfl, b1⟩; rw [h1]; have c1 := hb0.trans (Below.mono (w := (w.alloc (Obj.cells #[Value.string x, Value.string y] 42)).drew) b1 hb0.size); have k1 := box1 b1; have l1 := lt1 b1) | (go_at_call 60; refine (plain_any y _ hy).mono ?_; rintro e w2 ⟨rfl, b2⟩; rw [h3]; have c2 := c1.trans (b2.mono c1.size); have k2 := (b2.cell (p := ⟨w.heap.size, 1, none⟩) l1).trans k1; have l2 := Nat.lt_of_lt_of_le l1 b2.size)) | fail
        all_goals
          go_wp2
          go_ret
          exact ⟨rfl, c2⟩
      · have h2' : y.size ≤ 60 := by omega
        have hz : hdB (x, y) = decide (trimL y.data.toList = y.data.toList) := by simp [hdB, valB, h1, h2', h3]
        rw [hz]
        clear hz h2'
        go_enter Tryd.func50, Tryd.ntmps50
        go_wp2
        first | go_region_with (first | (go_at_call 59; refine (smallName_any x _ hx).mono ?_; rintro e w1 ⟨rfl, b1⟩; rw [h1]; have c1 := hb0.trans (Below.mono (w := (w.alloc (Obj.cells #[Value.string x, Value.string y] 42)).drew) b1 hb0.size); have k1 := box1 b1; have l1 := lt1 b1) | (go_at_call 60; refine (plain_any y _ hy).mono ?_; rintro e w2 ⟨rfl, b2⟩; rw [h3]; have c2 := c1.trans (b2.mono c1.size); have k2 := (b2.cell (p := ⟨w.heap.size, 1, none⟩) l1).trans k1; have l2 := Nat.lt_of_lt_of_le l1 b2.size) | (go_at_call 61; refine (trim_any y _ hy4).mono ?_; rintro e w3 ⟨⟨t, rfl, ht⟩, b3⟩; have HT := hide ht; clear ht; have c3 := c2.trans (b3.mono c2.size); have k3 := (b3.cell (p := ⟨w.heap.size, 1, none⟩) l2).trans k2)) | fail
        all_goals
          go_wp2
          go_ret
          exact ⟨ret_bool (by rw [← trim_same HT.out]), c3⟩
    · have h2' : ¬ y.size ≤ 60 := by omega
      have hz : hdB (x, y) = false := by simp [hdB, valB, h2']
      rw [hz]
      clear h2' hz
      go_enter Tryd.func50, Tryd.ntmps50
      go_wp2
      first | go_region_with ((go_at_call 59; refine (smallName_any x _ hx).mono ?_; rintro e w1 ⟨rfl, b1⟩; rw [h1]; have c1 := hb0.trans (Below.mono (w := (w.alloc (Obj.cells #[Value.string x, Value.string y] 42)).drew) b1 hb0.size); have k1 := box1 b1; have l1 := lt1 b1)) | fail
      all_goals
        go_wp2
        go_ret
        exact ⟨rfl, c1⟩
end Go.Proofs.YtkhnkockdfmkgaaDoor
namespace Go.Proofs.YtkhnkockdfmkgaaDoor
open Go.RowKit M
set_option linter.unusedVariables false

set_option maxHeartbeats 2000000 in
theorem headsOk_any (a : Option Addr) (hs : List Hd) (cap B : Nat) (w : World) (h : Hds w B a hs) (hB : B ≤ w.heap.size) (hsh : ShortH hs) (hz : ∀ x ∈ hs, x.2.size ≤ 281474976710656) (hl : hs.length ≤ maxLen) :
    Calls Tryd.prog 33 #[.slice a hs.length cap] w fun e w' => e = .returned (.bool (hdsB hs)) ∧ Below w.heap.size w w' := by
  unfold maxLen at hl
  by_cases h8 : hs.length ≤ 8
  · have h8' : ¬ (8 : Int) < hs.length := by omega
    go_enter Tryd.func33, Tryd.ntmps33
    go_wp2
    go_loopw [10] (fun i wr => ∃ k : Nat, k ≤ hs.length ∧ i = .int .i64 k ∧ (hs.take k).all hdFree = true ∧ Below w.heap.size w wr) (fun i _ => hs.length - (intOf i).toNat)
    case atStart => exact ⟨0, Nat.zero_le _, rfl, rfl, Below.refl _ _⟩
    case round =>
      obtain ⟨k, hk, rfl, hn, hbe⟩ := hrel
      have HN : Hid ((hs.take k).all hdFree = true) := hn; clear hn
      by_cases hlt : k < hs.length
      · obtain ⟨b, o, rfl, hb, hc⟩ := (h.below hbe hB) (by omega)
        have hcx := (hc k hlt).1
        have hcy := (hc k hlt).2
        have hsz := hsh.at k hlt
        have hzk := hz _ (List.getElem_mem hlt)
        clear hc
        have BH0 := hide (BoxH.made wr hs[k].1 hs[k].2 42)
        have c0 := hbe.alloc hbe.size (Obj.cells #[Value.string hs[k].1, Value.string hs[k].2] 42)
        have C0 := hide c0
        clear c0
        cases h1 : hdB hs[k]
        · have HE : Hid (hdsB hs = false) := hdsB_not hs k hlt (by simp [hdFree, h1])
          go_wp2_with fail
          refine (headOk_any hs[k].1 hs[k].2 _ hsz.1 hsz.2 hzk).mono ?_
          rintro e w1 ⟨rfl, b1⟩
          rw [show hdB (hs[k].1, hs[k].2) = false from h1]
          have c1 := C0.out.trans (b1.mono C0.out.size)
          go_wp2
          go_ret
          exact ⟨ret_bool HE.out.symm, c1⟩
        · go_wp2_with fail
          refine (headOk_any hs[k].1 hs[k].2 _ hsz.1 hsz.2 hzk).mono ?_
          rintro e w1 ⟨rfl, b1⟩
          rw [show hdB (hs[k].1, hs[k].2) = true from h1]
          have c1 := C0.out.trans (b1.mono C0.out.size)
          have BH1 := hide (BH0.out.next b1)
          have x1 := BH1.out
          obtain ⟨_, x10, x11⟩ := x1
          by_cases h3 : hs[k].1 = lenName
          · have HE : Hid (hdsB hs = false) := hdsB_not hs k hlt (by simp [hdFree, h3])
            have HD := hide (decide_eq_true h3)
            clear h3
            go_wp2_with fail
            refine (tellsLength_any hs[k].1 hs[k].2 w1).mono ?_
            rintro e w2 ⟨rfl, b2⟩
            rw [HD.out]
            have c2 := c1.trans (b2.mono c1.size)
            go_wp2
            go_ret
            exact ⟨ret_bool HE.out.symm, c2⟩
          · have HD := hide (decide_eq_false h3)
            go_wp2_with fail
            refine (tellsLength_any hs[k].1 hs[k].2 w1).mono ?_
            rintro e w2 ⟨rfl, b2⟩
            rw [HD.out]
            have c2 := c1.trans (b2.mono c1.size)
            have x2 := BH1.out.next b2
            obtain ⟨_, x20, x21⟩ := x2
            by_cases h4 : hs[k].1 = codName
            · have HE : Hid (hdsB hs = false) := hdsB_not hs k hlt (by simp [hdFree, h4])
              have HD4 := hide (decide_eq_true h4)
              clear h3 h4
              go_wp2_with fail
              refine (tellsCoding_any hs[k].1 hs[k].2 w2).mono ?_
              rintro e w3 ⟨rfl, b3⟩
              rw [HD4.out]
              go_wp2
              go_ret
              exact ⟨ret_bool HE.out.symm, c2.trans (b3.mono c2.size)⟩
            · have HE : Hid ((hs.take (k + 1)).all hdFree = true) := hdsB_snoc hs k hlt HN.out (by simp [hdFree, h1, h3, h4])
              have HD4 := hide (decide_eq_false h4)
              clear h3 h4
              go_wp2_with fail
              refine (tellsCoding_any hs[k].1 hs[k].2 w2).mono ?_
              rintro e w3 ⟨rfl, b3⟩
              rw [HD4.out]
              have c3 := c2.trans (b3.mono c2.size)
              go_wp2
              go_roundw
              case rel => exact ⟨k + 1, by omega, by go_num, HE.out, c3⟩
              case measure => simp [intOf]; omega
      · have HE : Hid (hdsB hs = true) := by
          show hdsB hs = true
          rw [hdsB_all hs k hlt HN.out]; simp [h8]
        go_wp2
        go_ret
        exact ⟨ret_bool HE.out.symm, hbe⟩
  · have HE := hide (hdsB_long hs h8)
    go_enter Tryd.func33, Tryd.ntmps33
    go_wp2
    go_ret
    exact ⟨ret_bool HE.out.symm, Below.refl _ _⟩
end Go.Proofs.YtkhnkockdfmkgaaDoor
namespace Go.Proofs.YtkhnkockdfmkgaaDoor
open Go.RowKit M
set_option linter.unusedVariables false

set_option maxHeartbeats 400000 in
theorem codeOk_any (c : Int) (w : World) : Calls Tryd.prog 32 #[.int .i64 c] w fun e w' => e = .returned (.bool (codeB c)) ∧ w' = w := by
  have HE : Hid (codeB c = (decide (100 ≤ c) && decide (c < 600))) := by
    show codeB c = _
    by_cases h1 : 100 ≤ c
    · by_cases h2 : c < 600
      · have h3 : c ≤ 599 := by omega
        simp [codeB, inB, h1, h2, h3]
      · have h3 : ¬ c ≤ 599 := by omega
        simp [codeB, inB, h1, h2, h3]
    · simp [codeB, inB, h1]
  by_cases h1 : 100 ≤ c
  · go_enter Tryd.func32, Tryd.ntmps32
    go_wp2
    go_ret
    rw [HE.out, decide_eq_true h1]
    exact ⟨rfl, rfl⟩
  · go_enter Tryd.func32, Tryd.ntmps32
    go_wp2
    go_ret
    rw [HE.out, decide_eq_false (by omega)]
    exact ⟨rfl, rfl⟩

set_option maxHeartbeats 2000000 in
theorem respOk_any (a : Option Addr) (r : Rs) (cap B : Nat) (w : World) (h : Hds w B a r.hs) (hB : B ≤ w.heap.size) (hfit : FitA r) :
    Calls Tryd.prog 13 #[.agg #[.int .i64 r.c, .slice a r.hs.length cap, .string r.b]] w fun e w' => e = .returned (.bool (respB r)) ∧ Below w.heap.size w w' := by
  obtain ⟨⟨q3, q4, q5⟩, q6⟩ := hfit
  have HM : Hid (codeB r.c = false → respB r = false) := respB_c
  have HH : Hid (hdsB r.hs = false → respB r = false) := respB_h
  have HA : Hid (codeB r.c = true → hdsB r.hs = true → respB r = decide ((r.b.size : Int) ≤ 400)) := respB_b
  have q3' := q3
  unfold maxLen at q3'
  have hb0 : Below w.heap.size w (w.alloc (Obj.cells #[Value.int .i64 r.c, Value.slice a r.hs.length cap, Value.string r.b] 26)) := (Below.refl _ _).alloc (Nat.le_refl _) _
  have BX0 := hide (BoxA.made w a cap r 26)
  have HD := hide (h.below hb0 hB)
  have C0 := hide hb0
  obtain ⟨z, hz⟩ : ∃ z, respB r = z := ⟨_, rfl⟩
  rw [hz] at HM HH HA ⊢
  clear hz h hb0
  cases h1 : codeB r.c
  · have hz := HM.out h1
    subst hz
    go_enter Tryd.func13, Tryd.ntmps13
    go_wp2_with fail
    refine (codeOk_any r.c _).mono ?_
    rintro e w1 ⟨rfl, hw⟩
    obtain rfl := hw.symm
    rw [h1]
    go_wp2
    go_ret
    exact ⟨rfl, C0.out⟩
  · cases h3 : hdsB r.hs
    · have hz := HH.out h3
      subst hz
      go_enter Tryd.func13, Tryd.ntmps13
      go_wp2_with fail
      refine (codeOk_any r.c _).mono ?_
      rintro e w1 ⟨rfl, hw⟩
      obtain rfl := hw.symm
      rw [h1]
      go_wp2_with fail
      refine (headsOk_any a r.hs cap B _ HD.out (Nat.le_trans hB C0.out.size) q5 q6 q4).mono ?_
      rintro e w3 ⟨rfl, b3⟩
      rw [h3]
      have c3 := C0.out.trans (b3.mono C0.out.size)
      go_wp2
      go_ret
      exact ⟨rfl, c3⟩
    · have hz := HA.out h1 h3
      subst hz
      go_enter Tryd.func13, Tryd.ntmps13
      go_wp2_with fail
      refine (codeOk_any r.c _).mono ?_
      rintro e w1 ⟨rfl, hw⟩
      obtain rfl := hw.symm
      rw [h1]
      go_wp2_with fail
      refine (headsOk_any a r.hs cap B _ HD.out (Nat.le_trans hB C0.out.size) q5 q6 q4).mono ?_
      rintro e w3 ⟨rfl, b3⟩
      rw [h3]
      have c3 := C0.out.trans (b3.mono C0.out.size)
      have BX3 := BX0.out.next b3
      obtain ⟨_, x30, x31, x32⟩ := BX3
      go_wp2
      go_ret
      exact ⟨rfl, c3⟩
end Go.Proofs.YtkhnkockdfmkgaaDoor
namespace Go.Proofs.YtkhnkockdfmkgaaDoor
open Go.RowKit

theorem pow_glob : Tryd.prog.globalNamed "internal/strconv.uint64pow10" = some 1 := by kernel_rfl
theorem pow_data : (Rows.laid_internal_strconv_uint64pow10 : DataW Unit) = Lib.tabData .u64 Lib.pow10Tab := by kernel_rfl

def PowTab (w : World) : Prop := Lib.TabIs Tryd.prog w "internal/strconv.uint64pow10" .u64 Lib.pow10Tab

theorem PowTab.lt {w : World} (h : PowTab w) : 1 < w.heap.size := by
  have h' : w.var? Tryd.prog "internal/strconv.uint64pow10" = some _ := h
  unfold World.var? at h'
  rw [pow_glob] at h'
  simp only [Option.bind_some] at h'
  rcases Nat.lt_or_ge 1 w.heap.size with h1 | h1
  · exact h1
  · rw [Array.getElem?_eq_none h1] at h'
    simp at h'

theorem PowTab.below {w w' : World} (h : PowTab w) (hb : Below w.heap.size w w') : PowTab w' := var?_below hb pow_glob h.lt h

theorem powTab_of {W : World} {rest : List (String × DataW Unit)} (h : laidMet Tryd.prog (("internal/strconv.uint64pow10", Rows.laid_internal_strconv_uint64pow10) :: rest) W) : PowTab W := by
  rw [pow_data] at h
  exact Lib.tabIs_of_head pow_glob (t := 106) (n := 20) (e := 91) (by kernel_rfl) (by kernel_rfl) (by kernel_rfl) (by kernel_rfl) (by kernel_rfl) h
end Go.Proofs.YtkhnkockdfmkgaaDoor
namespace Go.Proofs.YtkhnkockdfmkgaaDoor
open Go.RowKit M

theorem itoa_pos (m : Nat) : Lib.itoa (m : Int) = Lib.decDigits m := by
  unfold Lib.itoa
  rw [if_neg (by omega), Int.toNat_natCast]

theorem itoa_calls (m : Nat) (w : World) (hn : (m : Int) ≤ 9223372036854775807) (ht : PowTab w) :
    Calls Tryd.prog 38 #[.int .i64 m] w fun e w' => e = .returned (.string ⟨(Lib.decDigits m).toArray⟩) ∧ Below w.heap.size w w' := by
  refine (Tryd.strconv_Itoa (m : Int) (by omega) hn w ht).mono ?_
  rintro e w' ⟨rfl, k, os, rfl⟩
  rw [itoa_pos]
  exact ⟨rfl, Lib.below_grow _ w (Nat.le_refl _) k os⟩

set_option maxHeartbeats 400000 in
theorem numText_any (n : Int) (w : World) (hn : n ≤ 9223372036854775807) (ht : PowTab w) :
    Calls Tryd.prog 18 #[.int .i64 n] w fun e w' => e = .returned (.string ⟨(Lib.decDigits n.toNat).toArray⟩) ∧ Below w.heap.size w w' := by
  by_cases h : n < 0
  · have e : n.toNat = 0 := by omega
    have e0 : max n 0 = ((0 : Nat) : Int) := by omega
    rw [e]
    go_enter Tryd.func18, Tryd.ntmps18
    go_wp2_with fail
    rw [show (0 : Int) = ((0 : Nat) : Int) from rfl]
    refine (itoa_calls 0 w (by omega) ht).mono ?_
    rintro e w' ⟨rfl, hb⟩
    go_wp2
    go_ret
    exact ⟨rfl, hb⟩
  · obtain ⟨m, rfl⟩ := Int.eq_ofNat_of_zero_le (by omega : 0 ≤ n)
    rw [Int.toNat_natCast]
    go_enter Tryd.func18, Tryd.ntmps18
    go_wp2_with fail
    refine (itoa_calls m w hn ht).mono ?_
    rintro e w' ⟨rfl, hb⟩
    go_wp2
    go_ret
    exact ⟨rfl, hb⟩
end Go.Proofs.YtkhnkockdfmkgaaDoor
namespace Go.Proofs.YtkhnkockdfmkgaaDoor
open Go.RowKit M
set_option linter.unusedVariables false

theorem Hds.one (w : World) (x y : ByteArray) (T : TypeId) : Hds (w.alloc (Obj.cells #[Value.string x, Value.string y] T)) (w.heap.size + 1) (some ⟨w.heap.size, 0, none⟩) [(x, y)] := fun _ =>
  ⟨w.heap.size, 0, rfl, Nat.lt_succ_self _, fun j hj => by
    have hj0 : j = 0 := by simp at hj; exact hj
    subst hj0
    exact ⟨(BoxH.made w x y T).2.1, (BoxH.made w x y T).2.2⟩⟩
theorem Hds.nil (w : World) (B : Nat) (a : Option Addr) : Hds w B a [] := fun h => absurd h (Nat.lt_irrefl _)
end Go.Proofs.YtkhnkockdfmkgaaDoor
