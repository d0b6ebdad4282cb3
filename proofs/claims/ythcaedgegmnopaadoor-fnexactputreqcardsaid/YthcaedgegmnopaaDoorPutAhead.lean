/-
  What strings.Clone does.
  What the program's Trim does.
  What the program's headOk does.
  What the specification's looks at heads do.
  What the program's tellsLength and tellsCoding do.
  What the program's headsOk does.
  What spec.l1Large does.
  What the specification's l3Method, l3Target, l3Val do.
  What the specification's ReqOk does.
  What the program's methodOk, targetOk, tellsLength, tellsCoding do.
  What the program's headsOk and ReqOk do.
  What the program's putAhead does.
-/
import Derived.Test.YthcaedgegmnopaaDoorShelf
import Derived.WalkKit
import Derived.WalkSpells
import Derived.WalkLawsBesides
import Derived.Test.YthcaedgegmnopaaDoorSpecSmall
import Derived.Test.YthcaedgegmnopaaDoorMathTrim
import Derived.Test.YthcaedgegmnopaaDoorPlain
import Derived.Deep.RegionWith
import Derived.Test.YthcaedgegmnopaaDoorBoxReq
import Derived.Test.YthcaedgegmnopaaDoorHeads
namespace Go.Proofs.YthcaedgegmnopaaDoor
open Go.RowKit

set_option maxHeartbeats 400000 in
theorem clone_any (s : ByteArray) (w : World) (hs : s.size ≤ 281474976710656) :
    Calls Tryd.prog 96 #[.string s] w fun e w' => e = .returned (.string s) ∧ Below w.heap.size w w' := by
  go_enter Tryd.func96, Tryd.ntmps96
  go_wp2_with (go_at_call 114; refine (Tryd.stringslite_Clone s _ hs).mono ?_; rintro e w1 ⟨rfl, hb1⟩)
  go_ret
  exact ⟨rfl, hb1⟩
end Go.Proofs.YthcaedgegmnopaaDoor
namespace Go.Proofs.YthcaedgegmnopaaDoor
open Go.RowKit M

set_option maxHeartbeats 1000000 in
theorem trim_any (s : ByteArray) (w : World) (hs : s.size ≤ 281474976710656) :
    Calls Tryd.prog 83 #[.string s] w fun e w' => (∃ t : ByteArray, e = .returned (.string t) ∧ t.data.toList = trimL s.data.toList) ∧ Below w.heap.size w w' := by
  go_enter Tryd.func83, Tryd.ntmps83
  go_wp2
  go_loopw [3] (fun i wr => ∃ a : Nat, a ≤ s.size ∧ i = .int .i64 a ∧ Below w.heap.size w wr ∧ trimL (cut s a s.size) = trimL s.data.toList) (fun i _ => s.size - (intOf i).toNat)
  case atStart => exact ⟨0, Nat.zero_le _, rfl, Below.refl _ _, by rw [cut_all]⟩
  case round =>
    obtain ⟨a, ha, rfl, hbe, hn⟩ := hrel
    have HN : Hid (trimL (cut s a s.size) = trimL s.data.toList) := hn; clear hn
    by_cases h0 : a < s.size
    · cases hb : bl s[a]
      · go_wp2_with (go_at_call 93; refine (isOneOf_any _ [1] 1 _ 0 1 _ rfl (by decide) (cells1 _ 1 100)).mono ?_; rintro e w' ⟨rfl, rfl⟩; rw [anyB_bl, hb])
        have hbe1 : Below w.heap.size w (wr.alloc (Obj.cells #[Value.int IntKind.i64 1] 100)) := hbe.alloc hbe.size _
        go_loopw [4] (fun j wx => ∃ b : Nat, a ≤ b ∧ b ≤ s.size ∧ j = .int .i64 b ∧ Below w.heap.size w wx ∧ trimL (cut s a b) = trimL s.data.toList) (fun j _ => (intOf j).toNat)
        case atStart => exact ⟨s.size, ha, Nat.le_refl _, rfl, hbe1, HN.out⟩
        case round =>
          clear hbe1 hbe
          obtain ⟨b, hab, hbs, rfl, hbx, hn⟩ := hrel
          have HB : Hid (trimL (cut s a b) = trimL s.data.toList) := hn; clear hn
          by_cases h1 : a < b
          · cases hb1 : bl s[b - 1]
            · have HD : Hid ((s.extract a b).data.toList = trimL s.data.toList) := by
                show _ = _
                rw [← HB.out, extract_cut, cut_trim_done s a b hbs h1 hb hb1]
              have hsz : (s.extract a b).size ≤ 281474976710656 := by rw [size_extract s a b hbs]; omega
              go_wp2_with (first | (go_at_call 93; refine (isOneOf_any _ [1] 1 _ 0 1 _ rfl (by decide) (cells1 _ 1 100)).mono ?_; rintro e w' ⟨rfl, rfl⟩; rw [anyB_bl, hb1]) | (go_at_call 96; refine (clone_any _ _ hsz).mono ?_; rintro e w1 ⟨rfl, hb2⟩))
              go_ret
              exact ⟨⟨_, rfl, HD.out⟩, (hbx.alloc hbx.size _).trans (hb2.mono (by have := hbx.size; simp; omega))⟩
            · go_wp2_with (go_at_call 93; refine (isOneOf_any _ [1] 1 _ 0 1 _ rfl (by decide) (cells1 _ 1 100)).mono ?_; rintro e w' ⟨rfl, rfl⟩; rw [anyB_bl, hb1])
              go_roundw
              case rel => exact ⟨b - 1, by omega, by omega, by go_num, hbx.alloc hbx.size _, by rw [← HB.out]; exact (cut_trim_back s a b hbs h1 hb1).symm⟩
              case measure => simp [intOf]; omega
          · have HD : Hid ((s.extract a b).data.toList = trimL s.data.toList) := by
              show _ = _
              rw [← HB.out, extract_cut, cut_empty s a b (by omega)]; rfl
            have hsz : (s.extract a b).size ≤ 281474976710656 := by rw [size_extract s a b hbs]; omega
            go_wp2_with (go_at_call 96; refine (clone_any _ _ hsz).mono ?_; rintro e w1 ⟨rfl, hb2⟩)
            go_ret
            exact ⟨⟨_, rfl, HD.out⟩, hbx.trans (hb2.mono hbx.size)⟩
      · go_wp2_with (go_at_call 93; refine (isOneOf_any _ [1] 1 _ 0 1 _ rfl (by decide) (cells1 _ 1 100)).mono ?_; rintro e w' ⟨rfl, rfl⟩; rw [anyB_bl, hb])
        go_roundw
        case rel => exact ⟨a + 1, by omega, by go_num, hbe.alloc hbe.size _, by rw [← HN.out]; exact (cut_trim_front s a s.size (Nat.le_refl _) h0 hb).symm⟩
        case measure => simp [intOf]; omega
    · have HD : Hid ((s.extract a s.size).data.toList = trimL s.data.toList) := by
        show _ = _
        rw [← HN.out, extract_cut, cut_empty s _ _ (by omega)]; rfl
      have hsz : (s.extract a s.size).size ≤ 281474976710656 := by rw [size_extract s _ _ (Nat.le_refl _)]; omega
      go_wp2
      go_loopw [4] (fun j wx => j = .int .i64 s.size ∧ wx = wr) (fun j _ => (intOf j).toNat)
      case atStart => exact ⟨rfl, rfl⟩
      case round =>
        obtain ⟨rfl, rfl⟩ := hrel
        go_wp2_with (go_at_call 96; refine (clone_any _ _ hsz).mono ?_; rintro e w1 ⟨rfl, hb2⟩)
        go_ret
        exact ⟨⟨_, rfl, HD.out⟩, hbe.trans (hb2.mono hbe.size)⟩
end Go.Proofs.YthcaedgegmnopaaDoor
namespace Go.Proofs.YthcaedgegmnopaaDoor
open Go.RowKit M
set_option linter.unusedVariables false

theorem below_drew0 {w w' : World} {C : Nat} (h : Below C w w') : Below C w w'.drew := ⟨h.os, h.tape, h.output, h.size, h.block⟩
theorem box1 {w w1 : World} {x y : ByteArray} {T : TypeId} (b1 : Below (w.alloc (Obj.cells #[Value.string x, Value.string y] T)).drew.heap.size (w.alloc (Obj.cells #[Value.string x, Value.string y] T)).drew w1) : w1.cell? ⟨w.heap.size, 1, none⟩ = some (.string y) := by
  have h : (w.alloc (Obj.cells #[Value.string x, Value.string y] T)).drew.cell? ⟨w.heap.size, 1, none⟩ = some (.string y) := by
    show (w.alloc (Obj.cells #[Value.string x, Value.string y] T)).cell? ⟨w.heap.size, 1, none⟩ = some (.string y)
    simp
  exact (b1.cell (p := ⟨w.heap.size, 1, none⟩) (by show w.heap.size < (w.alloc (Obj.cells #[Value.string x, Value.string y] T)).heap.size; simp)).trans h
theorem lt1 {w w1 : World} {x y : ByteArray} {T : TypeId} (b1 : Below (w.alloc (Obj.cells #[Value.string x, Value.string y] T)).drew.heap.size (w.alloc (Obj.cells #[Value.string x, Value.string y] T)).drew w1) : w.heap.size < w1.heap.size :=
  Nat.lt_of_lt_of_le (by show w.heap.size < (w.alloc (Obj.cells #[Value.string x, Value.string y] T)).heap.size; simp) b1.size

set_option maxHeartbeats 4000000 in
theorem headOk_any (x y : ByteArray) (w : World) (hx : x.size ≤ maxLen) (hy : y.size ≤ maxLen) (hy4 : y.size ≤ 281474976710656) :
    Calls Tryd.prog 66 #[.agg #[.string x, .string y]] w fun e w' => e = .returned (.bool (hdB (x, y))) ∧ Below w.heap.size w w' := by
  have hb0 : Below w.heap.size w (w.alloc (Obj.cells #[Value.string x, Value.string y] 55)).drew := below_drew0 ((Below.refl w.heap.size w).alloc (Nat.le_refl _) (Obj.cells #[Value.string x, Value.string y] 55))
  cases h1 : smB x.data.toList
  · have hz : hdB (x, y) = false := by simp [hdB, h1]
    rw [hz]
    clear hz
    go_enter Tryd.func66, Tryd.ntmps66
    go_wp2
    first | go_region_with ((go_at_call 81; refine (smallName_any x _ hx).mono ?_; rintro e w1 ⟨rfl, b1⟩; rw [h1]; have c1 := hb0.trans (Below.mono (w := (w.alloc (Obj.cells #[Value.string x, Value.string y] 55)).drew) b1 hb0.size); have k1 := box1 b1; have l1 := lt1 b1)) | fail
    all_goals
      go_wp2
      go_ret
      exact ⟨rfl, c1⟩
  · by_cases h2 : (y.size : Int) ≤ 60
    · cases h3 : allB y.data.toList [0]
      · have hz : hdB (x, y) = false := by simp [hdB, valB, h3]
        rw [hz]
        clear hz
        go_enter Tryd.func66, Tryd.ntmps66
        go_wp2
        first | go_region_with (first | (go_at_call 81; refine (smallName_any x _ hx).mono ?_; rintro e w1 ⟨rfl, b1⟩; rw [h1]; have c1 := hb0.trans (Below.mono (w := (w.alloc (Obj.cells #[Value.string x, Value.string y] 55)).drew) b1 hb0.size); have k1 := box1 b1; have l1 := lt1 b1) | (go_at_call 82; refine (plain_any y _ hy).mono ?_; rintro e w2 ⟨rfl, b2⟩; rw [h3]; have c2 := c1.trans (b2.mono c1.size); have k2 := (b2.cell (p := ⟨w.heap.size, 1, none⟩) l1).trans k1; have l2 := Nat.lt_of_lt_of_le l1 b2.size)) | fail
        all_goals
          go_wp2
          go_ret
          exact ⟨rfl, c2⟩
      · have h2' : y.size ≤ 60 := by omega
        have hz : hdB (x, y) = decide (trimL y.data.toList = y.data.toList) := by simp [hdB, valB, h1, h2', h3]
        rw [hz]
        clear hz h2'
        go_enter Tryd.func66, Tryd.ntmps66
        go_wp2
        first | go_region_with (first | (go_at_call 81; refine (smallName_any x _ hx).mono ?_; rintro e w1 ⟨rfl, b1⟩; rw [h1]; have c1 := hb0.trans (Below.mono (w := (w.alloc (Obj.cells #[Value.string x, Value.string y] 55)).drew) b1 hb0.size); have k1 := box1 b1; have l1 := lt1 b1) | (go_at_call 82; refine (plain_any y _ hy).mono ?_; rintro e w2 ⟨rfl, b2⟩; rw [h3]; have c2 := c1.trans (b2.mono c1.size); have k2 := (b2.cell (p := ⟨w.heap.size, 1, none⟩) l1).trans k1; have l2 := Nat.lt_of_lt_of_le l1 b2.size) | (go_at_call 83; refine (trim_any y _ hy4).mono ?_; rintro e w3 ⟨⟨t, rfl, ht⟩, b3⟩; have HT := hide ht; clear ht; have c3 := c2.trans (b3.mono c2.size); have k3 := (b3.cell (p := ⟨w.heap.size, 1, none⟩) l2).trans k2)) | fail
        all_goals
          go_wp2
          go_ret
          exact ⟨ret_bool (by rw [← trim_same HT.out]), c3⟩
    · have h2' : ¬ y.size ≤ 60 := by omega
      have hz : hdB (x, y) = false := by simp [hdB, valB, h2']
      rw [hz]
      clear h2' hz
      go_enter Tryd.func66, Tryd.ntmps66
      go_wp2
      first | go_region_with ((go_at_call 81; refine (smallName_any x _ hx).mono ?_; rintro e w1 ⟨rfl, b1⟩; rw [h1]; have c1 := hb0.trans (Below.mono (w := (w.alloc (Obj.cells #[Value.string x, Value.string y] 55)).drew) b1 hb0.size); have k1 := box1 b1; have l1 := lt1 b1)) | fail
      all_goals
        go_wp2
        go_ret
        exact ⟨rfl, c1⟩
end Go.Proofs.YthcaedgegmnopaaDoor
namespace Go.Proofs.YthcaedgegmnopaaDoor
open Go.RowKit M
set_option linter.unusedVariables false

theorem lenEq (x : ByteArray) : (x.toList == [99, 111, 110, 116, 101, 110, 116, 45, 108, 101, 110, 103, 116, 104]) = decide (x = lenName) := by
  by_cases h : x = lenName
  · subst h; rw [ByteArray.toList_eq]; decide
  · have : ¬ x.toList = [99, 111, 110, 116, 101, 110, 116, 45, 108, 101, 110, 103, 116, 104] := fun e => h (strInj (by rw [e, ByteArray.toList_eq]; rfl))
    simp [h, this]
theorem codEq (x : ByteArray) : (x.toList == [116, 114, 97, 110, 115, 102, 101, 114, 45, 101, 110, 99, 111, 100, 105, 110, 103]) = decide (x = codName) := by
  by_cases h : x = codName
  · subst h; rw [ByteArray.toList_eq]; decide
  · have : ¬ x.toList = [116, 114, 97, 110, 115, 102, 101, 114, 45, 101, 110, 99, 111, 100, 105, 110, 103] := fun e => h (strInj (by rw [e, ByteArray.toList_eq]; rfl))
    simp [h, this]

set_option maxHeartbeats 1000000 in
theorem l3Heads_any (a : Option Addr) (hs : List Hd) (cap B : Nat) (w : World) (h : Hds w B a hs) (hsh : ShortH hs) (hl : hs.length ≤ maxLen) :
    Calls Tryd.prog 45 #[.slice a hs.length cap] w fun e w' => e = .returned (.bool (hdsB hs)) ∧ w' = w := by
  unfold maxLen at hl
  go_enter Tryd.func45, Tryd.ntmps45
  go_wp2
  go_loop [3] (fun i => ∃ k : Nat, k ≤ hs.length ∧ i = .int .i64 k ∧ (hs.take k).all hdFree = true) (fun i => hs.length - (intOf i).toNat)
  case atStart => exact ⟨0, Nat.zero_le _, rfl, rfl⟩
  case round =>
    obtain ⟨k, hk, rfl, hn⟩ := hrel
    have HN : Hid ((hs.take k).all hdFree = true) := hn; clear hn
    by_cases hlt : k < hs.length
    · obtain ⟨b, o, rfl, hb, hc⟩ := h (by omega)
      have hcx := (hc k hlt).1
      have hcy := (hc k hlt).2
      have hsz := hsh.at k hlt
      clear hc
      cases h1 : smB hs[k].1.data.toList
      · have HE : Hid (hdsB hs = false) := hdsB_not hs k hlt (by simp [hdFree, hdB, h1])
        go_wp2_with (go_at_call 68; refine (specSmallName_any _ _ hsz.1).mono ?_; rintro e w1 ⟨rfl, hw⟩; obtain rfl := hw.symm; rw [h1])
        go_ret
        exact ⟨ret_bool HE.out.symm, rfl⟩
      · cases h2 : valB hs[k].2
        · have HE : Hid (hdsB hs = false) := hdsB_not hs k hlt (by simp [hdFree, hdB, h2])
          go_wp2_with (first | (go_at_call 68; refine (specSmallName_any _ _ hsz.1).mono ?_; rintro e w1 ⟨rfl, hw⟩; obtain rfl := hw.symm; rw [h1]) | (go_at_call 69; refine (l3Val_any _ _ hsz.2).mono ?_; rintro e w1 ⟨rfl, hw⟩; obtain rfl := hw.symm; rw [h2]))
          go_ret
          exact ⟨ret_bool HE.out.symm, rfl⟩
        · have e3 := lenEq hs[k].1
          have e4 := codEq hs[k].1
          by_cases h3 : hs[k].1 = lenName
          · have HE : Hid (hdsB hs = false) := hdsB_not hs k hlt (by simp [hdFree, h3])
            rw [decide_eq_true h3] at e3
            clear h3 e4
            go_wp2_with (first | (go_at_call 68; refine (specSmallName_any _ _ hsz.1).mono ?_; rintro e w1 ⟨rfl, hw⟩; obtain rfl := hw.symm; rw [h1]) | (go_at_call 69; refine (l3Val_any _ _ hsz.2).mono ?_; rintro e w1 ⟨rfl, hw⟩; obtain rfl := hw.symm; rw [h2]))
            go_ret
            exact ⟨ret_bool HE.out.symm, rfl⟩
          · rw [decide_eq_false h3] at e3
            by_cases h4 : hs[k].1 = codName
            · have HE : Hid (hdsB hs = false) := hdsB_not hs k hlt (by simp [hdFree, h4])
              rw [decide_eq_true h4] at e4
              clear h3 h4
              go_wp2_with (first | (go_at_call 68; refine (specSmallName_any _ _ hsz.1).mono ?_; rintro e w1 ⟨rfl, hw⟩; obtain rfl := hw.symm; rw [h1]) | (go_at_call 69; refine (l3Val_any _ _ hsz.2).mono ?_; rintro e w1 ⟨rfl, hw⟩; obtain rfl := hw.symm; rw [h2]))
              go_ret
              exact ⟨ret_bool HE.out.symm, rfl⟩
            · have HE : Hid ((hs.take (k + 1)).all hdFree = true) := hdsB_snoc hs k hlt HN.out (by simp [hdFree, hdB, h1, h2, h3, h4])
              rw [decide_eq_false h4] at e4
              clear h3 h4
              go_wp2_with (first | (go_at_call 68; refine (specSmallName_any _ _ hsz.1).mono ?_; rintro e w1 ⟨rfl, hw⟩; obtain rfl := hw.symm; rw [h1]) | (go_at_call 69; refine (l3Val_any _ _ hsz.2).mono ?_; rintro e w1 ⟨rfl, hw⟩; obtain rfl := hw.symm; rw [h2]))
              go_round
              case rel => exact ⟨k + 1, by omega, by go_num, HE.out⟩
              case measure => simp [intOf]; omega
    · have HE : Hid (hdsB hs = decide ((hs.length : Int) ≤ 8)) := by
        show hdsB hs = _
        rw [hdsB_all hs k hlt HN.out]
        by_cases e : hs.length ≤ 8
        · have e2 : (hs.length : Int) ≤ 8 := by omega
          simp [e, e2]
        · have e2 : ¬ (hs.length : Int) ≤ 8 := by omega
          simp [e, e2]
      go_wp2
      go_ret
      exact ⟨ret_bool HE.out.symm, rfl⟩
end Go.Proofs.YthcaedgegmnopaaDoor
namespace Go.Proofs.YthcaedgegmnopaaDoor
open Go.RowKit M
set_option linter.unusedVariables false

set_option maxHeartbeats 400000 in
theorem tellsLength_any (x y : ByteArray) (w : World) :
    Calls Tryd.prog 62 #[.agg #[.string x, .string y]] w fun e w' => e = .returned (.bool (decide (x = lenName))) ∧ Below w.heap.size w w' := by
  have e := lenEq x
  generalize decide (x = lenName) = z at *
  go_enter Tryd.func62, Tryd.ntmps62
  go_wp2
  go_ret
  exact ⟨rfl, (Below.refl _ _).alloc (Nat.le_refl _) _⟩

set_option maxHeartbeats 400000 in
theorem tellsCoding_any (x y : ByteArray) (w : World) :
    Calls Tryd.prog 67 #[.agg #[.string x, .string y]] w fun e w' => e = .returned (.bool (decide (x = codName))) ∧ Below w.heap.size w w' := by
  have e := codEq x
  generalize decide (x = codName) = z at *
  go_enter Tryd.func67, Tryd.ntmps67
  go_wp2
  go_ret
  exact ⟨rfl, (Below.refl _ _).alloc (Nat.le_refl _) _⟩
end Go.Proofs.YthcaedgegmnopaaDoor
namespace Go.Proofs.YthcaedgegmnopaaDoor
open Go.RowKit M
set_option linter.unusedVariables false

set_option maxHeartbeats 2000000 in
theorem headsOk_any (a : Option Addr) (hs : List Hd) (cap B : Nat) (w : World) (h : Hds w B a hs) (hB : B ≤ w.heap.size) (hsh : ShortH hs) (hz : ∀ x ∈ hs, x.2.size ≤ 281474976710656) (hl : hs.length ≤ maxLen) :
    Calls Tryd.prog 43 #[.slice a hs.length cap] w fun e w' => e = .returned (.bool (hdsB hs)) ∧ Below w.heap.size w w' := by
  unfold maxLen at hl
  by_cases h8 : hs.length ≤ 8
  · have h8' : ¬ (8 : Int) < hs.length := by omega
    go_enter Tryd.func43, Tryd.ntmps43
    go_wp2
    go_loopw [10] (fun i wr => ∃ k : Nat, k ≤ hs.length ∧ i = .int .i64 k ∧ (hs.take k).all hdFree = true ∧ Below w.heap.size w wr) (fun i _ => hs.length - (intOf i).toNat)
    case atStart => exact ⟨0, Nat.zero_le _, rfl, rfl, Below.refl _ _⟩
    case round =>
      obtain ⟨k, hk, rfl, hn, hbe⟩ := hrel
      have HN : Hid ((hs.take k).all hdFree = true) := hn; clear hn
      by_cases hlt : k < hs.length
      · obtain ⟨b, o, rfl, hb, hc⟩ := (h.below hbe hB) (by omega)
        have hcx := (hc k hlt).1
        have hcy := (hc k hlt).2
        have hsz := hsh.at k hlt
        have hzk := hz _ (List.getElem_mem hlt)
        clear hc
        have BH0 := hide (BoxH.made wr hs[k].1 hs[k].2 55)
        have c0 := hbe.alloc hbe.size (Obj.cells #[Value.string hs[k].1, Value.string hs[k].2] 55)
        have C0 := hide c0
        clear c0
        cases h1 : hdB hs[k]
        · have HE : Hid (hdsB hs = false) := hdsB_not hs k hlt (by simp [hdFree, h1])
          go_wp2_with fail
          refine (headOk_any hs[k].1 hs[k].2 _ hsz.1 hsz.2 hzk).mono ?_
          rintro e w1 ⟨rfl, b1⟩
          rw [show hdB (hs[k].1, hs[k].2) = false from h1]
          have c1 := C0.out.trans (b1.mono C0.out.size)
          go_wp2
          go_ret
          exact ⟨ret_bool HE.out.symm, c1⟩
        · go_wp2_with fail
          refine (headOk_any hs[k].1 hs[k].2 _ hsz.1 hsz.2 hzk).mono ?_
          rintro e w1 ⟨rfl, b1⟩
          rw [show hdB (hs[k].1, hs[k].2) = true from h1]
          have c1 := C0.out.trans (b1.mono C0.out.size)
          have BH1 := hide (BH0.out.next b1)
          have x1 := BH1.out
          obtain ⟨_, x10, x11⟩ := x1
          by_cases h3 : hs[k].1 = lenName
          · have HE : Hid (hdsB hs = false) := hdsB_not hs k hlt (by simp [hdFree, h3])
            have HD := hide (decide_eq_true h3)
            clear h3
            go_wp2_with fail
            refine (tellsLength_any hs[k].1 hs[k].2 w1).mono ?_
            rintro e w2 ⟨rfl, b2⟩
            rw [HD.out]
            have c2 := c1.trans (b2.mono c1.size)
            go_wp2
            go_ret
            exact ⟨ret_bool HE.out.symm, c2⟩
          · have HD := hide (decide_eq_false h3)
            go_wp2_with fail
            refine (tellsLength_any hs[k].1 hs[k].2 w1).mono ?_
            rintro e w2 ⟨rfl, b2⟩
            rw [HD.out]
            have c2 := c1.trans (b2.mono c1.size)
            have x2 := BH1.out.next b2
            obtain ⟨_, x20, x21⟩ := x2
            by_cases h4 : hs[k].1 = codName
            · have HE : Hid (hdsB hs = false) := hdsB_not hs k hlt (by simp [hdFree, h4])
              have HD4 := hide (decide_eq_true h4)
              clear h3 h4
              go_wp2_with fail
              refine (tellsCoding_any hs[k].1 hs[k].2 w2).mono ?_
              rintro e w3 ⟨rfl, b3⟩
              rw [HD4.out]
              go_wp2
              go_ret
              exact ⟨ret_bool HE.out.symm, c2.trans (b3.mono c2.size)⟩
            · have HE : Hid ((hs.take (k + 1)).all hdFree = true) := hdsB_snoc hs k hlt HN.out (by simp [hdFree, h1, h3, h4])
              have HD4 := hide (decide_eq_false h4)
              clear h3 h4
              go_wp2_with fail
              refine (tellsCoding_any hs[k].1 hs[k].2 w2).mono ?_
              rintro e w3 ⟨rfl, b3⟩
              rw [HD4.out]
              have c3 := c2.trans (b3.mono c2.size)
              go_wp2
              go_roundw
              case rel => exact ⟨k + 1, by omega, by go_num, HE.out, c3⟩
              case measure => simp [intOf]; omega
      · have HE : Hid (hdsB hs = true) := by
          show hdsB hs = true
          rw [hdsB_all hs k hlt HN.out]; simp [h8]
        go_wp2
        go_ret
        exact ⟨ret_bool HE.out.symm, hbe⟩
  · have HE := hide (hdsB_long hs h8)
    go_enter Tryd.func43, Tryd.ntmps43
    go_wp2
    go_ret
    exact ⟨ret_bool HE.out.symm, Below.refl _ _⟩
end Go.Proofs.YthcaedgegmnopaaDoor
namespace Go.Proofs.YthcaedgegmnopaaDoor
open Go.RowKit M

set_option maxHeartbeats 400000 in
theorem l1Large_any (c : UInt8) (w : World) :
    Calls Tryd.prog 98 #[.int .u8 c.toNat] w fun e w' => e = .returned (.bool (isB c.toNat 3)) ∧ w' = w := by
  go_enter Tryd.func98, Tryd.ntmps98
  go_wp2_with (go_at_call 44; refine (l1In_any _ _ _ _).mono ?_; rintro e w' ⟨rfl, rfl⟩; rw [wrap64_u8, inB_large])
  go_ret
  exact ⟨rfl, rfl⟩
end Go.Proofs.YthcaedgegmnopaaDoor
namespace Go.Proofs.YthcaedgegmnopaaDoor
open Go.RowKit M
set_option linter.unusedVariables false

theorem methB_not (s : ByteArray) (k : Nat) (h : k < s.size) (h1 : isB (s[k].toNat : Int) 3 = false) : methB s = false := by
  unfold methB; rw [allB_not s [3] k h (by rw [anyB_one, h1]; rfl)]; rfl
theorem methB_all (s : ByteArray) (k : Nat) (h : ¬ k < s.size) (h0 : allB (s.data.toList.take k) [3] = true) : methB s = inB s.size 1 9 := by
  rw [take_all s k h] at h0
  simp [methB, h0]
theorem targB_not (s : ByteArray) (k : Nat) (h : k < s.size) (h1 : inB (s[k].toNat : Int) 33 126 = false) : targB s = false := by
  unfold targB; rw [tgtB_not s k h h1]; rfl
theorem targB_all (s : ByteArray) (k : Nat) (h : ¬ k < s.size) (h0 : tgtB (s.data.toList.take k) = true) : targB s = inB s.size 1 80 := by
  rw [take_all s k h] at h0
  simp [targB, h0]

set_option maxHeartbeats 400000 in
theorem l3Method_any (s : ByteArray) (w : World) (hs : s.size ≤ maxLen) :
    Calls Tryd.prog 87 #[.string s] w fun e w' => e = .returned (.bool (methB s)) ∧ w' = w := by
  unfold maxLen at hs
  go_enter Tryd.func87, Tryd.ntmps87
  go_wp2
  go_loop [3] (fun i => ∃ k : Nat, k ≤ s.size ∧ i = .int .i64 k ∧ allB (s.data.toList.take k) [3] = true) (fun i => s.size - (intOf i).toNat)
  case atStart => exact ⟨0, Nat.zero_le _, rfl, rfl⟩
  case round =>
    obtain ⟨k, hk, rfl, hn⟩ := hrel
    have HN : Hid (allB (s.data.toList.take k) [3] = true) := hn; clear hn
    by_cases hlt : k < s.size
    · cases hb : isB (s[k].toNat : Int) 3
      · have HE : Hid (methB s = false) := methB_not s k hlt hb
        go_wp2_with (go_at_call 98; refine (l1Large_any _ _).mono ?_; rintro e w' ⟨rfl, rfl⟩; rw [hb])
        go_ret
        exact ⟨ret_bool HE.out.symm, rfl⟩
      · have HE : Hid (allB (s.data.toList.take (k + 1)) [3] = true) := allB_snoc s [3] k hlt HN.out (by rw [anyB_one, hb]; rfl)
        go_wp2_with (go_at_call 98; refine (l1Large_any _ _).mono ?_; rintro e w' ⟨rfl, rfl⟩; rw [hb])
        go_round
        case rel => exact ⟨k + 1, by omega, by go_num, HE.out⟩
        case measure => simp [intOf]; omega
    · have HE : Hid (methB s = inB s.size 1 9) := methB_all s k hlt HN.out
      go_wp2_with (go_at_call 44; refine (l1In_any _ _ _ _).mono ?_; rintro e w' ⟨rfl, rfl⟩)
      go_ret
      exact ⟨ret_bool HE.out.symm, rfl⟩

set_option maxHeartbeats 400000 in
theorem l3Target_any (s : ByteArray) (w : World) (hs : s.size ≤ maxLen) :
    Calls Tryd.prog 88 #[.string s] w fun e w' => e = .returned (.bool (targB s)) ∧ w' = w := by
  unfold maxLen at hs
  go_enter Tryd.func88, Tryd.ntmps88
  go_wp2
  go_loop [3] (fun i => ∃ k : Nat, k ≤ s.size ∧ i = .int .i64 k ∧ tgtB (s.data.toList.take k) = true) (fun i => s.size - (intOf i).toNat)
  case atStart => exact ⟨0, Nat.zero_le _, rfl, rfl⟩
  case round =>
    obtain ⟨k, hk, rfl, hn⟩ := hrel
    have HN : Hid (tgtB (s.data.toList.take k) = true) := hn; clear hn
    by_cases hlt : k < s.size
    · cases hb : inB (s[k].toNat : Int) 33 126
      · have HE : Hid (targB s = false) := targB_not s k hlt hb
        go_wp2_with (go_at_call 44; refine (l1In_any _ _ _ _).mono ?_; rintro e w' ⟨rfl, rfl⟩; rw [wrap64_u8, hb])
        go_ret
        exact ⟨ret_bool HE.out.symm, rfl⟩
      · have HE : Hid (tgtB (s.data.toList.take (k + 1)) = true) := tgtB_snoc s k hlt HN.out hb
        go_wp2_with (go_at_call 44; refine (l1In_any _ _ _ _).mono ?_; rintro e w' ⟨rfl, rfl⟩; rw [wrap64_u8, hb])
        go_round
        case rel => exact ⟨k + 1, by omega, by go_num, HE.out⟩
        case measure => simp [intOf]; omega
    · have HE : Hid (targB s = inB s.size 1 80) := targB_all s k hlt HN.out
      go_wp2_with (go_at_call 44; refine (l1In_any _ _ _ _).mono ?_; rintro e w' ⟨rfl, rfl⟩)
      go_ret
      exact ⟨ret_bool HE.out.symm, rfl⟩
end Go.Proofs.YthcaedgegmnopaaDoor
namespace Go.Proofs.YthcaedgegmnopaaDoor
open Go.RowKit M
set_option linter.unusedVariables false

theorem reqB_m {r : Rq} (h : methB r.m = false) : reqB r = false := by simp [reqB, h]
theorem reqB_p {r : Rq} (h : targB r.p = false) : reqB r = false := by simp [reqB, h]
theorem reqB_h {r : Rq} (h : hdsB r.hs = false) : reqB r = false := by simp [reqB, h]
theorem reqB_b {r : Rq} (h1 : methB r.m = true) (h2 : targB r.p = true) (h3 : hdsB r.hs = true) : reqB r = decide ((r.b.size : Int) ≤ 200) := by
  by_cases e : r.b.size ≤ 200
  · have e2 : (r.b.size : Int) ≤ 200 := by omega
    simp [reqB, h1, h2, h3, e, e2]
  · have e2 : ¬ (r.b.size : Int) ≤ 200 := by omega
    simp [reqB, h1, h2, h3, e, e2]

set_option maxHeartbeats 1000000 in
theorem specReqOk_any (a : Option Addr) (r : Rq) (cap B : Nat) (w : World) (h : Hds w B a r.hs) (hB : B ≤ w.heap.size) (hsh : ShortR r) :
    Calls Tryd.prog 71 #[.agg #[.string r.m, .string r.p, .slice a r.hs.length cap, .string r.b]] w fun e w' => e = .returned (.bool (reqB r)) ∧ Below w.heap.size w w' := by
  obtain ⟨q1, q2, q3, q4, q5⟩ := hsh
  have HM : Hid (methB r.m = false → reqB r = false) := reqB_m
  have HP : Hid (targB r.p = false → reqB r = false) := reqB_p
  have HH : Hid (hdsB r.hs = false → reqB r = false) := reqB_h
  have HA : Hid (methB r.m = true → targB r.p = true → hdsB r.hs = true → reqB r = decide ((r.b.size : Int) ≤ 200)) := reqB_b
  obtain ⟨z, hz⟩ : ∃ z, reqB r = z := ⟨_, rfl⟩
  rw [hz] at HM HP HH HA ⊢
  clear hz
  obtain ⟨rm, rp, hs, rb⟩ := r
  simp only at *
  have q3' := q3
  unfold maxLen at q3'
  have hb0 : Below w.heap.size w (w.alloc (Obj.cells #[Value.string rm, Value.string rp, Value.slice a hs.length cap, Value.string rb] 42)) := (Below.refl _ _).alloc (Nat.le_refl _) _
  have HD := hide (h.below hb0 hB)
  clear h
  cases h1 : methB rm
  · have hz := HM.out h1
    subst hz
    go_enter Tryd.func71, Tryd.ntmps71
    go_wp2_with (go_at_call 87; refine (l3Method_any rm _ q1).mono ?_; rintro e w1 ⟨rfl, hw⟩; obtain rfl := hw.symm; rw [h1])
    go_ret
    exact ⟨rfl, hb0⟩
  · cases h2 : targB rp
    · have hz := HP.out h2
      subst hz
      go_enter Tryd.func71, Tryd.ntmps71
      go_wp2_with (first | (go_at_call 87; refine (l3Method_any rm _ q1).mono ?_; rintro e w1 ⟨rfl, hw⟩; obtain rfl := hw.symm; rw [h1]) | (go_at_call 88; refine (l3Target_any rp _ q2).mono ?_; rintro e w1 ⟨rfl, hw⟩; obtain rfl := hw.symm; rw [h2]))
      go_ret
      exact ⟨rfl, hb0⟩
    · cases h3 : hdsB hs
      · have hz := HH.out h3
        subst hz
        go_enter Tryd.func71, Tryd.ntmps71
        go_wp2_with (first | (go_at_call 87; refine (l3Method_any rm _ q1).mono ?_; rintro e w1 ⟨rfl, hw⟩; obtain rfl := hw.symm; rw [h1]) | (go_at_call 88; refine (l3Target_any rp _ q2).mono ?_; rintro e w1 ⟨rfl, hw⟩; obtain rfl := hw.symm; rw [h2]) | (go_at_call 45; refine (l3Heads_any a hs cap B _ HD.out q5 q4).mono ?_; rintro e w1 ⟨rfl, hw⟩; obtain rfl := hw.symm; rw [h3]))
        go_ret
        exact ⟨rfl, hb0⟩
      · have hz := HA.out h1 h2 h3
        subst hz
        go_enter Tryd.func71, Tryd.ntmps71
        go_wp2_with (first | (go_at_call 87; refine (l3Method_any rm _ q1).mono ?_; rintro e w1 ⟨rfl, hw⟩; obtain rfl := hw.symm; rw [h1]) | (go_at_call 88; refine (l3Target_any rp _ q2).mono ?_; rintro e w1 ⟨rfl, hw⟩; obtain rfl := hw.symm; rw [h2]) | (go_at_call 45; refine (l3Heads_any a hs cap B _ HD.out q5 q4).mono ?_; rintro e w1 ⟨rfl, hw⟩; obtain rfl := hw.symm; rw [h3]))
        go_ret
        exact ⟨rfl, hb0⟩
end Go.Proofs.YthcaedgegmnopaaDoor
namespace Go.Proofs.YthcaedgegmnopaaDoor
open Go.RowKit M
set_option linter.unusedVariables false

theorem methB_size {s : ByteArray} (h : ¬ (1 ≤ s.size ∧ s.size ≤ 9)) : methB s = false := by
  have : inB (s.size : Int) 1 9 = false := by simp [inB]; omega
  simp [methB, this]
theorem methB_in {s : ByteArray} (h : 1 ≤ s.size ∧ s.size ≤ 9) : methB s = allB s.data.toList [3] := by
  have : inB (s.size : Int) 1 9 = true := by simp [inB]; omega
  simp [methB, this]
theorem targB_size {s : ByteArray} (h : ¬ (1 ≤ s.size ∧ s.size ≤ 80)) : targB s = false := by
  have : inB (s.size : Int) 1 80 = false := by simp [inB]; omega
  simp [targB, this]
theorem targB_in {s : ByteArray} (h : 1 ≤ s.size ∧ s.size ≤ 80) : targB s = (allB s.data.toList [0] && !decide (0 ≤ Lib.indexByte s.data.toList 32)) := by
  have : inB (s.size : Int) 1 80 = true := by simp [inB]; omega
  rw [indexByte_nonneg, tgt_plain]
  simp [targB, this]

theorem allOf_one (s : ByteArray) (k : Int) (T : TypeId) (w : World) (hs : s.size ≤ maxLen) :
    Calls Tryd.prog 78 #[.string s, .slice (some ⟨w.heap.size, 0, none⟩) 1 1] (w.alloc (Obj.cells #[.int .i64 k] T)) fun e w' => e = .returned (.bool (allB s.data.toList [k])) ∧ w' = w.alloc (Obj.cells #[.int .i64 k] T) := by
  refine allOf_any s [k] 1 _ 0 1 _ rfl hs (by unfold maxLen; simp) ?_
  intro i hi
  have : i = 0 := by simp at hi; omega
  subst this
  simp

set_option maxHeartbeats 400000 in
theorem methodOk_any (s : ByteArray) (w : World) (hs : s.size ≤ maxLen) :
    Calls Tryd.prog 89 #[.string s] w fun e w' => e = .returned (.bool (methB s)) ∧ Below w.heap.size w w' := by
  have hs' := hs
  unfold maxLen at hs'
  by_cases h : 1 ≤ s.size ∧ s.size ≤ 9
  · rw [methB_in h]
    have h1 : (1 : Int) ≤ s.size := by omega
    have h2 : (s.size : Int) ≤ 9 := by omega
    clear h
    go_enter Tryd.func89, Tryd.ntmps89
    go_wp2_with (go_at_call 78; refine (allOf_one s 3 _ _ hs).mono ?_; rintro e w1 ⟨rfl, hw⟩; obtain rfl := hw.symm)
    go_ret
    exact ⟨rfl, (Below.refl _ _).alloc (Nat.le_refl _) _⟩
  · rw [methB_size h]
    by_cases h1 : (1 : Int) ≤ s.size
    · have h2 : ¬ (s.size : Int) ≤ 9 := by omega
      go_enter Tryd.func89, Tryd.ntmps89
      go_wp2
      go_ret
      exact ⟨rfl, Below.refl _ _⟩
    · go_enter Tryd.func89, Tryd.ntmps89
      go_wp2
      go_ret
      exact ⟨rfl, Below.refl _ _⟩

set_option maxHeartbeats 400000 in
theorem targetOk_any (s : ByteArray) (w : World) (hs : s.size ≤ maxLen) :
    Calls Tryd.prog 90 #[.string s] w fun e w' => e = .returned (.bool (targB s)) ∧ Below w.heap.size w w' := by
  have hs' := hs
  unfold maxLen at hs'
  by_cases h : 1 ≤ s.size ∧ s.size ≤ 80
  · rw [targB_in h]
    have h1 : (1 : Int) ≤ s.size := by omega
    have h2 : (s.size : Int) ≤ 80 := by omega
    clear h
    cases h3 : allB s.data.toList [0]
    · go_enter Tryd.func90, Tryd.ntmps90
      go_wp2_with (go_at_call 82; refine (plain_any s _ hs).mono ?_; rintro e w1 ⟨rfl, b1⟩; rw [h3])
      go_ret
      exact ⟨rfl, b1⟩
    · go_enter Tryd.func90, Tryd.ntmps90
      go_wp2_with (first | (go_at_call 82; refine (plain_any s _ hs).mono ?_; rintro e w1 ⟨rfl, b1⟩; rw [h3]) | (go_at_call 99; refine (Tryd.strings_Contains_one s 32 _).mono ?_; rintro e w2 ⟨rfl, hw⟩; obtain rfl := hw.symm))
      go_ret
      exact ⟨ret_bool (by simp), b1⟩
  · rw [targB_size h]
    by_cases h1 : (1 : Int) ≤ s.size
    · have h2 : ¬ (s.size : Int) ≤ 80 := by omega
      go_enter Tryd.func90, Tryd.ntmps90
      go_wp2
      go_ret
      exact ⟨rfl, Below.refl _ _⟩
    · go_enter Tryd.func90, Tryd.ntmps90
      go_wp2
      go_ret
      exact ⟨rfl, Below.refl _ _⟩
end Go.Proofs.YthcaedgegmnopaaDoor
namespace Go.Proofs.YthcaedgegmnopaaDoor
open Go.RowKit M
set_option linter.unusedVariables false

/-- Short enough for a copy of each text. -/
def FitR (r : Rq) : Prop := ShortR r ∧ ∀ x ∈ r.hs, x.2.size ≤ 281474976710656

set_option maxHeartbeats 2000000 in
theorem reqOk_any (a : Option Addr) (r : Rq) (cap B : Nat) (w : World) (h : Hds w B a r.hs) (hB : B ≤ w.heap.size) (hfit : FitR r) :
    Calls Tryd.prog 73 #[.agg #[.string r.m, .string r.p, .slice a r.hs.length cap, .string r.b]] w fun e w' => e = .returned (.bool (reqB r)) ∧ Below w.heap.size w w' := by
  obtain ⟨⟨q1, q2, q3, q4, q5⟩, q6⟩ := hfit
  have HM : Hid (methB r.m = false → reqB r = false) := reqB_m
  have HP : Hid (targB r.p = false → reqB r = false) := reqB_p
  have HH : Hid (hdsB r.hs = false → reqB r = false) := reqB_h
  have HA : Hid (methB r.m = true → targB r.p = true → hdsB r.hs = true → reqB r = decide ((r.b.size : Int) ≤ 200)) := reqB_b
  have q3' := q3
  unfold maxLen at q3'
  have hb0 : Below w.heap.size w (w.alloc (Obj.cells #[Value.string r.m, Value.string r.p, Value.slice a r.hs.length cap, Value.string r.b] 42)) := (Below.refl _ _).alloc (Nat.le_refl _) _
  have BX0 := hide (BoxR.made w a cap r 42)
  have HD := hide h
  have C0 := hide hb0
  obtain ⟨z, hz⟩ : ∃ z, reqB r = z := ⟨_, rfl⟩
  rw [hz] at HM HP HH HA ⊢
  clear hz h hb0
  cases h1 : methB r.m
  · have hz := HM.out h1
    subst hz
    go_enter Tryd.func73, Tryd.ntmps73
    go_wp2_with fail
    refine (methodOk_any r.m _ q1).mono ?_
    rintro e w1 ⟨rfl, b1⟩
    rw [h1]
    have c1 := C0.out.trans (b1.mono C0.out.size)
    go_wp2
    go_ret
    exact ⟨rfl, c1⟩
  · cases h2 : targB r.p
    · have hz := HP.out h2
      subst hz
      go_enter Tryd.func73, Tryd.ntmps73
      go_wp2_with fail
      refine (methodOk_any r.m _ q1).mono ?_
      rintro e w1 ⟨rfl, b1⟩
      rw [h1]
      have c1 := C0.out.trans (b1.mono C0.out.size)
      have BX1 := hide (BX0.out.next b1)
      have x1 := BX1.out
      obtain ⟨_, x10, x11, x12, x13⟩ := x1
      go_wp2_with fail
      refine (targetOk_any r.p w1 q2).mono ?_
      rintro e w2 ⟨rfl, b2⟩
      rw [h2]
      have c2 := c1.trans (b2.mono c1.size)
      go_wp2
      go_ret
      exact ⟨rfl, c2⟩
    · cases h3 : hdsB r.hs
      · have hz := HH.out h3
        subst hz
        go_enter Tryd.func73, Tryd.ntmps73
        go_wp2_with fail
        refine (methodOk_any r.m _ q1).mono ?_
        rintro e w1 ⟨rfl, b1⟩
        rw [h1]
        have c1 := C0.out.trans (b1.mono C0.out.size)
        have BX1 := hide (BX0.out.next b1)
        have x1 := BX1.out
        obtain ⟨_, x10, x11, x12, x13⟩ := x1
        go_wp2_with fail
        refine (targetOk_any r.p w1 q2).mono ?_
        rintro e w2 ⟨rfl, b2⟩
        rw [h2]
        have c2 := c1.trans (b2.mono c1.size)
        have BX2 := hide (BX1.out.next b2)
        clear x10 x11 x12 x13
        have x2 := BX2.out
        obtain ⟨_, x20, x21, x22, x23⟩ := x2
        go_wp2_with fail
        refine (headsOk_any a r.hs cap B w2 (HD.out.below c2 hB) (Nat.le_trans hB c2.size) q5 q6 q4).mono ?_
        rintro e w3 ⟨rfl, b3⟩
        rw [h3]
        have c3 := c2.trans (b3.mono c2.size)
        go_wp2
        go_ret
        exact ⟨rfl, c3⟩
      · have hz := HA.out h1 h2 h3
        subst hz
        go_enter Tryd.func73, Tryd.ntmps73
        go_wp2_with fail
        refine (methodOk_any r.m _ q1).mono ?_
        rintro e w1 ⟨rfl, b1⟩
        rw [h1]
        have c1 := C0.out.trans (b1.mono C0.out.size)
        have BX1 := hide (BX0.out.next b1)
        have x1 := BX1.out
        obtain ⟨_, x10, x11, x12, x13⟩ := x1
        go_wp2_with fail
        refine (targetOk_any r.p w1 q2).mono ?_
        rintro e w2 ⟨rfl, b2⟩
        rw [h2]
        have c2 := c1.trans (b2.mono c1.size)
        have BX2 := hide (BX1.out.next b2)
        clear x10 x11 x12 x13
        have x2 := BX2.out
        obtain ⟨_, x20, x21, x22, x23⟩ := x2
        go_wp2_with fail
        refine (headsOk_any a r.hs cap B w2 (HD.out.below c2 hB) (Nat.le_trans hB c2.size) q5 q6 q4).mono ?_
        rintro e w3 ⟨rfl, b3⟩
        rw [h3]
        have c3 := c2.trans (b3.mono c2.size)
        have BX3 := BX2.out.next b3
        clear x20 x21 x22 x23
        obtain ⟨_, x30, x31, x32, x33⟩ := BX3
        go_wp2
        go_ret
        exact ⟨rfl, c3⟩
end Go.Proofs.YthcaedgegmnopaaDoor
namespace Go.Proofs.YthcaedgegmnopaaDoor
open Go.RowKit M
set_option linter.unusedVariables false

set_option maxRecDepth 100000 in
set_option maxHeartbeats 4000000 in
theorem putAhead_no (a : Option Addr) (r : Rq) (cap B : Nat) (a2 : Option Addr) (n2 cap2 : Nat) (w : World) (h : Hds w B a r.hs) (hB : B ≤ w.heap.size) (hfit : FitR r) (hr : reqB r = false) :
    Calls Tryd.prog 50 #[.agg #[.string r.m, .string r.p, .slice a r.hs.length cap, .string r.b], .slice a2 n2 cap2] w fun e w' => e = .returned (.tuple #[.slice none 0 0, .bool false]) ∧ Below w.heap.size w w' := by
  have HB0 : Hid (Below w.heap.size w (w.alloc (Obj.cells #[Value.string r.m, Value.string r.p, Value.slice a r.hs.length cap, Value.string r.b] 42))) := (Below.refl _ _).alloc (Nat.le_refl _) _
  have HX0 := hide (BoxR.made w a cap r 42)
  have HH := hide h
  have HF := hide hfit
  clear h hfit
  go_enter Tryd.func50, Tryd.ntmps50
  go_wp2_with fail
  refine (reqOk_any a r cap B _ (HH.out.below HB0.out hB) (Nat.le_trans hB HB0.out.size) HF.out).mono ?_
  rintro e w1 ⟨rfl, b1⟩
  rw [hr]
  have c1 := HB0.out.trans (b1.mono HB0.out.size)
  go_wp2
  go_ret2
  exact ⟨rfl, c1⟩

set_option maxRecDepth 100000 in
set_option maxHeartbeats 4000000 in
theorem putAhead_yes (a : Option Addr) (r : Rq) (cap B : Nat) (a2 : Option Addr) (hs2 : List Hd) (cap2 : Nat) (w : World) (h : Hds w B a r.hs) (hB : B ≤ w.heap.size) (h2 : Hds w w.heap.size a2 hs2) (hfit : FitR r) (hl : r.hs.length ≤ 1048576) (hsum : sumH r.hs ≤ 1048576) (hl2 : hs2.length ≤ 16) (hsum2 : sumH hs2 ≤ 1048576) (h1 : r.m.size ≤ 1048576) (h2p : r.p.size ≤ 1048576) (hr : reqB r = true) :
    Calls Tryd.prog 50 #[.agg #[.string r.m, .string r.p, .slice a r.hs.length cap, .string r.b], .slice a2 hs2.length cap2] w fun e w' => (∃ v, e = .returned (.tuple #[v, .bool (decide ((frontL r (hdsTxt hs2)).length ≤ 400))]) ∧ OwnY w' w.heap.size v (frontL r (hdsTxt hs2)) ∧ (frontL r (hdsTxt hs2)).length ≤ 33554432) ∧ Below w.heap.size w w' := by
  have HB0 : Hid (Below w.heap.size w (w.alloc (Obj.cells #[Value.string r.m, Value.string r.p, Value.slice a r.hs.length cap, Value.string r.b] 42))) := (Below.refl _ _).alloc (Nat.le_refl _) _
  have HX0 := hide (BoxR.made w a cap r 42)
  have HH := hide h
  have HH2 := hide h2
  have HF := hide hfit
  clear h h2 hfit
  go_enter Tryd.func50, Tryd.ntmps50
  go_wp2_with fail
  refine (reqOk_any a r cap B _ (HH.out.below HB0.out hB) (Nat.le_trans hB HB0.out.size) HF.out).mono ?_
  rintro e w1 ⟨rfl, b1⟩
  rw [hr]
  have c1 := HB0.out.trans (b1.mono HB0.out.size)
  have BX1 := hide (HX0.out.next b1)
  have x1 := BX1.out
  obtain ⟨hlt1, x10, x11, x12, x13⟩ := x1
  obtain ⟨sx, hsx⟩ : ∃ sx, r.m ++ (⟨#[32]⟩ : ByteArray) ++ r.p ++ ⟨#[32]⟩ ++ ⟨#[72, 84, 84, 80, 47, 49, 46, 49]⟩ = sx := ⟨_, rfl⟩
  have hsz : sx.size ≤ 2200000 := by
    rw [← hsx]
    simp only [ByteArray.size_append]
    have e1 : (⟨#[32]⟩ : ByteArray).size = 1 := rfl
    have e2 : (⟨#[72, 84, 84, 80, 47, 49, 46, 49]⟩ : ByteArray).size = 8 := rfl
    omega
  have HSX : Hid (linesTxt sx.data.toList r.hs hs2 = frontL r (hdsTxt hs2)) := by
    show linesTxt sx.data.toList r.hs hs2 = frontL r (hdsTxt hs2)
    rw [← hsx]
    simp [linesTxt, frontL, topTxt, proto, crlf]
  have HP := hide (putLines_any sx a r.hs cap B a2 hs2 cap2 w.heap.size w1 (HH.out.below c1 hB) (Nat.le_trans hB c1.size) (HH2.out.below c1 (Nat.le_refl _)) c1.size (by omega) hl hsum hl2 hsum2)
  rw [HSX.out] at HP
  obtain ⟨L, hL⟩ : ∃ L, frontL r (hdsTxt hs2) = L := ⟨_, rfl⟩
  rw [hL] at HP
  have HLf := hide hL
  have C1 := hide c1
  clear hL hsz HSX
  go_wp2_with fail
  try rw [hsx]
  refine HP.out.mono ?_
  rintro e w2 ⟨⟨v2, rfl, o2, z2⟩, b2⟩
  have HO2 := hide o2
  obtain ⟨g4, k4, hv4, _, _, _, _, _⟩ := o2.byt
  subst hv4
  have C2 := hide (C1.out.trans (b2.mono C1.out.size))
  clear HP o2 b2 hsx x10 x11 x12 x13
  go_wp2
  refine bodyPost_ret (v := .tuple #[.slice (some ⟨g4, 0, none⟩) L.length k4, .bool (decide ((L.length : Int) ≤ 400))]) (by simp [results, Tryd.results50, go_sem]) rfl ?_
  rw [HLf.out]
  refine ⟨⟨_, ?_, HO2.out.base C1.out.size, z2⟩, C2.out⟩
  have e : decide ((L.length : Int) ≤ 400) = decide (L.length ≤ 400) := by
    by_cases h4 : L.length ≤ 400
    · rw [decide_eq_true h4, decide_eq_true (by omega)]
    · rw [decide_eq_false h4, decide_eq_false (by omega)]
  rw [e]
end Go.Proofs.YthcaedgegmnopaaDoor
