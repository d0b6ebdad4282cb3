/-
  What strings.Clone does.
  What the program's Trim does.
  What the program's headOk does.
  What the specification's looks at heads do.
  What the program's tellsLength and tellsCoding do.
  What the program's headsOk does.
-/
import Derived.Test.YtnoijfnpchihoabDoorShelf
import Derived.WalkKit
import Derived.WalkSpells
import Derived.WalkLawsBesides
import Derived.Test.YtnoijfnpchihoabDoorSpecVal
import Derived.Test.YtnoijfnpchihoabDoorMathTrim
import Derived.Test.YtnoijfnpchihoabDoorPlain
import Derived.Deep.RegionWith
import Derived.Test.YtnoijfnpchihoabDoorMathLines
namespace Go.Proofs.YtnoijfnpchihoabDoor
open Go.RowKit

set_option maxHeartbeats 400000 in
theorem clone_any (s : ByteArray) (w : World) (hs : s.size ≤ 281474976710656) :
    Calls Tryd.prog 103 #[.string s] w fun e w' => e = .returned (.string s) ∧ Below w.heap.size w w' := by
  go_enter Tryd.func103, Tryd.ntmps103
  go_wp2_with (go_at_call 119; refine (Tryd.stringslite_Clone s _ hs).mono ?_; rintro e w1 ⟨rfl, hb1⟩)
  go_ret
  exact ⟨rfl, hb1⟩
end Go.Proofs.YtnoijfnpchihoabDoor
namespace Go.Proofs.YtnoijfnpchihoabDoor
open Go.RowKit M

set_option maxHeartbeats 1000000 in
theorem trim_any (s : ByteArray) (w : World) (hs : s.size ≤ 281474976710656) :
    Calls Tryd.prog 95 #[.string s] w fun e w' => (∃ t : ByteArray, e = .returned (.string t) ∧ t.data.toList = trimL s.data.toList) ∧ Below w.heap.size w w' := by
  go_enter Tryd.func95, Tryd.ntmps95
  go_wp2
  go_loopw [3] (fun i wr => ∃ a : Nat, a ≤ s.size ∧ i = .int .i64 a ∧ Below w.heap.size w wr ∧ trimL (cut s a s.size) = trimL s.data.toList) (fun i _ => s.size - (intOf i).toNat)
  case atStart => exact ⟨0, Nat.zero_le _, rfl, Below.refl _ _, by rw [cut_all]⟩
  case round =>
    obtain ⟨a, ha, rfl, hbe, hn⟩ := hrel
    have HN : Hid (trimL (cut s a s.size) = trimL s.data.toList) := hn; clear hn
    by_cases h0 : a < s.size
    · cases hb : bl s[a]
      · go_wp2_with (go_at_call 98; refine (isOneOf_any _ [1] 1 _ 0 1 _ rfl (by decide) (cells1 _ 1 101)).mono ?_; rintro e w' ⟨rfl, rfl⟩; rw [anyB_bl, hb])
        have hbe1 : Below w.heap.size w (wr.alloc (Obj.cells #[Value.int IntKind.i64 1] 101)) := hbe.alloc hbe.size _
        go_loopw [4] (fun j wx => ∃ b : Nat, a ≤ b ∧ b ≤ s.size ∧ j = .int .i64 b ∧ Below w.heap.size w wx ∧ trimL (cut s a b) = trimL s.data.toList) (fun j _ => (intOf j).toNat)
        case atStart => exact ⟨s.size, ha, Nat.le_refl _, rfl, hbe1, HN.out⟩
        case round =>
          clear hbe1 hbe
          obtain ⟨b, hab, hbs, rfl, hbx, hn⟩ := hrel
          have HB : Hid (trimL (cut s a b) = trimL s.data.toList) := hn; clear hn
          by_cases h1 : a < b
          · cases hb1 : bl s[b - 1]
            · have HD : Hid ((s.extract a b).data.toList = trimL s.data.toList) := by
                show _ = _
                rw [← HB.out, extract_cut, cut_trim_done s a b hbs h1 hb hb1]
              have hsz : (s.extract a b).size ≤ 281474976710656 := by rw [size_extract s a b hbs]; omega
              go_wp2_with (first | (go_at_call 98; refine (isOneOf_any _ [1] 1 _ 0 1 _ rfl (by decide) (cells1 _ 1 101)).mono ?_; rintro e w' ⟨rfl, rfl⟩; rw [anyB_bl, hb1]) | (go_at_call 103; refine (clone_any _ _ hsz).mono ?_; rintro e w1 ⟨rfl, hb2⟩))
              go_ret
              exact ⟨⟨_, rfl, HD.out⟩, (hbx.alloc hbx.size _).trans (hb2.mono (by have := hbx.size; simp; omega))⟩
            · go_wp2_with (go_at_call 98; refine (isOneOf_any _ [1] 1 _ 0 1 _ rfl (by decide) (cells1 _ 1 101)).mono ?_; rintro e w' ⟨rfl, rfl⟩; rw [anyB_bl, hb1])
              go_roundw
              case rel => exact ⟨b - 1, by omega, by omega, by go_num, hbx.alloc hbx.size _, by rw [← HB.out]; exact (cut_trim_back s a b hbs h1 hb1).symm⟩
              case measure => simp [intOf]; omega
          · have HD : Hid ((s.extract a b).data.toList = trimL s.data.toList) := by
              show _ = _
              rw [← HB.out, extract_cut, cut_empty s a b (by omega)]; rfl
            have hsz : (s.extract a b).size ≤ 281474976710656 := by rw [size_extract s a b hbs]; omega
            go_wp2_with (go_at_call 103; refine (clone_any _ _ hsz).mono ?_; rintro e w1 ⟨rfl, hb2⟩)
            go_ret
            exact ⟨⟨_, rfl, HD.out⟩, hbx.trans (hb2.mono hbx.size)⟩
      · go_wp2_with (go_at_call 98; refine (isOneOf_any _ [1] 1 _ 0 1 _ rfl (by decide) (cells1 _ 1 101)).mono ?_; rintro e w' ⟨rfl, rfl⟩; rw [anyB_bl, hb])
        go_roundw
        case rel => exact ⟨a + 1, by omega, by go_num, hbe.alloc hbe.size _, by rw [← HN.out]; exact (cut_trim_front s a s.size (Nat.le_refl _) h0 hb).symm⟩
        case measure => simp [intOf]; omega
    · have HD : Hid ((s.extract a s.size).data.toList = trimL s.data.toList) := by
        show _ = _
        rw [← HN.out, extract_cut, cut_empty s _ _ (by omega)]; rfl
      have hsz : (s.extract a s.size).size ≤ 281474976710656 := by rw [size_extract s _ _ (Nat.le_refl _)]; omega
      go_wp2
      go_loopw [4] (fun j wx => j = .int .i64 s.size ∧ wx = wr) (fun j _ => (intOf j).toNat)
      case atStart => exact ⟨rfl, rfl⟩
      case round =>
        obtain ⟨rfl, rfl⟩ := hrel
        go_wp2_with (go_at_call 103; refine (clone_any _ _ hsz).mono ?_; rintro e w1 ⟨rfl, hb2⟩)
        go_ret
        exact ⟨⟨_, rfl, HD.out⟩, hbe.trans (hb2.mono hbe.size)⟩
end Go.Proofs.YtnoijfnpchihoabDoor
namespace Go.Proofs.YtnoijfnpchihoabDoor
open Go.RowKit M
set_option linter.unusedVariables false

theorem below_drew0 {w w' : World} {C : Nat} (h : Below C w w') : Below C w w'.drew := ⟨h.os, h.tape, h.output, h.size, h.block⟩
theorem box1 {w w1 : World} {x y : ByteArray} {T : TypeId} (b1 : Below (w.alloc (Obj.cells #[Value.string x, Value.string y] T)).drew.heap.size (w.alloc (Obj.cells #[Value.string x, Value.string y] T)).drew w1) : w1.cell? ⟨w.heap.size, 1, none⟩ = some (.string y) := by
  have h : (w.alloc (Obj.cells #[Value.string x, Value.string y] T)).drew.cell? ⟨w.heap.size, 1, none⟩ = some (.string y) := by
    show (w.alloc (Obj.cells #[Value.string x, Value.string y] T)).cell? ⟨w.heap.size, 1, none⟩ = some (.string y)
    simp
  exact (b1.cell (p := ⟨w.heap.size, 1, none⟩) (by show w.heap.size < (w.alloc (Obj.cells #[Value.string x, Value.string y] T)).heap.size; simp)).trans h
theorem lt1 {w w1 : World} {x y : ByteArray} {T : TypeId} (b1 : Below (w.alloc (Obj.cells #[Value.string x, Value.string y] T)).drew.heap.size (w.alloc (Obj.cells #[Value.string x, Value.string y] T)).drew w1) : w.heap.size < w1.heap.size :=
  Nat.lt_of_lt_of_le (by show w.heap.size < (w.alloc (Obj.cells #[Value.string x, Value.string y] T)).heap.size; simp) b1.size

set_option maxHeartbeats 4000000 in
theorem headOk_any (x y : ByteArray) (w : World) (hx : x.size ≤ maxLen) (hy : y.size ≤ maxLen) (hy4 : y.size ≤ 281474976710656) :
    Calls Tryd.prog 79 #[.agg #[.string x, .string y]] w fun e w' => e = .returned (.bool (hdB (x, y))) ∧ Below w.heap.size w w' := by
  have hb0 : Below w.heap.size w (w.alloc (Obj.cells #[Value.string x, Value.string y] 62)).drew := below_drew0 ((Below.refl w.heap.size w).alloc (Nat.le_refl _) (Obj.cells #[Value.string x, Value.string y] 62))
  cases h1 : smB x.data.toList
  · have hz : hdB (x, y) = false := by simp [hdB, h1]
    rw [hz]
    clear hz
    go_enter Tryd.func79, Tryd.ntmps79
    go_wp2
    first | go_region_with ((go_at_call 94; refine (smallName_any x _ hx).mono ?_; rintro e w1 ⟨rfl, b1⟩; rw [h1]; have c1 := hb0.trans (Below.mono (w := (w.alloc (Obj.cells #[Value.string x, Value.string y] 62)).drew) b1 hb0.size); have k1 := box1 b1; have l1 := lt1 b1)) | fail
    all_goals
      go_wp2
      go_ret
      exact ⟨rfl, c1⟩
  · by_cases h2 : (y.size : Int) ≤ 60
    · cases h3 : allB y.data.toList [0]
      · have hz : hdB (x, y) = false := by simp [hdB, valB, h3]
        rw [hz]
        clear hz
        go_enter Tryd.func79, Tryd.ntmps79
        go_wp2
        first | go_region_with (first | (go_at_call 94; refine (smallName_any x _ hx).mono ?_; rintro e w1 ⟨rfl, b1⟩; rw [h1]; have c1 := hb0.trans (Below.mono (w := (w.alloc (Obj.cells #[Value.string x, Value.string y] 62)).drew) b1 hb0.size); have k1 := box1 b1; have l1 := lt1 b1) | (go_at_call 88; refine (plain_any y _ hy).mono ?_; rintro e w2 ⟨rfl, b2⟩; rw [h3]; have c2 := c1.trans (b2.mono c1.size); have k2 := (b2.cell (p := ⟨w.heap.size, 1, none⟩) l1).trans k1; have l2 := Nat.lt_of_lt_of_le l1 b2.size)) | fail
        all_goals
          go_wp2
          go_ret
          exact ⟨rfl, c2⟩
      · have h2' : y.size ≤ 60 := by omega
        have hz : hdB (x, y) = decide (trimL y.data.toList = y.data.toList) := by simp [hdB, valB, h1, h2', h3]
        rw [hz]
        clear hz h2'
        go_enter Tryd.func79, Tryd.ntmps79
        go_wp2
        first | go_region_with (first | (go_at_call 94; refine (smallName_any x _ hx).mono ?_; rintro e w1 ⟨rfl, b1⟩; rw [h1]; have c1 := hb0.trans (Below.mono (w := (w.alloc (Obj.cells #[Value.string x, Value.string y] 62)).drew) b1 hb0.size); have k1 := box1 b1; have l1 := lt1 b1) | (go_at_call 88; refine (plain_any y _ hy).mono ?_; rintro e w2 ⟨rfl, b2⟩; rw [h3]; have c2 := c1.trans (b2.mono c1.size); have k2 := (b2.cell (p := ⟨w.heap.size, 1, none⟩) l1).trans k1; have l2 := Nat.lt_of_lt_of_le l1 b2.size) | (go_at_call 95; refine (trim_any y _ hy4).mono ?_; rintro e w3 ⟨⟨t, rfl, ht⟩, b3⟩; have HT := hide ht; clear ht; have c3 := c2.trans (b3.mono c2.size); have k3 := (b3.cell (p := ⟨w.heap.size, 1, none⟩) l2).trans k2)) | fail
        all_goals
          go_wp2
          go_ret
          exact ⟨ret_bool (by rw [← trim_same HT.out]), c3⟩
    · have h2' : ¬ y.size ≤ 60 := by omega
      have hz : hdB (x, y) = false := by simp [hdB, valB, h2']
      rw [hz]
      clear h2' hz
      go_enter Tryd.func79, Tryd.ntmps79
      go_wp2
      first | go_region_with ((go_at_call 94; refine (smallName_any x _ hx).mono ?_; rintro e w1 ⟨rfl, b1⟩; rw [h1]; have c1 := hb0.trans (Below.mono (w := (w.alloc (Obj.cells #[Value.string x, Value.string y] 62)).drew) b1 hb0.size); have k1 := box1 b1; have l1 := lt1 b1)) | fail
      all_goals
        go_wp2
        go_ret
        exact ⟨rfl, c1⟩
end Go.Proofs.YtnoijfnpchihoabDoor
namespace Go.Proofs.YtnoijfnpchihoabDoor
open Go.RowKit M
set_option linter.unusedVariables false

theorem lenEq (x : ByteArray) : (x.toList == [99, 111, 110, 116, 101, 110, 116, 45, 108, 101, 110, 103, 116, 104]) = decide (x = lenName) := by
  by_cases h : x = lenName
  · subst h; rw [ByteArray.toList_eq]; decide
  · have : ¬ x.toList = [99, 111, 110, 116, 101, 110, 116, 45, 108, 101, 110, 103, 116, 104] := fun e => h (strInj (by rw [e, ByteArray.toList_eq]; rfl))
    simp [h, this]
theorem codEq (x : ByteArray) : (x.toList == [116, 114, 97, 110, 115, 102, 101, 114, 45, 101, 110, 99, 111, 100, 105, 110, 103]) = decide (x = codName) := by
  by_cases h : x = codName
  · subst h; rw [ByteArray.toList_eq]; decide
  · have : ¬ x.toList = [116, 114, 97, 110, 115, 102, 101, 114, 45, 101, 110, 99, 111, 100, 105, 110, 103] := fun e => h (strInj (by rw [e, ByteArray.toList_eq]; rfl))
    simp [h, this]

set_option maxHeartbeats 1000000 in
theorem l3Heads_any (a : Option Addr) (hs : List Hd) (cap B : Nat) (w : World) (h : Hds w B a hs) (hsh : ShortH hs) (hl : hs.length ≤ maxLen) :
    Calls Tryd.prog 59 #[.slice a hs.length cap] w fun e w' => e = .returned (.bool (hdsB hs)) ∧ w' = w := by
  unfold maxLen at hl
  go_enter Tryd.func59, Tryd.ntmps59
  go_wp2
  go_loop [3] (fun i => ∃ k : Nat, k ≤ hs.length ∧ i = .int .i64 k ∧ (hs.take k).all hdFree = true) (fun i => hs.length - (intOf i).toNat)
  case atStart => exact ⟨0, Nat.zero_le _, rfl, rfl⟩
  case round =>
    obtain ⟨k, hk, rfl, hn⟩ := hrel
    have HN : Hid ((hs.take k).all hdFree = true) := hn; clear hn
    by_cases hlt : k < hs.length
    · obtain ⟨b, o, rfl, hb, hc⟩ := h (by omega)
      have hcx := (hc k hlt).1
      have hcy := (hc k hlt).2
      have hsz := hsh.at k hlt
      clear hc
      cases h1 : smB hs[k].1.data.toList
      · have HE : Hid (hdsB hs = false) := hdsB_not hs k hlt (by simp [hdFree, hdB, h1])
        go_wp2_with (go_at_call 77; refine (specSmallName_any _ _ hsz.1).mono ?_; rintro e w1 ⟨rfl, hw⟩; obtain rfl := hw.symm; rw [h1])
        go_ret
        exact ⟨ret_bool HE.out.symm, rfl⟩
      · cases h2 : valB hs[k].2
        · have HE : Hid (hdsB hs = false) := hdsB_not hs k hlt (by simp [hdFree, hdB, h2])
          go_wp2_with (first | (go_at_call 77; refine (specSmallName_any _ _ hsz.1).mono ?_; rintro e w1 ⟨rfl, hw⟩; obtain rfl := hw.symm; rw [h1]) | (go_at_call 78; refine (l3Val_any _ _ hsz.2).mono ?_; rintro e w1 ⟨rfl, hw⟩; obtain rfl := hw.symm; rw [h2]))
          go_ret
          exact ⟨ret_bool HE.out.symm, rfl⟩
        · have e3 := lenEq hs[k].1
          have e4 := codEq hs[k].1
          by_cases h3 : hs[k].1 = lenName
          · have HE : Hid (hdsB hs = false) := hdsB_not hs k hlt (by simp [hdFree, h3])
            rw [decide_eq_true h3] at e3
            clear h3 e4
            go_wp2_with (first | (go_at_call 77; refine (specSmallName_any _ _ hsz.1).mono ?_; rintro e w1 ⟨rfl, hw⟩; obtain rfl := hw.symm; rw [h1]) | (go_at_call 78; refine (l3Val_any _ _ hsz.2).mono ?_; rintro e w1 ⟨rfl, hw⟩; obtain rfl := hw.symm; rw [h2]))
            go_ret
            exact ⟨ret_bool HE.out.symm, rfl⟩
          · rw [decide_eq_false h3] at e3
            by_cases h4 : hs[k].1 = codName
            · have HE : Hid (hdsB hs = false) := hdsB_not hs k hlt (by simp [hdFree, h4])
              rw [decide_eq_true h4] at e4
              clear h3 h4
              go_wp2_with (first | (go_at_call 77; refine (specSmallName_any _ _ hsz.1).mono ?_; rintro e w1 ⟨rfl, hw⟩; obtain rfl := hw.symm; rw [h1]) | (go_at_call 78; refine (l3Val_any _ _ hsz.2).mono ?_; rintro e w1 ⟨rfl, hw⟩; obtain rfl := hw.symm; rw [h2]))
              go_ret
              exact ⟨ret_bool HE.out.symm, rfl⟩
            · have HE : Hid ((hs.take (k + 1)).all hdFree = true) := hdsB_snoc hs k hlt HN.out (by simp [hdFree, hdB, h1, h2, h3, h4])
              rw [decide_eq_false h4] at e4
              clear h3 h4
              go_wp2_with (first | (go_at_call 77; refine (specSmallName_any _ _ hsz.1).mono ?_; rintro e w1 ⟨rfl, hw⟩; obtain rfl := hw.symm; rw [h1]) | (go_at_call 78; refine (l3Val_any _ _ hsz.2).mono ?_; rintro e w1 ⟨rfl, hw⟩; obtain rfl := hw.symm; rw [h2]))
              go_round
              case rel => exact ⟨k + 1, by omega, by go_num, HE.out⟩
              case measure => simp [intOf]; omega
    · have HE : Hid (hdsB hs = decide ((hs.length : Int) ≤ 8)) := by
        show hdsB hs = _
        rw [hdsB_all hs k hlt HN.out]
        by_cases e : hs.length ≤ 8
        · have e2 : (hs.length : Int) ≤ 8 := by omega
          simp [e, e2]
        · have e2 : ¬ (hs.length : Int) ≤ 8 := by omega
          simp [e, e2]
      go_wp2
      go_ret
      exact ⟨ret_bool HE.out.symm, rfl⟩
end Go.Proofs.YtnoijfnpchihoabDoor
namespace Go.Proofs.YtnoijfnpchihoabDoor
open Go.RowKit M
set_option linter.unusedVariables false

set_option maxHeartbeats 400000 in
theorem tellsLength_any (x y : ByteArray) (w : World) :
    Calls Tryd.prog 67 #[.agg #[.string x, .string y]] w fun e w' => e = .returned (.bool (decide (x = lenName))) ∧ Below w.heap.size w w' := by
  have e := lenEq x
  generalize decide (x = lenName) = z at *
  go_enter Tryd.func67, Tryd.ntmps67
  go_wp2
  go_ret
  exact ⟨rfl, (Below.refl _ _).alloc (Nat.le_refl _) _⟩

set_option maxHeartbeats 400000 in
theorem tellsCoding_any (x y : ByteArray) (w : World) :
    Calls Tryd.prog 80 #[.agg #[.string x, .string y]] w fun e w' => e = .returned (.bool (decide (x = codName))) ∧ Below w.heap.size w w' := by
  have e := codEq x
  generalize decide (x = codName) = z at *
  go_enter Tryd.func80, Tryd.ntmps80
  go_wp2
  go_ret
  exact ⟨rfl, (Below.refl _ _).alloc (Nat.le_refl _) _⟩
end Go.Proofs.YtnoijfnpchihoabDoor
namespace Go.Proofs.YtnoijfnpchihoabDoor
open Go.RowKit M
set_option linter.unusedVariables false

set_option maxHeartbeats 2000000 in
theorem headsOk_any (a : Option Addr) (hs : List Hd) (cap B : Nat) (w : World) (h : Hds w B a hs) (hB : B ≤ w.heap.size) (hsh : ShortH hs) (hz : ∀ x ∈ hs, x.2.size ≤ 281474976710656) (hl : hs.length ≤ maxLen) :
    Calls Tryd.prog 61 #[.slice a hs.length cap] w fun e w' => e = .returned (.bool (hdsB hs)) ∧ Below w.heap.size w w' := by
  unfold maxLen at hl
  by_cases h8 : hs.length ≤ 8
  · have h8' : ¬ (8 : Int) < hs.length := by omega
    go_enter Tryd.func61, Tryd.ntmps61
    go_wp2
    go_loopw [10] (fun i wr => ∃ k : Nat, k ≤ hs.length ∧ i = .int .i64 k ∧ (hs.take k).all hdFree = true ∧ Below w.heap.size w wr) (fun i _ => hs.length - (intOf i).toNat)
    case atStart => exact ⟨0, Nat.zero_le _, rfl, rfl, Below.refl _ _⟩
    case round =>
      obtain ⟨k, hk, rfl, hn, hbe⟩ := hrel
      have HN : Hid ((hs.take k).all hdFree = true) := hn; clear hn
      by_cases hlt : k < hs.length
      · obtain ⟨b, o, rfl, hb, hc⟩ := (h.below hbe hB) (by omega)
        have hcx := (hc k hlt).1
        have hcy := (hc k hlt).2
        have hsz := hsh.at k hlt
        have hzk := hz _ (List.getElem_mem hlt)
        clear hc
        have BH0 := hide (BoxH.made wr hs[k].1 hs[k].2 62)
        have c0 := hbe.alloc hbe.size (Obj.cells #[Value.string hs[k].1, Value.string hs[k].2] 62)
        have C0 := hide c0
        clear c0
        cases h1 : hdB hs[k]
        · have HE : Hid (hdsB hs = false) := hdsB_not hs k hlt (by simp [hdFree, h1])
          go_wp2_with fail
          refine (headOk_any hs[k].1 hs[k].2 _ hsz.1 hsz.2 hzk).mono ?_
          rintro e w1 ⟨rfl, b1⟩
          rw [show hdB (hs[k].1, hs[k].2) = false from h1]
          have c1 := C0.out.trans (b1.mono C0.out.size)
          go_wp2
          go_ret
          exact ⟨ret_bool HE.out.symm, c1⟩
        · go_wp2_with fail
          refine (headOk_any hs[k].1 hs[k].2 _ hsz.1 hsz.2 hzk).mono ?_
          rintro e w1 ⟨rfl, b1⟩
          rw [show hdB (hs[k].1, hs[k].2) = true from h1]
          have c1 := C0.out.trans (b1.mono C0.out.size)
          have BH1 := hide (BH0.out.next b1)
          have x1 := BH1.out
          obtain ⟨_, x10, x11⟩ := x1
          by_cases h3 : hs[k].1 = lenName
          · have HE : Hid (hdsB hs = false) := hdsB_not hs k hlt (by simp [hdFree, h3])
            have HD := hide (decide_eq_true h3)
            clear h3
            go_wp2_with fail
            refine (tellsLength_any hs[k].1 hs[k].2 w1).mono ?_
            rintro e w2 ⟨rfl, b2⟩
            rw [HD.out]
            have c2 := c1.trans (b2.mono c1.size)
            go_wp2
            go_ret
            exact ⟨ret_bool HE.out.symm, c2⟩
          · have HD := hide (decide_eq_false h3)
            go_wp2_with fail
            refine (tellsLength_any hs[k].1 hs[k].2 w1).mono ?_
            rintro e w2 ⟨rfl, b2⟩
            rw [HD.out]
            have c2 := c1.trans (b2.mono c1.size)
            have x2 := BH1.out.next b2
            obtain ⟨_, x20, x21⟩ := x2
            by_cases h4 : hs[k].1 = codName
            · have HE : Hid (hdsB hs = false) := hdsB_not hs k hlt (by simp [hdFree, h4])
              have HD4 := hide (decide_eq_true h4)
              clear h3 h4
              go_wp2_with fail
              refine (tellsCoding_any hs[k].1 hs[k].2 w2).mono ?_
              rintro e w3 ⟨rfl, b3⟩
              rw [HD4.out]
              go_wp2
              go_ret
              exact ⟨ret_bool HE.out.symm, c2.trans (b3.mono c2.size)⟩
            · have HE : Hid ((hs.take (k + 1)).all hdFree = true) := hdsB_snoc hs k hlt HN.out (by simp [hdFree, h1, h3, h4])
              have HD4 := hide (decide_eq_false h4)
              clear h3 h4
              go_wp2_with fail
              refine (tellsCoding_any hs[k].1 hs[k].2 w2).mono ?_
              rintro e w3 ⟨rfl, b3⟩
              rw [HD4.out]
              have c3 := c2.trans (b3.mono c2.size)
              go_wp2
              go_roundw
              case rel => exact ⟨k + 1, by omega, by go_num, HE.out, c3⟩
              case measure => simp [intOf]; omega
      · have HE : Hid (hdsB hs = true) := by
          show hdsB hs = true
          rw [hdsB_all hs k hlt HN.out]; simp [h8]
        go_wp2
        go_ret
        exact ⟨ret_bool HE.out.symm, hbe⟩
  · have HE := hide (hdsB_long hs h8)
    go_enter Tryd.func61, Tryd.ntmps61
    go_wp2
    go_ret
    exact ⟨ret_bool HE.out.symm, Below.refl _ _⟩
end Go.Proofs.YtnoijfnpchihoabDoor
