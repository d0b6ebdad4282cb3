/-
  What strings.Clone does.
  What the program's Trim does.
  What the program's headOk does.
  What the program's tellsLength and tellsCoding do.
  What the program's headsOk does.
  What the program's methodOk, targetOk, tellsLength, tellsCoding do.
  What the program's headsOk and ReqOk do.
  What the program's putAhead does.
  A list of one head, and of none.
  Slices of numbers: what they hold, and that it stays.
  Plain facts on bodies told in pieces: no program in sight.
  Plain facts on texts that are cut in two: no program in sight.
-/
import Derived.Test.YtanebchmeaomgaaGreatDoorShelf
import Derived.WalkKit
import Derived.WalkSpells
import Derived.WalkLawsBesides
import Derived.Test.YtanebchmeaomgaaGreatDoorSpecSm
import Derived.Test.YtanebchmeaomgaaGreatDoorHeads
import Derived.Test.YtanebchmeaomgaaGreatDoorPlain
import Derived.Deep.RegionWith
import Derived.Test.YtanebchmeaomgaaGreatDoorPutHead
import Derived.Test.YtanebchmeaomgaaGreatDoorRows
import Derived.Deep.OwnRows
namespace Go.Proofs.YtanebchmeaomgaaGreatDoor
open Go.RowKit

set_option maxHeartbeats 400000 in
theorem clone_any (s : ByteArray) (w : World) (hs : s.size ≤ 281474976710656) :
    Calls Tryz.prog 111 #[.string s] w fun e w' => e = .returned (.string s) ∧ Below w.heap.size w w' := by
  go_enter Tryz.func111, Tryz.ntmps111
  go_wp2_with (go_at_call 156; refine (Tryz.stringslite_Clone s _ hs).mono ?_; rintro e w1 ⟨rfl, hb1⟩)
  go_ret
  exact ⟨rfl, hb1⟩
end Go.Proofs.YtanebchmeaomgaaGreatDoor
namespace Go.Proofs.YtanebchmeaomgaaGreatDoor
open Go.RowKit M

set_option maxHeartbeats 1000000 in
theorem trim_any (s : ByteArray) (w : World) (hs : s.size ≤ 281474976710656) :
    Calls Tryz.prog 147 #[.string s] w fun e w' => (∃ t : ByteArray, e = .returned (.string t) ∧ t.data.toList = trimL s.data.toList) ∧ Below w.heap.size w w' := by
  go_enter Tryz.func147, Tryz.ntmps147
  go_wp2
  go_loopw [3] (fun i wr => ∃ a : Nat, a ≤ s.size ∧ i = .int .i64 a ∧ Below w.heap.size w wr ∧ trimL (cut s a s.size) = trimL s.data.toList) (fun i _ => s.size - (intOf i).toNat)
  case atStart => exact ⟨0, Nat.zero_le _, rfl, Below.refl _ _, by rw [cut_all]⟩
  case round =>
    obtain ⟨a, ha, rfl, hbe, hn⟩ := hrel
    have HN : Hid (trimL (cut s a s.size) = trimL s.data.toList) := hn; clear hn
    by_cases h0 : a < s.size
    · cases hb : bl s[a]
      · go_wp2_with (go_at_call 180; refine (isOneOf_any _ [1] 1 _ 0 1 _ rfl (by decide) (cells1 _ 1 205)).mono ?_; rintro e w' ⟨rfl, rfl⟩; rw [anyB_bl, hb])
        have hbe1 : Below w.heap.size w (wr.alloc (Obj.cells #[Value.int IntKind.i64 1] 205)) := hbe.alloc hbe.size _
        go_loopw [4] (fun j wx => ∃ b : Nat, a ≤ b ∧ b ≤ s.size ∧ j = .int .i64 b ∧ Below w.heap.size w wx ∧ trimL (cut s a b) = trimL s.data.toList) (fun j _ => (intOf j).toNat)
        case atStart => exact ⟨s.size, ha, Nat.le_refl _, rfl, hbe1, HN.out⟩
        case round =>
          clear hbe1 hbe
          obtain ⟨b, hab, hbs, rfl, hbx, hn⟩ := hrel
          have HB : Hid (trimL (cut s a b) = trimL s.data.toList) := hn; clear hn
          by_cases h1 : a < b
          · cases hb1 : bl s[b - 1]
            · have HD : Hid ((s.extract a b).data.toList = trimL s.data.toList) := by
                show _ = _
                rw [← HB.out, extract_cut, cut_trim_done s a b hbs h1 hb hb1]
              have hsz : (s.extract a b).size ≤ 281474976710656 := by rw [size_extract s a b hbs]; omega
              go_wp2_with (first | (go_at_call 180; refine (isOneOf_any _ [1] 1 _ 0 1 _ rfl (by decide) (cells1 _ 1 205)).mono ?_; rintro e w' ⟨rfl, rfl⟩; rw [anyB_bl, hb1]) | (go_at_call 111; refine (clone_any _ _ hsz).mono ?_; rintro e w1 ⟨rfl, hb2⟩))
              go_ret
              exact ⟨⟨_, rfl, HD.out⟩, (hbx.alloc hbx.size _).trans (hb2.mono (by have := hbx.size; simp; omega))⟩
            · go_wp2_with (go_at_call 180; refine (isOneOf_any _ [1] 1 _ 0 1 _ rfl (by decide) (cells1 _ 1 205)).mono ?_; rintro e w' ⟨rfl, rfl⟩; rw [anyB_bl, hb1])
              go_roundw
              case rel => exact ⟨b - 1, by omega, by omega, by go_num, hbx.alloc hbx.size _, by rw [← HB.out]; exact (cut_trim_back s a b hbs h1 hb1).symm⟩
              case measure => simp [intOf]; omega
          · have HD : Hid ((s.extract a b).data.toList = trimL s.data.toList) := by
              show _ = _
              rw [← HB.out, extract_cut, cut_empty s a b (by omega)]; rfl
            have hsz : (s.extract a b).size ≤ 281474976710656 := by rw [size_extract s a b hbs]; omega
            go_wp2_with (go_at_call 111; refine (clone_any _ _ hsz).mono ?_; rintro e w1 ⟨rfl, hb2⟩)
            go_ret
            exact ⟨⟨_, rfl, HD.out⟩, hbx.trans (hb2.mono hbx.size)⟩
      · go_wp2_with (go_at_call 180; refine (isOneOf_any _ [1] 1 _ 0 1 _ rfl (by decide) (cells1 _ 1 205)).mono ?_; rintro e w' ⟨rfl, rfl⟩; rw [anyB_bl, hb])
        go_roundw
        case rel => exact ⟨a + 1, by omega, by go_num, hbe.alloc hbe.size _, by rw [← HN.out]; exact (cut_trim_front s a s.size (Nat.le_refl _) h0 hb).symm⟩
        case measure => simp [intOf]; omega
    · have HD : Hid ((s.extract a s.size).data.toList = trimL s.data.toList) := by
        show _ = _
        rw [← HN.out, extract_cut, cut_empty s _ _ (by omega)]; rfl
      have hsz : (s.extract a s.size).size ≤ 281474976710656 := by rw [size_extract s _ _ (Nat.le_refl _)]; omega
      go_wp2
      go_loopw [4] (fun j wx => j = .int .i64 s.size ∧ wx = wr) (fun j _ => (intOf j).toNat)
      case atStart => exact ⟨rfl, rfl⟩
      case round =>
        obtain ⟨rfl, rfl⟩ := hrel
        go_wp2_with (go_at_call 111; refine (clone_any _ _ hsz).mono ?_; rintro e w1 ⟨rfl, hb2⟩)
        go_ret
        exact ⟨⟨_, rfl, HD.out⟩, hbe.trans (hb2.mono hbe.size)⟩
end Go.Proofs.YtanebchmeaomgaaGreatDoor
namespace Go.Proofs.YtanebchmeaomgaaGreatDoor
open Go.RowKit M
set_option linter.unusedVariables false

theorem below_drew0 {w w' : World} {C : Nat} (h : Below C w w') : Below C w w'.drew := ⟨h.os, h.tape, h.output, h.size, h.block⟩
theorem box1 {w w1 : World} {x y : ByteArray} {T : TypeId} (b1 : Below (w.alloc (Obj.cells #[Value.string x, Value.string y] T)).drew.heap.size (w.alloc (Obj.cells #[Value.string x, Value.string y] T)).drew w1) : w1.cell? ⟨w.heap.size, 1, none⟩ = some (.string y) := by
  have h : (w.alloc (Obj.cells #[Value.string x, Value.string y] T)).drew.cell? ⟨w.heap.size, 1, none⟩ = some (.string y) := by
    show (w.alloc (Obj.cells #[Value.string x, Value.string y] T)).cell? ⟨w.heap.size, 1, none⟩ = some (.string y)
    simp
  exact (b1.cell (p := ⟨w.heap.size, 1, none⟩) (by show w.heap.size < (w.alloc (Obj.cells #[Value.string x, Value.string y] T)).heap.size; simp)).trans h
theorem lt1 {w w1 : World} {x y : ByteArray} {T : TypeId} (b1 : Below (w.alloc (Obj.cells #[Value.string x, Value.string y] T)).drew.heap.size (w.alloc (Obj.cells #[Value.string x, Value.string y] T)).drew w1) : w.heap.size < w1.heap.size :=
  Nat.lt_of_lt_of_le (by show w.heap.size < (w.alloc (Obj.cells #[Value.string x, Value.string y] T)).heap.size; simp) b1.size

set_option maxHeartbeats 4000000 in
theorem headOk_any (x y : ByteArray) (w : World) (hx : x.size ≤ maxLen) (hy : y.size ≤ maxLen) (hy4 : y.size ≤ 281474976710656) :
    Calls Tryz.prog 169 #[.agg #[.string x, .string y]] w fun e w' => e = .returned (.bool (hdB (x, y))) ∧ Below w.heap.size w w' := by
  have hb0 : Below w.heap.size w (w.alloc (Obj.cells #[Value.string x, Value.string y] 82)).drew := below_drew0 ((Below.refl w.heap.size w).alloc (Nat.le_refl _) (Obj.cells #[Value.string x, Value.string y] 82))
  cases h1 : smB x.data.toList
  · have hz : hdB (x, y) = false := by simp [hdB, h1]
    rw [hz]
    clear hz
    go_enter Tryz.func169, Tryz.ntmps169
    go_wp2
    first | go_region_with ((go_at_call 157; refine (smallName_any x _ hx).mono ?_; rintro e w1 ⟨rfl, b1⟩; rw [h1]; have c1 := hb0.trans (Below.mono (w := (w.alloc (Obj.cells #[Value.string x, Value.string y] 82)).drew) b1 hb0.size); have k1 := box1 b1; have l1 := lt1 b1)) | fail
    all_goals
      go_wp2
      go_ret
      exact ⟨rfl, c1⟩
  · by_cases h2 : (y.size : Int) ≤ 60
    · cases h3 : allB y.data.toList [0]
      · have hz : hdB (x, y) = false := by simp [hdB, valB, h3]
        rw [hz]
        clear hz
        go_enter Tryz.func169, Tryz.ntmps169
        go_wp2
        first | go_region_with (first | (go_at_call 157; refine (smallName_any x _ hx).mono ?_; rintro e w1 ⟨rfl, b1⟩; rw [h1]; have c1 := hb0.trans (Below.mono (w := (w.alloc (Obj.cells #[Value.string x, Value.string y] 82)).drew) b1 hb0.size); have k1 := box1 b1; have l1 := lt1 b1) | (go_at_call 145; refine (plain_any y _ hy).mono ?_; rintro e w2 ⟨rfl, b2⟩; rw [h3]; have c2 := c1.trans (b2.mono c1.size); have k2 := (b2.cell (p := ⟨w.heap.size, 1, none⟩) l1).trans k1; have l2 := Nat.lt_of_lt_of_le l1 b2.size)) | fail
        all_goals
          go_wp2
          go_ret
          exact ⟨rfl, c2⟩
      · have h2' : y.size ≤ 60 := by omega
        have hz : hdB (x, y) = decide (trimL y.data.toList = y.data.toList) := by simp [hdB, valB, h1, h2', h3]
        rw [hz]
        clear hz h2'
        go_enter Tryz.func169, Tryz.ntmps169
        go_wp2
        first | go_region_with (first | (go_at_call 157; refine (smallName_any x _ hx).mono ?_; rintro e w1 ⟨rfl, b1⟩; rw [h1]; have c1 := hb0.trans (Below.mono (w := (w.alloc (Obj.cells #[Value.string x, Value.string y] 82)).drew) b1 hb0.size); have k1 := box1 b1; have l1 := lt1 b1) | (go_at_call 145; refine (plain_any y _ hy).mono ?_; rintro e w2 ⟨rfl, b2⟩; rw [h3]; have c2 := c1.trans (b2.mono c1.size); have k2 := (b2.cell (p := ⟨w.heap.size, 1, none⟩) l1).trans k1; have l2 := Nat.lt_of_lt_of_le l1 b2.size) | (go_at_call 147; refine (trim_any y _ hy4).mono ?_; rintro e w3 ⟨⟨t, rfl, ht⟩, b3⟩; have HT := hide ht; clear ht; have c3 := c2.trans (b3.mono c2.size); have k3 := (b3.cell (p := ⟨w.heap.size, 1, none⟩) l2).trans k2)) | fail
        all_goals
          go_wp2
          go_ret
          exact ⟨ret_bool (by rw [← trim_same HT.out]), c3⟩
    · have h2' : ¬ y.size ≤ 60 := by omega
      have hz : hdB (x, y) = false := by simp [hdB, valB, h2']
      rw [hz]
      clear h2' hz
      go_enter Tryz.func169, Tryz.ntmps169
      go_wp2
      first | go_region_with ((go_at_call 157; refine (smallName_any x _ hx).mono ?_; rintro e w1 ⟨rfl, b1⟩; rw [h1]; have c1 := hb0.trans (Below.mono (w := (w.alloc (Obj.cells #[Value.string x, Value.string y] 82)).drew) b1 hb0.size); have k1 := box1 b1; have l1 := lt1 b1)) | fail
      all_goals
        go_wp2
        go_ret
        exact ⟨rfl, c1⟩
end Go.Proofs.YtanebchmeaomgaaGreatDoor
namespace Go.Proofs.YtanebchmeaomgaaGreatDoor
open Go.RowKit M
set_option linter.unusedVariables false

set_option maxHeartbeats 400000 in
theorem tellsLength_any (x y : ByteArray) (w : World) :
    Calls Tryz.prog 170 #[.agg #[.string x, .string y]] w fun e w' => e = .returned (.bool (decide (x = lenName))) ∧ Below w.heap.size w w' := by
  have e := lenEq x
  generalize decide (x = lenName) = z at *
  go_enter Tryz.func170, Tryz.ntmps170
  go_wp2
  go_ret
  exact ⟨rfl, (Below.refl _ _).alloc (Nat.le_refl _) _⟩

set_option maxHeartbeats 400000 in
theorem tellsCoding_any (x y : ByteArray) (w : World) :
    Calls Tryz.prog 171 #[.agg #[.string x, .string y]] w fun e w' => e = .returned (.bool (decide (x = codName))) ∧ Below w.heap.size w w' := by
  have e := codEq x
  generalize decide (x = codName) = z at *
  go_enter Tryz.func171, Tryz.ntmps171
  go_wp2
  go_ret
  exact ⟨rfl, (Below.refl _ _).alloc (Nat.le_refl _) _⟩
end Go.Proofs.YtanebchmeaomgaaGreatDoor
namespace Go.Proofs.YtanebchmeaomgaaGreatDoor
open Go.RowKit M
set_option linter.unusedVariables false

set_option maxHeartbeats 2000000 in
theorem headsOk_any (a : Option Addr) (hs : List Hd) (cap B : Nat) (w : World) (h : Hds w B a hs) (hB : B ≤ w.heap.size) (hsh : ShortH hs) (hz : ∀ x ∈ hs, x.2.size ≤ 281474976710656) (hl : hs.length ≤ maxLen) :
    Calls Tryz.prog 131 #[.slice a hs.length cap] w fun e w' => e = .returned (.bool (hdsB hs)) ∧ Below w.heap.size w w' := by
  unfold maxLen at hl
  by_cases h8 : hs.length ≤ 8
  · have h8' : ¬ (8 : Int) < hs.length := by omega
    go_enter Tryz.func131, Tryz.ntmps131
    go_wp2
    go_loopw [10] (fun i wr => ∃ k : Nat, k ≤ hs.length ∧ i = .int .i64 k ∧ (hs.take k).all hdFree = true ∧ Below w.heap.size w wr) (fun i _ => hs.length - (intOf i).toNat)
    case atStart => exact ⟨0, Nat.zero_le _, rfl, rfl, Below.refl _ _⟩
    case round =>
      obtain ⟨k, hk, rfl, hn, hbe⟩ := hrel
      have HN : Hid ((hs.take k).all hdFree = true) := hn; clear hn
      by_cases hlt : k < hs.length
      · obtain ⟨b, o, rfl, hb, hc⟩ := (h.below hbe hB) (by omega)
        have hcx := (hc k hlt).1
        have hcy := (hc k hlt).2
        have hsz := hsh.at k hlt
        have hzk := hz _ (List.getElem_mem hlt)
        clear hc
        have BH0 := hide (BoxH.made wr hs[k].1 hs[k].2 82)
        have c0 := hbe.alloc hbe.size (Obj.cells #[Value.string hs[k].1, Value.string hs[k].2] 82)
        have C0 := hide c0
        clear c0
        cases h1 : hdB hs[k]
        · have HE : Hid (hdsB hs = false) := hdsB_not hs k hlt (by simp [hdFree, h1])
          go_wp2_with fail
          refine (headOk_any hs[k].1 hs[k].2 _ hsz.1 hsz.2 hzk).mono ?_
          rintro e w1 ⟨rfl, b1⟩
          rw [show hdB (hs[k].1, hs[k].2) = false from h1]
          have c1 := C0.out.trans (b1.mono C0.out.size)
          go_wp2
          go_ret
          exact ⟨ret_bool HE.out.symm, c1⟩
        · go_wp2_with fail
          refine (headOk_any hs[k].1 hs[k].2 _ hsz.1 hsz.2 hzk).mono ?_
          rintro e w1 ⟨rfl, b1⟩
          rw [show hdB (hs[k].1, hs[k].2) = true from h1]
          have c1 := C0.out.trans (b1.mono C0.out.size)
          have BH1 := hide (BH0.out.next b1)
          have x1 := BH1.out
          obtain ⟨_, x10, x11⟩ := x1
          by_cases h3 : hs[k].1 = lenName
          · have HE : Hid (hdsB hs = false) := hdsB_not hs k hlt (by simp [hdFree, h3])
            have HD := hide (decide_eq_true h3)
            clear h3
            go_wp2_with fail
            refine (tellsLength_any hs[k].1 hs[k].2 w1).mono ?_
            rintro e w2 ⟨rfl, b2⟩
            rw [HD.out]
            have c2 := c1.trans (b2.mono c1.size)
            go_wp2
            go_ret
            exact ⟨ret_bool HE.out.symm, c2⟩
          · have HD := hide (decide_eq_false h3)
            go_wp2_with fail
            refine (tellsLength_any hs[k].1 hs[k].2 w1).mono ?_
            rintro e w2 ⟨rfl, b2⟩
            rw [HD.out]
            have c2 := c1.trans (b2.mono c1.size)
            have x2 := BH1.out.next b2
            obtain ⟨_, x20, x21⟩ := x2
            by_cases h4 : hs[k].1 = codName
            · have HE : Hid (hdsB hs = false) := hdsB_not hs k hlt (by simp [hdFree, h4])
              have HD4 := hide (decide_eq_true h4)
              clear h3 h4
              go_wp2_with fail
              refine (tellsCoding_any hs[k].1 hs[k].2 w2).mono ?_
              rintro e w3 ⟨rfl, b3⟩
              rw [HD4.out]
              go_wp2
              go_ret
              exact ⟨ret_bool HE.out.symm, c2.trans (b3.mono c2.size)⟩
            · have HE : Hid ((hs.take (k + 1)).all hdFree = true) := hdsB_snoc hs k hlt HN.out (by simp [hdFree, h1, h3, h4])
              have HD4 := hide (decide_eq_false h4)
              clear h3 h4
              go_wp2_with fail
              refine (tellsCoding_any hs[k].1 hs[k].2 w2).mono ?_
              rintro e w3 ⟨rfl, b3⟩
              rw [HD4.out]
              have c3 := c2.trans (b3.mono c2.size)
              go_wp2
              go_roundw
              case rel => exact ⟨k + 1, by omega, by go_num, HE.out, c3⟩
              case measure => simp [intOf]; omega
      · have HE : Hid (hdsB hs = true) := by
          show hdsB hs = true
          rw [hdsB_all hs k hlt HN.out]; simp [h8]
        go_wp2
        go_ret
        exact ⟨ret_bool HE.out.symm, hbe⟩
  · have HE := hide (hdsB_long hs h8)
    go_enter Tryz.func131, Tryz.ntmps131
    go_wp2
    go_ret
    exact ⟨ret_bool HE.out.symm, Below.refl _ _⟩
end Go.Proofs.YtanebchmeaomgaaGreatDoor
namespace Go.Proofs.YtanebchmeaomgaaGreatDoor
open Go.RowKit M
set_option linter.unusedVariables false

theorem methB_size {s : ByteArray} (h : ¬ (1 ≤ s.size ∧ s.size ≤ 9)) : methB s = false := by
  have : inB (s.size : Int) 1 9 = false := by simp [inB]; omega
  simp [methB, this]
theorem methB_in {s : ByteArray} (h : 1 ≤ s.size ∧ s.size ≤ 9) : methB s = allB s.data.toList [3] := by
  have : inB (s.size : Int) 1 9 = true := by simp [inB]; omega
  simp [methB, this]
theorem targB_size {s : ByteArray} (h : ¬ (1 ≤ s.size ∧ s.size ≤ 80)) : targB s = false := by
  have : inB (s.size : Int) 1 80 = false := by simp [inB]; omega
  simp [targB, this]
theorem targB_in {s : ByteArray} (h : 1 ≤ s.size ∧ s.size ≤ 80) : targB s = (allB s.data.toList [0] && !decide (0 ≤ Lib.indexByte s.data.toList 32)) := by
  have : inB (s.size : Int) 1 80 = true := by simp [inB]; omega
  rw [indexByte_nonneg, tgt_plain]
  simp [targB, this]

theorem allOf_one (s : ByteArray) (k : Int) (T : TypeId) (w : World) (hs : s.size ≤ maxLen) :
    Calls Tryz.prog 167 #[.string s, .slice (some ⟨w.heap.size, 0, none⟩) 1 1] (w.alloc (Obj.cells #[.int .i64 k] T)) fun e w' => e = .returned (.bool (allB s.data.toList [k])) ∧ w' = w.alloc (Obj.cells #[.int .i64 k] T) := by
  refine allOf_any s [k] 1 _ 0 1 _ rfl hs (by unfold maxLen; simp) ?_
  intro i hi
  have : i = 0 := by simp at hi; omega
  subst this
  simp

set_option maxHeartbeats 400000 in
theorem methodOk_any (s : ByteArray) (w : World) (hs : s.size ≤ maxLen) :
    Calls Tryz.prog 129 #[.string s] w fun e w' => e = .returned (.bool (methB s)) ∧ Below w.heap.size w w' := by
  have hs' := hs
  unfold maxLen at hs'
  by_cases h : 1 ≤ s.size ∧ s.size ≤ 9
  · rw [methB_in h]
    have h1 : (1 : Int) ≤ s.size := by omega
    have h2 : (s.size : Int) ≤ 9 := by omega
    clear h
    go_enter Tryz.func129, Tryz.ntmps129
    go_wp2_with (go_at_call 167; refine (allOf_one s 3 _ _ hs).mono ?_; rintro e w1 ⟨rfl, hw⟩; obtain rfl := hw.symm)
    go_ret
    exact ⟨rfl, (Below.refl _ _).alloc (Nat.le_refl _) _⟩
  · rw [methB_size h]
    by_cases h1 : (1 : Int) ≤ s.size
    · have h2 : ¬ (s.size : Int) ≤ 9 := by omega
      go_enter Tryz.func129, Tryz.ntmps129
      go_wp2
      go_ret
      exact ⟨rfl, Below.refl _ _⟩
    · go_enter Tryz.func129, Tryz.ntmps129
      go_wp2
      go_ret
      exact ⟨rfl, Below.refl _ _⟩

set_option maxHeartbeats 400000 in
theorem targetOk_any (s : ByteArray) (w : World) (hs : s.size ≤ maxLen) :
    Calls Tryz.prog 130 #[.string s] w fun e w' => e = .returned (.bool (targB s)) ∧ Below w.heap.size w w' := by
  have hs' := hs
  unfold maxLen at hs'
  by_cases h : 1 ≤ s.size ∧ s.size ≤ 80
  · rw [targB_in h]
    have h1 : (1 : Int) ≤ s.size := by omega
    have h2 : (s.size : Int) ≤ 80 := by omega
    clear h
    cases h3 : allB s.data.toList [0]
    · go_enter Tryz.func130, Tryz.ntmps130
      go_wp2_with (go_at_call 145; refine (plain_any s _ hs).mono ?_; rintro e w1 ⟨rfl, b1⟩; rw [h3])
      go_ret
      exact ⟨rfl, b1⟩
    · go_enter Tryz.func130, Tryz.ntmps130
      go_wp2_with (first | (go_at_call 145; refine (plain_any s _ hs).mono ?_; rintro e w1 ⟨rfl, b1⟩; rw [h3]) | (go_at_call 168; refine (Tryz.strings_Contains_one s 32 _).mono ?_; rintro e w2 ⟨rfl, hw⟩; obtain rfl := hw.symm))
      go_ret
      exact ⟨ret_bool (by simp), b1⟩
  · rw [targB_size h]
    by_cases h1 : (1 : Int) ≤ s.size
    · have h2 : ¬ (s.size : Int) ≤ 80 := by omega
      go_enter Tryz.func130, Tryz.ntmps130
      go_wp2
      go_ret
      exact ⟨rfl, Below.refl _ _⟩
    · go_enter Tryz.func130, Tryz.ntmps130
      go_wp2
      go_ret
      exact ⟨rfl, Below.refl _ _⟩
end Go.Proofs.YtanebchmeaomgaaGreatDoor
namespace Go.Proofs.YtanebchmeaomgaaGreatDoor
open Go.RowKit M
set_option linter.unusedVariables false

/-- Short enough for a copy of each text. -/
def FitR (r : Rq) : Prop := ShortR r ∧ ∀ x ∈ r.hs, x.2.size ≤ 281474976710656

set_option maxHeartbeats 2000000 in
theorem reqOk_any (a : Option Addr) (r : Rq) (cap B : Nat) (w : World) (h : Hds w B a r.hs) (hB : B ≤ w.heap.size) (hfit : FitR r) :
    Calls Tryz.prog 86 #[.agg #[.string r.m, .string r.p, .slice a r.hs.length cap, .string r.b]] w fun e w' => e = .returned (.bool (reqB r)) ∧ Below w.heap.size w w' := by
  obtain ⟨⟨q1, q2, q3, q4, q5⟩, q6⟩ := hfit
  have HM : Hid (methB r.m = false → reqB r = false) := reqB_m
  have HP : Hid (targB r.p = false → reqB r = false) := reqB_p
  have HH : Hid (hdsB r.hs = false → reqB r = false) := reqB_h
  have HA : Hid (methB r.m = true → targB r.p = true → hdsB r.hs = true → reqB r = decide ((r.b.size : Int) ≤ 200)) := reqB_b
  have q3' := q3
  unfold maxLen at q3'
  have hb0 : Below w.heap.size w (w.alloc (Obj.cells #[Value.string r.m, Value.string r.p, Value.slice a r.hs.length cap, Value.string r.b] 39)) := (Below.refl _ _).alloc (Nat.le_refl _) _
  have BX0 := hide (BoxR.made w a cap r 39)
  have HD := hide h
  have C0 := hide hb0
  obtain ⟨z, hz⟩ : ∃ z, reqB r = z := ⟨_, rfl⟩
  rw [hz] at HM HP HH HA ⊢
  clear hz h hb0
  cases h1 : methB r.m
  · have hz := HM.out h1
    subst hz
    go_enter Tryz.func86, Tryz.ntmps86
    go_wp2_with fail
    refine (methodOk_any r.m _ q1).mono ?_
    rintro e w1 ⟨rfl, b1⟩
    rw [h1]
    have c1 := C0.out.trans (b1.mono C0.out.size)
    go_wp2
    go_ret
    exact ⟨rfl, c1⟩
  · cases h2 : targB r.p
    · have hz := HP.out h2
      subst hz
      go_enter Tryz.func86, Tryz.ntmps86
      go_wp2_with fail
      refine (methodOk_any r.m _ q1).mono ?_
      rintro e w1 ⟨rfl, b1⟩
      rw [h1]
      have c1 := C0.out.trans (b1.mono C0.out.size)
      have BX1 := hide (BX0.out.next b1)
      have x1 := BX1.out
      obtain ⟨_, x10, x11, x12, x13⟩ := x1
      go_wp2_with fail
      refine (targetOk_any r.p w1 q2).mono ?_
      rintro e w2 ⟨rfl, b2⟩
      rw [h2]
      have c2 := c1.trans (b2.mono c1.size)
      go_wp2
      go_ret
      exact ⟨rfl, c2⟩
    · cases h3 : hdsB r.hs
      · have hz := HH.out h3
        subst hz
        go_enter Tryz.func86, Tryz.ntmps86
        go_wp2_with fail
        refine (methodOk_any r.m _ q1).mono ?_
        rintro e w1 ⟨rfl, b1⟩
        rw [h1]
        have c1 := C0.out.trans (b1.mono C0.out.size)
        have BX1 := hide (BX0.out.next b1)
        have x1 := BX1.out
        obtain ⟨_, x10, x11, x12, x13⟩ := x1
        go_wp2_with fail
        refine (targetOk_any r.p w1 q2).mono ?_
        rintro e w2 ⟨rfl, b2⟩
        rw [h2]
        have c2 := c1.trans (b2.mono c1.size)
        have BX2 := hide (BX1.out.next b2)
        clear x10 x11 x12 x13
        have x2 := BX2.out
        obtain ⟨_, x20, x21, x22, x23⟩ := x2
        go_wp2_with fail
        refine (headsOk_any a r.hs cap B w2 (HD.out.below c2 hB) (Nat.le_trans hB c2.size) q5 q6 q4).mono ?_
        rintro e w3 ⟨rfl, b3⟩
        rw [h3]
        have c3 := c2.trans (b3.mono c2.size)
        go_wp2
        go_ret
        exact ⟨rfl, c3⟩
      · have hz := HA.out h1 h2 h3
        subst hz
        go_enter Tryz.func86, Tryz.ntmps86
        go_wp2_with fail
        refine (methodOk_any r.m _ q1).mono ?_
        rintro e w1 ⟨rfl, b1⟩
        rw [h1]
        have c1 := C0.out.trans (b1.mono C0.out.size)
        have BX1 := hide (BX0.out.next b1)
        have x1 := BX1.out
        obtain ⟨_, x10, x11, x12, x13⟩ := x1
        go_wp2_with fail
        refine (targetOk_any r.p w1 q2).mono ?_
        rintro e w2 ⟨rfl, b2⟩
        rw [h2]
        have c2 := c1.trans (b2.mono c1.size)
        have BX2 := hide (BX1.out.next b2)
        clear x10 x11 x12 x13
        have x2 := BX2.out
        obtain ⟨_, x20, x21, x22, x23⟩ := x2
        go_wp2_with fail
        refine (headsOk_any a r.hs cap B w2 (HD.out.below c2 hB) (Nat.le_trans hB c2.size) q5 q6 q4).mono ?_
        rintro e w3 ⟨rfl, b3⟩
        rw [h3]
        have c3 := c2.trans (b3.mono c2.size)
        have BX3 := BX2.out.next b3
        clear x20 x21 x22 x23
        obtain ⟨_, x30, x31, x32, x33⟩ := BX3
        go_wp2
        go_ret
        exact ⟨rfl, c3⟩
end Go.Proofs.YtanebchmeaomgaaGreatDoor
namespace Go.Proofs.YtanebchmeaomgaaGreatDoor
open Go.RowKit M
set_option linter.unusedVariables false

set_option maxRecDepth 100000 in
set_option maxHeartbeats 4000000 in
theorem putAhead_no (a : Option Addr) (r : Rq) (cap B : Nat) (a2 : Option Addr) (n2 cap2 : Nat) (w : World) (h : Hds w B a r.hs) (hB : B ≤ w.heap.size) (hfit : FitR r) (hr : reqB r = false) :
    Calls Tryz.prog 54 #[.agg #[.string r.m, .string r.p, .slice a r.hs.length cap, .string r.b], .slice a2 n2 cap2] w fun e w' => e = .returned (.tuple #[.slice none 0 0, .bool false]) ∧ Below w.heap.size w w' := by
  have HB0 : Hid (Below w.heap.size w (w.alloc (Obj.cells #[Value.string r.m, Value.string r.p, Value.slice a r.hs.length cap, Value.string r.b] 39))) := (Below.refl _ _).alloc (Nat.le_refl _) _
  have HX0 := hide (BoxR.made w a cap r 39)
  have HH := hide h
  have HF := hide hfit
  clear h hfit
  go_enter Tryz.func54, Tryz.ntmps54
  go_wp2_with fail
  refine (reqOk_any a r cap B _ (HH.out.below HB0.out hB) (Nat.le_trans hB HB0.out.size) HF.out).mono ?_
  rintro e w1 ⟨rfl, b1⟩
  rw [hr]
  have c1 := HB0.out.trans (b1.mono HB0.out.size)
  go_wp2
  go_ret2
  exact ⟨rfl, c1⟩

set_option maxRecDepth 100000 in
set_option maxHeartbeats 4000000 in
theorem putAhead_yes (a : Option Addr) (r : Rq) (cap B : Nat) (a2 : Option Addr) (hs2 : List Hd) (cap2 : Nat) (w : World) (h : Hds w B a r.hs) (hB : B ≤ w.heap.size) (h2 : Hds w w.heap.size a2 hs2) (hfit : FitR r) (hl : r.hs.length ≤ 1048576) (hsum : sumH r.hs ≤ 1048576) (hl2 : hs2.length ≤ 16) (hsum2 : sumH hs2 ≤ 1048576) (h1 : r.m.size ≤ 1048576) (h2p : r.p.size ≤ 1048576) (hr : reqB r = true) :
    Calls Tryz.prog 54 #[.agg #[.string r.m, .string r.p, .slice a r.hs.length cap, .string r.b], .slice a2 hs2.length cap2] w fun e w' => (∃ v, e = .returned (.tuple #[v, .bool (decide ((frontL r (hdsTxt hs2)).length ≤ 400))]) ∧ OwnY w' w.heap.size v (frontL r (hdsTxt hs2)) ∧ (frontL r (hdsTxt hs2)).length ≤ 33554432) ∧ Below w.heap.size w w' := by
  have HB0 : Hid (Below w.heap.size w (w.alloc (Obj.cells #[Value.string r.m, Value.string r.p, Value.slice a r.hs.length cap, Value.string r.b] 39))) := (Below.refl _ _).alloc (Nat.le_refl _) _
  have HX0 := hide (BoxR.made w a cap r 39)
  have HH := hide h
  have HH2 := hide h2
  have HF := hide hfit
  clear h h2 hfit
  go_enter Tryz.func54, Tryz.ntmps54
  go_wp2_with fail
  refine (reqOk_any a r cap B _ (HH.out.below HB0.out hB) (Nat.le_trans hB HB0.out.size) HF.out).mono ?_
  rintro e w1 ⟨rfl, b1⟩
  rw [hr]
  have c1 := HB0.out.trans (b1.mono HB0.out.size)
  have BX1 := hide (HX0.out.next b1)
  have x1 := BX1.out
  obtain ⟨hlt1, x10, x11, x12, x13⟩ := x1
  obtain ⟨sx, hsx⟩ : ∃ sx, r.m ++ (⟨#[32]⟩ : ByteArray) ++ r.p ++ ⟨#[32]⟩ ++ ⟨#[72, 84, 84, 80, 47, 49, 46, 49]⟩ = sx := ⟨_, rfl⟩
  have hsz : sx.size ≤ 2200000 := by
    rw [← hsx]
    simp only [ByteArray.size_append]
    have e1 : (⟨#[32]⟩ : ByteArray).size = 1 := rfl
    have e2 : (⟨#[72, 84, 84, 80, 47, 49, 46, 49]⟩ : ByteArray).size = 8 := rfl
    omega
  have HSX : Hid (linesTxt sx.data.toList r.hs hs2 = frontL r (hdsTxt hs2)) := by
    show linesTxt sx.data.toList r.hs hs2 = frontL r (hdsTxt hs2)
    rw [← hsx]
    simp [linesTxt, frontL, topTxt, proto, crlf]
  have HP := hide (putLines_any sx a r.hs cap B a2 hs2 cap2 w.heap.size w1 (HH.out.below c1 hB) (Nat.le_trans hB c1.size) (HH2.out.below c1 (Nat.le_refl _)) c1.size (by omega) hl hsum hl2 hsum2)
  rw [HSX.out] at HP
  obtain ⟨L, hL⟩ : ∃ L, frontL r (hdsTxt hs2) = L := ⟨_, rfl⟩
  rw [hL] at HP
  have HLf := hide hL
  have C1 := hide c1
  clear hL hsz HSX
  go_wp2_with fail
  try rw [hsx]
  refine HP.out.mono ?_
  rintro e w2 ⟨⟨v2, rfl, o2, z2⟩, b2⟩
  have HO2 := hide o2
  obtain ⟨g4, k4, hv4, _, _, _, _, _⟩ := o2.byt
  subst hv4
  have C2 := hide (C1.out.trans (b2.mono C1.out.size))
  clear HP o2 b2 hsx x10 x11 x12 x13
  go_wp2
  refine bodyPost_ret (v := .tuple #[.slice (some ⟨g4, 0, none⟩) L.length k4, .bool (decide ((L.length : Int) ≤ 400))]) (by simp [results, Tryz.results54, go_sem]) rfl ?_
  rw [HLf.out]
  refine ⟨⟨_, ?_, HO2.out.base C1.out.size, z2⟩, C2.out⟩
  have e : decide ((L.length : Int) ≤ 400) = decide (L.length ≤ 400) := by
    by_cases h4 : L.length ≤ 400
    · rw [decide_eq_true h4, decide_eq_true (by omega)]
    · rw [decide_eq_false h4, decide_eq_false (by omega)]
  rw [e]
end Go.Proofs.YtanebchmeaomgaaGreatDoor
namespace Go.Proofs.YtanebchmeaomgaaGreatDoor
open Go.RowKit M
set_option linter.unusedVariables false

theorem Hds.one (w : World) (x y : ByteArray) (T : TypeId) : Hds (w.alloc (Obj.cells #[Value.string x, Value.string y] T)) (w.heap.size + 1) (some ⟨w.heap.size, 0, none⟩) [(x, y)] := fun _ =>
  ⟨w.heap.size, 0, rfl, Nat.lt_succ_self _, fun j hj => by
    have hj0 : j = 0 := by simp at hj; exact hj
    subst hj0
    exact ⟨(BoxH.made w x y T).2.1, (BoxH.made w x y T).2.2⟩⟩
theorem Hds.nil (w : World) (B : Nat) (a : Option Addr) : Hds w B a [] := fun h => absurd h (Nat.lt_irrefl _)
end Go.Proofs.YtanebchmeaomgaaGreatDoor
namespace Go.Proofs.YtanebchmeaomgaaGreatDoor
open Go.RowKit

/-- The numbers that a slice holds, in a block below B. -/
def Ints (w : World) (B : Nat) (a : Option Addr) (l : List Int) : Prop :=
  0 < l.length → ∃ b o, a = some ⟨b, o, none⟩ ∧ b < B ∧ ∀ j (hj : j < l.length), w.cell? ⟨b, o + j, none⟩ = some (.int .i64 l[j])

theorem Ints.below {w w' : World} {B C : Nat} {a : Option Addr} {l : List Int} (h : Ints w B a l) (hb : Below C w w') (hB : B ≤ C) : Ints w' B a l := fun h0 => by
  obtain ⟨b, o, e, hbB, hc⟩ := h h0
  exact ⟨b, o, e, hbB, fun j hj => (hb.cell (p := ⟨b, o + j, none⟩) (Nat.lt_of_lt_of_le hbB hB)).trans (hc j hj)⟩
theorem Ints.mono {w : World} {B C : Nat} {a : Option Addr} {l : List Int} (h : Ints w B a l) (hB : B ≤ C) : Ints w C a l := fun h0 => by
  obtain ⟨b, o, e, hbB, hc⟩ := h h0
  exact ⟨b, o, e, Nat.lt_of_lt_of_le hbB hB, hc⟩
end Go.Proofs.YtanebchmeaomgaaGreatDoor
namespace Go.Proofs.YtanebchmeaomgaaGreatDoor.M

/-- A piece: its size, a line's end, its bytes, a line's end. -/
def chTxt (m : List UInt8) : List UInt8 := hexDigits m.length ++ (crlf ++ (m ++ crlf))
/-- Nothing of none. -/
def chTxt0 (m : List UInt8) : List UInt8 := if m = [] then [] else chTxt m
/-- The pieces that a body is cut into. -/
def pcsC : List Int → List UInt8 → List (List UInt8)
  | [], b => if b = [] then [] else [b]
  | n :: r, b => if n < 1 ∨ b = [] then pcsC r b else b.take n.toNat :: pcsC r (b.drop n.toNat)
def pcsTxt (ns : List Int) (b : List UInt8) : List UInt8 := (pcsC ns b).flatMap chTxt
/-- A body in pieces. -/
def putCs (ns : List Int) (b : List UInt8) : List UInt8 := pcsTxt ns b ++ chTxt []

theorem chTxt_nil : chTxt [] = [48, 13, 10, 13, 10] := by decide
theorem pcsTxt_skip {n : Int} (r : List Int) (b : List UInt8) (h : n < 1) : pcsTxt (n :: r) b = pcsTxt r b := by
  unfold pcsTxt; rw [pcsC, if_pos (.inl h)]
theorem pcsTxt_step {n : Int} (r : List Int) (b : List UInt8) (h : 1 ≤ n) : pcsTxt (n :: r) b = chTxt0 (b.take n.toNat) ++ pcsTxt r (b.drop n.toNat) := by
  unfold pcsTxt
  by_cases hb : b = []
  · subst hb
    rw [pcsC, if_pos (.inr rfl)]
    simp [chTxt0]
  · rw [pcsC, if_neg (by simp [hb]; omega), List.flatMap_cons]
    congr 1
    have : b.take n.toNat ≠ [] := by
      cases b with
      | nil => exact absurd rfl hb
      | cons c r => intro e; have := congrArg List.length e; simp at this; omega
    rw [chTxt0, if_neg this]
theorem pcsTxt_end (b : List UInt8) : pcsTxt [] b = chTxt0 b := by
  unfold pcsTxt chTxt0
  rw [pcsC]
  by_cases hb : b = []
  · simp [hb]
  · rw [if_neg hb, if_neg hb]; simp

theorem hexDig_le (f m : Nat) : (hexDig f m).length ≤ f := by
  induction f generalizing m with
  | zero => simp [hexDig]
  | succ f ih =>
    rw [hexDig]
    split
    · simp
    · have := ih (m / 16); simp; omega
theorem chTxt_len (m : List UInt8) : (chTxt m).length ≤ m.length + 20 := by
  have := hexDig_le 16 m.length
  unfold chTxt crlf hexDigits
  simp only [List.length_append, List.length_cons, List.length_nil]
  omega
theorem chTxt0_len (m : List UInt8) : (chTxt0 m).length ≤ 21 * m.length := by
  unfold chTxt0
  by_cases h : m = []
  · rw [if_pos h]; simp
  · rw [if_neg h]
    have := chTxt_len m
    have : 0 < m.length := List.length_pos_iff.2 h
    omega
theorem pcsTxt_len (ns : List Int) : ∀ b, (pcsTxt ns b).length ≤ 21 * b.length := by
  induction ns with
  | nil => intro b; rw [pcsTxt_end]; exact chTxt0_len b
  | cons n r ih =>
    intro b
    by_cases h : n < 1
    · rw [pcsTxt_skip r b h]; exact ih b
    · rw [pcsTxt_step r b (by omega), List.length_append]
      have h1 := chTxt0_len (b.take n.toNat)
      have h2 := ih (b.drop n.toNat)
      rw [List.length_take] at h1
      rw [List.length_drop] at h2
      omega
/-- How much the pieces have. -/
theorem pcsC_sum (ns : List Int) : ∀ b, (pcsC ns b).flatten = b := by
  induction ns with
  | nil => intro b; rw [pcsC]; by_cases hb : b = [] <;> simp [hb]
  | cons n r ih =>
    intro b
    rw [pcsC]
    split
    · exact ih b
    · rw [List.flatten_cons, ih, List.take_append_drop]
theorem pcsC_ne (ns : List Int) : ∀ b, ∀ m ∈ pcsC ns b, m ≠ [] := by
  induction ns with
  | nil => intro b m; rw [pcsC]; by_cases hb : b = [] <;> simp [hb]; intro e; rw [e]; exact hb
  | cons n r ih =>
    intro b m
    rw [pcsC]
    split
    · exact ih b m
    · rename_i h
      rw [List.mem_cons]
      rintro (rfl | hm)
      · cases b with
        | nil => exact absurd (.inr rfl) h
        | cons c q => intro e; have := congrArg List.length e; simp at this; omega
      · exact ih _ m hm
end Go.Proofs.YtanebchmeaomgaaGreatDoor.M
namespace Go.Proofs.YtanebchmeaomgaaGreatDoor
open M

theorem cut_to (t : ByteArray) (n : Nat) : t.extract 0 n = bytesOf (t.data.toList.take n) := by
  apply ByteArray.ext
  apply Array.toList_inj.1
  simp [bytesOf, ByteArray.data_extract]
theorem cut_from (t : ByteArray) (n : Nat) : (t.extract n t.size).data.toList = t.data.toList.drop n := by
  have : t.size = t.data.toList.length := (Array.length_toList).symm
  rw [ByteArray.data_extract, Array.toList_extract, this, List.extract_eq_take_drop, List.take_of_length_le (by rw [List.length_drop]; omega)]
theorem cut_none (t : ByteArray) : t.extract t.size t.size = ByteArray.empty := by
  apply ByteArray.ext
  have : (t.extract t.size t.size).data.size = 0 := by show (t.extract t.size t.size).size = 0; rw [ByteArray.size_extract]; omega
  exact Array.eq_empty_of_size_eq_zero this
end Go.Proofs.YtanebchmeaomgaaGreatDoor
