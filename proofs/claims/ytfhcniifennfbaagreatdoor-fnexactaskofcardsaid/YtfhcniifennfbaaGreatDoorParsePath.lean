/-
  What the program's ParsePath does.
-/
import Derived.Test.YtfhcniifennfbaaGreatDoorWalkPieces
import Derived.Test.YtfhcniifennfbaaGreatDoorSpecPathOk
import Derived.Shelf.Strings.SplitCore
namespace Go.Proofs.YtfhcniifennfbaaGreatDoor
open Go.RowKit M
set_option linter.unusedVariables false

theorem countB_47 (s : ByteArray) : Lib.countB s ⟨#[47]⟩ = s.data.toList.count 47 := Lib.count_one 47 s.data.toList
theorem indexB_47 (s : ByteArray) : Lib.indexB s ⟨#[47]⟩ = Lib.indexByte s.data.toList 47 := Lib.index_one s.data.toList 47

set_option maxHeartbeats 1000000 in
theorem split_any (s : ByteArray) (w : World) (hs : s.size ≤ 1048576) :
    Calls Tryz.prog 98 #[.string s, .string ⟨#[47]⟩] w fun e w' => e = .returned (.slice (some ⟨w.heap.size, 0, none⟩) (piecesL s.data.toList).length (piecesL s.data.toList).length) ∧ w' = w.alloc (.cells ((piecesL s.data.toList).map Value.string).toArray 9) := by
  have hcl : s.data.toList.count 47 ≤ s.size := by
    have h1 := List.count_le_length (a := (47 : UInt8)) (l := s.data.toList)
    have h2 : s.data.toList.length = s.size := Array.length_toList
    omega
  have hG := Any.strings_genSplit_core Tryz.lays221 info_str s ⟨#[47]⟩ 0 (-1) (s.data.toList.count 47 + 1) w (by omega) (by decide) (Nat.zero_le _)
    (fun x c _ => by rw [indexB_47]; exact Tryz.strings_Index_one x 47 _) (by rw [countB_47]; exact Tryz.strings_Count_one s 47 w) (by decide) (by decide) (by rw [countB_47, if_pos (by decide)]; omega)
  rw [Nat.add_sub_cancel, split_pieces, ← piecesL_length s.data.toList, Lib.cellsOf_full] at hG
  have hG' : Calls Tryz.prog 129 #[.string s, .string ⟨#[47]⟩, .int .i64 0, .int .i64 (-1)] w fun e w' => e = .returned (.slice (some ⟨w.heap.size, 0, none⟩) (piecesL s.data.toList).length (piecesL s.data.toList).length) ∧ w' = w.alloc (.cells ((piecesL s.data.toList).map Value.string).toArray 9) := hG
  go_enter Tryz.func98, Tryz.ntmps98
  go_wp2_with fail
  refine hG'.mono ?_
  rintro e w1 ⟨rfl, rfl⟩
  go_wp2
  go_ret
  exact ⟨rfl, rfl⟩

theorem made_strs (w : World) (ps : List ByteArray) (T : TypeId) : Strs (w.alloc (.cells (ps.map Value.string).toArray T)) (w.heap.size + 1) (some ⟨w.heap.size, 0, none⟩) ps := fun _ =>
  ⟨w.heap.size, 0, rfl, Nat.lt_succ_self _, fun j hj => by
    rw [Nat.zero_add]
    have hr := World.rowIs_alloc w (ps.map Value.string).toArray T (fun i => .string (ps.getD i ByteArray.empty)) (fun i hi => by
      have hi' : i < ps.length := by simpa using hi
      simp [List.getD, List.getElem?_eq_getElem hi'])
    rw [hr.cell (by simpa using hj)]
    simp [List.getD, List.getElem?_eq_getElem hj]⟩

set_option maxHeartbeats 400000 in
theorem clip_any (g n c : Nat) (w : World) (hn : n ≤ c) (hc : c ≤ maxLen) :
    Calls Tryz.prog 101 #[.slice (some ⟨g, 0, none⟩) n c] w fun e w' => e = .returned (.slice (some ⟨g, 0, none⟩) n n) ∧ w' = w := by
  unfold maxLen at hc
  go_enter Tryz.func101, Tryz.ntmps101
  go_wp2
  go_ret
  exact ⟨rfl, rfl⟩

theorem prefix_47 (l : List UInt8) : Lib.hasPrefix l [47] = decide (l.head? = some 47) := by
  cases l with
  | nil => rfl
  | cons c r =>
    simp [Lib.hasPrefix, List.isPrefixOf]
    cases h : ((47 : UInt8) == c)
    · have : ¬ c = 47 := fun e => by rw [e] at h; exact absurd h (by decide)
      simp [this]
    · have := beq_iff_eq.1 h
      simp [← this]

theorem getLast_at (ps : List ByteArray) (n : Nat) (h : ps.length = n + 1) : ps.getLast? = some (ps[n]'(by omega)) := by
  have e : ps.length - 1 = n := by omega
  rw [List.getLast?_eq_getElem?]
  simp only [e]
  exact List.getElem?_eq_getElem _

theorem strip_yes {ps : List ByteArray} {n : Nat} (h : ps.length = n + 1) (hl : ps[n]'(by omega) = bytesOf []) : strip ps = ps.take n := by
  unfold strip
  rw [getLast_at ps n h, hl, if_pos rfl, List.dropLast_eq_take, h, Nat.add_sub_cancel]
theorem strip_no {ps : List ByteArray} {n : Nat} (h : ps.length = n + 1) (hl : ¬ ps[n]'(by omega) = bytesOf []) : strip ps = ps := by
  unfold strip
  rw [getLast_at ps n h, if_neg (fun e => hl (Option.some.inj e))]

theorem isEmpty_iff (s : ByteArray) : s.toList.isEmpty = decide (s = bytesOf []) := by
  by_cases h : s = bytesOf []
  · subst h; rw [bytesOf_toList]; simp
  · have : ¬ s.toList = [] := fun e => h (by apply ByteArray.ext; apply Array.ext'; rw [ByteArray.toList_eq] at e; rw [e]; rfl)
    cases hl : s.toList with
    | nil => exact absurd hl this
    | cons _ _ => simp [h]

theorem own_made (w : World) (B : Nat) (hB : B ≤ w.heap.size) : OwnS (w.alloc (.cells #[] 9)) B (.slice (some ⟨w.heap.size, 0, none⟩) 0 0) [] := OwnS.made w B hB _ _

set_option maxHeartbeats 2000000 in
theorem parsePath_any (s : ByteArray) (w : World) (hs : s.size ≤ 1048576) :
    Calls Tryz.prog 68 #[.string s] w fun e w' => (∃ v, e = .returned (.tuple #[v, .bool (parseP s.data.toList).2]) ∧ OwnS w' w.heap.size v (parseP s.data.toList).1) ∧ Below w.heap.size w w' := by
  have hP := Tryz.strings_CutPrefix s ⟨#[47]⟩ w
  have e47 : (⟨#[47]⟩ : ByteArray).data.toList = [47] := rfl
  rw [e47, prefix_47] at hP
  by_cases hh : s.data.toList.head? = some 47
  · have e1 : Lib.trimPrefix s.data.toList [47] = s.data.toList.drop 1 := by
      unfold Lib.trimPrefix; rw [prefix_47, if_pos (by simp [hh])]; rfl
    rw [e1, decide_eq_true hh] at hP
    obtain ⟨t, ht⟩ : ∃ t : ByteArray, (⟨(s.data.toList.drop 1).toArray⟩ : ByteArray) = t := ⟨_, rfl⟩
    have htl : t.data.toList = s.data.toList.drop 1 := by rw [← ht]
    have hts : t.size ≤ 1048576 := by
      have h1 : t.data.toList.length = t.size := Array.length_toList
      have h2 : s.data.toList.length = s.size := Array.length_toList
      rw [htl, List.length_drop] at h1; omega
    rw [ht] at hP
    obtain ⟨ps, hps⟩ : ∃ ps, ps = piecesL t.data.toList := ⟨_, rfl⟩
    have hS := fun w => split_any t w hts
    rw [← hps] at hS
    obtain ⟨n, hn⟩ : ∃ n, ps.length = n + 1 := ⟨t.data.toList.count 47, by rw [hps, piecesL_length]⟩
    have hn1 : n + 1 ≤ 1048577 := by
      have h0 := List.count_le_length (a := (47 : UInt8)) (l := t.data.toList)
      have h1 : t.data.toList.length = t.size := Array.length_toList
      rw [← hn, hps, piecesL_length]; omega
    have hpz : ∀ p ∈ ps, p.size ≤ 1048576 := fun p hp => by
      rw [hps] at hp
      have h0 := piecesL_short _ p hp
      have h1 : t.data.toList.length = t.size := Array.length_toList
      omega
    rw [hn] at hS
    have hps' : ps = piecesL (s.data.toList.drop 1) := by rw [hps, htl]
    have HQ0 : Hid (foldP [] (strip ps) = none → parseP s.data.toList = ([], false)) := fun h1 => parseP_none hh (by rw [← hps']; exact h1)
    have HQ1 : Hid (∀ ns, foldP [] (strip ps) = some ns → pathB ns = false → parseP s.data.toList = ([], false)) := fun ns h1 h2 => parseP_not hh (by rw [← hps']; exact h1) h2
    have HQ2 : Hid (∀ ns, foldP [] (strip ps) = some ns → pathB ns = true → parseP s.data.toList = (ns, true)) := fun ns h1 h2 => parseP_yes hh (by rw [← hps']; exact h1) h2
    clear e1 e47 ht htl hps hps' hh
    have hW : ∀ (w1 : World), Strs w1 w1.heap.size (some ⟨w.heap.size, 0, none⟩) ps → ∀ (m : Nat), m = (strip ps).length → Calls Tryz.prog 99 #[.slice (some ⟨w.heap.size, 0, none⟩) m (n + 1)] w1 fun e w' =>
      ((foldP [] (strip ps) = none ∧ e = .returned (.tuple #[.slice none 0 0, .bool false])) ∨
       (∃ (out : List ByteArray) (n g c : Nat), foldP [] (strip ps) = some out ∧ n = out.length ∧ n ≤ (strip ps).length ∧ Short out ∧ e = .returned (.tuple #[.slice (some ⟨g, 0, none⟩) n c, .bool true]) ∧ w'.ownsRow w1.heap.size 9 1 (.slice (some ⟨g, 0, none⟩) n c) n (strCells out))) ∧ Below w1.heap.size w1 w' := by
      intro w1 hs1 m hm
      subst hm
      have hsub : ∃ j, strip ps = ps.take j := by
        by_cases hl : ps[n]'(by omega) = bytesOf []
        · exact ⟨n, strip_yes hn hl⟩
        · exact ⟨n + 1, by rw [strip_no hn hl, ← hn, List.take_length]⟩
      obtain ⟨j, hj⟩ := hsub
      refine walkPieces_any _ (strip ps) (n + 1) w1 (by rw [hj]; exact hs1.take j) (by rw [hj, List.length_take]; omega) (fun p hp => hpz p (by rw [hj] at hp; exact List.mem_of_mem_take hp))
    have HW : Hid _ := hW
    clear hW
    have hlast : n < ps.length := by omega
    by_cases hl : ps[n] = bytesOf []
    · have hz : (ps[n]).toList.isEmpty = true := by rw [isEmpty_iff]; simp [hl]
      have HL : Hid (n = (strip ps).length) := by show n = (strip ps).length; rw [strip_yes hn hl, List.length_take]; omega
      clear hl
      go_enter Tryz.func68, Tryz.ntmps68
      go_wp2_with fail
      refine hP.mono ?_
      rintro e w1 ⟨rfl, hw⟩
      obtain rfl := hw.symm
      go_wp2_with fail
      refine (hS w).mono ?_
      rintro e w1 ⟨rfl, hw⟩
      have hst := made_strs w ps 9
      rw [← hw] at hst
      have hsz1 : w1.heap.size = w.heap.size + 1 := by rw [hw]; simp
      have hb1 : Below w.heap.size w w1 := by rw [hw]; exact (Below.refl _ _).alloc (Nat.le_refl _) _
      clear hw
      obtain ⟨_, _, he, _, hc⟩ := hst (by omega)
      cases he
      have hcx := hc n hlast
      rw [Nat.zero_add] at hcx
      go_wp2_with fail
      refine (HW.out w1 (by rw [hsz1]; exact hst) n HL.out).mono ?_
      rintro e w2 ⟨hcase, b2⟩
      have c2 := hb1.trans (b2.mono hb1.size)
      rcases hcase with ⟨hf, rfl⟩ | ⟨out, m, g, c, hf, hm, hml, hsh, rfl, hown⟩
      · have HR : Hid (parseP s.data.toList = ([], false)) := HQ0.out hf
        clear hf
        go_wp2
        go_ret2
        rw [HR.out]
        exact ⟨⟨_, rfl, own_made w2 w.heap.size c2.size⟩, c2.alloc c2.size _⟩
      · subst hm
        have hO := OwnS.of hown rfl
        have hcap : out.length ≤ c ∧ c ≤ maxLen := by
          rcases hown.2 with ⟨e, _⟩ | ⟨g', cap', cur, hv, _, _, h1, h2, _⟩
          · cases e
          · cases hv; exact ⟨h1, h2⟩
        have hol : out.length ≤ maxLen := Nat.le_trans hcap.1 hcap.2
        cases hp : pathB out
        · have HR : Hid (parseP s.data.toList = ([], false)) := HQ1.out out hf hp
          clear hf
          go_wp2_with fail
          refine (pathOk_any _ out c w2 (hO.strs (Nat.le_refl _)) hsh hol).mono ?_
          rintro e w3 ⟨rfl, b3⟩
          rw [hp]
          have c3 := c2.trans (b3.mono c2.size)
          go_wp2
          go_ret2
          rw [HR.out]
          exact ⟨⟨_, rfl, own_made w3 w.heap.size c3.size⟩, c3.alloc c3.size _⟩
        · have HR : Hid (parseP s.data.toList = (out, true)) := HQ2.out out hf hp
          clear hf
          go_wp2_with fail
          refine (pathOk_any _ out c w2 (hO.strs (Nat.le_refl _)) hsh hol).mono ?_
          rintro e w3 ⟨rfl, b3⟩
          rw [hp]
          have c3 := c2.trans (b3.mono c2.size)
          go_wp2_with fail
          refine (clip_any g out.length c w3 hcap.1 hcap.2).mono ?_
          rintro e w4 ⟨rfl, hw⟩
          obtain rfl := hw.symm
          go_wp2
          go_ret2
          rw [HR.out]
          obtain ⟨g', c', hv, q1, q2, q3, q4, q5⟩ := (hO.below b3).clip
          exact ⟨⟨_, rfl, ⟨g', c', hv, q1, q2, Nat.le_trans hb1.size q3, q4, q5⟩⟩, c3⟩
    · have hz : (ps[n]).toList.isEmpty = false := by rw [isEmpty_iff]; simp [hl]
      have HL : Hid (n + 1 = (strip ps).length) := by show n + 1 = (strip ps).length; rw [strip_no hn hl, hn]
      clear hl
      go_enter Tryz.func68, Tryz.ntmps68
      go_wp2_with fail
      refine hP.mono ?_
      rintro e w1 ⟨rfl, hw⟩
      obtain rfl := hw.symm
      go_wp2_with fail
      refine (hS w).mono ?_
      rintro e w1 ⟨rfl, hw⟩
      have hst := made_strs w ps 9
      rw [← hw] at hst
      have hsz1 : w1.heap.size = w.heap.size + 1 := by rw [hw]; simp
      have hb1 : Below w.heap.size w w1 := by rw [hw]; exact (Below.refl _ _).alloc (Nat.le_refl _) _
      clear hw
      obtain ⟨_, _, he, _, hc⟩ := hst (by omega)
      cases he
      have hcx := hc n hlast
      rw [Nat.zero_add] at hcx
      go_wp2_with fail
      refine (HW.out w1 (by rw [hsz1]; exact hst) (n + 1) HL.out).mono ?_
      rintro e w2 ⟨hcase, b2⟩
      have c2 := hb1.trans (b2.mono hb1.size)
      rcases hcase with ⟨hf, rfl⟩ | ⟨out, m, g, c, hf, hm, hml, hsh, rfl, hown⟩
      · have HR : Hid (parseP s.data.toList = ([], false)) := HQ0.out hf
        clear hf
        go_wp2
        go_ret2
        rw [HR.out]
        exact ⟨⟨_, rfl, own_made w2 w.heap.size c2.size⟩, c2.alloc c2.size _⟩
      · subst hm
        have hO := OwnS.of hown rfl
        have hcap : out.length ≤ c ∧ c ≤ maxLen := by
          rcases hown.2 with ⟨e, _⟩ | ⟨g', cap', cur, hv, _, _, h1, h2, _⟩
          · cases e
          · cases hv; exact ⟨h1, h2⟩
        have hol : out.length ≤ maxLen := Nat.le_trans hcap.1 hcap.2
        cases hp : pathB out
        · have HR : Hid (parseP s.data.toList = ([], false)) := HQ1.out out hf hp
          clear hf
          go_wp2_with fail
          refine (pathOk_any _ out c w2 (hO.strs (Nat.le_refl _)) hsh hol).mono ?_
          rintro e w3 ⟨rfl, b3⟩
          rw [hp]
          have c3 := c2.trans (b3.mono c2.size)
          go_wp2
          go_ret2
          rw [HR.out]
          exact ⟨⟨_, rfl, own_made w3 w.heap.size c3.size⟩, c3.alloc c3.size _⟩
        · have HR : Hid (parseP s.data.toList = (out, true)) := HQ2.out out hf hp
          clear hf
          go_wp2_with fail
          refine (pathOk_any _ out c w2 (hO.strs (Nat.le_refl _)) hsh hol).mono ?_
          rintro e w3 ⟨rfl, b3⟩
          rw [hp]
          have c3 := c2.trans (b3.mono c2.size)
          go_wp2_with fail
          refine (clip_any g out.length c w3 hcap.1 hcap.2).mono ?_
          rintro e w4 ⟨rfl, hw⟩
          obtain rfl := hw.symm
          go_wp2
          go_ret2
          rw [HR.out]
          obtain ⟨g', c', hv, q1, q2, q3, q4, q5⟩ := (hO.below b3).clip
          exact ⟨⟨_, rfl, ⟨g', c', hv, q1, q2, Nat.le_trans hb1.size q3, q4, q5⟩⟩, c3⟩
  · have HR : Hid (parseP s.data.toList = ([], false)) := parseP_head hh
    rw [decide_eq_false hh] at hP
    clear hh
    go_enter Tryz.func68, Tryz.ntmps68
    go_wp2_with fail
    refine hP.mono ?_
    rintro e w1 ⟨rfl, hw⟩
    obtain rfl := hw.symm
    go_wp2
    go_ret2
    rw [HR.out]
    exact ⟨⟨_, rfl, own_made w w.heap.size (Nat.le_refl _)⟩, (Below.refl _ _).alloc (Nat.le_refl _) _⟩
end Go.Proofs.YtfhcniifennfbaaGreatDoor
