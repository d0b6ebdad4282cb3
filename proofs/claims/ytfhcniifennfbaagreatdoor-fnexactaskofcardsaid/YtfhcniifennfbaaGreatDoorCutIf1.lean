/-
  What impl.cutToken and impl.cutFullTag do.
-/
import Derived.Test.YtfhcniifennfbaaGreatDoorTurn
import Derived.Test.YtfhcniifennfbaaGreatDoorCutTag
import Derived.Test.YtfhcniifennfbaaGreatDoorTokenOk
import Derived.Test.YtfhcniifennfbaaGreatDoorMathMark2
import Derived.Deep.RegionHeld3
namespace Go.Proofs.YtfhcniifennfbaaGreatDoor
open Go.RowKit M
set_option linter.unusedVariables false

theorem bytesI (l : List UInt8) : (bytesOf l).data.toList = l := rfl
theorem inB_num (n : Int) (h : n ≤ 9999) : inB n 1 9999 = decide (1 ≤ n) := by
  unfold inB
  rw [Bool.eq_iff_iff]
  simp
  omega
theorem num_le (d : List UInt8) : (parseNum d 9999).1 ≤ 9999 := by
  cases h : (parseNum d 9999).2
  · unfold parseNum at h ⊢
    split
    · rename_i hb; rw [if_pos hb] at h; cases h
    · show (0 : Int) ≤ 9999; decide
  · obtain ⟨h1, h2⟩ := parseOk_of h
    rw [h2]
    exact h1.2.2.2.2
theorem upTo_len (c : UInt8) (l : List UInt8) : (upTo c l).length ≤ l.length := by
  have := congrArg List.length (upTo_from c l)
  rw [List.length_append] at this
  omega
def okT (l : List UInt8) : Bool := !(fromB 62 l).isEmpty && ((parseNum (upTo 62 l) 9999).2 && decide (1 ≤ (parseNum (upTo 62 l) 9999).1))
theorem tokC_is (no : Bool) (l : List UInt8) : tokC no l = if okT l = true then some (⟨no, (parseNum (upTo 62 l) 9999).1, ⟨#[]⟩⟩, (fromB 62 l).tail) else none := by
  unfold tokC okT numC
  cases hf : fromB 62 l with
  | nil => simp
  | cons a r =>
    cases hq : (parseNum (upTo 62 l) 9999).2
    · simp
    · by_cases h1 : 1 ≤ (parseNum (upTo 62 l) 9999).1 <;> simp [h1]

set_option maxHeartbeats 2000000 in
theorem cutToken_any (l : List UInt8) (w : World) (hl : l.length ≤ 67108864) :
    Calls Tryz.prog 173 #[.string (bytesOf l)] w fun e w' => e = .returned (.tuple #[.int .i64 (parseNum (upTo 62 l) 9999).1, .string (bytesOf (fromB 62 l).tail), .bool (okT l)]) ∧ Below w.heap.size w w' := by
  have HC := hide (cut_any (bytesOf l) 62 w (by rw [bytesOf_size]; unfold maxLen; omega))
  rw [bytesI] at HC
  have HP := hide (fun W => parseNum_any (bytesOf (upTo 62 l)) 9999 W (by rw [bytesOf_size]; have := upTo_len 62 l; unfold maxLen; omega))
  rw [bytesI] at HP
  have HT := hide (fun W => tokenOk_any (parseNum (upTo 62 l) 9999).1 W)
  rw [inB_num _ (num_le _)] at HT
  have HO := hide (show okT l = (!(fromB 62 l).isEmpty && ((parseNum (upTo 62 l) 9999).2 && decide (1 ≤ (parseNum (upTo 62 l) 9999).1))) from rfl)
  obtain ⟨n, hn⟩ : ∃ z, (parseNum (upTo 62 l) 9999).1 = z := ⟨_, rfl⟩
  obtain ⟨k, hk⟩ : ∃ z, (parseNum (upTo 62 l) 9999).2 = z := ⟨_, rfl⟩
  obtain ⟨q, hq⟩ : ∃ z, (!(fromB 62 l).isEmpty) = z := ⟨_, rfl⟩
  obtain ⟨p, hp⟩ : ∃ z, decide (1 ≤ (parseNum (upTo 62 l) 9999).1) = z := ⟨_, rfl⟩
  rw [hp, hq, hk] at HO
  rw [hp] at HT
  rw [hk] at HP
  rw [hq] at HC
  rw [hn] at HP HT
  rw [hn]
  clear hn hk hq hp
  go_enter Tryz.func173, Tryz.ntmps173
  go_wp2_with fail
  refine HC.out.mono ?_
  rintro e w1 ⟨rfl, b1⟩
  go_wp2_with fail
  refine (HP.out _).mono ?_
  rintro e w2 ⟨rfl, b2⟩
  have HB := hide (b1.trans (b2.mono b1.size))
  clear b1 b2
  cases q
  · go_wp2
    go_ret3
    exact ⟨by rw [HO.out]; rfl, HB.out⟩
  · cases k
    · go_wp2
      go_ret3
      exact ⟨by rw [HO.out]; rfl, HB.out⟩
    · go_wp2_with fail
      refine (HT.out _).mono ?_
      rintro e w3 ⟨rfl, hw⟩
      obtain rfl := hw.symm
      go_wp2
      go_ret3
      exact ⟨by rw [HO.out]; rfl, HB.out⟩

theorem cutT_ten {l m r : List UInt8} (h : cutT l = some (m, r)) : m.length ≤ 10 := by
  have := (cutT_in h).2.1
  simp [innB] at this
  omega
theorem text_zero (w : World) : Calls Tryz.prog 210 #[.agg #[.int .u8 0, .int .u8 0, .int .u8 0, .int .u8 0, .int .u8 0, .int .u8 0, .int .u8 0, .int .u8 0, .int .u8 0, .int .u8 0, .int .i64 0]] w fun e w' => e = .returned (.string (bytesOf (tagL []))) ∧ Below w.heap.size w w' := text_any [] w (by decide)

set_option maxRecDepth 100000 in
set_option maxHeartbeats 8000000 in
theorem cutFull_none (l : List UInt8) (w : World) (hl : l.length ≤ 1048576) (hc : cutT l = none) :
    Calls Tryz.prog 174 #[.string (bytesOf l)] w fun e w' => e = .returned (.tuple #[.string (bytesOf (tagL [])), .string ⟨#[]⟩, .bool false]) ∧ Below w.heap.size w w' := by
  have HT := hide (cutTag_none (bytesOf l) w (by rw [bytesOf_size]; exact hl) hc)
  clear hc
  have HX := hide (fun W => text_zero W)
  go_enter Tryz.func174, Tryz.ntmps174
  go_wp2_with fail
  refine HT.out.mono ?_
  rintro e w1 ⟨rfl, b1⟩
  have hb1 := (b1.alloc b1.size (Obj.cells #[.int .u8 0, .int .u8 0, .int .u8 0, .int .u8 0, .int .u8 0, .int .u8 0, .int .u8 0, .int .u8 0, .int .u8 0, .int .u8 0, .int .i64 0] 231))
  have HS := hide (BoxV.made w1 [.int .u8 0, .int .u8 0, .int .u8 0, .int .u8 0, .int .u8 0, .int .u8 0, .int .u8 0, .int .u8 0, .int .u8 0, .int .u8 0, .int .i64 0] 231).drew
  have HB := hide (below_drewG hb1)
  have hz := b1.size
  clear b1 hb1
  go_wp2
  refine wp_region_held_drew (S := (fun W => BoxV W w1.heap.size [.int .u8 0, .int .u8 0, .int .u8 0, .int .u8 0, .int .u8 0, .int .u8 0, .int .u8 0, .int .u8 0, .int .u8 0, .int .u8 0, .int .i64 0])) (by kernel_rfl) HS.out (fun hHeld => ?_)
  simp only [List.size_toArray, List.length_cons, List.length_nil, Nat.reduceAdd, Array.replicate_succ, Array.replicate_zero, List.push_toArray, List.nil_append, List.cons_append]
  refine wpAnyH_take (i := 0) (v := ?_) rfl (by kernel_rfl) (by kernel_rfl) (by kernel_rfl) (fun _ _ _ h => h) (Or.inl ⟨by rfl, ?_⟩) (by assumption) ?_
  rotate_left
  · intro w hSw; (try dsimp only at hSw); obtain ⟨_, q0⟩ := hSw; have c0 := (q0 0 _ rfl).1; have c1 := (q0 1 _ rfl).1; have c2 := (q0 2 _ rfl).1; have c3 := (q0 3 _ rfl).1; have c4 := (q0 4 _ rfl).1; have c5 := (q0 5 _ rfl).1; have c6 := (q0 6 _ rfl).1; have c7 := (q0 7 _ rfl).1; have c8 := (q0 8 _ rfl).1; have c9 := (q0 9 _ rfl).1; have c10 := (q0 10 _ rfl).1; go_simp; try with_reducible rfl
  simp only [Act.put, List.getElem_toArray, List.getElem_cons_zero, List.setIfInBounds_toArray, List.set_cons_zero]
  refine wpAnyH_take (i := 2) (v := ?_) rfl (by kernel_rfl) (by kernel_rfl) (by kernel_rfl) (fun _ _ _ h => h) (Or.inl ⟨by rfl, ?_⟩) (by assumption) ?_
  rotate_left
  · intro w hSw; (try dsimp only at hSw); obtain ⟨_, q0⟩ := hSw; have c0 := (q0 0 _ rfl).1; have c1 := (q0 1 _ rfl).1; have c2 := (q0 2 _ rfl).1; have c3 := (q0 3 _ rfl).1; have c4 := (q0 4 _ rfl).1; have c5 := (q0 5 _ rfl).1; have c6 := (q0 6 _ rfl).1; have c7 := (q0 7 _ rfl).1; have c8 := (q0 8 _ rfl).1; have c9 := (q0 9 _ rfl).1; have c10 := (q0 10 _ rfl).1; go_simp; try with_reducible rfl
  simp only [Act.put, List.getElem_toArray, List.getElem_cons_succ, List.getElem_cons_zero, List.setIfInBounds_toArray, List.set_cons_succ, List.set_cons_zero]
  refine wpAnyH_take (i := 3) (v := ?_) rfl (by kernel_rfl) (by kernel_rfl) (by kernel_rfl) (fun _ _ _ h => h) (Or.inl ⟨by rfl, ?_⟩) (by assumption) ?_
  rotate_left
  · intro w hSw; (try dsimp only at hSw); obtain ⟨_, q0⟩ := hSw; have c0 := (q0 0 _ rfl).1; have c1 := (q0 1 _ rfl).1; have c2 := (q0 2 _ rfl).1; have c3 := (q0 3 _ rfl).1; have c4 := (q0 4 _ rfl).1; have c5 := (q0 5 _ rfl).1; have c6 := (q0 6 _ rfl).1; have c7 := (q0 7 _ rfl).1; have c8 := (q0 8 _ rfl).1; have c9 := (q0 9 _ rfl).1; have c10 := (q0 10 _ rfl).1; go_simp; try with_reducible rfl
  simp only [Act.put, List.getElem_toArray, List.getElem_cons_succ, List.getElem_cons_zero, List.setIfInBounds_toArray, List.set_cons_succ, List.set_cons_zero]
  refine wpAnyH_ready (rs := [1]) (by kernel_rfl) (by simp) ?_
  refine AllReadyH.cons rfl (fun K hK => ?_) AllReadyH.nil
  go_simp
  refine (HX.out _).mono ?_
  rintro e w2 ⟨rfl, b2⟩
  have HB2 := hide (HB.out.trans (b2.mono HB.out.size))
  refine hK.out _ _ (HS.out.next b2) (fun hHeld2 => ?_)
  clear hK K hHeld
  have hHeld := hHeld2
  clear hHeld2
  simp only [List.setIfInBounds_toArray, List.set_cons_succ, List.set_cons_zero]
  refine wpAnyH_take (i := 4) (v := .bool false) rfl (by kernel_rfl) (by kernel_rfl) (by kernel_rfl) (fun _ _ _ h => h) (Or.inl ⟨by rfl, ?_⟩) (by assumption) ?_
  · intro w hSw; (try dsimp only at hSw); obtain ⟨_, q0⟩ := hSw; have c0 := (q0 0 _ rfl).1; have c1 := (q0 1 _ rfl).1; have c2 := (q0 2 _ rfl).1; have c3 := (q0 3 _ rfl).1; have c4 := (q0 4 _ rfl).1; have c5 := (q0 5 _ rfl).1; have c6 := (q0 6 _ rfl).1; have c7 := (q0 7 _ rfl).1; have c8 := (q0 8 _ rfl).1; have c9 := (q0 9 _ rfl).1; have c10 := (q0 10 _ rfl).1; go_simp
  simp only [Act.put, List.getElem_toArray, List.getElem_cons_succ, List.getElem_cons_zero, List.setIfInBounds_toArray, List.set_cons_succ, List.set_cons_zero]
  refine wpAnyH_take (i := 5) (v := undef) rfl (by kernel_rfl) (by kernel_rfl) (by kernel_rfl) (fun _ _ _ h => h) (Or.inr ⟨by rfl, rfl⟩) (by assumption) ?_
  simp only [Act.put, List.getElem_toArray, List.getElem_cons_succ, List.getElem_cons_zero, List.setIfInBounds_toArray, List.set_cons_succ, List.set_cons_zero]
  refine wpAnyH_take (i := 6) (v := undef) rfl (by kernel_rfl) (by kernel_rfl) (by kernel_rfl) (fun _ _ _ h => h) (Or.inr ⟨by rfl, rfl⟩) (by assumption) ?_
  simp only [Act.put, List.getElem_toArray, List.getElem_cons_succ, List.getElem_cons_zero, List.setIfInBounds_toArray, List.set_cons_succ, List.set_cons_zero]
  refine wpAnyH_take (i := 7) (v := undef) rfl (by kernel_rfl) (by kernel_rfl) (by kernel_rfl) (fun _ _ _ h => h) (Or.inr ⟨by rfl, rfl⟩) (by assumption) ?_
  simp only [Act.put, List.getElem_toArray, List.getElem_cons_succ, List.getElem_cons_zero, List.setIfInBounds_toArray, List.set_cons_succ, List.set_cons_zero]
  refine wpAnyH_take (i := 8) (v := ?_) rfl (by kernel_rfl) (by kernel_rfl) (by kernel_rfl) (fun _ _ _ h => h) (Or.inl ⟨by rfl, ?_⟩) (by assumption) ?_
  rotate_left
  · intro w hSw; (try dsimp only at hSw); obtain ⟨_, q0⟩ := hSw; have c0 := (q0 0 _ rfl).1; have c1 := (q0 1 _ rfl).1; have c2 := (q0 2 _ rfl).1; have c3 := (q0 3 _ rfl).1; have c4 := (q0 4 _ rfl).1; have c5 := (q0 5 _ rfl).1; have c6 := (q0 6 _ rfl).1; have c7 := (q0 7 _ rfl).1; have c8 := (q0 8 _ rfl).1; have c9 := (q0 9 _ rfl).1; have c10 := (q0 10 _ rfl).1; go_simp; try with_reducible rfl
  simp only [Act.put, List.getElem_toArray, List.getElem_cons_succ, List.getElem_cons_zero, List.setIfInBounds_toArray, List.set_cons_succ, List.set_cons_zero]
  refine wpAnyH_take (i := 9) (v := ?_) rfl (by kernel_rfl) (by kernel_rfl) (by kernel_rfl) (fun _ _ _ h => h) (Or.inl ⟨by rfl, ?_⟩) (by assumption) ?_
  rotate_left
  · intro w hSw; (try dsimp only at hSw); obtain ⟨_, q0⟩ := hSw; have c0 := (q0 0 _ rfl).1; have c1 := (q0 1 _ rfl).1; have c2 := (q0 2 _ rfl).1; have c3 := (q0 3 _ rfl).1; have c4 := (q0 4 _ rfl).1; have c5 := (q0 5 _ rfl).1; have c6 := (q0 6 _ rfl).1; have c7 := (q0 7 _ rfl).1; have c8 := (q0 8 _ rfl).1; have c9 := (q0 9 _ rfl).1; have c10 := (q0 10 _ rfl).1; go_simp; try with_reducible rfl
  simp only [Act.put, List.getElem_toArray, List.getElem_cons_succ, List.getElem_cons_zero, List.setIfInBounds_toArray, List.set_cons_succ, List.set_cons_zero]
  refine wpAnyH_take (i := 10) (v := ?_) rfl (by kernel_rfl) (by kernel_rfl) (by kernel_rfl) (fun _ _ _ h => h) (Or.inl ⟨by rfl, ?_⟩) (by assumption) ?_
  rotate_left
  · intro w hSw; (try dsimp only at hSw); obtain ⟨_, q0⟩ := hSw; have c0 := (q0 0 _ rfl).1; have c1 := (q0 1 _ rfl).1; have c2 := (q0 2 _ rfl).1; have c3 := (q0 3 _ rfl).1; have c4 := (q0 4 _ rfl).1; have c5 := (q0 5 _ rfl).1; have c6 := (q0 6 _ rfl).1; have c7 := (q0 7 _ rfl).1; have c8 := (q0 8 _ rfl).1; have c9 := (q0 9 _ rfl).1; have c10 := (q0 10 _ rfl).1; go_simp; try with_reducible rfl
  simp only [Act.put, List.getElem_toArray, List.getElem_cons_succ, List.getElem_cons_zero, List.setIfInBounds_toArray, List.set_cons_succ, List.set_cons_zero]
  refine wpAnyH_take (i := 11) (v := ?_) rfl (by kernel_rfl) (by kernel_rfl) (by kernel_rfl) (fun _ _ _ h => h) (Or.inl ⟨by rfl, ?_⟩) (by assumption) ?_
  rotate_left
  · intro w hSw; (try dsimp only at hSw); obtain ⟨_, q0⟩ := hSw; have c0 := (q0 0 _ rfl).1; have c1 := (q0 1 _ rfl).1; have c2 := (q0 2 _ rfl).1; have c3 := (q0 3 _ rfl).1; have c4 := (q0 4 _ rfl).1; have c5 := (q0 5 _ rfl).1; have c6 := (q0 6 _ rfl).1; have c7 := (q0 7 _ rfl).1; have c8 := (q0 8 _ rfl).1; have c9 := (q0 9 _ rfl).1; have c10 := (q0 10 _ rfl).1; go_simp; try with_reducible rfl
  simp only [Act.put, List.getElem_toArray, List.getElem_cons_succ, List.getElem_cons_zero, List.setIfInBounds_toArray, List.set_cons_succ, List.set_cons_zero]
  refine wpAnyH_done (by kernel_rfl) ?_ _
  clear hHeld
  go_wp2
  go_ret3
  exact ⟨rfl, HB2.out⟩

set_option maxRecDepth 100000 in
set_option maxHeartbeats 8000000 in
theorem cutFull_some (l m r : List UInt8) (w : World) (hl : l.length ≤ 1048576) (hc : cutT l = some (m, r)) :
    Calls Tryz.prog 174 #[.string (bytesOf l)] w fun e w' => e = .returned (.tuple #[.string (bytesOf (tagL m)), .string (bytesOf r), .bool (decide (0 < m.length))]) ∧ Below w.heap.size w w' := by
  have HT := hide (cutTag_some (bytesOf l) m r w (by rw [bytesOf_size]; exact hl) hc)
  have hm := cutT_ten hc
  clear hc
  have HX := hide (fun W => text_any m W hm)
  have hlm : decide ((0 : Int) < (m.length : Int)) = decide (0 < m.length) := by rw [Bool.eq_iff_iff]; simp
  have HLM := hide hlm
  clear hlm
  go_enter Tryz.func174, Tryz.ntmps174
  go_wp2_with fail
  refine HT.out.mono ?_
  rintro e w1 ⟨rfl, b1⟩
  have hb1 := (b1.alloc b1.size (Obj.cells #[.int .u8 (vT m 0), .int .u8 (vT m 1), .int .u8 (vT m 2), .int .u8 (vT m 3), .int .u8 (vT m 4), .int .u8 (vT m 5), .int .u8 (vT m 6), .int .u8 (vT m 7), .int .u8 (vT m 8), .int .u8 (vT m 9), .int .i64 (m.length : Int)] 231))
  have HS := hide (BoxV.made w1 [.int .u8 (vT m 0), .int .u8 (vT m 1), .int .u8 (vT m 2), .int .u8 (vT m 3), .int .u8 (vT m 4), .int .u8 (vT m 5), .int .u8 (vT m 6), .int .u8 (vT m 7), .int .u8 (vT m 8), .int .u8 (vT m 9), .int .i64 (m.length : Int)] 231).drew
  have HB := hide (below_drewG hb1)
  have hz := b1.size
  clear b1 hb1
  go_wp2
  refine wp_region_held_drew (S := (fun W => BoxV W w1.heap.size [.int .u8 (vT m 0), .int .u8 (vT m 1), .int .u8 (vT m 2), .int .u8 (vT m 3), .int .u8 (vT m 4), .int .u8 (vT m 5), .int .u8 (vT m 6), .int .u8 (vT m 7), .int .u8 (vT m 8), .int .u8 (vT m 9), .int .i64 (m.length : Int)])) (by kernel_rfl) HS.out (fun hHeld => ?_)
  simp only [List.size_toArray, List.length_cons, List.length_nil, Nat.reduceAdd, Array.replicate_succ, Array.replicate_zero, List.push_toArray, List.nil_append, List.cons_append]
  refine wpAnyH_take (i := 0) (v := ?_) rfl (by kernel_rfl) (by kernel_rfl) (by kernel_rfl) (fun _ _ _ h => h) (Or.inl ⟨by rfl, ?_⟩) (by assumption) ?_
  rotate_left
  · intro w hSw; (try dsimp only at hSw); obtain ⟨_, q0⟩ := hSw; have c0 := (q0 0 _ rfl).1; have c1 := (q0 1 _ rfl).1; have c2 := (q0 2 _ rfl).1; have c3 := (q0 3 _ rfl).1; have c4 := (q0 4 _ rfl).1; have c5 := (q0 5 _ rfl).1; have c6 := (q0 6 _ rfl).1; have c7 := (q0 7 _ rfl).1; have c8 := (q0 8 _ rfl).1; have c9 := (q0 9 _ rfl).1; have c10 := (q0 10 _ rfl).1; go_simp; try with_reducible rfl
  simp only [Act.put, List.getElem_toArray, List.getElem_cons_zero, List.setIfInBounds_toArray, List.set_cons_zero]
  refine wpAnyH_take (i := 2) (v := ?_) rfl (by kernel_rfl) (by kernel_rfl) (by kernel_rfl) (fun _ _ _ h => h) (Or.inl ⟨by rfl, ?_⟩) (by assumption) ?_
  rotate_left
  · intro w hSw; (try dsimp only at hSw); obtain ⟨_, q0⟩ := hSw; have c0 := (q0 0 _ rfl).1; have c1 := (q0 1 _ rfl).1; have c2 := (q0 2 _ rfl).1; have c3 := (q0 3 _ rfl).1; have c4 := (q0 4 _ rfl).1; have c5 := (q0 5 _ rfl).1; have c6 := (q0 6 _ rfl).1; have c7 := (q0 7 _ rfl).1; have c8 := (q0 8 _ rfl).1; have c9 := (q0 9 _ rfl).1; have c10 := (q0 10 _ rfl).1; go_simp; try with_reducible rfl
  simp only [Act.put, List.getElem_toArray, List.getElem_cons_succ, List.getElem_cons_zero, List.setIfInBounds_toArray, List.set_cons_succ, List.set_cons_zero]
  refine wpAnyH_take (i := 3) (v := ?_) rfl (by kernel_rfl) (by kernel_rfl) (by kernel_rfl) (fun _ _ _ h => h) (Or.inl ⟨by rfl, ?_⟩) (by assumption) ?_
  rotate_left
  · intro w hSw; (try dsimp only at hSw); obtain ⟨_, q0⟩ := hSw; have c0 := (q0 0 _ rfl).1; have c1 := (q0 1 _ rfl).1; have c2 := (q0 2 _ rfl).1; have c3 := (q0 3 _ rfl).1; have c4 := (q0 4 _ rfl).1; have c5 := (q0 5 _ rfl).1; have c6 := (q0 6 _ rfl).1; have c7 := (q0 7 _ rfl).1; have c8 := (q0 8 _ rfl).1; have c9 := (q0 9 _ rfl).1; have c10 := (q0 10 _ rfl).1; go_simp; try with_reducible rfl
  simp only [Act.put, List.getElem_toArray, List.getElem_cons_succ, List.getElem_cons_zero, List.setIfInBounds_toArray, List.set_cons_succ, List.set_cons_zero]
  refine wpAnyH_ready (rs := [1]) (by kernel_rfl) (by simp) ?_
  refine AllReadyH.cons rfl (fun K hK => ?_) AllReadyH.nil
  go_simp
  refine (HX.out _).mono ?_
  rintro e w2 ⟨rfl, b2⟩
  have HB2 := hide (HB.out.trans (b2.mono HB.out.size))
  refine hK.out _ _ (HS.out.next b2) (fun hHeld2 => ?_)
  clear hK K hHeld
  have hHeld := hHeld2
  clear hHeld2
  simp only [List.setIfInBounds_toArray, List.set_cons_succ, List.set_cons_zero]
  refine wpAnyH_take (i := 4) (v := .bool true) rfl (by kernel_rfl) (by kernel_rfl) (by kernel_rfl) (fun _ _ _ h => h) (Or.inl ⟨by rfl, ?_⟩) (by assumption) ?_
  · intro w hSw; (try dsimp only at hSw); obtain ⟨_, q0⟩ := hSw; have c0 := (q0 0 _ rfl).1; have c1 := (q0 1 _ rfl).1; have c2 := (q0 2 _ rfl).1; have c3 := (q0 3 _ rfl).1; have c4 := (q0 4 _ rfl).1; have c5 := (q0 5 _ rfl).1; have c6 := (q0 6 _ rfl).1; have c7 := (q0 7 _ rfl).1; have c8 := (q0 8 _ rfl).1; have c9 := (q0 9 _ rfl).1; have c10 := (q0 10 _ rfl).1; go_simp
  simp only [Act.put, List.getElem_toArray, List.getElem_cons_succ, List.getElem_cons_zero, List.setIfInBounds_toArray, List.set_cons_succ, List.set_cons_zero]
  refine wpAnyH_take (i := 5) (v := ?_) rfl (by kernel_rfl) (by kernel_rfl) (by kernel_rfl) (fun _ _ _ h => h) (Or.inl ⟨by rfl, ?_⟩) (by assumption) ?_
  rotate_left
  · intro w hSw; (try dsimp only at hSw); obtain ⟨_, q0⟩ := hSw; have c0 := (q0 0 _ rfl).1; have c1 := (q0 1 _ rfl).1; have c2 := (q0 2 _ rfl).1; have c3 := (q0 3 _ rfl).1; have c4 := (q0 4 _ rfl).1; have c5 := (q0 5 _ rfl).1; have c6 := (q0 6 _ rfl).1; have c7 := (q0 7 _ rfl).1; have c8 := (q0 8 _ rfl).1; have c9 := (q0 9 _ rfl).1; have c10 := (q0 10 _ rfl).1; go_simp; try with_reducible rfl
  simp only [Act.put, List.getElem_toArray, List.getElem_cons_succ, List.getElem_cons_zero, List.setIfInBounds_toArray, List.set_cons_succ, List.set_cons_zero]
  refine wpAnyH_take (i := 6) (v := ?_) rfl (by kernel_rfl) (by kernel_rfl) (by kernel_rfl) (fun _ _ _ h => h) (Or.inl ⟨by rfl, ?_⟩) (by assumption) ?_
  rotate_left
  · intro w hSw; (try dsimp only at hSw); obtain ⟨_, q0⟩ := hSw; have c0 := (q0 0 _ rfl).1; have c1 := (q0 1 _ rfl).1; have c2 := (q0 2 _ rfl).1; have c3 := (q0 3 _ rfl).1; have c4 := (q0 4 _ rfl).1; have c5 := (q0 5 _ rfl).1; have c6 := (q0 6 _ rfl).1; have c7 := (q0 7 _ rfl).1; have c8 := (q0 8 _ rfl).1; have c9 := (q0 9 _ rfl).1; have c10 := (q0 10 _ rfl).1; go_simp; try with_reducible rfl
  simp only [Act.put, List.getElem_toArray, List.getElem_cons_succ, List.getElem_cons_zero, List.setIfInBounds_toArray, List.set_cons_succ, List.set_cons_zero]
  refine wpAnyH_take (i := 7) (v := ?_) rfl (by kernel_rfl) (by kernel_rfl) (by kernel_rfl) (fun _ _ _ h => h) (Or.inl ⟨by rfl, ?_⟩) (by assumption) ?_
  rotate_left
  · intro w hSw; (try dsimp only at hSw); obtain ⟨_, q0⟩ := hSw; have c0 := (q0 0 _ rfl).1; have c1 := (q0 1 _ rfl).1; have c2 := (q0 2 _ rfl).1; have c3 := (q0 3 _ rfl).1; have c4 := (q0 4 _ rfl).1; have c5 := (q0 5 _ rfl).1; have c6 := (q0 6 _ rfl).1; have c7 := (q0 7 _ rfl).1; have c8 := (q0 8 _ rfl).1; have c9 := (q0 9 _ rfl).1; have c10 := (q0 10 _ rfl).1; go_simp; try with_reducible rfl
  simp only [Act.put, List.getElem_toArray, List.getElem_cons_succ, List.getElem_cons_zero, List.setIfInBounds_toArray, List.set_cons_succ, List.set_cons_zero]
  refine wpAnyH_take (i := 8) (v := ?_) rfl (by kernel_rfl) (by kernel_rfl) (by kernel_rfl) (fun _ _ _ h => h) (Or.inl ⟨by rfl, ?_⟩) (by assumption) ?_
  rotate_left
  · intro w hSw; (try dsimp only at hSw); obtain ⟨_, q0⟩ := hSw; have c0 := (q0 0 _ rfl).1; have c1 := (q0 1 _ rfl).1; have c2 := (q0 2 _ rfl).1; have c3 := (q0 3 _ rfl).1; have c4 := (q0 4 _ rfl).1; have c5 := (q0 5 _ rfl).1; have c6 := (q0 6 _ rfl).1; have c7 := (q0 7 _ rfl).1; have c8 := (q0 8 _ rfl).1; have c9 := (q0 9 _ rfl).1; have c10 := (q0 10 _ rfl).1; go_simp; try with_reducible rfl
  simp only [Act.put, List.getElem_toArray, List.getElem_cons_succ, List.getElem_cons_zero, List.setIfInBounds_toArray, List.set_cons_succ, List.set_cons_zero]
  refine wpAnyH_take (i := 9) (v := ?_) rfl (by kernel_rfl) (by kernel_rfl) (by kernel_rfl) (fun _ _ _ h => h) (Or.inl ⟨by rfl, ?_⟩) (by assumption) ?_
  rotate_left
  · intro w hSw; (try dsimp only at hSw); obtain ⟨_, q0⟩ := hSw; have c0 := (q0 0 _ rfl).1; have c1 := (q0 1 _ rfl).1; have c2 := (q0 2 _ rfl).1; have c3 := (q0 3 _ rfl).1; have c4 := (q0 4 _ rfl).1; have c5 := (q0 5 _ rfl).1; have c6 := (q0 6 _ rfl).1; have c7 := (q0 7 _ rfl).1; have c8 := (q0 8 _ rfl).1; have c9 := (q0 9 _ rfl).1; have c10 := (q0 10 _ rfl).1; go_simp; try with_reducible rfl
  simp only [Act.put, List.getElem_toArray, List.getElem_cons_succ, List.getElem_cons_zero, List.setIfInBounds_toArray, List.set_cons_succ, List.set_cons_zero]
  refine wpAnyH_take (i := 10) (v := ?_) rfl (by kernel_rfl) (by kernel_rfl) (by kernel_rfl) (fun _ _ _ h => h) (Or.inl ⟨by rfl, ?_⟩) (by assumption) ?_
  rotate_left
  · intro w hSw; (try dsimp only at hSw); obtain ⟨_, q0⟩ := hSw; have c0 := (q0 0 _ rfl).1; have c1 := (q0 1 _ rfl).1; have c2 := (q0 2 _ rfl).1; have c3 := (q0 3 _ rfl).1; have c4 := (q0 4 _ rfl).1; have c5 := (q0 5 _ rfl).1; have c6 := (q0 6 _ rfl).1; have c7 := (q0 7 _ rfl).1; have c8 := (q0 8 _ rfl).1; have c9 := (q0 9 _ rfl).1; have c10 := (q0 10 _ rfl).1; go_simp; try with_reducible rfl
  simp only [Act.put, List.getElem_toArray, List.getElem_cons_succ, List.getElem_cons_zero, List.setIfInBounds_toArray, List.set_cons_succ, List.set_cons_zero]
  refine wpAnyH_take (i := 11) (v := ?_) rfl (by kernel_rfl) (by kernel_rfl) (by kernel_rfl) (fun _ _ _ h => h) (Or.inl ⟨by rfl, ?_⟩) (by assumption) ?_
  rotate_left
  · intro w hSw; (try dsimp only at hSw); obtain ⟨_, q0⟩ := hSw; have c0 := (q0 0 _ rfl).1; have c1 := (q0 1 _ rfl).1; have c2 := (q0 2 _ rfl).1; have c3 := (q0 3 _ rfl).1; have c4 := (q0 4 _ rfl).1; have c5 := (q0 5 _ rfl).1; have c6 := (q0 6 _ rfl).1; have c7 := (q0 7 _ rfl).1; have c8 := (q0 8 _ rfl).1; have c9 := (q0 9 _ rfl).1; have c10 := (q0 10 _ rfl).1; go_simp; try with_reducible rfl
  simp only [Act.put, List.getElem_toArray, List.getElem_cons_succ, List.getElem_cons_zero, List.setIfInBounds_toArray, List.set_cons_succ, List.set_cons_zero]
  refine wpAnyH_done (by kernel_rfl) ?_ _
  clear hHeld
  go_wp2
  go_ret3
  exact ⟨by rw [← HLM.out]; rfl, HB2.out⟩
end Go.Proofs.YtfhcniifennfbaaGreatDoor
