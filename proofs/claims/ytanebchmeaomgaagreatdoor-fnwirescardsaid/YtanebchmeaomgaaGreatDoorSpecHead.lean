/-
  What the specification's l3Head does: a line of a head is read into what is kept.
-/
import Derived.Test.YtanebchmeaomgaaGreatDoorMathRead2
import Derived.Deep.RegionHeld3
import Derived.Test.YtanebchmeaomgaaGreatDoorSpecSm
import Derived.Test.YtanebchmeaomgaaGreatDoorPlain
import Derived.Test.YtanebchmeaomgaaGreatDoorPutHead
import Derived.Test.YtanebchmeaomgaaGreatDoorMathBack
namespace Go.Proofs.YtanebchmeaomgaaGreatDoor
open Go.RowKit M
set_option linter.unusedVariables false

/-- What l3Head hands back. -/
def HeadIs (C N : Nat) (w0 : World) (m p : ByteArray) (hs : List Hd) (lv : Value) (ls : List ByteArray) (r : Option Hd) (e : Ending) (W : World) : Prop :=
  match r with
  | none => e = .returned (.int .i64 400) ∧ Below C w0 W
  | some h => e = .returned (.int .i64 0) ∧ FrS C N w0 m p (hs ++ [h]) lv ls W
theorem u8_58 {c : UInt8} (h : ((c.toNat : Int) == 58) = true) : c = 58 := by
  rw [beq_iff_eq] at h
  exact UInt8.toNat_inj.1 (by simpa using Int.ofNat.inj h)
theorem FrS.bel {C N : Nat} {w0 W : World} {m p : ByteArray} {hs : List Hd} {lv : Value} {ls : List ByteArray} (h : FrS C N w0 m p hs lv ls W) : Below C w0 W ∧ N < W.heap.size := by
  obtain ⟨_, _, h1, _, _, _, _, _, _, h8, _⟩ := h
  exact ⟨h8, (Array.getElem?_eq_some_iff.1 h1).1⟩
theorem cells2h {W : World} {N : Nat} {v0 v1 : Value} {t : TypeId} (h : W.heap[N]? = some (.cells #[v0, v1] t)) : W.cell? ⟨N, 0, none⟩ = some v0 ∧ W.cell? ⟨N, 1, none⟩ = some v1 ∧ W.frozen? ⟨N, 0, none⟩ = false ∧ W.frozen? ⟨N, 1, none⟩ = false := by
  refine ⟨?_, ?_, ?_, ?_⟩
  all_goals first | (unfold World.cell?; rw [h]; rfl) | (unfold World.frozen?; rw [h]; rfl)
theorem t_of {line t : ByteArray} {k : Nat} (h : t.data.toList = trimL (line.extract (k + 1) line.size).data.toList) : t = bytesOf (trimL (line.data.toList.drop (k + 1))) := by
  have e : (line.extract (k + 1) line.size).data.toList = line.data.toList.drop (k + 1) := by
    rw [extract_pieceB]
    show (line.data.toList.drop (k + 1)).take (line.size - (k + 1)) = _
    rw [List.take_of_length_le]
    rw [List.length_drop]
    have : line.data.toList.length = line.size := Array.length_toList
    omega
  rw [e] at h
  apply ByteArray.ext
  apply Array.ext'
  exact h
theorem codes_len_le (hs : List Hd) : (codesF hs).length ≤ hs.length := by
  induction hs using snocInd with
  | nil => exact Nat.le_refl _
  | append_singleton hs h ih =>
    rw [List.length_append]
    by_cases e : h.1 = lenName
    · rw [codes_len e]; omega
    · by_cases e2 : h.1 = codName
      · rw [codes_cod e2, List.length_append]; split <;> simp <;> omega
      · rw [codes_oth e e2, List.length_append]; split <;> simp <;> omega
theorem chk_bneH (s : ByteArray) : (((⟨(lowL s.data.toList).toArray⟩ : ByteArray).toList) != [99, 104, 117, 110, 107, 101, 100]) = !decide (lowL s.data.toList = inPcs) := by
  rw [ByteArray.toList_eq]
  show ((lowL s.data.toList).toArray.toList != inPcs) = _
  by_cases h : lowL s.data.toList = inPcs <;> simp [h]
theorem chk_beqH (s : ByteArray) : (((⟨(lowL s.data.toList).toArray⟩ : ByteArray).toList) == [99, 104, 117, 110, 107, 101, 100]) = decide (lowL s.data.toList = inPcs) := by
  rw [ByteArray.toList_eq]
  show ((lowL s.data.toList).toArray.toList == inPcs) = _
  by_cases h : lowL s.data.toList = inPcs <;> simp [h]
theorem chk_lowH (s : ByteArray) : (lowL s.data.toList == [99, 104, 117, 110, 107, 101, 100]) = decide (lowL s.data.toList = inPcs) := by
  show (lowL s.data.toList == inPcs) = _
  by_cases h : lowL s.data.toList = inPcs <;> simp [h]
theorem way_alloc {C N : Nat} {w0 w w1 : World} {m p : ByteArray} {hs : List Hd} {lv : Value} {ls : List ByteArray} {X : World} (h : FrS C N w0 m p hs lv ls w) (b : Below X.heap.size X w1) (hX : Below w.heap.size w X) (v0 v1 : Value) :
    ∃ W, w1.alloc (Obj.cells #[v0, v1] 82) = W ∧ W.heap[w1.heap.size]? = some (Obj.cells #[v0, v1] 82) ∧ FrS C N w0 m p hs lv ls W :=
  ⟨_, rfl, heap_alloc_new _ _, h.next ((hX.trans (b.mono hX.size)).trans ((Below.refl w1.heap.size w1).alloc (Nat.le_refl _) _ |>.mono (Nat.le_trans hX.size b.size)))⟩
theorem way_set {C N : Nat} {w0 w w1 : World} {m p : ByteArray} {hs : List Hd} {lv : Value} {ls : List ByteArray} {X : World} (h : FrS C N w0 m p hs lv ls w) (b : Below X.heap.size X w1) (hX : Below w.heap.size w X) {a0 a1 : Value} (hb : w1.heap[w.heap.size]? = some (Obj.cells #[a0, a1] 82)) (v0 v1 : Value) :
    ∃ W, (w1.setCell ⟨w.heap.size, 0, none⟩ v0).setCell ⟨w.heap.size, 1, none⟩ v1 = W ∧ W.heap[w.heap.size]? = some (Obj.cells #[v0, v1] 82) ∧ FrS C N w0 m p hs lv ls W :=
  ⟨_, rfl, set_heap (set_heap hb 0 v0) 1 v1, h.next (((hX.trans (b.mono hX.size)).setCell (p := ⟨w.heap.size, 0, none⟩) (Nat.le_refl _) _).setCell (p := ⟨w.heap.size, 1, none⟩) (Nat.le_refl _) _)⟩
set_option maxRecDepth 100000 in
set_option maxHeartbeats 4000000 in
theorem l3Head_any (C N : Nat) (w0 : World) (m p : ByteArray) (hs : List Hd) (lv : Value) (ls : List ByteArray) (line : ByteArray) (w : World) (h : FrS C N w0 m p hs lv ls w) (hl : line.size ≤ 1048576) (hhs : hs.length ≤ 1048576) :
    Calls Tryz.prog 121 #[.pointer (some ⟨N, 0, none⟩), .string line] w fun e w' => HeadIs C N w0 m p hs lv ls (okLine line.data.toList) e w' := by
  have HF := hide h
  have el : line.data.toList.length = line.size := Array.length_toList
  have EL := hide el
  clear h el
  go_enter Tryz.func121, Tryz.ntmps121
  go_wp2
  go_loop [5] (fun i => ∃ k : Nat, k ≤ line.size ∧ i = .int .i64 k ∧ ∀ x ∈ line.data.toList.take k, ¬ x = 58) (fun i => line.size - (intOf i).toNat)
  case atStart => exact ⟨0, Nat.zero_le _, rfl, fun x hx => by simp at hx⟩
  case round =>
    obtain ⟨k, hk, rfl, hn⟩ := hrel
    have HN := hide hn
    clear hn
    by_cases hlt : k < line.size
    · by_cases hc : line[k] = 58
      · have hb : ((line[k].toNat : Int) == 58) = true := by rw [hc]; rfl
        have hb' : ((line[k].toNat : Int) != 58) = false := by simp only [bne, hb]; rfl
        have hne : ((k : Int) == line.size) = false := by apply beq_eq_false_iff_ne.2; omega
        have hcut : cut1 58 line.data.toList = some (line.data.toList.take k, line.data.toList.drop (k + 1)) := by
          rw [cut1_some]
          refine ⟨?_, fun hm => HN.out _ hm rfl⟩
          have hk' : k < line.data.toList.length := by rw [EL.out]; exact hlt
          conv => lhs; rw [← List.take_append_drop k line.data.toList]
          rw [List.drop_eq_getElem_cons hk']
          have : line.data.toList[k] = 58 := hc
          rw [this]
        have HCut := hide hcut
        have hx1 : (line.extract 0 k).size ≤ 140737488355328 := by simp [ByteArray.size_extract]; omega
        have hx2 : (line.extract (k + 1) line.size).size ≤ maxLen := by simp [ByteArray.size_extract]; unfold maxLen; omega
        have HLo := hide (fun (W : World) => specLower_any (line.extract 0 k) W hx1)
        have HTr := hide (fun (W : World) => specTrim_any (line.extract (k + 1) line.size) W hx2)
        have hltA : w.heap.size < (w.alloc (Obj.cells #[.string ⟨#[]⟩, .string ⟨#[]⟩] 82)).drew.heap.size := by simp
        have hA : (w.alloc (Obj.cells #[.string ⟨#[]⟩, .string ⟨#[]⟩] 82)).drew.heap[w.heap.size]? = some (Obj.cells #[.string ⟨#[]⟩, .string ⟨#[]⟩] 82) := heap_alloc_new w _
        have hXd : Below w.heap.size w w.drew := (Below.refl _ _).drew
        have hXa : Below w.heap.size w (w.alloc (Obj.cells #[.string ⟨#[]⟩, .string ⟨#[]⟩] 82)).drew := ((Below.refl _ _).alloc (Nat.le_refl _) _).drew
        have hk1 : (k : Int) + 1 ≤ (line.size : Int) := by omega
        have hk2 : ¬ ((line.size : Int) < (k : Int) + 1) := by omega
        have hk3 : (0 : Int) ≤ (k : Int) + 1 := by omega
        have hk4 : ((k : Int) + 1).toNat = k + 1 := by omega
        have hwr : IntKind.i64.wrap ((k : Int) + 1) = (k : Int) + 1 := by rw [IntKind.wrap_i64]; omega
        clear hcut hx1 hx2 hc
        go_wp2
        go_region_held3 (fun _ => True) (trivial) ((first | (go_at_call 162; refine (HLo.out _).mono ?_; rintro e w1 ⟨rfl, b1⟩; first | (have y1 := (b1.block w.heap.size hltA).trans hA; obtain ⟨x0, x1, z0, z1⟩ := cells2h y1) | skip) | (go_at_call 155; refine (HTr.out _).mono ?_; rintro e w2 ⟨⟨t, rfl, ht⟩, hw⟩; obtain rfl := hw.symm)))
        all_goals
          have ht' : t = bytesOf (trimL (line.data.toList.drop (k + 1))) := t_of ht
          have HTt := hide ht'
          clear ht ht'
          first
          | (obtain ⟨W, hW, hbox, hFr⟩ := way_alloc HF.out b1 hXd (.string ⟨(lowL (line.data.toList.take k)).toArray⟩) (.string t); rw [hW]; obtain ⟨M, hM⟩ : ∃ M, w1.heap.size = M := ⟨_, rfl⟩; rw [hM] at hbox ⊢)
          | (obtain ⟨W, hW, hbox, hFr⟩ := way_set HF.out b1 hXa y1 (.string ⟨(lowL (line.data.toList.take k)).toArray⟩) (.string t); rw [hW]; obtain ⟨M, hM⟩ : ∃ M, w.heap.size = M := ⟨_, rfl⟩; rw [hM] at hbox ⊢)
        all_goals
          obtain ⟨nm, hnm⟩ : ∃ nm : ByteArray, (⟨(lowL (line.data.toList.take k)).toArray⟩ : ByteArray) = nm := ⟨_, rfl⟩
          rw [hnm] at hbox ⊢
          have hS : headS line.data.toList = if hdB (nm, t) then some (nm, t) else none := by
            unfold headS
            rw [HCut.out]
            show (if hdB (bytesOf (lowL (line.data.toList.take k)), bytesOf (trimL (line.data.toList.drop (k + 1)))) then some (bytesOf (lowL (line.data.toList.take k)), bytesOf (trimL (line.data.toList.drop (k + 1)))) else none) = _
            rw [← HTt.out, ← hnm]
            rfl
          have hz1 : nm.size ≤ 1048576 := by
            have e := congrArg ByteArray.size hnm
            have e2 : (⟨(lowL (line.data.toList.take k)).toArray⟩ : ByteArray).size = (line.data.toList.take k).length := by show (lowL (line.data.toList.take k)).toArray.size = _; rw [List.size_toArray]; exact List.length_map _
            have e3 : (line.data.toList.take k).length ≤ k := by rw [List.length_take]; omega
            omega
          have hz2 : t.size ≤ 1048576 := by
            have e := congrArg ByteArray.size HTt.out
            have e2 : (bytesOf (trimL (line.data.toList.drop (k + 1)))).size = (trimL (line.data.toList.drop (k + 1))).length := by simp [bytesOf, ByteArray.size]
            have e3 := trim_len (line.data.toList.drop (k + 1))
            have e4 : (line.data.toList.drop (k + 1)).length ≤ line.size := by rw [List.length_drop, EL.out]; omega
            omega
          have HS := hide hS
          have HFr := hide hFr
          have HBox := hide hbox
          have hm1 : nm.size ≤ maxLen := by unfold maxLen; omega
          have hm2 : t.size ≤ maxLen := by unfold maxLen; omega
          have HSm := hide (fun (X : World) => specSmallName_any nm X hm1)
          have HVa := hide (fun (X : World) => l3Val_any t X hm2)
          have HPa := hide (fun (X : World) => specParseNum_any t 9999999 X hm2)
          have HLw := hide (fun (X : World) => specLower_any t X (by omega))
          obtain ⟨x0, x1, z0, z1⟩ := cells2h hbox
          try clear y1
          clear hnm hS hFr hbox hm1 hm2 HLo HTr hltA hA hXd hXa hk1 hk2 hk3 hk4 hwr HCut HTt b1 hW hM HF HN
          cases hsm : smB nm.data.toList
          · have HE : Hid (okLine line.data.toList = none) := hide (by unfold okLine; rw [HS.out]; simp [hdB, hsm])
            go_wp2_with (go_at_call 113; refine (HSm.out _).mono ?_; rintro e w2 ⟨rfl, hw⟩; obtain rfl := hw.symm; rw [hsm])
            go_ret
            rw [HE.out]
            exact ⟨rfl, HFr.out.bel.1⟩
          · cases hva : valB t
            · have HE : Hid (okLine line.data.toList = none) := hide (by unfold okLine; rw [HS.out]; simp [hdB, hva])
              go_wp2_with (first | (go_at_call 113; refine (HSm.out _).mono ?_; rintro e w2 ⟨rfl, hw⟩; obtain rfl := hw.symm; rw [hsm]) | (go_at_call 163; refine (HVa.out _).mono ?_; rintro e w2 ⟨rfl, hw⟩; obtain rfl := hw.symm; rw [hva]))
              go_ret
              rw [HE.out]
              exact ⟨rfl, HFr.out.bel.1⟩
            · have HOk : Hid (headS line.data.toList = some (nm, t)) := hide (by rw [HS.out]; simp [hdB, hsm, hva])
              clear HS
              have e3 := lenEq nm
              have e4 := codEq nm
              obtain ⟨c4, c5, f4, f5⟩ := FrR.cells HFr.out
              by_cases h3 : nm = lenName
              · rw [decide_eq_true h3] at e3
                have H3 := hide h3
                obtain ⟨W1, hW1⟩ : ∃ W1, W.setCell ⟨N, 4, none⟩ (.int .i64 (parseNum t.data.toList 9999999).1) = W1 := ⟨_, rfl⟩
                obtain ⟨W2, hW2⟩ : ∃ W2, W1.setCell ⟨N, 5, none⟩ (.int .i64 ((toldF hs : Int) + 1)) = W2 := ⟨_, rfl⟩
                have hF1 := FrR.set_size HFr.out (parseNum t.data.toList 9999999).1
                rw [hW1] at hF1
                have hF2 := FrR.set_told hF1 ((toldF hs : Int) + 1)
                rw [hW2] at hF2
                obtain ⟨d4, d5, g4, g5⟩ := FrR.cells hF1
                have HF2 := hide hF2
                have htl : toldF hs ≤ 2097152 := by unfold toldF; have := lens_le hs; have := cods_le hs; omega
                clear hF1 hF2 h3 e4
                cases hno : (parseNum t.data.toList 9999999).2
                · have HE : Hid (okLine line.data.toList = none) := hide (by unfold okLine; rw [HOk.out]; simp [H3.out, numOk, hno])
                  go_wp2_with (first | (go_at_call 113; refine (HSm.out _).mono ?_; rintro e w2 ⟨rfl, hw⟩; obtain rfl := hw.symm; rw [hsm]) | (go_at_call 163; refine (HVa.out _).mono ?_; rintro e w2 ⟨rfl, hw⟩; obtain rfl := hw.symm; rw [hva]) | (go_at_call 164; refine (HPa.out _).mono ?_; rintro e w2 ⟨rfl, hw⟩; obtain rfl := hw.symm; rw [hno]))
                  go_ret
                  rw [HE.out]
                  exact ⟨rfl, HF2.out.bel.1⟩
                · have HE : Hid (okLine line.data.toList = some (nm, t)) := hide (by unfold okLine; rw [HOk.out]; simp [numOk, hno])
                  go_wp2_with (first | (go_at_call 113; refine (HSm.out _).mono ?_; rintro e w2 ⟨rfl, hw⟩; obtain rfl := hw.symm; rw [hsm]) | (go_at_call 163; refine (HVa.out _).mono ?_; rintro e w2 ⟨rfl, hw⟩; obtain rfl := hw.symm; rw [hva]) | (go_at_call 164; refine (HPa.out _).mono ?_; rintro e w2 ⟨rfl, hw⟩; obtain rfl := hw.symm; rw [hno]))
                  go_ret
                  rw [HE.out]
                  refine ⟨rfl, ?_⟩
                  have e1 : (nm, t).1 = lenName := H3.out
                  unfold FrS
                  rw [codes_len e1, size_len e1, told_len e1, oth_snoc, if_pos (Or.inl e1), List.append_nil]
                  exact HF2.out
              · rw [decide_eq_false h3] at e3
                by_cases h4 : nm = codName
                · rw [decide_eq_true h4] at e4
                  have H4 := hide h4
                  obtain ⟨W1, hW1⟩ : ∃ W1, W.setCell ⟨N, 4, none⟩ (.int .i64 (-1)) = W1 := ⟨_, rfl⟩
                  obtain ⟨W2, hW2⟩ : ∃ W2, W1.setCell ⟨N, 5, none⟩ (.int .i64 ((toldF hs : Int) + 1)) = W2 := ⟨_, rfl⟩
                  have hF1 := FrR.set_size HFr.out (-1)
                  rw [hW1] at hF1
                  have hF2 := FrR.set_told hF1 ((toldF hs : Int) + 1)
                  rw [hW2] at hF2
                  obtain ⟨d4, d5, g4, g5⟩ := FrR.cells hF1
                  have HF2 := hide hF2
                  have htl : toldF hs ≤ 2097152 := by unfold toldF; have := lens_le hs; have := cods_le hs; omega
                  have HE : Hid (okLine line.data.toList = some (nm, t)) := hide (by unfold okLine; rw [HOk.out]; simp [h3])
                  have hMN : M ≠ N := by
                    intro e
                    obtain ⟨_, _, h1, _⟩ := HFr.out
                    have := HBox.out
                    rw [e, h1] at this
                    have := congrArg (fun o => match o with | some (Obj.cells a ..) => a.size | _ => 0) this
                    simp at this
                  have j1 : W1.cell? ⟨M, 1, none⟩ = some (.string t) := by rw [← hW1]; exact cell_far x1 hMN
                  have j2 : W2.cell? ⟨M, 1, none⟩ = some (.string t) := by rw [← hW2]; exact cell_far j1 hMN
                  clear hF1 hF2 h4
                  go_wp2_with (first | (go_at_call 113; refine (HSm.out _).mono ?_; rintro e w2 ⟨rfl, hw⟩; obtain rfl := hw.symm; rw [hsm]) | (go_at_call 163; refine (HVa.out _).mono ?_; rintro e w2 ⟨rfl, hw⟩; obtain rfl := hw.symm; rw [hva]))
                  refine (HLw.out _).mono ?_
                  rintro e W3 ⟨rfl, b3⟩
                  have hF3 := FrR.next HF2.out b3
                  have HF3 := hide hF3
                  have p1 := chk_bneH t
                  have p2 := chk_beqH t
                  have p3 := chk_lowH t
                  clear hF3 b3 hW1 hW2 d4 d5 g4 g5 c4 c5 f4 f5 j1 j2 x0 x1 z0 z1 HSm HVa HPa HLw HF2
                  cases hco : codOk (nm, t)
                  · have hco' : decide (lowL t.data.toList = inPcs) = false := hco
                    rw [hco'] at p1 p2 p3
                    simp only [Bool.not_false] at p1
                    have HCo := hide hco
                    clear hco
                    obtain ⟨hv, cv, h1, h2, h3', h4, h5, h6, h7, h8, h9⟩ := HF3.out
                    have cc : W3.cell? ⟨N, 6, none⟩ = some cv := by unfold World.cell?; rw [h1]; rfl
                    have hNlt : N < W3.heap.size := (Array.getElem?_eq_some_iff.1 h1).1
                    have hlc : (codesF hs).length + 1 ≤ 1099511627776 := by have := codes_len_le hs; omega
                    have HH1 := hide h1
                    have HH2 := hide h2
                    have HH3 := hide h3'
                    have HH4 := hide h4
                    have HH8 := hide h8
                    clear h1 h2 h3' h4 h8 hco'
                    go_wp2_with (at_builtin; refine wp_append_int2 rfl _ _ rfl (N + 1) cv (codesF hs).length (codesF hs) rfl (row_alloc HH3.out _) W3.heap.size 501 rfl ?c1 ?c2 ?c3 ?_)
                    case c1 => unfold World.cell?; rw [heap_alloc_new]; rfl
                    case c2 => exact hlc
                    case c3 => simp; omega
                    intro g1 cap1 w' ho hg hwh
                    have hbg := row_grown (row_alloc HH3.out (Obj.cells #[.int .i64 501] 3)) (by simp; omega) hg
                    have h1' := (hbg.block N (Nat.lt_succ_self _)).trans ((((Below.refl W3.heap.size W3).alloc (Nat.le_refl _) (Obj.cells #[.int .i64 501] 3)).block N hNlt).trans HH1.out)
                    have cc' : w'.cell? ⟨N, 6, none⟩ = some cv := by unfold World.cell?; rw [h1']; rfl
                    have ff' : w'.frozen? ⟨N, 6, none⟩ = false := by unfold World.frozen?; rw [h1']; rfl
                    have HO := hide ho
                    have HGr := hide hg
                    have HWh := hide hwh
                    clear ho hg hwh hbg h1' cc
                    go_wp2
                    go_ret
                    rw [HE.out]
                    refine ⟨rfl, ?_⟩
                    have e1 : (nm, t).1 = codName := H4.out
                    unfold FrS
                    rw [codes_cod e1, size_cod e1, told_cod e1, oth_snoc, if_pos (Or.inr e1), if_neg (by rw [HCo.out]; simp), List.append_nil]
                    exact fr_codes HH1.out HH2.out HH3.out HH4.out h5 h6 h7 HH8.out h9 ((Below.refl W3.heap.size W3).alloc (Nat.le_refl _) _) HGr.out HO.out (by simpa using HWh.out)
                  · have hco' : decide (lowL t.data.toList = inPcs) = true := hco
                    rw [hco'] at p1 p2 p3
                    simp only [Bool.not_true] at p1
                    have HCo := hide hco
                    clear hco hco'
                    go_wp2
                    go_ret
                    rw [HE.out]
                    refine ⟨rfl, ?_⟩
                    have e1 : (nm, t).1 = codName := H4.out
                    unfold FrS
                    rw [codes_cod e1, size_cod e1, told_cod e1, oth_snoc, if_pos (Or.inr e1), if_pos HCo.out, List.append_nil, List.append_nil]
                    exact HF3.out
                · rw [decide_eq_false h4] at e4
                  have HE : Hid (okLine line.data.toList = some (nm, t)) := hide (by unfold okLine; rw [HOk.out]; simp [h3])
                  have H3 := hide h3
                  have H4 := hide h4
                  obtain ⟨hv, cv, h1, h2, h3', h4', h5, h6, h7, h8, h9⟩ := HFr.out
                  have c2 : W.cell? ⟨N, 2, none⟩ = some hv := by unfold World.cell?; rw [h1]; rfl
                  have hNlt : N < W.heap.size := (Array.getElem?_eq_some_iff.1 h1).1
                  have hlo : (othOf hs).length + 1 ≤ 1099511627776 := by have := oth_le hs; omega
                  have hq0 : (W.alloc (Obj.cells #[.string nm, .string t] 82)).drew.cell? ⟨W.heap.size, 0, none⟩ = some (.string nm) := by
                    show (W.alloc _).cell? _ = _
                    unfold World.cell?; rw [heap_alloc_new]; rfl
                  have hq1 : (W.alloc (Obj.cells #[.string nm, .string t] 82)).drew.cell? ⟨W.heap.size, 1, none⟩ = some (.string t) := by
                    show (W.alloc _).cell? _ = _
                    unfold World.cell?; rw [heap_alloc_new]; rfl
                  have hbD : Below W.heap.size W (W.alloc (Obj.cells #[.string nm, .string t] 82)).drew := ((Below.refl _ _).alloc (Nat.le_refl _) _).drew
                  have hq2 : (W.alloc (Obj.cells #[.string nm, .string t] 82)).drew.ownsRow (N + 1) 82 2 hv (othOf hs).length (hdCells (othOf hs)) := ownsH_below h2 hbD
                  have hq3 : N + 1 ≤ (W.alloc (Obj.cells #[.string nm, .string t] 82)).drew.heap.size := by simp; omega
                  have HH1 := hide h1
                  have HH2 := hide h2
                  have HH3 := hide h3'
                  have HH4 := hide h4'
                  have HH8 := hide h8
                  have HQ0 := hide hq0
                  have HQ1 := hide hq1
                  have HQ2 := hide hq2
                  have HQ3 := hide hq3
                  have HBD := hide hbD
                  clear h1 h2 h3 h3' h4 h4' h8 hq0 hq1 hq2 hq3 hbD c4 c5 f4 f5
                  go_wp2_with (first | (go_at_call 113; refine (HSm.out _).mono ?_; rintro e w2 ⟨rfl, hw⟩; obtain rfl := hw.symm; rw [hsm]) | (go_at_call 163; refine (HVa.out _).mono ?_; rintro e w2 ⟨rfl, hw⟩; obtain rfl := hw.symm; rw [hva]))
                  go_region_law (refine step_append_head2 rfl _ _ rfl (N + 1) hv (othOf hs).length (othOf hs) rfl HQ2.out W.heap.size (nm, t) rfl HQ0.out HQ1.out hlo HQ3.out ?_
                                 intro g1 cap1 w' ho hg hwh
                                 have h1' := ((row_grown HQ2.out HQ3.out hg).block N (Nat.lt_succ_self _)).trans ((HBD.out.block N hNlt).trans HH1.out)
                                 have cc' : w'.cell? ⟨N, 2, none⟩ = some hv := by unfold World.cell?; rw [h1']; rfl
                                 have ff' : w'.frozen? ⟨N, 2, none⟩ = false := by unfold World.frozen?; rw [h1']; rfl
                                 have HO := hide ho
                                 have HGr := hide hg
                                 have HWh := hide hwh
                                 clear ho hg hwh h1')
                  all_goals
                    obtain ⟨W5, hW5⟩ : ∃ W5, w'.setCell ⟨N, 2, none⟩ (.slice (some ⟨g1, 0, none⟩) ((othOf hs).length + 1) cap1) = W5 := ⟨_, rfl⟩
                    have hF5 := fr_heads HH1.out HH2.out HH3.out HH4.out h5 h6 h7 HH8.out h9 HBD.out HGr.out HO.out HWh.out
                    rw [hW5] at hF5
                    have q2 : W5.cell? ⟨N, 2, none⟩ = some (.slice (some ⟨g1, 0, none⟩) ((othOf hs).length + 1) cap1) := by rw [← hW5]; exact World.cell?_setCell_same _ _ _ cc'
                    have HF5 := hide hF5
                    rw [hW5]
                    have e1 : ¬ (nm, t).1 = lenName := H3.out
                    have e2 : ¬ (nm, t).1 = codName := H4.out
                    have hoth : othOf (hs ++ [(nm, t)]) = othOf hs ++ [(nm, t)] := by rw [oth_snoc, if_neg (by rintro (e | e); exact e1 e; exact e2 e)]
                    have hnew : FrS C N w0 m p (hs ++ [(nm, t)]) lv ls = FrR C N w0 m p (othOf hs ++ [(nm, t)]) (sizeF hs) (toldF hs) (codesF hs ++ (if 8 < (othOf hs).length + 1 then [431] else [])) lv ls := by
                      unfold FrS
                      rw [codes_oth e1 e2, size_oth e1 e2, told_oth e1 e2, hoth]
                    have HNew := hide hnew
                    clear hF5 hnew hoth e1 e2 cc' ff' hW5 HH1 HH2 HH3 HH4 HH8 HO HGr HWh HQ0 HQ1 HQ2 HQ3 HBD h5 h6 h7 h9 c2 hNlt
                    by_cases h8 : 8 < (othOf hs).length + 1
                    · have h8' : (8 : Int) < ((othOf hs).length : Int) + 1 := by omega
                      obtain ⟨hv', cv', h1, h2, h3', h4', h5, h6, h7, h8b, h9⟩ := HF5.out
                      have c6 : W5.cell? ⟨N, 6, none⟩ = some cv' := by unfold World.cell?; rw [h1]; rfl
                      have hNlt : N < W5.heap.size := (Array.getElem?_eq_some_iff.1 h1).1
                      have hlc : (codesF hs).length + 1 ≤ 1099511627776 := by have := codes_len_le hs; omega
                      have HH1 := hide h1
                      have HH2 := hide h2
                      have HH3 := hide h3'
                      have HH4 := hide h4'
                      have HH8 := hide h8b
                      have H8 := hide h8
                      clear h1 h2 h3' h4' h8b h8
                      go_wp2_with (at_builtin; refine wp_append_int2 rfl _ _ rfl (N + 1) cv' (codesF hs).length (codesF hs) rfl (row_alloc HH3.out _) W5.heap.size 431 rfl ?c1 ?c2 ?c3 ?_)
                      case c1 => unfold World.cell?; rw [heap_alloc_new]; rfl
                      case c2 => exact hlc
                      case c3 => simp; omega
                      intro g6 cap6 w6 ho hg hwh
                      have hbg := row_grown (row_alloc HH3.out (Obj.cells #[.int .i64 431] 3)) (by simp; omega) hg
                      have h1' := (hbg.block N (Nat.lt_succ_self _)).trans ((((Below.refl W5.heap.size W5).alloc (Nat.le_refl _) (Obj.cells #[.int .i64 431] 3)).block N hNlt).trans HH1.out)
                      have cc' : w6.cell? ⟨N, 6, none⟩ = some cv' := by unfold World.cell?; rw [h1']; rfl
                      have ff' : w6.frozen? ⟨N, 6, none⟩ = false := by unfold World.frozen?; rw [h1']; rfl
                      have HO := hide ho
                      have HGr := hide hg
                      have HWh := hide hwh
                      clear ho hg hwh hbg h1' c6
                      go_wp2
                      go_ret
                      rw [HE.out]
                      refine ⟨rfl, ?_⟩
                      rw [HNew.out, if_pos H8.out]
                      exact fr_codes HH1.out HH2.out HH3.out HH4.out h5 h6 h7 HH8.out h9 ((Below.refl W5.heap.size W5).alloc (Nat.le_refl _) _) HGr.out HO.out (by simpa using HWh.out)
                    · have h8' : ¬ (8 : Int) < ((othOf hs).length : Int) + 1 := by omega
                      have H8 := hide h8
                      clear h8
                      go_wp2
                      go_ret
                      rw [HE.out]
                      refine ⟨rfl, ?_⟩
                      rw [HNew.out, if_neg H8.out, List.append_nil]
                      exact HF5.out
      · have hb : ((line[k].toNat : Int) == 58) = false := by
          cases h : ((line[k].toNat : Int) == 58)
          · rfl
          · exact absurd (u8_58 h) hc
        have hb' : ((line[k].toNat : Int) != 58) = true := by simp only [bne, hb]; rfl
        have HE : Hid (∀ x ∈ line.data.toList.take (k + 1), ¬ x = 58) := hide (by
          have hk' : k < line.data.toList.length := by rw [EL.out]; exact hlt
          rw [List.take_succ_eq_append_getElem hk']
          intro x hx
          rcases List.mem_append.1 hx with hx | hx
          · exact HN.out x hx
          · simp at hx; subst hx; exact hc)
        clear hc
        go_wp2
        go_round
        case rel => exact ⟨k + 1, by omega, by go_num, HE.out⟩
        case measure => simp [intOf]; omega
    · have hks : k = line.size := by omega
      have hne : ((k : Int) == line.size) = true := by rw [hks]; simp
      have HE : Hid (okLine line.data.toList = none) := hide (by
        have : cut1 58 line.data.toList = none := by
          cases e : cut1 58 line.data.toList with
          | none => rfl
          | some q =>
            obtain ⟨e1, _⟩ := cut1_some.1 e
            have := HN.out 58 (by rw [List.take_of_length_le (by rw [EL.out]; omega), e1]; simp)
            exact absurd rfl this
        unfold okLine headS; rw [this])
      clear hks
      go_wp2
      go_ret
      rw [HE.out]
      exact ⟨rfl, HF.out.bel.1⟩
end Go.Proofs.YtanebchmeaomgaaGreatDoor
