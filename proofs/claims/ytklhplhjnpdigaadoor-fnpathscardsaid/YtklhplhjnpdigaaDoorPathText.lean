/-
  What the specification's and the program's PathText do.
-/
import Derived.Test.YtklhplhjnpdigaaDoorSpecPathOk
import Derived.Test.YtklhplhjnpdigaaDoorSpecQuote
import Derived.Test.YtklhplhjnpdigaaDoorQuote
namespace Go.Proofs.YtklhplhjnpdigaaDoor
open Go.RowKit M
set_option linter.unusedVariables false

set_option maxHeartbeats 1000000 in
theorem specPathText_any (a : Option Addr) (ss : List ByteArray) (cap B : Nat) (w : World) (h : Strs w B a ss) (hB : B ≤ w.heap.size) (hs : Short ss) (hl : ss.length ≤ maxLen) :
    Calls Tryd.prog 12 #[.slice a ss.length cap] w fun e w' => e = .returned (.string (bytesOf (ptextL ss))) ∧ Below w.heap.size w w' := by
  have hl' := hl
  unfold maxLen at hl'
  cases hp : pathB ss
  · go_enter Tryd.func12, Tryd.ntmps12
    go_wp2_with fail
    refine (specPathOk_any a ss cap B w h hs hl).mono ?_
    rintro e w1 ⟨rfl, hw⟩
    obtain rfl := hw.symm
    rw [hp]
    go_wp2
    go_ret
    exact ⟨by rw [ptextL_not hp]; rfl, Below.refl _ _⟩
  · have h4 := pathB_len hp
    go_enter Tryd.func12, Tryd.ntmps12
    go_wp2_with fail
    refine (specPathOk_any a ss cap B w h hs hl).mono ?_
    rintro e w1 ⟨rfl, hw⟩
    obtain rfl := hw.symm
    rw [hp]
    go_wp2
    go_loopw [3, 4] (fun v i wr => ∃ k : Nat, k ≤ ss.length ∧ i = .int .i64 k ∧ v = .string (bytesOf (tellL (ss.take k))) ∧ Below w.heap.size w wr) (fun _ i _ => ss.length - (intOf i).toNat)
    case atStart => exact ⟨0, Nat.zero_le _, rfl, rfl, Below.refl _ _⟩
    case round =>
      obtain ⟨k, hk, rfl, rfl, hbe⟩ := hrel
      have HT : Hid ((tellL (ss.take k)).length ≤ 25 * k) := tellL_le hp k hk
      by_cases hlt : k < ss.length
      · have HE : Hid (tellL (ss.take (k + 1)) = tellL (ss.take k) ++ [47] ++ quoteL (ss[k]).data.toList) := tellL_snoc ss k hlt
        have h8 := nameB_size (pathB_name hp k hlt)
        obtain ⟨b, o, rfl, hb, hc⟩ := (h.below hbe hB) (by omega)
        have hcx := hc k hlt
        have hz1 : (bytesOf (tellL (ss.take k))).size ≤ 100 := by rw [bytesOf_size]; have := HT.out; omega
        have hz2 := quote_short h8
        go_wp2_with fail
        refine (specQuote_any _ wr (by omega)).mono ?_
        rintro e w1 ⟨rfl, b1⟩
        go_wp2
        go_roundw
        case rel =>
          refine ⟨k + 1, by omega, by go_num, ?_, hbe.trans (b1.mono hbe.size)⟩
          rw [HE.out, ← bytesOf_append, ← bytesOf_append]
          rfl
        case measure => simp [intOf]; omega
      · by_cases h0 : ss = []
        · subst h0
          have hk0 : k = 0 := by simp at hk; exact hk
          subst hk0
          have hz0 : (bytesOf (tellL [])).toList.isEmpty = true := by rw [ByteArray.toList_eq]; rfl
          go_wp2
          go_ret
          exact ⟨by rw [ptextL_nil]; rfl, hbe⟩
        · have HT2 : Hid (tellL (ss.take k) = ptextL ss) := by
            show tellL (ss.take k) = ptextL ss
            rw [sumS_all ss k hlt, ptextL_some hp h0]
          have hz0 : (bytesOf (tellL (ss.take k))).toList.isEmpty = false := by
            rw [ByteArray.toList_eq, sumS_all ss k hlt]
            cases ss with
            | nil => exact absurd rfl h0
            | cons x r => simp [bytesOf, tellL]
          go_wp2
          go_ret
          exact ⟨by rw [← HT2.out]; rfl, hbe⟩

set_option maxHeartbeats 1000000 in
theorem pathText_any (a : Option Addr) (ss : List ByteArray) (cap : Nat) (w : World) (h : Strs w w.heap.size a ss) (hs : Short ss) (hl : ss.length ≤ maxLen) :
    Calls Tryd.prog 6 #[.slice a ss.length cap] w fun e w' => e = .returned (.string (bytesOf (ptextL ss))) ∧ Below w.heap.size w w' := by
  have hl' := hl
  unfold maxLen at hl'
  cases hp : pathB ss
  · go_enter Tryd.func6, Tryd.ntmps6
    go_wp2_with fail
    refine (pathOk_any a ss cap w h hs hl).mono ?_
    rintro e w1 ⟨rfl, b1⟩
    rw [hp]
    go_wp2
    go_ret
    exact ⟨by rw [ptextL_not hp]; rfl, b1⟩
  · have h4 := pathB_len hp
    have hmk := fun w => run_make_row' (P := Tryd.prog) 24 9 (.string ByteArray.empty) 16 Tryd.underlying24 info_str rfl .i64 .i64 ss.length (by omega) (by omega) w
    go_enter Tryd.func6, Tryd.ntmps6
    go_wp2_with fail
    refine (pathOk_any a ss cap w h hs hl).mono ?_
    rintro e w1 ⟨rfl, b1⟩
    rw [hp]
    go_wp2
    clear hmk
    go_loopw [14] (fun i wr => ∃ k : Nat, k ≤ ss.length ∧ i = .int .i64 k ∧ wr.rowIs w1.heap.size 9 ss.length (fun j => if j < k then .string ((ss.map qB).getD j ByteArray.empty) else .string ByteArray.empty) ∧ Below w1.heap.size w1 wr) (fun i _ => ss.length - (intOf i).toNat)
    case atStart => exact ⟨0, Nat.zero_le _, rfl, (World.rowIs_made w1 _ _ _).congr (fun i _ => by simp), (Below.refl _ _).alloc (Nat.le_refl _) _⟩
    case round =>
      obtain ⟨k, hk, rfl, hrow, hbe⟩ := hrel
      by_cases hlt : k < ss.length
      · have h8 := nameB_size (pathB_name hp k hlt)
        obtain ⟨b, o, rfl, hb, hc⟩ := ((h.below b1 (Nat.le_refl _)).below hbe b1.size) (by omega)
        have hcx := hc k hlt
        go_wp2_with fail
        refine (quote_any _ wr (by omega)).mono ?_
        rintro e w2 ⟨rfl, b2⟩
        have hrow1 := hrow.of_block (b2.block _ hrow.lt)
        have hcn := hrow1.cell hlt
        have hfn := hrow1.frozen k
        have hrow2 := (hrow1.set k (.string ⟨(quoteL (ss[k]).data.toList).toArray⟩)).congr (g := fun j => if j < k + 1 then .string ((ss.map qB).getD j ByteArray.empty) else .string ByteArray.empty) (fun j hj => by
          by_cases e : j = k
          · subst e; simp [List.getD, List.getElem?_eq_getElem hlt, qB, bytesOf]
          · simp only [e, if_false]
            by_cases e2 : j < k
            · rw [if_pos e2, if_pos (by omega)]
            · rw [if_neg e2, if_neg (by omega)])
        have HR : Hid _ := hrow2
        clear hrow2
        go_wp2
        go_roundw
        case rel => exact ⟨k + 1, by omega, by go_num, HR.out, (hbe.trans (b2.mono hbe.size)).setCell (Nat.le_refl _) _⟩
        case measure => simp [intOf]; omega
      · have hJ := Tryd.strings_Join w1.heap.size 0 ss.length (ss.map qB) ⟨#[47]⟩ wr (fun j x hx => by
            have hj : j < ss.length := by have := (List.getElem?_eq_some_iff.1 hx).1; simpa using this
            rw [Nat.zero_add, hrow.cell hj, if_pos (by omega)]
            rw [List.getD_eq_getElem?_getD, hx]; rfl) hrow.lt (by simp; omega) (by simp) (by have := join_le hp; exact Nat.le_trans this (by decide))
        rw [List.length_map, List.map_map] at hJ
        have HJ : Hid (bytesOf [47] ++ (⟨(Lib.join (ss.map ((fun x : ByteArray => x.data.toList) ∘ qB)) [47]).toArray⟩ : ByteArray) = bytesOf (ptextL ss)) := by
          show bytesOf [47] ++ bytesOf _ = _
          rw [bytesOf_append, ← List.map_map]
          by_cases h0 : ss = []
          · subst h0; rw [ptextL_nil]; rfl
          · rw [ptextL_some hp h0]; exact congrArg bytesOf (tellL_join ss h0)
        have hz := join_le hp
        rw [List.map_map] at hz
        go_wp2_with fail
        refine hJ.mono ?_
        rintro e w2 ⟨rfl, b2⟩
        go_wp2
        go_ret
        exact ⟨by rw [← HJ.out]; rfl, b1.trans ((hbe.mono b1.size).trans (b2.mono (Nat.le_trans b1.size hbe.size)))⟩
end Go.Proofs.YtklhplhjnpdigaaDoor
