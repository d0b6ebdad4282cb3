/-
  What the program's ParseTags does.
-/
import Derived.Test.YtccehdlgpbeijaaDoorCutTag
namespace Go.Proofs.YtccehdlgpbeijaaDoor
open Go.RowKit M
set_option linter.unusedVariables false

/-- How far a list of marks is read. -/
def ReadT (l : List UInt8) (r : List UInt8) (acc : List (List UInt8)) (more : Bool) : Prop :=
  if more = true then ∃ f, r.length < f ∧ tgs (l.length + 1) l [] = tgs f r acc
  else tgs (l.length + 1) l [] = if r = [] then some acc else none
theorem ReadT.start (l : List UInt8) : ReadT l l [] true := by
  unfold ReadT; rw [if_pos rfl]; exact ⟨l.length + 1, by omega, rfl⟩
theorem ReadT.bad {l r : List UInt8} {acc : List (List UInt8)} (h : ReadT l r acc true) (hc : cutT (trimL r) = none) : tgs (l.length + 1) l [] = none := by
  unfold ReadT at h
  rw [if_pos rfl] at h
  obtain ⟨f, h1, h2⟩ := h
  cases f with
  | zero => omega
  | succ f => rw [h2, tgs, hc]
theorem ReadT.full {l r : List UInt8} {acc : List (List UInt8)} (h : ReadT l r acc true) (ha : acc.length = 5) : tgs (l.length + 1) l [] = none := by
  unfold ReadT at h
  rw [if_pos rfl] at h
  obtain ⟨f, h1, h2⟩ := h
  cases f with
  | zero => omega
  | succ f =>
    rw [h2, tgs]
    split
    · rfl
    · rw [if_pos ha]
theorem ReadT.next {l r m y : List UInt8} {acc : List (List UInt8)} (h : ReadT l r acc true) (hc : cutT (trimL r) = some (m, y)) (ha : acc.length ≠ 5) :
    ReadT l (if (trimL y).head? = some 44 then (trimL y).drop 1 else trimL y) (acc ++ [tagL m]) (decide ((trimL y).head? = some 44)) := by
  unfold ReadT at h
  rw [if_pos rfl] at h
  obtain ⟨f, h1, h2⟩ := h
  cases f with
  | zero => omega
  | succ f =>
    have e0 : tgs (f + 1) r acc = if trimL y = [] then some (acc ++ [tagL m]) else if (trimL y).head? = some 44 then tgs f (trimL y).tail (acc ++ [tagL m]) else none := by
      rw [tgs, hc]
      simp only [ha, if_false]
    rw [e0] at h2
    have hl : (trimL y).length < r.length := by
      have e1 := trim_le y
      have e2 := trim_le r
      have e3 := congrArg List.length (cutT_some hc).1
      rw [List.length_append, tagL_len] at e3
      omega
    unfold ReadT
    by_cases h0 : trimL y = []
    · rw [h0] at h2 ⊢
      rw [if_pos rfl] at h2
      simp [h2]
    · rw [if_neg h0] at h2
      by_cases h44 : (trimL y).head? = some 44
      · rw [if_pos h44] at h2
        rw [if_pos h44, decide_eq_true h44, if_pos rfl]
        refine ⟨f, by rw [List.length_drop]; omega, ?_⟩
        rw [h2, List.drop_one]
      · rw [if_neg h44] at h2
        rw [if_neg h44, decide_eq_false h44, if_neg (by simp), if_neg h0, h2]
theorem next_len (y : List UInt8) (h : decide ((trimL y).head? = some 44) = true) : (if (trimL y).head? = some 44 then (trimL y).drop 1 else trimL y).length + 1 ≤ y.length := by
  have h' := of_decide_eq_true h
  rw [if_pos h']
  have := trim_le y
  cases ht : trimL y with
  | nil => rw [ht] at h'; cases h'
  | cons a r => rw [ht] at this; simp at this ⊢; omega
def moreOf : Value → Value → Nat
  | .bool true, .string s => s.size + 1
  | _, _ => 0
theorem moreOf_next (q : Bool) (s t : ByteArray) (h : q = true → s.size + 1 ≤ t.size) : moreOf (.bool q) (.string s) < moreOf (.bool true) (.string t) := by
  cases q
  · simp [moreOf]
  · have := h rfl; simp [moreOf]; omega
theorem empty_iff9 (s : ByteArray) : s.toList.isEmpty = decide (s.data.toList = []) := by
  rw [ByteArray.toList_eq]
  cases s.data.toList <;> simp
theorem cut_rest {x m y : List UInt8} (h : cutT x = some (m, y)) : y.length + 2 ≤ x.length ∧ m.length ≤ 10 := by
  obtain ⟨h1, _, h3⟩ := cutT_some h
  have e3 := congrArg List.length h1
  rw [List.length_append, tagL_len] at e3
  simp [innB] at h3
  exact ⟨by omega, h3.1⟩

set_option maxRecDepth 100000 in
set_option maxHeartbeats 8000000 in
theorem parseTags_any (s : ByteArray) (w : World) (hs : s.size ≤ 1048576) :
    Calls Tryd.prog 9 #[.string s] w fun e w' => TagRet w s.data.toList e w' ∧ Below w.heap.size w w' := by
  have HST := star_iff s
  by_cases h0 : s.data.toList = [42]
  · have HR : Hid (tagsR s.data.toList = ([[42]], true)) := by show tagsR s.data.toList = _; rw [h0]; rfl
    rw [decide_eq_true h0] at HST
    clear h0
    go_enter Tryd.func9, Tryd.ntmps9
    go_wp2
    go_ret2
    refine ⟨⟨?_, ?_, ?_⟩, (Below.refl _ _).alloc (Nat.le_refl _) _⟩
    · exact .slice (some ⟨w.heap.size, 0, none⟩) 1 1
    · rw [HR.out]; rfl
    · rw [HR.out]
      exact OwnS.one w _ _
  · have HN := hide (fun x => @tagsR_some s.data.toList x h0)
    have HF := hide (@tagsR_none s.data.toList h0)
    rw [decide_eq_false h0] at HST
    clear h0
    go_enter Tryd.func9, Tryd.ntmps9
    go_wp2
    go_loopw [0, 4, 5] (fun v0 v4 v5 wr => ∃ (t : ByteArray) (acc : List (List UInt8)) (g cap : Nat) (mo : Bool), v0 = .string t ∧ v4 = .slice (some ⟨g, 0, none⟩) acc.length cap ∧ v5 = .bool mo ∧ acc.length ≤ 5 ∧ t.size ≤ s.size ∧ ReadT s.data.toList t.data.toList acc mo ∧ wr.ownsRow w.heap.size 9 1 (.slice (some ⟨g, 0, none⟩) acc.length cap) acc.length (strCells (acc.map bytesOf)) ∧ Below w.heap.size w wr) (fun v0 _ v5 _ => moreOf v5 v0)
    case atStart => exact ⟨s, [], w.heap.size, 0, true, rfl, rfl, rfl, Nat.zero_le _, Nat.le_refl _, ReadT.start _, World.ownsRow_made w #[] 0 (Nat.le_refl _) (by decide) rfl, (Below.refl _ _).alloc (Nat.le_refl _) _⟩
    case round =>
      clear HST
      obtain ⟨t, acc, g, cap, mo, rfl, rfl, rfl, hacc, hts, hrd, hown, hbe⟩ := hrel
      have HRD := hide hrd
      have HO := hide hown
      have HB := hide hbe
      clear hrd hown hbe
      obtain ⟨n, hn⟩ : ∃ n, acc.length = n := ⟨_, rfl⟩
      have HNL := hide hn
      rw [hn] at HO hacc
      rw [hn]
      clear hn
      cases mo
      · have hE := empty_iff9 t
        by_cases he : t.data.toList = []
        · rw [decide_eq_true he] at hE
          have HR : Hid (tagsR s.data.toList = (acc, true)) := HN.out acc (by have := HRD.out; unfold ReadT at this; rw [if_neg (by simp), if_pos he] at this; exact this)
          clear he
          go_wp2
          go_ret2
          refine ⟨⟨?_, ?_, ?_⟩, HB.out⟩
          · exact .slice (some ⟨g, 0, none⟩) n cap
          · rw [HR.out]; rfl
          · rw [HR.out]
            exact OwnS.of HO.out (by rw [List.length_map, HNL.out])
        · rw [decide_eq_false he] at hE
          have HR : Hid (tagsR s.data.toList = ([], false)) := HF.out (by have := HRD.out; unfold ReadT at this; rw [if_neg (by simp), if_neg he] at this; exact this)
          clear he
          go_wp2
          go_ret2
          refine ⟨⟨?_, ?_, ?_⟩, HB.out.alloc HB.out.size _⟩
          · exact .slice (some ⟨wr.heap.size, 0, none⟩) 0 0
          · rw [HR.out]; rfl
          · rw [HR.out]; exact OwnS.none9 wr w.heap.size HB.out.size
      · have HT := hide (trim_any t wr (by omega))
        have HTZ := hide (show (trimL t.data.toList).length ≤ 1048576 by
          have h1 := trim_le t.data.toList
          have h2 : t.data.toList.length = t.size := Array.length_toList
          omega)
        have HTE := hide (show t.data.toList.length = t.size from Array.length_toList)
        cases hc : cutT (trimL t.data.toList) with
        | none =>
          have HR : Hid (tagsR s.data.toList = ([], false)) := HF.out (HRD.out.bad hc)
          have HC := hide hc
          clear hc
          go_wp2_with fail
          refine HT.out.mono ?_
          rintro e w1 ⟨⟨u, rfl, hu⟩, b1⟩
          have HK := hide (cutTag_none u w1 (by have h2 : u.data.toList.length = u.size := Array.length_toList; have := HTZ.out; rw [← hu] at this; omega) (by rw [hu]; exact HC.out))
          have C1 := hide (HB.out.trans (b1.mono HB.out.size))
          clear hu b1
          go_wp2_with fail
          refine HK.out.mono ?_
          rintro e w2 ⟨rfl, b2⟩
          have C2 := hide (C1.out.trans (b2.mono C1.out.size))
          clear b2
          go_wp2
          go_ret2
          refine ⟨⟨?_, ?_, ?_⟩, (C2.out.alloc C2.out.size _).alloc (by have := C2.out.size; simp; omega) _⟩
          · exact .slice (some ⟨w2.heap.size + 1, 0, none⟩) 0 0
          · rw [HR.out]; first | rfl | simp
          · rw [HR.out]
            have := OwnS.none9 (w2.alloc (Obj.cells #[.int .u8 0, .int .u8 0, .int .u8 0, .int .u8 0, .int .u8 0, .int .u8 0, .int .u8 0, .int .u8 0, .int .u8 0, .int .u8 0, .int .i64 0] 42)) w.heap.size (by have := C2.out.size; simp; omega)
            simpa using this
        | some p =>
          obtain ⟨m, y⟩ := p
          obtain ⟨hyl, hm10⟩ := cut_rest hc
          have hyz : y.length + 2 ≤ t.size := by have h1 := trim_le t.data.toList; have h2 := HTE.out; omega
          by_cases h5 : n = 5
          · have HR : Hid (tagsR s.data.toList = ([], false)) := HF.out (HRD.out.full (by rw [HNL.out, h5]))
            have HC := hide hc
            have h5' : ((n : Int) == 5) = true := by rw [h5]; rfl
            clear hc h5
            go_wp2_with fail
            refine HT.out.mono ?_
            rintro e w1 ⟨⟨u, rfl, hu⟩, b1⟩
            have HK := hide (cutTag_some u m y w1 (by have h2 : u.data.toList.length = u.size := Array.length_toList; have := HTZ.out; rw [← hu] at this; omega) (by rw [hu]; exact HC.out))
            have C1 := hide (HB.out.trans (b1.mono HB.out.size))
            clear hu b1
            go_wp2_with fail
            refine HK.out.mono ?_
            rintro e w2 ⟨rfl, b2⟩
            have C2 := hide (C1.out.trans (b2.mono C1.out.size))
            clear b2
            go_wp2
            go_ret2
            refine ⟨⟨?_, ?_, ?_⟩, (C2.out.alloc C2.out.size _).alloc (by have := C2.out.size; simp; omega) _⟩
            · exact .slice (some ⟨w2.heap.size + 1, 0, none⟩) 0 0
            · rw [HR.out]; first | rfl | simp
            · rw [HR.out]
              have := OwnS.none9 (w2.alloc (Obj.cells #[.int .u8 (vT m 0), .int .u8 (vT m 1), .int .u8 (vT m 2), .int .u8 (vT m 3), .int .u8 (vT m 4), .int .u8 (vT m 5), .int .u8 (vT m 6), .int .u8 (vT m 7), .int .u8 (vT m 8), .int .u8 (vT m 9), .int .i64 (m).length] 42)) w.heap.size (by have := C2.out.size; simp; omega)
              simpa using this
          · have HNX := hide (HRD.out.next hc (by rw [HNL.out]; exact h5))
            have HNE := hide (next_len y)
            have HC := hide hc
            have h5' : ((n : Int) == 5) = false := by apply beq_eq_false_iff_ne.2; omega
            have hn4 : n ≤ 4 := by omega
            clear hc h5
            go_wp2_with fail
            refine HT.out.mono ?_
            rintro e w1 ⟨⟨u, rfl, hu⟩, b1⟩
            have HK := hide (cutTag_some u m y w1 (by have h2 : u.data.toList.length = u.size := Array.length_toList; have := HTZ.out; rw [← hu] at this; omega) (by rw [hu]; exact HC.out))
            have C1 := hide (HB.out.trans (b1.mono HB.out.size))
            have O1 := hide (owns_below HO.out b1)
            clear hu b1
            go_wp2_with fail
            refine HK.out.mono ?_
            rintro e w2 ⟨rfl, b2⟩
            have C2 := hide ((C1.out.trans (b2.mono C1.out.size)).alloc (by have := b2.size; have := C1.out.size; omega) (Obj.cells #[.int .u8 (vT m 0), .int .u8 (vT m 1), .int .u8 (vT m 2), .int .u8 (vT m 3), .int .u8 (vT m 4), .int .u8 (vT m 5), .int .u8 (vT m 6), .int .u8 (vT m 7), .int .u8 (vT m 8), .int .u8 (vT m 9), .int .i64 (m).length] 42))
            have O2 := hide ((owns_below O1.out b2).alloc (Obj.cells #[.int .u8 (vT m 0), .int .u8 (vT m 1), .int .u8 (vT m 2), .int .u8 (vT m 3), .int .u8 (vT m 4), .int .u8 (vT m 5), .int .u8 (vT m 6), .int .u8 (vT m 7), .int .u8 (vT m 8), .int .u8 (vT m 9), .int .i64 (m).length] 42))
            have HTX := hide (text_any m (w2.alloc (Obj.cells #[.int .u8 (vT m 0), .int .u8 (vT m 1), .int .u8 (vT m 2), .int .u8 (vT m 3), .int .u8 (vT m 4), .int .u8 (vT m 5), .int .u8 (vT m 6), .int .u8 (vT m 7), .int .u8 (vT m 8), .int .u8 (vT m 9), .int .i64 (m).length] 42)) hm10)
            clear b2
            go_wp2_with fail
            refine HTX.out.mono ?_
            rintro e w3 ⟨rfl, b3⟩
            have C3 := hide (C2.out.trans (b3.mono C2.out.size))
            have O3 := hide (owns_below O2.out b3)
            clear b3
            go_wp2_with (at_builtin; refine wp_append_str rfl _ _ rfl w.heap.size _ n _ rfl (O3.out.alloc _) _ (bytesOf (tagL m)) rfl ?c1 ?c2 ?c3 ?_)
            case c1 => simp
            case c2 => omega
            case c3 => have := C3.out.size; simp; omega
            intro g1 cap1 w4 ho4 hb4
            have O4 := hide ho4
            have C4 := hide ((C3.out.alloc C3.out.size _).trans hb4)
            clear ho4 hb4
            have HT5 := hide (trim_any (bytesOf y) w4 (by rw [bytesOf_size]; omega))
            go_wp2_with fail
            refine HT5.out.mono ?_
            rintro e w5 ⟨⟨v, rfl, hv⟩, b5⟩
            have hv' : v.data.toList = trimL y := hv
            have HP6 := hide (cutPre_any v 44 w5)
            rw [hv'] at HP6
            have C5 := hide (C4.out.trans (b5.mono C4.out.size))
            have O5 := hide (owns_below O4.out b5)
            have HZ6 := hide (show (bytesOf (if (trimL y).head? = some 44 then (trimL y).drop 1 else trimL y)).size ≤ s.size by
              rw [bytesOf_size]
              have := trim_le y
              split
              · rw [List.length_drop]; omega
              · omega)
            have HM6 := hide (moreOf_next (decide ((trimL y).head? = some 44)) (bytesOf (if (trimL y).head? = some 44 then (trimL y).drop 1 else trimL y)) t (fun e => by rw [bytesOf_size]; have := HNE.out e; omega))
            obtain ⟨x, hx⟩ : ∃ x, (if (trimL y).head? = some 44 then (trimL y).drop 1 else trimL y) = x := ⟨_, rfl⟩
            obtain ⟨q, hq⟩ : ∃ q, decide ((trimL y).head? = some 44) = q := ⟨_, rfl⟩
            rw [hx, hq] at HP6 HNX HM6
            rw [hx] at HZ6
            clear hv hv' b5 HNE hx hq
            go_wp2_with fail
            refine HP6.out.mono ?_
            rintro e w6 ⟨rfl, hw⟩
            obtain rfl := hw.symm
            go_wp2
            go_roundw
            case rel => exact ⟨bytesOf x, acc ++ [tagL m], g1, cap1, q, rfl, by rw [List.length_append, HNL.out]; rfl, rfl, by rw [List.length_append, HNL.out]; simp; omega, HZ6.out, HNX.out, by rw [List.length_append, HNL.out, List.map_append]; exact O5.out, C5.out⟩
            case measure => exact HM6.out
end Go.Proofs.YtccehdlgpbeijaaDoor
