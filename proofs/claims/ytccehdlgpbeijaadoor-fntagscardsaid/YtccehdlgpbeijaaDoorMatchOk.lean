/-
  What both sides' MatchOk does.
-/
import Derived.Test.YtccehdlgpbeijaaDoorNamed
namespace Go.Proofs.YtccehdlgpbeijaaDoor
open Go.RowKit M
set_option linter.unusedVariables false

set_option maxHeartbeats 1000000 in
theorem matchOk_any (s t : ByteArray) (q : Bool) (w : World) (hs : s.size ≤ 1048576) :
    Calls Tryd.prog 15 #[.string s, .bool q, .string t] w fun e w' => e = .returned (.bool (q && namB s.data.toList t)) ∧ Below w.heap.size w w' := by
  have HN := hide (isNamed_any s t w hs)
  cases q
  · go_enter Tryd.func15, Tryd.ntmps15
    go_wp2
    go_ret
    exact ⟨ret_bool rfl, Below.refl _ _⟩
  · go_enter Tryd.func15, Tryd.ntmps15
    go_wp2_with fail
    refine HN.out.mono ?_
    rintro e w1 ⟨rfl, b1⟩
    go_wp2
    go_ret
    exact ⟨ret_bool rfl, b1⟩

set_option maxHeartbeats 2000000 in
theorem specMatchOk_any (s t : ByteArray) (q : Bool) (w : World) (hs : s.size ≤ 1048576) :
    Calls Tryd.prog 16 #[.string s, .bool q, .string t] w fun e w' => e = .returned (.bool (q && namB s.data.toList t)) ∧ Below w.heap.size w w' := by
  have HP := hide (specParseTags_any s w hs)
  unfold TagRet at HP
  have HST := star_iff s
  have h5 := tagsR_len9 s.data.toList
  cases hok : (tagsR s.data.toList).2
  · have HR := hide (namB_bad (t := t) hok)
    rw [hok] at HP
    clear hok h5
    go_enter Tryd.func16, Tryd.ntmps16
    go_wp2_with fail
    refine HP.out.mono ?_
    rintro e w1 ⟨⟨v, rfl, ho⟩, b1⟩
    clear ho HST
    go_wp2
    go_ret
    exact ⟨ret_bool (by rw [HR.out, Bool.and_false]), b1⟩
  · rw [hok] at HP
    clear hok
    cases q
    · go_enter Tryd.func16, Tryd.ntmps16
      go_wp2_with fail
      refine HP.out.mono ?_
      rintro e w1 ⟨⟨v, rfl, ho⟩, b1⟩
      clear ho HST
      go_wp2
      go_ret
      exact ⟨ret_bool rfl, b1⟩
    · by_cases h0 : s.data.toList = [42]
      · have HR := hide (namB_star (t := t) h0)
        rw [decide_eq_true h0] at HST
        clear h0
        go_enter Tryd.func16, Tryd.ntmps16
        go_wp2_with fail
        refine HP.out.mono ?_
        rintro e w1 ⟨⟨v, rfl, ho⟩, b1⟩
        clear ho
        go_wp2
        go_ret
        exact ⟨ret_bool (by rw [HR.out]; rfl), b1⟩
      · have HR := hide (namB_not (t := t) h0)
        rw [decide_eq_false h0] at HST
        clear h0
        go_enter Tryd.func16, Tryd.ntmps16
        go_wp2_with fail
        refine HP.out.mono ?_
        rintro e w1 ⟨⟨v, rfl, ho⟩, b1⟩
        obtain ⟨g, cap, rfl, _, _, _, _, hcs⟩ := ho
        have HC := hide (l9Has_any g _ cap _ t w1 rfl (by rw [List.length_map]; omega) (fun j hj => (hcs j hj).1))
        clear hcs h5
        obtain ⟨n, hn⟩ : ∃ n, ((tagsR s.data.toList).1.map bytesOf).length = n := ⟨_, rfl⟩
        rw [hn] at HC
        rw [hn]
        clear hn
        go_wp2_with fail
        refine HC.out.mono ?_
        rintro e w2 ⟨rfl, hw⟩
        obtain rfl := hw.symm
        go_wp2
        go_ret
        exact ⟨ret_bool (by rw [HR.out]; rfl), b1⟩
end Go.Proofs.YtccehdlgpbeijaaDoor
