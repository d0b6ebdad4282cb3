/-
  What the program's walkPieces does: the names of a path, of its pieces.
-/
import Derived.Test.YtfhcniifennfbaaGreatDoorSpecLower
import Derived.Test.YtfhcniifennfbaaGreatDoorHas9
import Derived.Test.YtfhcniifennfbaaGreatDoorUnq
namespace Go.Proofs.YtfhcniifennfbaaGreatDoor
open Go.RowKit M
set_option linter.unusedVariables false

theorem bytesOf_toList (l : List UInt8) : (bytesOf l).toList = l := by rw [ByteArray.toList_eq]; rfl

theorem short_snoc {out : List ByteArray} {x : ByteArray} (h : Short out) (hx : x.size ≤ maxLen) : Short (out ++ [x]) := fun s hs => by
  rcases List.mem_append.1 hs with hs | hs
  · exact h s hs
  · simp at hs; subst hs; exact hx
theorem short_pop {out : List ByteArray} {y : ByteArray} (h : Short (out ++ [y])) : Short out := fun s hs => h s (List.mem_append_left _ hs)

set_option maxRecDepth 100000 in
set_option maxHeartbeats 4000000 in
theorem walkPieces_any (a : Option Addr) (ps : List ByteArray) (cap : Nat) (w : World) (h : Strs w w.heap.size a ps) (hl : ps.length ≤ 1048577) (hsz : ∀ p ∈ ps, p.size ≤ 1048576) :
    Calls Tryz.prog 99 #[.slice a ps.length cap] w fun e w' =>
      ((foldP [] ps = none ∧ e = .returned (.tuple #[.slice none 0 0, .bool false])) ∨
       (∃ (out : List ByteArray) (n g c : Nat), foldP [] ps = some out ∧ n = out.length ∧ n ≤ ps.length ∧ Short out ∧ e = .returned (.tuple #[.slice (some ⟨g, 0, none⟩) n c, .bool true]) ∧ w'.ownsRow w.heap.size 9 1 (.slice (some ⟨g, 0, none⟩) n c) n (strCells out))) ∧ Below w.heap.size w w' := by
  go_enter Tryz.func99, Tryz.ntmps99
  go_wp2
  go_loopw [4, 12] (fun v i wr => ∃ (k : Nat) (out : List ByteArray) (n g c : Nat), k ≤ ps.length ∧ i = .int .i64 k ∧ v = .slice (some ⟨g, 0, none⟩) n c ∧ n = out.length ∧ n ≤ k ∧ n ≤ c ∧ c ≤ maxLen ∧ foldP [] ps = foldP out (ps.drop k) ∧ Short out ∧ wr.ownsRow w.heap.size 9 1 (.slice (some ⟨g, 0, none⟩) n c) n (strCells out) ∧ Below w.heap.size w wr) (fun _ i _ => ps.length - (intOf i).toNat)
  case atStart => exact ⟨0, [], 0, w.heap.size, 0, Nat.zero_le _, rfl, rfl, rfl, Nat.le_refl _, Nat.le_refl _, Nat.zero_le _, rfl, (fun _ h => by cases h), World.ownsRow_made w #[] 0 (Nat.le_refl _) (by decide) rfl, (Below.refl _ _).alloc (Nat.le_refl _) _⟩
  case round =>
    obtain ⟨k, out, n, g, c, hk, rfl, rfl, hn, hnk, hnc, hcm, hfo, hsh, hown, hbe⟩ := hrel
    have hcm' := hcm
    unfold maxLen at hcm'
    have HF : Hid (foldP [] ps = foldP out (ps.drop k)) := hfo
    have HN : Hid (n = out.length) := hn
    have HS : Hid (Short out) := hsh
    clear hfo hn hsh
    by_cases hlt : k < ps.length
    · obtain ⟨b, o, rfl, hb, hc⟩ := (h.below hbe (Nat.le_refl _)) (by omega)
      have hcx := hc k hlt
      have hpz := hsz _ (List.getElem_mem hlt)
      have HA : Hid (foldP out (ps.drop k) = (stepP out ps[k]).bind fun o => foldP o (ps.drop (k + 1))) := foldP_at k hlt out
      have hU := unquote_any ps[k] wr (by omega)
      have hLe : (bytesOf (unqR ps[k].data.toList).1).size ≤ maxLen := by
        have h1 := unqR_le ps[k].data.toList
        have h2 : ps[k].data.toList.length = ps[k].size := Array.length_toList
        rw [bytesOf_size]; unfold maxLen; omega
      have HLe : Hid _ := hLe
      clear hLe
      have P0 := @stepP_none out ps[k]
      have P1 := @stepP_dot out ps[k]
      have P2 := @stepP_up0 ps[k]
      have P3 := @stepP_up out ps[k]
      have P4 := @stepP_push out ps[k]
      obtain ⟨r, hr⟩ : ∃ r, unqR ps[k].data.toList = r := ⟨_, rfl⟩
      rw [hr] at hU P0 P1 P2 P3 P4 HLe
      clear hr
      obtain ⟨x, ok⟩ := r
      have HP0 : Hid _ := P0
      have HP1 : Hid _ := P1
      have HP2 : Hid _ := P2
      have HP3 : Hid _ := P3
      have HP4 : Hid _ := P4
      clear P0 P1 P2 P3 P4
      cases ok
      · have HB : Hid (foldP [] ps = none) := by show foldP [] ps = none; rw [HF.out, HA.out, HP0.out (.inl rfl)]; rfl
        go_wp2_with fail
        refine hU.mono ?_
        rintro e w1 ⟨rfl, b1⟩
        go_wp2
        go_ret2
        exact ⟨.inl ⟨HB.out, rfl⟩, hbe.trans (b1.mono hbe.size)⟩
      · by_cases hx0 : x = []
        · have HB : Hid (foldP [] ps = none) := by show foldP [] ps = none; rw [HF.out, HA.out, HP0.out (.inr hx0)]; rfl
          have t0 : (bytesOf x).toList.isEmpty = true := by rw [bytesOf_toList, hx0]; rfl
          clear hx0
          go_wp2_with fail
          refine hU.mono ?_
          rintro e w1 ⟨rfl, b1⟩
          go_wp2
          go_ret2
          exact ⟨.inl ⟨HB.out, rfl⟩, hbe.trans (b1.mono hbe.size)⟩
        · have t0 : (bytesOf x).toList.isEmpty = false := by
            rw [bytesOf_toList]
            cases x with
            | nil => exact absurd rfl hx0
            | cons _ _ => rfl
          by_cases hx1 : x = [46]
          · have t1 : ((bytesOf x).toList == [46]) = true := by rw [bytesOf_toList, hx1]; rfl
            have HB : Hid (foldP [] ps = foldP out (ps.drop (k + 1))) := by show foldP [] ps = _; rw [HF.out, HA.out, HP1.out rfl hx1]; rfl
            clear hx0 hx1
            go_wp2_with fail
            refine hU.mono ?_
            rintro e w1 ⟨rfl, b1⟩
            go_wp2
            exact ⟨⟨k + 1, out, n, g, c, by omega, by go_num, rfl, HN.out, by omega, hnc, hcm, HB.out, HS.out, owns_below hown b1, hbe.trans (b1.mono hbe.size)⟩, by simp [intOf]; omega⟩
          · have t1 : ((bytesOf x).toList == [46]) = false := by rw [bytesOf_toList]; exact beq_eq_false_iff_ne.2 hx1
            by_cases hx2 : x = [46, 46]
            · have t2 : ((bytesOf x).toList == [46, 46]) = true := by rw [bytesOf_toList, hx2]; rfl
              by_cases ho : out = []
              · have hn0 : n = 0 := by rw [HN.out, ho]; rfl
                have HB : Hid (foldP [] ps = none) := by show foldP [] ps = none; rw [HF.out, HA.out, ho, HP2.out rfl hx2]; rfl
                clear hx0 hx1 hx2
                subst hn0
                go_wp2_with fail
                refine hU.mono ?_
                rintro e w1 ⟨rfl, b1⟩
                go_wp2
                go_ret2
                exact ⟨.inl ⟨HB.out, rfl⟩, hbe.trans (b1.mono hbe.size)⟩
              · have HB : Hid (foldP [] ps = foldP out.dropLast (ps.drop (k + 1))) := by show foldP [] ps = _; rw [HF.out, HA.out, HP3.out rfl hx2 ho]; rfl
                obtain ⟨o2, y, rfl⟩ : ∃ o2 y, out = o2 ++ [y] := ⟨out.dropLast, out.getLast ho, (List.dropLast_concat_getLast ho).symm⟩
                have hm : n = o2.length + 1 := by rw [HN.out, List.length_append]; rfl
                have HD : Hid ((o2 ++ [y]).dropLast = o2) := List.dropLast_concat
                clear hx0 hx1 hx2 ho
                subst hm
                obtain ⟨m, hm⟩ : ∃ m, m = o2.length := ⟨_, rfl⟩
                rw [← hm] at hnk hnc hown
                rw [strCells_append] at hown
                have hpop : wr.ownsRow w.heap.size 9 1 (.slice (some ⟨g, 0, none⟩) m c) m (strCells o2) := ownsRow_pop (by rw [strCells_length, hm, Nat.mul_one]) hown
                have HM : Hid (m = o2.length) := hm
                rw [← hm]
                clear hm
                have hne0 : (((m + 1 : Nat) : Int) == 0) = false := by apply beq_eq_false_iff_ne.2; omega
                go_wp2_with fail
                refine hU.mono ?_
                rintro e w1 ⟨rfl, b1⟩
                go_wp2
                exact ⟨⟨k + 1, o2, m, g, c, by omega, by go_num, rfl, HM.out, by omega, by omega, hcm, by rw [HB.out, HD.out], short_pop HS.out, owns_below hpop b1, hbe.trans (b1.mono hbe.size)⟩, by simp [intOf]; omega⟩
            · have t2 : ((bytesOf x).toList == [46, 46]) = false := by rw [bytesOf_toList]; exact beq_eq_false_iff_ne.2 hx2
              have HB : Hid (foldP [] ps = foldP (out ++ [bytesOf x]) (ps.drop (k + 1))) := by show foldP [] ps = _; rw [HF.out, HA.out, HP4.out rfl hx0 hx1 hx2]; rfl
              clear hx0 hx1 hx2
              go_wp2_with fail
              refine hU.mono ?_
              rintro e w1 ⟨rfl, b1⟩
              have hown1 := owns_below hown b1
              have c1 := hbe.trans (b1.mono hbe.size)
              go_wp2_with (at_builtin; refine wp_append_str rfl _ _ rfl w.heap.size _ n out rfl (hown1.alloc _) _ (bytesOf x) rfl ?c1 ?c2 ?c3 ?_)
              case c1 => simp
              case c2 => omega
              case c3 => have := c1.size; simp; omega
              intro g1 cap1 w2 ho2 hb2
              have hcap : n + 1 ≤ cap1 ∧ cap1 ≤ maxLen := by
                rcases ho2.2 with ⟨e, _⟩ | ⟨g', cap', cur, hv, _, _, h1, h2, _⟩
                · cases e
                · cases hv; exact ⟨h1, h2⟩
              go_wp2
              exact ⟨⟨k + 1, out ++ [bytesOf x], n + 1, g1, cap1, by omega, by go_num, rfl, by rw [List.length_append, ← HN.out]; rfl, by omega, hcap.1, hcap.2, HB.out, short_snoc HS.out HLe.out, ho2, (c1.alloc c1.size _).trans hb2⟩, by simp [intOf]; omega⟩
    · have HB : Hid (foldP [] ps = some out) := by
        show foldP [] ps = some out
        rw [HF.out, List.drop_of_length_le (by omega)]; rfl
      go_wp2
      go_ret2
      exact ⟨.inr ⟨out, n, g, c, HB.out, HN.out, by omega, HS.out, rfl, hown⟩, hbe⟩
end Go.Proofs.YtfhcniifennfbaaGreatDoor
