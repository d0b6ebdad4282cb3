/-
  A path that is drawn of things: few short texts, in memory of its own.
-/
import Derived.Test.YtifnolomekhmfaaGreatHasV
namespace Go.Proofs.YtifnolomekhmfaaGreat
open Go.RowKit M
set_option linter.unusedVariables false

/-- What a draw of a path hands back. -/
def PathOM (m : Nat) (w' : World) (B : Nat) (e : Ending) : Prop := ∃ (ss : List ByteArray) (n g c : Nat), Few m ss ∧ n = ss.length ∧ e = .returned (.slice (some ⟨g, 0, none⟩) n c) ∧ w'.ownsRow B 9 1 (.slice (some ⟨g, 0, none⟩) n c) n (strCells ss)

set_option maxRecDepth 100000 in
set_option maxHeartbeats 4000000 in
theorem l10PathM_any (m : Nat) (hm5 : 5 ≤ m) (hm20 : m ≤ 20) {w : World} {N : Nat} {a : Option Addr} {len cap : Nat} {zs : List Int} (h : DX w N a len cap zs) (g n c : Nat) (rs : List Rs) (hn : Hid (n = rs.length)) (ht : HasV w N g rs) (hl : n ≤ 1000) (hp : ∀ r ∈ rs, Few m r.pa) :
    Calls Tryz.prog 54 #[.pointer (some ⟨N, 0, none⟩), .slice (some ⟨g, 0, none⟩) n c] w fun e w' => PathOM (m + 1) w' w.heap.size e ∧ DX w' N a len cap zs ∧ w.grownBy w' (some N) := by
  have hlt := h.lt
  have H := hide h
  have HT := hide ht
  have HP := hide hp
  clear h ht hp
  by_cases h0 : n = 0
  · subst h0
    go_enter Tryz.func54, Tryz.ntmps54
    go_wp2_with fail
    refine (l2Draw_any H.out).mono ?_
    rintro e w1 ⟨⟨ss, n, g1, c1, hf, hn1, rfl, hown⟩, hd1, hg1⟩
    have HN := hide hn1
    clear hn1
    go_wp2
    go_ret
    exact ⟨⟨ss, n, g1, c1, hf.mono (by omega), HN.out, rfl, hown⟩, hd1, hg1⟩
  · have h0' : (0 : Int) < n := by omega
    go_enter Tryz.func54, Tryz.ntmps54
    go_wp2_with fail
    refine (l1OnceQ H.out 3 (by decide) (by decide)).mono ?_
    rintro e w1 ⟨⟨b, rfl⟩, hd1, hg1⟩
    have HD1 := hide hd1
    have HG1 := hide hg1
    have HT1 := hide (HT.out.grown hg1)
    clear hd1 hg1 HT H
    have hsz1 := HG1.out.size
    cases b
    · go_wp2_with fail
      refine (l1BelowX (HD1.out.alloc _) n (by omega) (by omega)).mono ?_
      rintro e w2 ⟨⟨k, rfl, hk⟩, hd2, hg2⟩
      have HO2 := hide (owns_grown (World.ownsRow_made w1 #[] 0 hsz1 (by decide) rfl) hg2 hlt)
      have HT2 := hide ((HT1.out.below ((Below.refl w1.heap.size w1).alloc (Nat.le_refl _) _)).grown hg2)
      have HG2 := hide (grown_trans (grown_alloc HG1.out _) hg2)
      have HD2 := hide hd2
      have hkr : k < rs.length := by have := hn.out; omega
      obtain ⟨p, pc, qa, qc, x⟩ := HT2.out.el k hkr
      have hFk := HP.out _ (List.getElem_mem hkr)
      obtain ⟨c0, _⟩ := x.at'
      have hrp := x.rp
      obtain ⟨pl, hpl⟩ : ∃ pl, rs[k].pa = pl := ⟨_, rfl⟩
      rw [hpl] at c0 hrp hFk
      have HF := hide hFk
      have hpl5 : pl.length ≤ 20 := Nat.le_trans hFk.1 hm20
      have hki : (k : Int) < (n : Int) := by omega
      have hsz2 := HG2.out.size
      clear hd2 hg2 HD1 HG1 HT1 hpl x hFk HT2
      go_wp2_with (at_builtin; refine wp_append_allO rfl _ _ rfl w.heap.size w1.heap.size pl pl.length rfl rfl HO2.out p pc rfl (fun j hj => (hrp.2 j hj).1) (by omega) hsz2 ?_)
      intro g3 c3 w3 hO3 hb3
      have HD3 := hide (HD2.out.other hb3.size (fun i hi => hb3.block i (by omega)))
      have HG3 := hide (grown_belowQ HG2.out hb3 (Nat.le_refl _))
      obtain ⟨nl, hnl⟩ : ∃ nl, pl.length = nl := ⟨_, rfl⟩
      rw [hnl] at hO3 ⊢
      have HNL := hide hnl
      clear HD2 HG2 HO2 hb3 hrp c0 hnl hpl5
      go_wp2_with fail
      refine (l1OnceQ HD3.out 3 (by decide) (by decide)).mono ?_
      rintro e w4 ⟨⟨b, rfl⟩, hd4, hg4⟩
      have hO4 := owns_grown hO3 hg4 hlt
      have HD4 := hide hd4
      have HG4 := hide (grown_trans HG3.out hg4)
      clear hd4 hg4 HD3 HG3 hO3
      cases b
      · go_wp2
        go_ret
        exact ⟨⟨pl, nl, g3, c3, HF.out.mono (by omega), HNL.out.symm, rfl, hO4⟩, HD4.out, HG4.out⟩
      · go_wp2_with fail
        refine (l2Name_any HD4.out).mono ?_
        rintro e w5 ⟨⟨y, rfl, hy⟩, hd5, hg5⟩
        have hO5 := owns_grown hO4 hg5 hlt
        have HG5 := hide (grown_trans HG4.out hg5)
        have HD5 := hide hd5
        have hsz5 := HG5.out.size
        have hnl6 : nl ≤ 20 := by rw [← HNL.out]; exact Nat.le_trans HF.out.1 hm20
        clear hd5 hg5 HD4 HG4 hO4
        go_wp2_with (at_builtin; refine wp_append_str rfl _ _ rfl w.heap.size _ nl pl rfl (hO5.alloc _) _ y rfl ?c1 ?c2 ?c3 ?_)
        case c1 => simp
        case c2 => omega
        case c3 => simp; omega
        intro g6 c6 w6 ho6 hb6
        have HD6 := hide ((HD5.out.alloc _).other hb6.size (fun k hk => hb6.block k (by omega)))
        have HG6 := hide (grown_belowQ (grown_alloc HG5.out _) hb6 (Nat.le_refl _))
        go_wp2
        go_ret
        exact ⟨⟨pl ++ [y], nl + 1, g6, c6, HF.out.snoc hy, by rw [List.length_append, HNL.out]; rfl, rfl, ho6⟩, HD6.out, HG6.out⟩
    · go_wp2_with fail
      refine (l2Draw_any HD1.out).mono ?_
      rintro e w2 ⟨⟨ss, n2, g2, c2, hf, hn2, rfl, hown⟩, hd2, hg2⟩
      have HN := hide hn2
      have HG2 := hide (grown_trans HG1.out hg2)
      have HO2 : Hid (w2.ownsRow w.heap.size 9 1 (.slice (some ⟨g2, 0, none⟩) n2 c2) n2 (strCells ss)) := ⟨hown.1, by
        rcases hown.2 with e | ⟨g', cap', cur, e, hB, hr⟩
        · exact .inl e
        · exact .inr ⟨g', cap', cur, e, Nat.le_trans hsz1 hB, hr⟩⟩
      clear hn2 hown
      go_wp2
      go_ret
      exact ⟨⟨ss, n2, g2, c2, hf.mono (by omega), HN.out, rfl, HO2.out⟩, hd2, HG2.out⟩
end Go.Proofs.YtifnolomekhmfaaGreat
