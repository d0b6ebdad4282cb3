/-
  The walk of the law FnIfs: for every code it returns true, and turns nothing that was there.
-/
import Derived.Test.YtmgikfeknmbpbaaGreatDoorSpecSameIf
import Derived.Test.YtmgikfeknmbpbaaGreatDoorInts
import Derived.Test.YtmgikfeknmbpbaaGreatDoorEvalI
import Derived.Test.YtmgikfeknmbpbaaGreatDoorBig
import Derived.Test.YtmgikfeknmbpbaaGreatDoorIsRow
namespace Go.Proofs.YtmgikfeknmbpbaaGreatDoor
open Go.RowKit M
set_option linter.unusedVariables false

theorem sameIf_gen (l : List (List Cn)) (u v : Value) (W : World) (h : View W W.heap.size u (.l (l.map dCs))) (h' : View W W.heap.size v (.l (l.map dCs))) (hn : l.length ≤ 1048576) (hn2 : ∀ cs ∈ l, cs.length ≤ 1048576) :
    Calls Tryz.prog 12 #[u, v] W fun e w' => e = .returned (.bool true) ∧ Below W.heap.size W w' := by
  obtain ⟨a, cap, rfl, _, _, _, h4⟩ := cnss_of_view h
  obtain ⟨b, c, rfl, _, _, _, k4⟩ := cnss_of_view h'
  refine (sameIf_any a b l l cap c _ _ W h4 k4 hn hn hn2 hn2).mono ?_
  rintro e w' ⟨⟨z, rfl, hz⟩, hb⟩
  exact ⟨by rw [hz.2 rfl], hb⟩
theorem sameInts_gen (l : List Int) (u v : Value) (W : World) (h : View W W.heap.size u (.l (l.map dI))) (h' : View W W.heap.size v (.l (l.map dI))) (hn : l.length ≤ 4194304) :
    Calls Tryz.prog 16 #[u, v] W fun e w' => e = .returned (.bool true) ∧ Below W.heap.size W w' := by
  obtain ⟨a, cap, rfl, _, _, _, h4⟩ := ints_of_view h
  obtain ⟨b, c, rfl, _, _, _, k4⟩ := ints_of_view h'
  refine (sameInts_any a b l l cap c _ _ W h4 k4 hn hn).mono ?_
  rintro e w' ⟨⟨z, rfl, hz⟩, hb⟩
  exact ⟨by rw [hz.2 rfl], hb⟩
theorem vnext {w w' : World} {v : Value} {x : Lf} (h : View w w.heap.size v x) (hb : Below w.heap.size w w') : View w' w'.heap.size v x := (h.stays hb (Nat.le_refl _)).mono hb.size
theorem few_len {m k : Nat} {ls : List (List Cn)} (h : FewI m k ls) (hm : m ≤ 100) (hk : k ≤ 100) : ls.length ≤ 1048576 ∧ ∀ cs ∈ ls, cs.length ≤ 1048576 :=
  ⟨by have := h.1; omega, fun cs hc => by have := (h.2 cs hc).1; omega⟩
/-- What is read of a drawn text comes back of its own text. -/
theorem ifLs_facts (t : ByteArray) (ht : t.size ≤ 2000) (h : (ifL t.data.toList).isSome = true) (s : ByteArray) (hs : TxtIs (ifLs t) s) : szRs ((ifLs t).map dCs) ≤ 1048576 ∧ (∀ cs ∈ ifLs t, ∀ c ∈ cs, wfC c) ∧ s.size ≤ 1048576 ∧ ifLs s = ifLs t ∧ (ifL s.data.toList).isSome = true := by
  obtain ⟨ls, hl⟩ := Option.isSome_iff_exists.1 h
  have e : ifLs t = ls := by unfold ifLs; rw [hl]; rfl
  have h1 := ifLs_ok t
  rw [e] at hs h1 ⊢
  have hok := ifL_ok hl
  have htg := ifL_tag hl
  rw [show t.data.toList.length = t.size from Array.length_toList] at htg
  have htg2 : ∀ cs ∈ ls, ∀ c ∈ cs, c.tg.size ≤ 2000 := fun cs hc c hx => Nat.le_trans (htg cs hc c hx) ht
  have hb : ifL s.data.toList = some ls := by
    rw [hs.1 hok]
    show ifL (bytesOf (ifT ls)).data.toList = some ls
    rw [show (bytesOf (ifT ls)).data.toList = ifT ls by simp [bytesOf]]
    exact ifL_back hok
  refine ⟨Nat.le_trans (sz_few h1.1 h1.2 htg2) (by decide), wf_ok hok, Nat.le_trans (txt_size hs h1.1 h1.2 htg2 (wf_ok hok)) (by decide), ?_, ?_⟩
  · unfold ifLs; rw [hb]; rfl
  · rw [hb]; rfl
/-- The text of the first lists. -/
theorem txt_back {ls : List (List Cn)} {s : ByteArray} (hs : TxtIs ls s) : (s = ⟨#[]⟩) ∨ (s.toList.isEmpty = false ∧ ifLs s = ls ∧ (ifL s.data.toList).isSome = true) := by
  by_cases hok : okIf ls
  · right
    have hb : ifL s.data.toList = some ls := by
      rw [hs.1 hok, show (bytesOf (ifT ls)).data.toList = ifT ls by simp [bytesOf]]
      exact ifL_back hok
    refine ⟨?_, ?_, ?_⟩
    · rw [hs.1 hok, ByteArray.toList_eq, show (bytesOf (ifT ls)).data.toList = ifT ls by simp [bytesOf]]
      rw [List.isEmpty_eq_false_iff]
      exact ifT_ne hok
    · unfold ifLs; rw [hb]; rfl
    · rw [hb]; rfl
  · exact .inl (hs.2 hok)

set_option maxRecDepth 100000 in
set_option maxHeartbeats 16000000 in
theorem FnIfs_walk (a : Option Addr) (len cap : Nat) (zs : List Int) (w : World) (hr : IsRow .u8 w a len cap zs) (hL : laidMet Tryz.prog Rows.fnIfsRow.laid w) :
    Calls Tryz.prog 3 #[.slice a len cap] w fun e w' => e = .returned (.bool true) ∧ Below w.heap.size w w' := by
  have HPT := hide (fun W (hb : Below w.heap.size w W) => (powTab_of hL.tail.tail : PowTab w).below hb)
  clear hL
  have hml := row_len hr
  by_cases hb : (1048576 : Int) < (len : Int)
  · clear hr
    go_enter Tryz.func3, Tryz.ntmps3
    go_wp2_with (go_at_call 4; refine (big_any a len cap _ hml).mono ?_; rintro e w1 ⟨rfl, hw⟩; obtain rfl := hw.symm; rw [decide_eq_true hb])
    go_ret
    exact ⟨rfl, Below.refl _ _⟩
  · have HC : Hid (CodeIn w w.heap.size a len zs) := code_of_row hr (by omega)
    clear hr
    have K := hide (Below.refl w.heap.size w)
    go_enter Tryz.func3, Tryz.ntmps3
    go_wp2_with (go_at_call 4; refine (big_any a len cap _ hml).mono ?_; rintro e w1 ⟨rfl, hw⟩; obtain rfl := hw.symm; rw [decide_eq_false hb])
    refine (drawIfText_any HC.out cap).mono ?_
    rintro e w1 ⟨⟨ls, v, rfl, hf, ho⟩, b1⟩
    replace K := hide (K.out.trans (b1.mono K.out.size))
    have HF := hide hf
    have VL := hide (show View w1 w1.heap.size v (.l (ls.map dCs)) from ho.vw (Nat.le_refl _))
    clear b1
    clear hf ho
    obtain ⟨tt, htt⟩ := txt_is ls
    have HTT := hide htt
    clear htt
    go_wp2_with fail
    refine (ifText_gen ls tt HTT.out v w1 VL.out (Nat.le_trans (few_sz HF.out) (by decide)) (few_wf HF.out) (HPT.out w1 K.out)).mono ?_
    rintro e w2 ⟨rfl, b2⟩
    replace K := hide (K.out.trans (b2.mono K.out.size))
    replace VL := hide (vnext VL.out b2)
    clear b2
    go_wp2_with fail
    refine (drawParseIf_any (HC.out.below K.out) cap).mono ?_
    rintro e w3 ⟨⟨t, rfl, ht⟩, b3⟩
    replace K := hide (K.out.trans (b3.mono K.out.size))
    replace VL := hide (vnext VL.out b3)
    have HT := hide ht
    clear ht
    clear b3
    go_wp2_with fail
    refine (parseIf_gen t w3 (by have := HT.out; omega)).mono ?_
    rintro e w4 ⟨⟨y, rfl, hy⟩, b4⟩
    replace K := hide (K.out.trans (b4.mono K.out.size))
    replace VL := hide (vnext VL.out b4)
    have VY := hide (show View w4 w4.heap.size y (.l ((ifLs t).map dCs)) from hy.vw (Nat.le_refl _))
    clear b4
    go_wp2_with fail
    refine (specParseIf_gen t w4 (by have := HT.out; omega)).mono ?_
    rintro e w5 ⟨⟨z, rfl, hz⟩, b5⟩
    replace K := hide (K.out.trans (b5.mono K.out.size))
    replace VL := hide (vnext VL.out b5)
    replace VY := hide (vnext VY.out b5)
    have VZ := hide (show View w5 w5.heap.size z (.l ((ifLs t).map dCs)) from hz)
    clear b5
    clear hy hz
    have HIS := hide (ifLs_facts t HT.out)
    have HOK := hide (ifLs_ok t)
    obtain ⟨is, his⟩ : ∃ x, (ifL t.data.toList).isSome = x := ⟨_, rfl⟩
    rw [his] at HIS ⊢
    clear his
    obtain ⟨lt, hlt⟩ : ∃ x, ifLs t = x := ⟨_, rfl⟩
    rw [hlt] at HIS HOK VY VZ
    clear hlt
    go_wp2_with fail
    refine (drawEvalIf_any (HC.out.below K.out) cap).mono ?_
    rintro e w6 ⟨⟨l6, v6, ks, g, n, c, s6, rfl, hf6, ho6, hk6, hi6⟩, b6⟩
    replace K := hide (K.out.trans (b6.mono K.out.size))
    replace VL := hide (vnext VL.out b6)
    replace VY := hide (vnext VY.out b6)
    replace VZ := hide (vnext VZ.out b6)
    have HF6 := hide hf6
    have HK6 := hide hk6
    have V6 := hide (show View w6 w6.heap.size v6 (.l (l6.map dCs)) from ho6.vw (Nat.le_refl _))
    have VK := hide (show View w6 w6.heap.size (.slice (some ⟨g, 0, none⟩) n c) (.l (ks.map dI)) from view_of_ints hi6)
    clear b6
    clear hf6 ho6 hk6 hi6
    go_wp2_with fail
    refine (drawSubmitted_any (HC.out.below K.out) cap).mono ?_
    rintro e w7 ⟨⟨l7, v7, rfl, hf7, ho7⟩, b7⟩
    replace K := hide (K.out.trans (b7.mono K.out.size))
    replace VL := hide (vnext VL.out b7)
    replace VY := hide (vnext VY.out b7)
    replace VZ := hide (vnext VZ.out b7)
    replace V6 := hide (vnext V6.out b7)
    replace VK := hide (vnext VK.out b7)
    have HF7 := hide hf7
    have V7 := hide (show View w7 w7.heap.size v7 (.l (l7.map dCs)) from ho7.vw (Nat.le_refl _))
    clear b7
    clear hf7 ho7
    have hbb : (is != is) = false := by cases is <;> rfl
    have hbt : (tt.toList != tt.toList) = false := by simp
    have hbt2 : (tt.toList == tt.toList) = true := beq_self_eq_true _
    go_wp2_with fail
    refine (sameIf_gen lt y z w7 VY.out VZ.out (by have := HOK.out.1; omega) (fun cs hc => by have := HOK.out.2 cs hc; omega)).mono ?_
    rintro e w8 ⟨rfl, b8⟩
    replace K := hide (K.out.trans (b8.mono K.out.size))
    clear VZ
    replace VL := hide (vnext VL.out b8)
    replace VY := hide (vnext VY.out b8)
    replace V6 := hide (vnext V6.out b8)
    replace VK := hide (vnext VK.out b8)
    replace V7 := hide (vnext V7.out b8)
    clear b8
    go_wp2_with fail
    refine (specIfText_gen ls tt HTT.out v w8 VL.out (Nat.le_trans (few_sz HF.out) (by decide)) (few_wf HF.out)).mono ?_
    rintro e w9 ⟨rfl, b9⟩
    replace K := hide (K.out.trans (b9.mono K.out.size))
    replace VL := hide (vnext VL.out b9)
    replace VY := hide (vnext VY.out b9)
    replace V6 := hide (vnext V6.out b9)
    replace VK := hide (vnext VK.out b9)
    replace V7 := hide (vnext V7.out b9)
    clear b9
    have HEI := hide (fun W x1 x2 => eval_gen l6 ks s6 v6 (.slice (some ⟨g, 0, none⟩) n c) W x1 x2 (Nat.le_trans (few_sz HF6.out) (by decide)) (by have := HK6.out; omega))
    have HES := hide (fun W x1 x2 => specEval_gen l6 ks s6 v6 (.slice (some ⟨g, 0, none⟩) n c) W x1 x2 (Nat.le_trans (few_sz HF6.out) (by decide)) (by have := HK6.out; omega))
    obtain ⟨ev, hev⟩ : ∃ x, evalI l6 ks s6 = x := ⟨_, rfl⟩
    rw [hev] at HEI HES
    clear hev
    have hbe : (ev != ev) = false := by cases ev <;> rfl
    go_wp2_with fail
    refine (HEI.out w9 V6.out VK.out).mono ?_
    rintro e w10 ⟨rfl, b10⟩
    replace K := hide (K.out.trans (b10.mono K.out.size))
    replace VL := hide (vnext VL.out b10)
    replace VY := hide (vnext VY.out b10)
    replace V6 := hide (vnext V6.out b10)
    replace VK := hide (vnext VK.out b10)
    replace V7 := hide (vnext V7.out b10)
    clear b10
    go_wp2_with fail
    refine (HES.out w10 V6.out VK.out).mono ?_
    rintro e w11 ⟨rfl, b11⟩
    replace K := hide (K.out.trans (b11.mono K.out.size))
    clear V6
    clear VK
    replace VL := hide (vnext VL.out b11)
    replace VY := hide (vnext VY.out b11)
    replace V7 := hide (vnext V7.out b11)
    clear b11
    go_wp2_with fail
    refine (sub_gen l7 v7 w11 V7.out (Nat.le_trans (few_sz HF7.out) (by decide))).mono ?_
    rintro e w12 ⟨⟨r7, rfl, hr7⟩, b12⟩
    replace K := hide (K.out.trans (b12.mono K.out.size))
    replace VL := hide (vnext VL.out b12)
    replace VY := hide (vnext VY.out b12)
    replace V7 := hide (vnext V7.out b12)
    have VR := hide (show View w12 w12.heap.size r7 (.l ((subI l7).map dI)) from hr7.vw (Nat.le_refl _))
    clear b12
    go_wp2_with fail
    refine (specSub_gen l7 v7 w12 V7.out (Nat.le_trans (few_sz HF7.out) (by decide))).mono ?_
    rintro e w13 ⟨⟨r8, rfl, hr8⟩, b13⟩
    replace K := hide (K.out.trans (b13.mono K.out.size))
    clear V7
    replace VL := hide (vnext VL.out b13)
    replace VY := hide (vnext VY.out b13)
    replace VR := hide (vnext VR.out b13)
    have VS := hide (show View w13 w13.heap.size r8 (.l ((subI l7).map dI)) from hr8)
    clear b13
    clear hr7 hr8
    have hsl : (subI l7).length ≤ 4194304 := by
      have e1 := sub_sz l7 (Nat.le_trans (few_sz HF7.out) (by decide))
      have e2 := subC_len l7.flatten
      have e3 := flat_small (Nat.le_trans (few_sz HF7.out) (by decide : 7 * (1 + 3 * 201) ≤ 1048576))
      unfold subI
      omega
    go_wp2_with fail
    refine (sameInts_gen (subI l7) r7 r8 w13 VR.out VS.out hsl).mono ?_
    rintro e w14 ⟨rfl, b14⟩
    replace K := hide (K.out.trans (b14.mono K.out.size))
    clear VR
    clear VS
    replace VL := hide (vnext VL.out b14)
    replace VY := hide (vnext VY.out b14)
    clear b14
    cases is with
    | false =>
      have HTX := hide (txt_back HTT.out)
      have hts : tt.size ≤ 1048576 := Nat.le_trans (few_txt HF.out HTT.out) (by decide)
      rcases HTX.out with hte | ⟨hte, htl, htb⟩
      · subst hte
        go_wp2_with fail
        refine (parseIf_gen ⟨#[]⟩ w14 (by decide)).mono ?_
        rintro e wx ⟨⟨x, rfl, hx⟩, bx⟩
        replace K := hide (K.out.trans (bx.mono K.out.size))
        clear hx bx
        go_wp2
        go_ret
        exact ⟨by simp, K.out⟩
      · have hte2 : ¬ tt.toList = [] := by
          intro e
          rw [e] at hte
          cases hte
        have HPX := hide (parseIf_gen tt w14 hts)
        rw [htl, htb] at HPX
        clear htl htb
        go_wp2_with fail
        refine HPX.out.mono ?_
        rintro e wx ⟨⟨x, rfl, hx⟩, bx⟩
        replace K := hide (K.out.trans (bx.mono K.out.size))
        replace VL := hide (vnext VL.out bx)
        have VX := hide (show View wx wx.heap.size x (.l (ls.map dCs)) from hx.vw (Nat.le_refl _))
        clear hx bx HPX
        go_wp2_with fail
        refine (sameIf_gen ls x v wx VX.out VL.out (few_len HF.out (by decide) (by decide)).1 (few_len HF.out (by decide) (by decide)).2).mono ?_
        rintro e wz ⟨rfl, bz⟩
        replace K := hide (K.out.trans (bz.mono K.out.size))
        clear bz
        go_wp2
        go_ret
        exact ⟨by simp, K.out⟩
    | true =>
      obtain ⟨t2, ht2⟩ := txt_is lt
      obtain ⟨q1, q2, q3, q4, q5⟩ := HIS.out rfl t2 ht2
      have HT2 := hide ht2
      have HW2 := hide q2
      have HS2 := hide q1
      have HPU := hide (fun W => parseIf_gen t2 W q3)
      rw [q4, q5] at HPU
      clear ht2 q1 q2 q3 q4 q5
      go_wp2_with fail
      refine (ifText_gen lt t2 HT2.out y w14 VY.out HS2.out HW2.out (HPT.out w14 K.out)).mono ?_
      rintro e w15 ⟨rfl, b15⟩
      replace K := hide (K.out.trans (b15.mono K.out.size))
      replace VL := hide (vnext VL.out b15)
      replace VY := hide (vnext VY.out b15)
      clear b15
      go_wp2_with fail
      refine (HPU.out w15).mono ?_
      rintro e w16 ⟨⟨u, rfl, hu⟩, b16⟩
      replace K := hide (K.out.trans (b16.mono K.out.size))
      replace VL := hide (vnext VL.out b16)
      replace VY := hide (vnext VY.out b16)
      have VU := hide (show View w16 w16.heap.size u (.l (lt.map dCs)) from hu.vw (Nat.le_refl _))
      clear b16
      clear hu
      go_wp2_with fail
      refine (sameIf_gen lt u y w16 VU.out VY.out (by have := HOK.out.1; omega) (fun cs hc => by have := HOK.out.2 cs hc; omega)).mono ?_
      rintro e w17 ⟨rfl, b17⟩
      replace K := hide (K.out.trans (b17.mono K.out.size))
      clear VU
      clear VY
      replace VL := hide (vnext VL.out b17)
      clear b17
      have HTX := hide (txt_back HTT.out)
      have hts : tt.size ≤ 1048576 := Nat.le_trans (few_txt HF.out HTT.out) (by decide)
      rcases HTX.out with hte | ⟨hte, htl, htb⟩
      · subst hte
        go_wp2_with fail
        refine (parseIf_gen ⟨#[]⟩ w17 (by decide)).mono ?_
        rintro e wx ⟨⟨x, rfl, hx⟩, bx⟩
        replace K := hide (K.out.trans (bx.mono K.out.size))
        clear hx bx
        go_wp2
        go_ret
        exact ⟨by simp, K.out⟩
      · have hte2 : ¬ tt.toList = [] := by
          intro e
          rw [e] at hte
          cases hte
        have HPX := hide (parseIf_gen tt w17 hts)
        rw [htl, htb] at HPX
        clear htl htb
        go_wp2_with fail
        refine HPX.out.mono ?_
        rintro e wx ⟨⟨x, rfl, hx⟩, bx⟩
        replace K := hide (K.out.trans (bx.mono K.out.size))
        replace VL := hide (vnext VL.out bx)
        have VX := hide (show View wx wx.heap.size x (.l (ls.map dCs)) from hx.vw (Nat.le_refl _))
        clear hx bx HPX
        go_wp2_with fail
        refine (sameIf_gen ls x v wx VX.out VL.out (few_len HF.out (by decide) (by decide)).1 (few_len HF.out (by decide) (by decide)).2).mono ?_
        rintro e wz ⟨rfl, bz⟩
        replace K := hide (K.out.trans (bz.mono K.out.size))
        clear bz
        go_wp2
        go_ret
        exact ⟨by simp, K.out⟩
end Go.Proofs.YtmgikfeknmbpbaaGreatDoor
