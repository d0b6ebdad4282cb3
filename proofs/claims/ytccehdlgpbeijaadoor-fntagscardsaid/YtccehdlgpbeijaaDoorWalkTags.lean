/-
  The walk of the law FnTags: for every code it returns true, and turns nothing that was there.
-/
import Derived.Test.YtccehdlgpbeijaaDoorDrawTag
import Derived.Test.YtccehdlgpbeijaaDoorMatchOk
import Derived.Test.YtccehdlgpbeijaaDoorNoneOk
import Derived.Test.YtccehdlgpbeijaaDoorSameTexts
import Derived.Test.YtccehdlgpbeijaaDoorAt
import Derived.Test.YtccehdlgpbeijaaDoorBig
import Derived.Test.YtccehdlgpbeijaaDoorIsRow
namespace Go.Proofs.YtccehdlgpbeijaaDoor
open Go.RowKit M
set_option linter.unusedVariables false

theorem digit_is {l : List UInt8} (h : digs l = true) : ∀ c ∈ l, isB (c.toNat : Int) 4 = true := by
  intro c hc
  unfold digs allB at h
  rw [List.all_eq_true] at h
  have := h c hc
  simpa [anyB] using this
theorem ver_inn (k : Nat) (hk : k < 1000000) : innB (verL (k : Int)) = true ∧ 34 ∉ verL (k : Int) := by
  obtain ⟨_, h2, _, _⟩ := dec_back k k (Nat.le_refl _)
  have hl := dec_len 5 k (by omega)
  have hd := digit_is h2
  unfold verL innB
  rw [Int.toNat_natCast]
  refine ⟨?_, ?_⟩
  · rw [Bool.and_eq_true]
    refine ⟨by simp; omega, ?_⟩
    unfold allB
    rw [List.all_cons, Bool.and_eq_true]
    refine ⟨by decide, ?_⟩
    rw [List.all_eq_true]
    intro c hc
    have := hd c hc
    simp [isB, anyB] at this ⊢
    omega
  · intro hm
    rcases List.mem_cons.1 hm with h | h
    · exact absurd h (by decide)
    · exact absurd (hd _ h) (by decide)
theorem ver_tags (k : Nat) (hk : k < 1000000) : tagsR (tagL (verL (k : Int))) = ([tagL (verL (k : Int))], true) := by
  obtain ⟨h1, h2⟩ := ver_inn k hk
  have hne : ¬ tagL (verL (k : Int)) = [42] := by simp [tagL]
  apply tagsR_some hne
  rw [tgs]
  have e1 : trimL (tagL (verL (k : Int))) = tagL (verL (k : Int)) := by
    have := trim_tag (verL (k : Int)) []
    rw [List.append_nil] at this
    rw [this]; simp [rtr]
  have e2 := cutT_of (verL (k : Int)) [] h2
  rw [List.append_nil, if_pos h1] at e2
  rw [e1, e2]
  rfl
theorem bytes_inj {a b : List UInt8} (h : bytesOf a = bytesOf b) : a = b := by
  have : (bytesOf a).data.toList = (bytesOf b).data.toList := by rw [h]
  exact this
theorem ver_self (k : Nat) (hk : k < 1000000) : namB (tagL (verL (k : Int))) (bytesOf (tagL (verL (k : Int)))) = true := by
  rw [namB_not (by simp [tagL]), ver_tags k hk]
  simp [hasB]
theorem ver_other (k j : Nat) (hk : k < 1000000) (h : k ≠ j) : namB (tagL (verL (k : Int))) (bytesOf (tagL (verL (j : Int)))) = false := by
  rw [namB_not (by simp [tagL]), ver_tags k hk]
  apply hasB_no
  intro hm
  have e := bytes_inj (List.mem_singleton.1 hm)
  simp only [tagL, verL, List.cons.injEq, true_and, List.cons_append, List.append_cancel_right_eq, Int.toNat_natCast] at e
  have e1 := (dec_back k k (Nat.le_refl _)).1
  have e2 := (dec_back j j (Nat.le_refl _)).1
  rw [e] at e2
  omega

set_option maxRecDepth 100000 in
set_option maxHeartbeats 4000000 in
theorem FnTags_walk (a : Option Addr) (len cap : Nat) (zs : List Int) (w : World) (hr : IsRow .u8 w a len cap zs) (hL : laidMet Tryd.prog Rows.fnTagsRow.laid w) :
    Calls Tryd.prog 3 #[.slice a len cap] w fun e w' => e = .returned (.bool true) ∧ Below w.heap.size w w' := by
  have ht : PowTab w := powTab_of hL.tail.tail
  have HT : Hid (PowTab w) := ht
  clear ht hL
  have hml := row_len hr
  by_cases hb : (1048576 : Int) < (len : Int)
  · clear hr
    go_enter Tryd.func3, Tryd.ntmps3
    go_wp2_with (go_at_call 5; refine (big_any a len cap _ hml).mono ?_; rintro e w1 ⟨rfl, hw⟩; obtain rfl := hw.symm; rw [decide_eq_true hb])
    go_ret
    exact ⟨rfl, Below.refl _ _⟩
  · have HC : Hid (CodeIn w w.heap.size a len zs) := code_of_row hr (by omega)
    clear hr
    go_enter Tryd.func3, Tryd.ntmps3
    go_wp2_with (go_at_call 5; refine (big_any a len cap _ hml).mono ?_; rintro e w1 ⟨rfl, hw⟩; obtain rfl := hw.symm; rw [decide_eq_false hb])
    refine (drawTagText_any HC.out cap).mono ?_
    rintro e w1 ⟨⟨n, rfl, hn⟩, b1⟩
    have C1 := hide b1
    have HI := hide (fun W h => tagText_any n W hn h)
    have HS := hide (fun W => specTagText_any n W hn)
    obtain ⟨d, hd⟩ : ∃ d : ByteArray, bytesOf (tagL (verL n)) = d := ⟨_, rfl⟩
    rw [hd] at HI HS
    clear hd b1
    go_wp2_with fail
    refine (HI.out w1 (HT.out.below C1.out)).mono ?_
    rintro e w2 ⟨rfl, b2⟩
    have C2 := hide (C1.out.trans (b2.mono C1.out.size))
    have HC2 := hide (HC.out.below C2.out)
    clear b2
    go_wp2_with fail
    refine (drawParseTags_any HC2.out cap).mono ?_
    rintro e w3 ⟨⟨t, rfl, htz⟩, b3⟩
    have C3 := hide (C2.out.trans (b3.mono C2.out.size))
    have HP := hide (fun W => parseTags_any t W (by omega))
    have HQ := hide (fun W => specParseTags_any t W (by omega))
    unfold TagRet at HP HQ
    have h5 := tagsR_len9 t.data.toList
    obtain ⟨r, hr⟩ : ∃ r, tagsR t.data.toList = r := ⟨_, rfl⟩
    rw [hr] at HP HQ h5
    clear hr b3
    obtain ⟨ls, ok⟩ := r
    obtain ⟨ns, hns⟩ : ∃ ns, ls.map bytesOf = ns := ⟨_, rfl⟩
    have hlm : ns.length ≤ maxLen := by rw [← hns, List.length_map]; unfold maxLen; simp only at h5; omega
    simp only [hns] at HP HQ
    clear hns h5
    go_wp2_with fail
    refine (HP.out w3).mono ?_
    rintro e w4 ⟨⟨v4, rfl, ho4⟩, b4⟩
    obtain ⟨g4, c4, rfl, hq4⟩ := ho4
    have O4 := hide (show OwnS w4 w3.heap.size (.slice (some ⟨g4, 0, none⟩) ns.length c4) ns from ⟨g4, c4, rfl, hq4⟩)
    have C4 := hide (C3.out.trans (b4.mono C3.out.size))
    clear b4 hq4
    go_wp2_with fail
    refine (HQ.out w4).mono ?_
    rintro e w5 ⟨⟨v5, rfl, ho5⟩, b5⟩
    obtain ⟨g5, c5, rfl, hq5⟩ := ho5
    have O5 := hide (show OwnS w5 w4.heap.size (.slice (some ⟨g5, 0, none⟩) ns.length c5) ns from ⟨g5, c5, rfl, hq5⟩)
    have O45 := hide (O4.out.below b5)
    have C5 := hide (C4.out.trans (b5.mono C4.out.size))
    have HC5 := hide (HC.out.below C5.out)
    clear b5 hq5 O4
    go_wp2_with fail
    refine (drawMatchOk_any HC5.out cap).mono ?_
    rintro e w6 ⟨⟨sa, q, j, rfl, hsa, hj⟩, b6⟩
    have O46 := hide (O45.out.below b6)
    have O56 := hide (O5.out.below b6)
    have C6 := hide (C5.out.trans (b6.mono C5.out.size))
    have HC6 := hide (HC.out.below C6.out)
    obtain ⟨tg, htg⟩ : ∃ tg : ByteArray, bytesOf (tagL (verL (j : Int))) = tg := ⟨_, rfl⟩
    rw [htg]
    clear b6 htg O45 O5
    go_wp2_with fail
    refine (at_any HC6.out cap 2 (by decide)).mono ?_
    rintro e w7 ⟨⟨k, hk, rfl⟩, hw⟩
    obtain rfl := hw.symm
    go_wp2_with fail
    refine (HS.out w6).mono ?_
    rintro e w7 ⟨rfl, b7⟩
    have O47 := hide (O46.out.below b7)
    have O57 := hide (O56.out.below b7)
    have C7 := hide (C6.out.trans (b7.mono C6.out.size))
    clear b7 O46 O56
    have HSA := hide (sameTexts_any (some ⟨g4, 0, none⟩) (some ⟨g5, 0, none⟩) ns ns c4 c5 _ _ w7 (O47.out.strs (Nat.le_refl _)) (O57.out.strs (Nat.le_refl _)) hlm hlm)
    rw [sameL_refl] at HSA
    obtain ⟨nn, hnn⟩ : ∃ nn, ns.length = nn := ⟨_, rfl⟩
    rw [hnn] at HSA
    rw [hnn]
    clear hnn
    go_wp2_with fail
    refine HSA.out.mono ?_
    rintro e w8 ⟨rfl, b8⟩
    have C8 := hide (C7.out.trans (b8 _))
    clear b8
    have M1 := hide (fun W => matchOk_any sa tg q W (by omega))
    have M2 := hide (fun W => specMatchOk_any sa tg q W (by omega))
    have M3 := hide (fun W => noneOk_any sa tg q W (by omega))
    have M4 := hide (fun W => specNoneOk_any sa tg q W (by omega))
    obtain ⟨r1, hr1⟩ : ∃ r1, (q && namB sa.data.toList tg) = r1 := ⟨_, rfl⟩
    obtain ⟨r2, hr2⟩ : ∃ r2, (!q || !namB sa.data.toList tg) = r2 := ⟨_, rfl⟩
    rw [hr1] at M1 M2
    rw [hr2] at M3 M4
    clear hr1 hr2
    go_wp2_with fail
    refine (M1.out w8).mono ?_
    rintro e w9 ⟨rfl, b9⟩
    have C9 := hide (C8.out.trans (b9.mono C8.out.size))
    clear b9
    go_wp2_with fail
    refine (M2.out w9).mono ?_
    rintro e w10 ⟨rfl, b10⟩
    have C10 := hide (C9.out.trans (b10.mono C9.out.size))
    clear b10
    go_wp2_with fail
    refine (M3.out w10).mono ?_
    rintro e w11 ⟨rfl, b11⟩
    have C11 := hide (C10.out.trans (b11.mono C10.out.size))
    clear b11
    go_wp2_with fail
    refine (M4.out w11).mono ?_
    rintro e w12 ⟨rfl, b12⟩
    have C12 := hide (C11.out.trans (b12.mono C11.out.size))
    clear b12
    have hkk : (k : Int) ≤ 9223372036854775807 := by omega
    have hkk1 : (k : Int) + 1 ≤ 9223372036854775807 := by omega
    have T1 := hide (fun W h => tagText_any (k : Int) W hkk h)
    have T2 := hide (fun W h => tagText_any ((k : Int) + 1) W hkk1 h)
    have hsz : (bytesOf (tagL (verL (k : Int)))).size ≤ 1048576 := by
      rw [bytesOf_size]
      have := dec_len 5 k (by omega)
      simp [tagL, verL]; omega
    have K1 := hide (fun W => matchOk_any (bytesOf (tagL (verL (k : Int)))) (bytesOf (tagL (verL (k : Int)))) true W hsz)
    have K2 := hide (fun W => matchOk_any (bytesOf (tagL (verL (k : Int)))) (bytesOf (tagL (verL ((k : Int) + 1)))) true W hsz)
    have e1 : (true && namB (bytesOf (tagL (verL (k : Int)))).data.toList (bytesOf (tagL (verL (k : Int))))) = true := ver_self k (by omega)
    have e2 : (true && namB (bytesOf (tagL (verL (k : Int)))).data.toList (bytesOf (tagL (verL ((k : Int) + 1))))) = false := by
      have := ver_other k (k + 1) (by omega) (by omega)
      rw [Int.natCast_add] at this
      exact this
    rw [e1] at K1
    rw [e2] at K2
    obtain ⟨d1, hd1⟩ : ∃ d : ByteArray, bytesOf (tagL (verL (k : Int))) = d := ⟨_, rfl⟩
    obtain ⟨d2, hd2⟩ : ∃ d : ByteArray, bytesOf (tagL (verL ((k : Int) + 1))) = d := ⟨_, rfl⟩
    rw [hd1] at T1 K1 K2
    rw [hd2] at T2 K2
    clear hd1 hd2 e1 e2 hsz
    go_wp2_with fail
    refine (T1.out w12 (HT.out.below C12.out)).mono ?_
    rintro e w13 ⟨rfl, b13⟩
    have C13 := hide (C12.out.trans (b13.mono C12.out.size))
    clear b13
    go_wp2_with fail
    refine (T1.out w13 (HT.out.below C13.out)).mono ?_
    rintro e w14 ⟨rfl, b14⟩
    have C14 := hide (C13.out.trans (b14.mono C13.out.size))
    clear b14
    go_wp2_with fail
    refine (K1.out w14).mono ?_
    rintro e w15 ⟨rfl, b15⟩
    have C15 := hide (C14.out.trans (b15.mono C14.out.size))
    clear b15
    go_wp2_with fail
    refine (T1.out w15 (HT.out.below C15.out)).mono ?_
    rintro e w16 ⟨rfl, b16⟩
    have C16 := hide (C15.out.trans (b16.mono C15.out.size))
    clear b16
    go_wp2_with fail
    refine (T2.out w16 (HT.out.below C16.out)).mono ?_
    rintro e w17 ⟨rfl, b17⟩
    have C17 := hide (C16.out.trans (b17.mono C16.out.size))
    clear b17
    go_wp2_with fail
    refine (K2.out w17).mono ?_
    rintro e w18 ⟨rfl, b18⟩
    have C18 := hide (C17.out.trans (b18.mono C17.out.size))
    clear b18
    have S1 : Hid (∀ W, Calls Tryd.prog 17 #[.string ⟨#[42]⟩, .bool true, .string d] W fun e w' => e = .returned (.bool false) ∧ Below W.heap.size W w') := fun W => noneOk_any ⟨#[42]⟩ d true W (by decide)
    have S2 : Hid (∀ W, Calls Tryd.prog 17 #[.string ⟨#[42]⟩, .bool false, .string d] W fun e w' => e = .returned (.bool true) ∧ Below W.heap.size W w') := fun W => noneOk_any ⟨#[42]⟩ d false W (by decide)
    have S3 : Hid (∀ W, Calls Tryd.prog 15 #[.string ⟨#[42]⟩, .bool true, .string d] W fun e w' => e = .returned (.bool true) ∧ Below W.heap.size W w') := fun W => matchOk_any ⟨#[42]⟩ d true W (by decide)
    go_wp2_with fail
    refine (S1.out w18).mono ?_
    rintro e w19 ⟨rfl, b19⟩
    have C19 := hide (C18.out.trans (b19.mono C18.out.size))
    clear b19
    go_wp2_with fail
    refine (S2.out w19).mono ?_
    rintro e w20 ⟨rfl, b20⟩
    have C20 := hide (C19.out.trans (b20.mono C19.out.size))
    clear b20
    go_wp2_with fail
    refine (S3.out w20).mono ?_
    rintro e w21 ⟨rfl, b21⟩
    have C21 := hide (C20.out.trans (b21.mono C20.out.size))
    clear b21
    go_wp2
    go_ret
    exact ⟨rfl, C21.out⟩
end Go.Proofs.YtccehdlgpbeijaaDoor
