/-
  What the program's readMark does, and what it calls: a mark, or a text, ahead.
-/
import Derived.Test.YtccehdlgpbeijaaGreatDoorCutSpace
import Derived.Test.YtccehdlgpbeijaaGreatDoorMarkV
namespace Go.Proofs.YtccehdlgpbeijaaGreatDoor
open Go.RowKit M
set_option linter.unusedVariables false

/-- What the reading of a mark answers. -/
def ReadIs7 (o : Option (Pce × List UInt8)) (e : Ending) : Prop := ∃ (p : Pce) (t : ByteArray) (ok : Bool), e = .returned (.tuple #[markV p, .string t, .bool ok]) ∧ ok = o.isSome ∧ ∀ p' q, o = some (p', q) → p = p' ∧ t.data.toList = q
theorem read_ret {o : Option (Pce × List UInt8)} {ok : Bool} {v : Value} (p : Pce) (t : ByteArray) (hv : v = markV p) (h1 : ok = o.isSome) (h2 : ∀ p' q, o = some (p', q) → p = p' ∧ t.data.toList = q) : ReadIs7 o (.returned (.tuple #[v, .string t, .bool ok])) := ⟨p, t, ok, by rw [hv], h1, h2⟩

theorem bytes_list (l : List UInt8) : (bytesOf l).data.toList = l := rfl
theorem mv_close (n : ByteArray) : Value.iface 83 (.agg #[.string n]) = markV ⟨2, n, noB, false, noB⟩ := by simp [markV]
theorem mv_open (n ns : ByteArray) (has : Bool) : Value.iface 80 (.agg #[.string n, .bool has, .string ns]) = markV ⟨1, n, ns, has, noB⟩ := by simp [markV]
theorem mv_empty (n ns : ByteArray) (has : Bool) : Value.iface 72 (.agg #[.string n, .bool has, .string ns]) = markV ⟨3, n, ns, has, noB⟩ := by simp [markV]
theorem mv_text (s : ByteArray) : Value.iface 102 (.agg #[.string s]) = markV ⟨4, noB, noB, false, s⟩ := by simp [markV]
theorem data_eq {a b : ByteArray} (h : a.data.toList = b.data.toList) : a = b := by
  apply ByteArray.ext; apply Array.ext'; exact h

set_option maxRecDepth 100000 in
set_option maxHeartbeats 2000000 in
theorem readClose_any (s : ByteArray) (w : World) (hs : s.size ≤ 1099511627776) :
    Calls Tryz.prog 87 #[.string s] w fun e w' => ReadIs7 (closeL s.data.toList) e ∧ Below w.heap.size w w' := by
  have HN := hide (fun W : World => cutName_any s W hs)
  have HP0 := hide (fun (h : [62].isPrefixOf (nmR s.data.toList) = false) (W : World) => cutPre_no (bytesOf (nmR s.data.toList)) ⟨#[62]⟩ [62] rfl h W)
  have HP1 := hide (fun (h : [62].isPrefixOf (nmR s.data.toList) = true) (W : World) => cutPre_yes (bytesOf (nmR s.data.toList)) ⟨#[62]⟩ [62] 1 rfl rfl h W)
  rw [bytes_list] at HP1
  have HF : Hid (∀ (t : ByteArray) (ok : Bool), t.data.toList = (nmR s.data.toList).drop 1 ∨ [62].isPrefixOf (nmR s.data.toList) = false → ok = (smB (nmL s.data.toList) && [62].isPrefixOf (nmR s.data.toList)) → ReadIs7 (closeL s.data.toList) (.returned (.tuple #[.iface 83 (.agg #[.string (bytesOf (nmL s.data.toList))]), .string t, .bool ok]))) := by
    intro t ok ht hok
    refine read_ret _ t (mv_close _) ?_ ?_
    · unfold closeL
      rw [hok]
      cases (smB (nmL s.data.toList) && [62].isPrefixOf (nmR s.data.toList)) <;> rfl
    · intro p' q h
      unfold closeL at h
      split at h
      · rename_i hc
        rw [Bool.and_eq_true] at hc
        obtain ⟨rfl, rfl⟩ := Prod.mk.inj (Option.some.inj h)
        refine ⟨rfl, ?_⟩
        rcases ht with ht | ht
        · exact ht
        · rw [hc.2] at ht; cases ht
      · cases h
  obtain ⟨n, hn⟩ : ∃ n, bytesOf (nmL s.data.toList) = n := ⟨_, rfl⟩
  obtain ⟨r, hr⟩ : ∃ r, bytesOf (nmR s.data.toList) = r := ⟨_, rfl⟩
  obtain ⟨sm, hsm⟩ : ∃ sm, smB (nmL s.data.toList) = sm := ⟨_, rfl⟩
  rw [hn] at HN
  rw [hr, hsm] at HN
  rw [hr] at HP0 HP1
  rw [hn, hsm] at HF
  clear hn hr hsm
  cases hp : [62].isPrefixOf (nmR s.data.toList)
  · have HP := hide (HP0.out hp)
    rw [hp] at HF
    have HG := hide (fun t => HF.out t false (.inr rfl) (by simp))
    clear HF hp HP0 HP1
    go_enter Tryz.func87, Tryz.ntmps87
    go_wp2_with fail
    refine (HN.out _).mono ?_
    rintro e w1 ⟨rfl, b1⟩
    go_wp2_with fail
    refine (HP.out _).mono ?_
    rintro e w2 ⟨rfl, hw2⟩
    obtain rfl := hw2.symm
    cases sm
    all_goals
      go_wp2
      go_ret3
      exact ⟨HG.out r, b1⟩
  · have HP := hide (HP1.out hp)
    rw [hp] at HF
    obtain ⟨t, ht⟩ : ∃ t, bytesOf (List.drop 1 (nmR s.data.toList)) = t := ⟨_, rfl⟩
    have HG := hide (HF.out t sm (.inl (by rw [← ht]; rfl)) (by simp))
    rw [ht] at HP
    clear ht HF hp HP0 HP1
    go_enter Tryz.func87, Tryz.ntmps87
    go_wp2_with fail
    refine (HN.out _).mono ?_
    rintro e w1 ⟨rfl, b1⟩
    go_wp2_with fail
    refine (HP.out _).mono ?_
    rintro e w2 ⟨rfl, hw2⟩
    obtain rfl := hw2.symm
    cases sm
    all_goals
      go_wp2
      go_ret3
      exact ⟨HG.out, b1⟩

set_option maxRecDepth 100000 in
set_option maxHeartbeats 1000000 in
theorem readOpen_any (s : ByteArray) (w : World) (hs : s.size ≤ 1099511627776) :
    Calls Tryz.prog 88 #[.string s] w fun e w' => ReadIs7 (openL s.data.toList) e ∧ Below w.heap.size w w' := by
  have el : s.data.toList.length = s.size := Array.length_toList
  have HN := hide (fun W : World => cutName_any s W hs)
  have hrs : (bytesOf (nmR s.data.toList)).size ≤ 1099511627776 := by rw [bytesOf_size]; have := nmR_le s.data.toList; omega
  have HS := hide (fun W : World => cutSpace_any (bytesOf (nmR s.data.toList)) W hrs)
  rw [bytes_list] at HS
  have HF : Hid (∀ (has : Bool) (ns t : ByteArray) (sok : Bool), sok = (spcL (nmR s.data.toList)).isSome → (∀ sp q, spcL (nmR s.data.toList) = some (sp, q) → has = sp.1 ∧ ns.data.toList = sp.2 ∧ t.data.toList = q) →
      (∀ u : ByteArray, [47, 62].isPrefixOf t.data.toList = true → u.data.toList = t.data.toList.drop 2 → ReadIs7 (openL s.data.toList) (.returned (.tuple #[.iface 72 (.agg #[.string (bytesOf (nmL s.data.toList)), .bool has, .string ns]), .string u, .bool (smB (nmL s.data.toList) && sok)]))) ∧
      (∀ u : ByteArray, [47, 62].isPrefixOf t.data.toList = false → (u.data.toList = t.data.toList.drop 1 ∨ [62].isPrefixOf t.data.toList = false) → ReadIs7 (openL s.data.toList) (.returned (.tuple #[.iface 80 (.agg #[.string (bytesOf (nmL s.data.toList)), .bool has, .string ns]), .string u, .bool ((smB (nmL s.data.toList) && sok) && [62].isPrefixOf t.data.toList)])))) := by
    intro has ns t sok hsok hsp
    cases hsm : smB (nmL s.data.toList)
    · have ho : openL s.data.toList = none := by unfold openL; rw [if_neg (by simp [hsm])]
      refine ⟨fun u _ _ => ?_, fun u _ _ => ?_⟩
      · exact read_ret _ u (mv_empty _ _ _) (by rw [ho]; rfl) (by rw [ho]; intro p q h; cases h)
      · exact read_ret _ u (mv_open _ _ _) (by rw [ho]; rfl) (by rw [ho]; intro p q h; cases h)
    · cases hsp0 : spcL (nmR s.data.toList) with
      | none =>
        have ho : openL s.data.toList = none := by unfold openL; rw [if_pos hsm, hsp0]
        rw [hsp0] at hsok
        subst hsok
        refine ⟨fun u _ _ => ?_, fun u _ _ => ?_⟩
        · exact read_ret _ u (mv_empty _ _ _) (by rw [ho]; rfl) (by rw [ho]; intro p q h; cases h)
        · exact read_ret _ u (mv_open _ _ _) (by rw [ho]; rfl) (by rw [ho]; intro p q h; cases h)
      | some x =>
        obtain ⟨sp, q0⟩ := x
        obtain ⟨rfl, h2, h3⟩ := hsp sp q0 hsp0
        have ho : openL s.data.toList = endM (nmL s.data.toList) sp q0 := by unfold openL; rw [if_pos hsm, hsp0]
        rw [hsp0] at hsok
        subst hsok
        have hns : ns = bytesOf sp.2 := data_eq (by rw [h2]; rfl)
        subst hns
        rw [h3]
        refine ⟨fun u hp hu => ?_, fun u hp hu => ?_⟩
        · have he : endM (nmL s.data.toList) sp q0 = some (openP 3 (nmL s.data.toList) sp, q0.drop 2) := by unfold endM; rw [if_pos hp]
          refine read_ret _ u (mv_empty _ _ _) (by rw [ho, he]; rfl) ?_
          rw [ho, he]
          intro p q h
          obtain ⟨rfl, rfl⟩ := Prod.mk.inj (Option.some.inj h)
          exact ⟨rfl, hu⟩
        · cases hp1 : [62].isPrefixOf q0
          · have he : endM (nmL s.data.toList) sp q0 = none := by unfold endM; rw [if_neg (by simp [hp]), if_neg (by simp [hp1])]
            exact read_ret _ u (mv_open _ _ _) (by rw [ho, he]; rfl) (by rw [ho, he]; intro p q h; cases h)
          · have he : endM (nmL s.data.toList) sp q0 = some (openP 1 (nmL s.data.toList) sp, q0.drop 1) := by unfold endM; rw [if_neg (by simp [hp]), if_pos hp1]
            refine read_ret _ u (mv_open _ _ _) (by rw [ho, he]; rfl) ?_
            rw [ho, he]
            intro p q h
            obtain ⟨rfl, rfl⟩ := Prod.mk.inj (Option.some.inj h)
            refine ⟨rfl, ?_⟩
            rcases hu with hu | hu
            · exact hu
            · rw [hp1] at hu; cases hu
  obtain ⟨n, hn⟩ : ∃ n, bytesOf (nmL s.data.toList) = n := ⟨_, rfl⟩
  obtain ⟨r, hr⟩ : ∃ r, bytesOf (nmR s.data.toList) = r := ⟨_, rfl⟩
  obtain ⟨sm, hsm⟩ : ∃ sm, smB (nmL s.data.toList) = sm := ⟨_, rfl⟩
  rw [hn] at HN
  rw [hr, hsm] at HN
  rw [hr] at HS
  simp only [hn, hsm] at HF
  clear hn hr hsm hrs el
  go_enter Tryz.func88, Tryz.ntmps88
  go_wp2_with fail
  refine (HN.out _).mono ?_
  rintro e w1 ⟨rfl, b1⟩
  go_wp2_with fail
  refine (HS.out _).mono ?_
  rintro e w2 ⟨⟨has, ns, t, sok, rfl, hsok, hsp⟩, b2⟩
  have HF2 := hide (HF.out has ns t sok hsok hsp)
  have c2 := b1.trans (b2.mono b1.size)
  have C2 := hide c2
  have HB := hide (c2.alloc c2.size (Obj.cells #[.bool has, .string ns] 69))
  clear hsok hsp HF b1 b2 c2 HN HS
  cases hp2 : [47, 62].isPrefixOf t.data.toList
  · have HQ2 := hide (cutPre_no t ⟨#[47, 62]⟩ [47, 62] rfl hp2)
    cases hp1 : [62].isPrefixOf t.data.toList
    · have HQ1 := hide (cutPre_no t ⟨#[62]⟩ [62] rfl hp1)
      have HG := hide (HF2.out.2 t hp2 (.inr hp1))
      rw [hp1] at HG
      clear hp1 hp2 HF2
      cases sm <;> cases sok
      all_goals
        go_wp2_with fail
        refine (HQ2.out _).mono ?_
        rintro e w3 ⟨rfl, hw3⟩
        obtain rfl := hw3.symm
        go_wp2_with fail
        refine (HQ1.out _).mono ?_
        rintro e w3 ⟨rfl, hw3⟩
        obtain rfl := hw3.symm
        go_wp2
        go_ret3
        exact ⟨HG.out, HB.out⟩
    · have HQ1 := hide (cutPre_yes t ⟨#[62]⟩ [62] 1 rfl rfl hp1)
      obtain ⟨u1, hu1⟩ : ∃ u1, bytesOf (List.drop 1 t.data.toList) = u1 := ⟨_, rfl⟩
      rw [hu1] at HQ1
      have HG := hide (HF2.out.2 u1 hp2 (.inl (by rw [← hu1]; rfl)))
      rw [hp1] at HG
      clear hu1 hp1 hp2 HF2
      cases sm <;> cases sok
      all_goals
        go_wp2_with fail
        refine (HQ2.out _).mono ?_
        rintro e w3 ⟨rfl, hw3⟩
        obtain rfl := hw3.symm
        go_wp2_with fail
        refine (HQ1.out _).mono ?_
        rintro e w3 ⟨rfl, hw3⟩
        obtain rfl := hw3.symm
        go_wp2
        go_ret3
        exact ⟨HG.out, HB.out⟩
  · have HQ2 := hide (cutPre_yes t ⟨#[47, 62]⟩ [47, 62] 2 rfl rfl hp2)
    obtain ⟨u2, hu2⟩ : ∃ u2, bytesOf (List.drop 2 t.data.toList) = u2 := ⟨_, rfl⟩
    rw [hu2] at HQ2
    have HG := hide (HF2.out.1 u2 hp2 (by rw [← hu2]; rfl))
    clear hu2 hp2 HF2
    cases sm <;> cases sok
    all_goals
      go_wp2_with fail
      refine (HQ2.out _).mono ?_
      rintro e w3 ⟨rfl, hw3⟩
      obtain rfl := hw3.symm
      go_wp2
      go_ret3
      exact ⟨HG.out, HB.out⟩

set_option maxRecDepth 100000 in
set_option maxHeartbeats 1000000 in
theorem readText_any (s : ByteArray) (w : World) (hs : s.size ≤ 1099511627776) :
    Calls Tryz.prog 89 #[.string s] w fun e w' => ReadIs7 (textL7 s.data.toList) e ∧ Below w.heap.size w w' := by
  have el : s.data.toList.length = s.size := Array.length_toList
  have HI := hide (fun W : World => Tryz.strings_Index_one s 60 W)
  have hix : Lib.indexByte s.data.toList 60 = if fromB 60 s.data.toList = [] then -1 else ((upTo 60 s.data.toList).length : Int) := indexByte_upTo _ 60
  have hup := upTo_end 60 s.data.toList
  have x1 := extract_upTo s 60 0
  rw [List.drop_zero, Nat.zero_add] at x1
  have x2 : (s.extract (upTo 60 s.data.toList).length s.size).data.toList = fromB 60 s.data.toList := by
    rw [extract_rest]
    have e := upTo_from 60 s.data.toList
    generalize upTo 60 s.data.toList = p at e ⊢
    generalize fromB 60 s.data.toList = q at e ⊢
    rw [← e]
    simp
  have hus : (s.extract 0 (upTo 60 s.data.toList).length).size ≤ 1099511627776 := by rw [ByteArray.size_extract]; omega
  have HU := hide (fun W : World => unescape_any (s.extract 0 (upTo 60 s.data.toList).length) W hus)
  rw [x1] at HU
  have HF : Hid (∀ u : ByteArray, u.data.toList = fromB 60 s.data.toList → ReadIs7 (textL7 s.data.toList) (.returned (.tuple #[.iface 102 (.agg #[.string (bytesOf (unescR (upTo 60 s.data.toList)).1)]), .string u, .bool (unescR (upTo 60 s.data.toList)).2]))) := by
    intro u hu
    refine read_ret _ u (mv_text _) ?_ ?_
    · unfold textL7 unescR
      cases unesc (upTo 60 s.data.toList) <;> rfl
    · intro p' q h
      unfold textL7 at h
      unfold unescR
      cases hx : unesc (upTo 60 s.data.toList) with
      | none => rw [hx] at h; cases h
      | some y =>
        rw [hx] at h
        obtain ⟨rfl, rfl⟩ := Prod.mk.inj (Option.some.inj h)
        exact ⟨rfl, hu⟩
  obtain ⟨x, b, hx⟩ : ∃ x b, unescR (upTo 60 s.data.toList) = (x, b) := ⟨_, _, rfl⟩
  rw [hx] at HU HF
  obtain ⟨xb, hxb⟩ : ∃ xb, bytesOf x = xb := ⟨_, rfl⟩
  simp only [hxb] at HU HF
  obtain ⟨m, hm⟩ : ∃ m, (upTo 60 s.data.toList).length = m := ⟨_, rfl⟩
  rw [hm] at HU hix x2
  have hms : m ≤ s.size := by have := hup.1; omega
  have hms' : (m : Int) ≤ s.size := by omega
  have hm0 : (0 : Int) ≤ m := by omega
  by_cases hf : fromB 60 s.data.toList = []
  · have hmz : m = s.size := by have := hup.2.2 hf; omega
    rw [if_pos hf] at hix
    rw [hix] at HI
    rw [hf] at HF
    subst hmz
    have e0 : s.extract 0 s.size = s := by
      apply data_eq
      rw [extract_rest, List.drop_zero]
    rw [e0] at HU
    clear el hix hup x1 x2 hus hx hxb hm hf e0
    go_enter Tryz.func89, Tryz.ntmps89
    go_wp2_with fail
    refine (HI.out _).mono ?_
    rintro e w1 ⟨rfl, hw1⟩
    obtain rfl := hw1.symm
    go_wp2_with fail
    refine (HU.out _).mono ?_
    rintro e w2 ⟨rfl, b2⟩
    go_wp2
    go_quiet (fail)
    go_wp2
    go_ret3
    exact ⟨HF.out _ (by simp), b2.trans ((below_drewC w2 nq).mono b2.size)⟩
  · have HG := hide (HF.out _ x2)
    rw [if_neg hf] at hix
    rw [hix] at HI
    clear el hix hup x1 x2 hus HF hx hxb hm hf
    go_enter Tryz.func89, Tryz.ntmps89
    go_wp2_with fail
    refine (HI.out _).mono ?_
    rintro e w1 ⟨rfl, hw1⟩
    obtain rfl := hw1.symm
    go_wp2_with fail
    refine (HU.out _).mono ?_
    rintro e w2 ⟨rfl, b2⟩
    go_wp2
    go_quiet (fail)
    go_wp2
    go_ret3
    exact ⟨HG.out, b2.trans ((below_drewC w2 nq).mono b2.size)⟩

theorem drop_small (s : ByteArray) (n : Nat) (hs : s.size ≤ 1099511627776) : (bytesOf (s.data.toList.drop n)).size ≤ 1099511627776 := by
  have el : s.data.toList.length = s.size := Array.length_toList
  rw [bytesOf_size, List.length_drop]; omega

set_option maxRecDepth 100000 in
set_option maxHeartbeats 1000000 in
theorem readMark_any (s : ByteArray) (w : World) (hs : s.size ≤ 1099511627776) :
    Calls Tryz.prog 69 #[.string s] w fun e w' => ReadIs7 (markL s.data.toList) e ∧ Below w.heap.size w w' := by
  cases h2 : [60, 47].isPrefixOf s.data.toList
  · have HP2 := hide (cutPre_no s ⟨#[60, 47]⟩ [60, 47] rfl h2)
    cases h1 : [60].isPrefixOf s.data.toList
    · have HP1 := hide (cutPre_no s ⟨#[60]⟩ [60] rfl h1)
      have HR := hide (fun W : World => readText_any s W hs)
      have e : markL s.data.toList = textL7 s.data.toList := by unfold markL; rw [if_neg (by simp [h2]), if_neg (by simp [h1])]
      rw [e]
      clear h1 h2 e
      go_enter Tryz.func69, Tryz.ntmps69
      go_wp2_with fail
      refine (HP2.out _).mono ?_
      rintro e w1 ⟨rfl, hw1⟩
      obtain rfl := hw1.symm
      go_wp2_with fail
      refine (HP1.out _).mono ?_
      rintro e w1 ⟨rfl, hw1⟩
      obtain rfl := hw1.symm
      go_wp2_with fail
      refine (HR.out _).mono ?_
      rintro e w1 ⟨⟨p, t, ok, rfl, hq⟩, b1⟩
      have HQ := hide (show ReadIs7 (textL7 s.data.toList) _ from ⟨p, t, ok, rfl, hq⟩)
      obtain ⟨v, hv⟩ : ∃ v, markV p = v := ⟨_, rfl⟩
      rw [hv] at HQ ⊢
      clear hq hv
      go_wp2
      go_ret3
      exact ⟨HQ.out, b1⟩
    · have HP1 := hide (cutPre_yes s ⟨#[60]⟩ [60] 1 rfl rfl h1)
      have HR := hide (fun W : World => readOpen_any (bytesOf (s.data.toList.drop 1)) W (drop_small s 1 hs))
      rw [bytes_list] at HR
      have e : markL s.data.toList = openL (s.data.toList.drop 1) := by unfold markL; rw [if_neg (by simp [h2]), if_pos h1]
      rw [e]
      obtain ⟨u, hu⟩ : ∃ u, bytesOf (s.data.toList.drop 1) = u := ⟨_, rfl⟩
      rw [hu] at HP1 HR
      clear h1 h2 e hu
      go_enter Tryz.func69, Tryz.ntmps69
      go_wp2_with fail
      refine (HP2.out _).mono ?_
      rintro e w1 ⟨rfl, hw1⟩
      obtain rfl := hw1.symm
      go_wp2_with fail
      refine (HP1.out _).mono ?_
      rintro e w1 ⟨rfl, hw1⟩
      obtain rfl := hw1.symm
      go_wp2_with fail
      refine (HR.out _).mono ?_
      rintro e w1 ⟨⟨p, t, ok, rfl, hq⟩, b1⟩
      have HQ := hide (show ReadIs7 (openL (s.data.toList.drop 1)) _ from ⟨p, t, ok, rfl, hq⟩)
      obtain ⟨v, hv⟩ : ∃ v, markV p = v := ⟨_, rfl⟩
      rw [hv] at HQ ⊢
      clear hq hv
      go_wp2
      go_ret3
      exact ⟨HQ.out, b1⟩
  · have HP2 := hide (cutPre_yes s ⟨#[60, 47]⟩ [60, 47] 2 rfl rfl h2)
    have HR := hide (fun W : World => readClose_any (bytesOf (s.data.toList.drop 2)) W (drop_small s 2 hs))
    rw [bytes_list] at HR
    have e : markL s.data.toList = closeL (s.data.toList.drop 2) := by unfold markL; rw [if_pos h2]
    rw [e]
    obtain ⟨u, hu⟩ : ∃ u, bytesOf (s.data.toList.drop 2) = u := ⟨_, rfl⟩
    rw [hu] at HP2 HR
    clear h2 e hu
    go_enter Tryz.func69, Tryz.ntmps69
    go_wp2_with fail
    refine (HP2.out _).mono ?_
    rintro e w1 ⟨rfl, hw1⟩
    obtain rfl := hw1.symm
    go_wp2_with fail
    refine (HR.out _).mono ?_
    rintro e w1 ⟨⟨p, t, ok, rfl, hq⟩, b1⟩
    have HQ := hide (show ReadIs7 (closeL (s.data.toList.drop 2)) _ from ⟨p, t, ok, rfl, hq⟩)
    obtain ⟨v, hv⟩ : ∃ v, markV p = v := ⟨_, rfl⟩
    rw [hv] at HQ ⊢
    clear hq hv
    go_wp2
    go_ret3
    exact ⟨HQ.out, b1⟩
end Go.Proofs.YtccehdlgpbeijaaGreatDoor
