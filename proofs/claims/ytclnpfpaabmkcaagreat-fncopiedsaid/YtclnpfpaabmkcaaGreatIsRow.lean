/-
  What a copy leaves is right: no program in sight.
  What a put leaves: it is found, and all else stays. No program in sight.
  What a copy has, and what a move is beside it: no program in sight.
  A byte of a code.
  A byte of a code: which one.
  A slice of integers as the row hands it in.
  Codes that are too long; what stays below what was there.
  The bytes of a draw as the row hands them in.
-/
import Derived.Test.YtclnpfpaabmkcaaGreatMathFarS
import Derived.Test.YtclnpfpaabmkcaaGreatMathRemoved
import Derived.Test.YtclnpfpaabmkcaaGreatSpecPathOk
import Derived.Test.YtclnpfpaabmkcaaGreatSameTexts
import Derived.Test.YtclnpfpaabmkcaaGreatHide
import Derived.Test.YtclnpfpaabmkcaaGreatRows
import Derived.OpenShut
import Derived.WalkKit
import Derived.WalkSpells
import Derived.WalkLawsBesides
namespace Go.Proofs.YtclnpfpaabmkcaaGreat
open M

theorem fold_asc : ∀ (cs : List Rs) {st : List Rs}, Asc st → Asc (cs.foldl (fun acc c => putR c false acc) st)
  | [], _, h => h
  | c :: cs, _, h => by rw [List.foldl_cons]; exact fold_asc cs h.put
theorem whole_mem {st cs : List Rs} {to : List ByteArray} {y : Rs} : y ∈ wholeL st to cs ↔ y ∈ st ∨ y ∈ cs := by
  have h : y ∈ st ↔ y ∈ st.takeWhile (aheadB to) ∨ y ∈ st.dropWhile (aheadB to) := by
    rw [← List.mem_append, List.takeWhile_append_dropWhile]
  unfold wholeL
  rw [List.mem_append, List.mem_append, h]
  constructor
  · rintro (h | h | h)
    · exact .inl (.inl h)
    · exact .inr h
    · exact .inl (.inr h)
  · rintro ((h | h) | h)
    · exact .inl h
    · exact .inr (.inr h)
    · exact .inr (.inl h)
theorem rest_mem {rs : List Rs} {fr to : List ByteArray} {mv : Bool} {y : Rs} : y ∈ restL rs fr to mv ↔ y ∈ rs ∧ deepB to y = false ∧ (mv = true → deepB fr y = false) := by
  unfold restL
  cases mv
  · simp only [Bool.false_eq_true, if_false, false_implies, and_true]
    exact without_mem
  · simp only [if_true, forall_const]
    rw [without_mem, without_mem, and_assoc]
theorem above_pre (p : List ByteArray) : aboveL p <+: p := List.take_prefix _ _
theorem carry_above {fr to : List ByteArray} {v : Int} {r : Rs} (h : fr.length < r.pa.length) : aboveL (carryR fr to v r).pa = to ++ (aboveL r.pa).drop fr.length := by
  show aboveL (to ++ r.pa.drop fr.length) = _
  unfold aboveL
  rw [List.length_append, List.length_drop, List.take_append]
  rw [List.take_of_length_le (by omega), List.drop_take]
  congr 2
  omega
theorem far_tree {rs : List Rs} {fr to : List ByteArray} {ov : Bool} {v : Int} {mv : Bool} (h : farI rs fr to ov v mv = 0) : treeB (farR rs fr to ov v mv) = true := by
  have hfar : far1 rs fr to ov v = 0 := by
    by_cases e : far1 rs fr to ov v = 0
    · exact e
    · unfold farI at h
      rw [if_pos e] at h
      exact absurd h e
  obtain ⟨ht, hpf, hto, hv, hth, hap⟩ := far1_ok hfar
  have hI := h
  unfold farI at hI
  rw [if_neg (by simp [hfar])] at hI
  have hca : collB rs (aboveL to) = true := by
    cases e : collB rs (aboveL to)
    · rw [e, if_pos rfl] at hI; cases hI
    · rfl
  rw [hca, if_neg (by simp)] at hI
  have hlg : tooLong rs fr to = false := by
    cases e : tooLong rs fr to
    · rfl
    · rw [e, if_pos rfl] at hI; cases hI
  rw [hlg, if_neg (by simp)] at hI
  have h12 : (restL rs fr to mv).length + (deepL rs fr).length ≤ 12 := by
    by_cases e : 12 < (restL rs fr to mv).length + (deepL rs fr).length
    · rw [if_pos e] at hI; cases hI
    · omega
  have ha := tree_asc ht
  have hts := ht
  unfold treeB at hts
  simp only [Bool.and_eq_true, decide_eq_true_eq, List.all_eq_true] at hts
  have hR : farR rs fr to ov v mv = wholeL (restL rs fr to mv) to (carryL rs fr to v) := by unfold farR; rw [if_pos h]
  rw [hR]
  have hAs : Asc (wholeL (restL rs fr to mv) to (carryL rs fr to v)) := by
    rw [← far_fold ha]
    exact fold_asc _ (rest_asc ha)
  have hto0 : 0 < to.length := Nat.pos_of_ne_zero fun e => by rw [apart_no (.inr (.inl e))] at hap; cases hap
  have hbad := carry_bad (fr := fr) (v := v) ht hto
  rw [hlg, List.any_eq_false] at hbad
  unfold treeB
  simp only [Bool.and_eq_true, decide_eq_true_eq, List.all_eq_true]
  refine ⟨?_, fun y hy => ?_, asc_to hAs, fun y hy => ?_⟩
  · have hlw : (wholeL (restL rs fr to mv) to (carryL rs fr to v)).length = (restL rs fr to mv).length + (carryL rs fr to v).length := by
      unfold wholeL
      rw [List.length_append, List.length_append]
      have := congrArg List.length (List.takeWhile_append_dropWhile (p := aheadB to) (l := restL rs fr to mv))
      rw [List.length_append] at this
      omega
    have : (carryL rs fr to v).length = (deepL rs fr).length := by unfold carryL; simp
    omega
  · rcases whole_mem.1 hy with hy | hy
    · exact hts.2.1 y (rest_mem.1 hy).1
    · have hb := hbad y hy
      unfold carryL at hy
      obtain ⟨r, hr, rfl⟩ := List.mem_map.1 hy
      have hres := hts.2.1 r (deepL_mem.1 hr).1
      have hpb : pathB (carryR fr to v r).pa = true := by
        unfold badP at hb
        cases e : pathB (carryR fr to v r).pa
        · rw [e] at hb; exact absurd rfl hb
        · rfl
      unfold resB at hres ⊢
      simp only [Bool.and_eq_true, decide_eq_true_eq] at hres ⊢
      refine ⟨?_, hpb, hres.2.2.1, hres.2.2.2.1, hv, hres.2.2.2.2.2⟩
      show 0 < (to ++ r.pa.drop fr.length).length
      rw [List.length_append]
      omega
  · unfold onB
    rw [coll_iff hAs]
    rcases whole_mem.1 hy with hy | hy
    · obtain ⟨hm, hd1, hd2⟩ := rest_mem.1 hy
      have hon := hts.2.2.2 y hm
      unfold onB at hon
      rcases (coll_iff ha _).1 hon with h0 | ⟨s, hs, he, hc⟩
      · exact .inl h0
      · have keep : ∀ q, deepB q y = false → deepB q s = false := fun q hq => by
          cases e : deepB q s
          · rfl
          · have h5 := deep_iff.1 e
            rw [he] at h5
            rw [deep_iff.2 (h5.trans (above_pre _))] at hq
            cases hq
        exact .inr ⟨s, whole_mem.2 (.inl (rest_mem.2 ⟨hs, keep to hd1, fun e => keep fr (hd2 e)⟩)), he, hc⟩
    · unfold carryL at hy
      obtain ⟨r, hr, rfl⟩ := List.mem_map.1 hy
      obtain ⟨hm, hd⟩ := deepL_mem.1 hr
      have hpre := deep_iff.1 hd
      by_cases hlen : r.pa.length = fr.length
      · have e1 : (carryR fr to v r).pa = to := by
          show to ++ r.pa.drop fr.length = to
          rw [List.drop_of_length_le (by omega), List.append_nil]
        rw [e1]
        rcases (coll_iff ha _).1 hca with h0 | ⟨s, hs, he, hc⟩
        · exact .inl h0
        · refine .inr ⟨s, whole_mem.2 (.inl (rest_mem.2 ⟨hs, ?_, fun _ => ?_⟩)), he, hc⟩
          · cases e : deepB to s
            · rfl
            · have := (deep_iff.1 e).length_le
              rw [he, aboveL_len] at this
              omega
          · cases e : deepB fr s
            · rfl
            · have h5 := deep_iff.1 e
              rw [he] at h5
              have h6 : fr <+: to := h5.trans (above_pre _)
              have h7 : deepP to fr = true := (deepB_P fr ⟨to, false, ByteArray.empty, 0, []⟩).symm.trans (deep_iff.2 h6)
              unfold apartB at hap
              rw [h7] at hap
              simp at hap
      · have hlt : fr.length < r.pa.length := by have := hpre.length_le; omega
        rw [carry_above hlt]
        have hon := hts.2.2.2 r hm
        unfold onB at hon
        have hfr0 : 0 < fr.length := Nat.pos_of_ne_zero fun e => by rw [apart_no (.inl e)] at hap; cases hap
        rcases (coll_iff ha _).1 hon with h0 | ⟨s, hs, he, hc⟩
        · rw [aboveL_len] at h0; omega
        · refine .inr ⟨carryR fr to v s, whole_mem.2 (.inr ?_), ?_, hc⟩
          · unfold carryL
            refine List.mem_map.2 ⟨s, deepL_mem.2 ⟨hs, deep_iff.2 ?_⟩, rfl⟩
            rw [he]
            unfold aboveL
            exact List.prefix_take_iff.2 ⟨hpre, by omega⟩
          · show to ++ s.pa.drop fr.length = _
            rw [he]
end Go.Proofs.YtclnpfpaabmkcaaGreat
namespace Go.Proofs.YtclnpfpaabmkcaaGreat
open M

theorem findI_some {l : List Rs} {p : List ByteArray} {r : Rs} (h : l.find? (isAt p) = some r) : ∃ k, ∃ (hk : k < l.length), findI l p = (k : Int) ∧ l[k] = r := by
  have hx : l.findIdx (isAt p) < l.length := by
    rw [List.findIdx_lt_length]
    exact ⟨r, List.mem_of_find?_eq_some h, List.find?_some h⟩
  refine ⟨l.findIdx (isAt p), hx, by unfold findI; rw [if_pos hx], ?_⟩
  have := find_of_findIdx hx
  rw [h] at this
  exact (Option.some.inj this).symm
theorem findI_neg {l : List Rs} {p : List ByteArray} (h : l.find? (isAt p) = none) : findI l p = -1 := by
  unfold findI
  rw [if_neg]
  rw [List.findIdx_lt_length]
  rintro ⟨x, hx, e⟩
  rw [List.find?_eq_none] at h
  exact h x hx e
theorem isAt_iff {p : List ByteArray} {r : Rs} : isAt p r = true ↔ r.pa = p := by unfold isAt sameL; simp
theorem find_alike {l x : List Rs} (hx : Asc x) {p : List ByteArray} (h : ∀ y : Rs, y.pa = p → (y ∈ x ↔ y ∈ l)) : x.find? (isAt p) = l.find? (isAt p) := by
  cases e : l.find? (isAt p) with
  | some z =>
    have hz := List.mem_of_find?_eq_some e
    have hp := isAt_iff.1 (List.find?_some e)
    exact hx.find ((h z hp).2 hz) hp
  | none =>
    rw [List.find?_eq_none] at e ⊢
    intro y hy hyp
    exact e y ((h y (isAt_iff.1 hyp)).1 hy) hyp
/-- What a put that puts leaves. -/
structure PutIs (rs X : List Rs) (p : List ByteArray) (bo : ByteArray) (v : Int) : Prop where
  tree : treeB X = true
  at' : ∃ k, ∃ (hk : k < X.length), findI X p = (k : Int) ∧ X[k].bo = bo ∧ X[k].ve = v
  on : collB X (aboveL p) = true
  rest : ∀ q, q ≠ p → (findI rs q = -1 ∧ findI X q = -1) ∨ ∃ i j, ∃ (hi : i < rs.length) (hj : j < X.length), findI rs q = (i : Int) ∧ findI X q = (j : Int) ∧ rs[i] = X[j]
theorem put_is {rs : List Rs} {p : List ByteArray} {bo : ByteArray} {v : Int} (h : treeB rs = true) (h0 : fileI rs p bo v = 0) : PutIs rs (putFR rs p bo v) p bo v := by
  have hT := put_tree (p := p) (bo := bo) (v := v) h
  have e : putFR rs p bo v = putR (fileR rs p bo v) false rs := by unfold putFR; rw [if_pos h0]
  have hA := tree_asc hT
  have hm : fileR rs p bo v ∈ putFR rs p bo v := by rw [e]; exact putR_mem.2 (.inl rfl)
  refine ⟨hT, ?_, ?_, fun q hq => ?_⟩
  · obtain ⟨k, hk, h1, h2⟩ := findI_some (hA.find hm (p := p) rfl)
    exact ⟨k, hk, h1, by rw [h2]; rfl, by rw [h2]; rfl⟩
  · unfold treeB at hT
    simp only [Bool.and_eq_true, List.all_eq_true] at hT
    exact hT.2.2.2 _ hm
  · have hf := find_alike (l := rs) hA (p := q) (fun y hy => by
      rw [e]
      constructor
      · intro hy2
        rcases putR_mem.1 hy2 with rfl | ⟨h1, _⟩
        · exact absurd hy.symm hq
        · exact h1
      · intro hy2
        exact putR_mem.2 (.inr ⟨hy2, fun e2 => hq (by rw [← hy]; exact e2)⟩))
    cases e2 : rs.find? (isAt q) with
    | none => rw [e2] at hf; exact .inl ⟨findI_neg e2, findI_neg hf⟩
    | some z =>
      rw [e2] at hf
      obtain ⟨i, hi, h1, h2⟩ := findI_some e2
      obtain ⟨j, hj, h3, h4⟩ := findI_some hf
      exact .inr ⟨i, j, hi, hj, h1, h3, by rw [h2, h4]⟩
theorem put_no {rs : List Rs} {p : List ByteArray} {bo : ByteArray} {v : Int} (h : ¬ fileI rs p bo v = 0) : putFR rs p bo v = rs := by unfold putFR; rw [if_neg h]
theorem file_codes {rs : List Rs} {p : List ByteArray} {bo : ByteArray} {v : Int} : fileI rs p bo v ≠ 201 ∧ fileI rs p bo v ≠ 204 := by
  have hm : mayI rs p v ≠ 201 ∧ mayI rs p v ≠ 204 := by unfold mayI; repeat' split
                                                        all_goals exact ⟨by decide, by decide⟩
  unfold fileI
  repeat' split
  all_goals first | exact hm | exact ⟨by decide, by decide⟩
end Go.Proofs.YtclnpfpaabmkcaaGreat
namespace Go.Proofs.YtclnpfpaabmkcaaGreat
open M

theorem asc_ext : ∀ {l m : List Rs}, Asc l → Asc m → (∀ y, y ∈ l ↔ y ∈ m) → l = m
  | [], [], _, _, _ => rfl
  | [], y :: m, _, _, h => absurd ((h y).2 (List.mem_cons_self ..)) (by simp)
  | x :: l, [], _, _, h => absurd ((h x).1 (List.mem_cons_self ..)) (by simp)
  | x :: l, y :: m, hl, hm, h => by
    obtain ⟨hl1, hl2⟩ := List.pairwise_cons.1 hl
    obtain ⟨hm1, hm2⟩ := List.pairwise_cons.1 hm
    have e : x = y := by
      rcases List.mem_cons.1 ((h x).1 (List.mem_cons_self ..)) with e | hx
      · exact e
      · rcases List.mem_cons.1 ((h y).2 (List.mem_cons_self ..)) with e | hy
        · exact e.symm
        · have h1 := hm1 x hx
          have h2 := lessL_asym _ _ (hl1 y hy)
          rw [h1] at h2; cases h2
    subst e
    have irr : ∀ z : Rs, lessL x.pa z.pa = true → z ≠ x := fun z hz e => by
      subst e
      rw [lessL_irr] at hz; cases hz
    rw [asc_ext hl2 hm2 (fun z => ⟨fun hz => by
      rcases List.mem_cons.1 ((h z).1 (List.mem_cons_of_mem _ hz)) with e | hz2
      · exact absurd e (irr z (hl1 z hz))
      · exact hz2, fun hz => by
      rcases List.mem_cons.1 ((h z).2 (List.mem_cons_of_mem _ hz)) with e | hz2
      · exact absurd e (irr z (hm1 z hz))
      · exact hz2⟩)]

theorem far_parts {rs : List Rs} {fr to : List ByteArray} {ov : Bool} {v : Int} {mv : Bool} (h : farI rs fr to ov v mv = 0) : far1 rs fr to ov v = 0 ∧ collB rs (aboveL to) = true ∧ tooLong rs fr to = false ∧ (restL rs fr to mv).length + (deepL rs fr).length ≤ 12 := by
  have hfar : far1 rs fr to ov v = 0 := by
    by_cases e : far1 rs fr to ov v = 0
    · exact e
    · unfold farI at h
      rw [if_pos e] at h
      exact absurd h e
  unfold farI at h
  rw [if_neg (by simp [hfar])] at h
  have hca : collB rs (aboveL to) = true := by
    cases e : collB rs (aboveL to)
    · rw [e, if_pos rfl] at h; cases h
    · rfl
  rw [hca, if_neg (by simp)] at h
  have hlg : tooLong rs fr to = false := by
    cases e : tooLong rs fr to
    · rfl
    · rw [e, if_pos rfl] at h; cases h
  rw [hlg, if_neg (by simp)] at h
  refine ⟨hfar, hca, hlg, ?_⟩
  by_cases e : 12 < (restL rs fr to mv).length + (deepL rs fr).length
  · rw [if_pos e] at h; cases h
  · omega
theorem rest_less {rs : List Rs} {fr to : List ByteArray} : (restL rs fr to true).length ≤ (restL rs fr to false).length := by
  unfold restL
  simp only [if_true, Bool.false_eq_true, if_false]
  exact List.length_filter_le _ _
theorem far_both {rs : List Rs} {fr to : List ByteArray} {ov : Bool} {v : Int} (h : farI rs fr to ov v false = 0) : farI rs fr to ov v true = 0 := by
  obtain ⟨h1, h2, h3, h4⟩ := far_parts h
  have := rest_less (rs := rs) (fr := fr) (to := to)
  unfold farI
  rw [if_neg (by simp [h1]), if_neg (by simp [h2]), if_neg (by simp [h3]), if_neg (by omega)]
theorem far_either {rs : List Rs} {fr to : List ByteArray} {ov : Bool} {v : Int} (h : ¬ farI rs fr to ov v false = 0) : farI rs fr to ov v false = 507 ∨ farI rs fr to ov v true = farI rs fr to ov v false := by
  by_cases h1 : far1 rs fr to ov v ≠ 0
  · right; unfold farI; rw [if_pos h1, if_pos h1]
  · by_cases h2 : collB rs (aboveL to) = false
    · right; unfold farI; rw [if_neg h1, if_neg h1, if_pos h2, if_pos h2]
    · by_cases h3 : tooLong rs fr to = true
      · right; unfold farI; rw [if_neg h1, if_neg h1, if_neg h2, if_neg h2, if_pos h3, if_pos h3]
      · by_cases h4 : 12 < (restL rs fr to false).length + (deepL rs fr).length
        · left; unfold farI; rw [if_neg h1, if_neg h2, if_neg h3, if_pos h4]
        · exact absurd (by unfold farI; rw [if_neg h1, if_neg h2, if_neg h3, if_neg h4]) h
theorem far_codes {rs : List Rs} {fr to : List ByteArray} {ov : Bool} {v : Int} {mv : Bool} : farI rs fr to ov v mv ≠ 201 ∧ farI rs fr to ov v mv ≠ 204 := by
  have ha : ∀ pb, askI rs v pb ≠ 201 ∧ askI rs v pb ≠ 204 := fun pb => by
    unfold askI
    repeat' split
    all_goals exact ⟨by decide, by decide⟩
  have hm : far1 rs fr to ov v ≠ 201 ∧ far1 rs fr to ov v ≠ 204 := by
    unfold far1
    repeat' split
    all_goals first | exact ha _ | exact ⟨by decide, by decide⟩
  unfold farI
  repeat' split
  all_goals first | exact hm | exact ⟨by decide, by decide⟩
/-- Where nothing is copied. -/
theorem copy_no {rs : List Rs} {fr to : List ByteArray} {ov : Bool} {v : Int} (h : ¬ farI rs fr to ov v false = 0) : farR rs fr to ov v false = rs ∧ farC rs fr to ov v false ≠ 201 ∧ farC rs fr to ov v false ≠ 204 ∧ (farC rs fr to ov v false = 507 ∨ farC rs fr to ov v true = farC rs fr to ov v false ∧ farR rs fr to ov v true = rs) := by
  obtain ⟨h1, h2⟩ := far_code rfl h
  refine ⟨h1, by rw [h2]; exact far_codes.1, by rw [h2]; exact far_codes.2, ?_⟩
  rw [h2]
  rcases far_either h with e | e
  · exact .inl e
  · obtain ⟨k1, k2⟩ := far_code e h
    exact .inr ⟨k2, k1⟩

/-- What a copy that copies leaves. -/
structure CopyIs (rs X Y : List Rs) (fr to : List ByteArray) (v c d : Int) : Prop where
  treeX : treeB X = true
  treeY : treeB Y = true
  same : c = d
  frp : 0 < fr.length
  top : 0 < to.length
  new : ∀ i (hi : i < (deepL rs fr).length), ∃ k, ∃ (hk : k < X.length), findI X (to ++ (deepL rs fr)[i].pa.drop fr.length) = (k : Int) ∧ X[k] = carryR fr to v (deepL rs fr)[i]
  old : ∀ i (hi : i < (deepL rs fr).length), ∃ j, ∃ (hj : j < X.length), findI X (deepL rs fr)[i].pa = (j : Int) ∧ X[j] = (deepL rs fr)[i]
  rem : remR X fr = Y
  remc : remC (remI X fr) = 204
  deep : (deepL X to).length = (deepL rs fr).length
  code : c = 204 ∧ 0 ≤ findI rs to ∨ c = 201 ∧ findI rs to < 0
theorem copy_is {rs : List Rs} {fr to : List ByteArray} {ov : Bool} {v : Int} (h : farI rs fr to ov v false = 0) : CopyIs rs (farR rs fr to ov v false) (farR rs fr to ov v true) fr to v (farC rs fr to ov v false) (farC rs fr to ov v true) := by
  have h' := far_both h
  obtain ⟨h1, h2, h3, h4⟩ := far_parts h
  obtain ⟨ht, hpf, hto, hv, hth, hap⟩ := far1_ok h1
  have ha := tree_asc ht
  have hTX := far_tree h
  have hTY := far_tree h'
  have eX : farR rs fr to ov v false = wholeL (restL rs fr to false) to (carryL rs fr to v) := by unfold farR; rw [if_pos h]
  have eY : farR rs fr to ov v true = wholeL (restL rs fr to true) to (carryL rs fr to v) := by unfold farR; rw [if_pos h']
  have hAX := tree_asc hTX
  have hAY := tree_asc hTY
  have hto0 : 0 < to.length := Nat.pos_of_ne_zero fun e => by rw [apart_no (.inr (.inl e))] at hap; cases hap
  have hfr0 : 0 < fr.length := Nat.pos_of_ne_zero fun e => by rw [apart_no (.inl e)] at hap; cases hap
  unfold apartB at hap
  simp only [Bool.and_eq_true, Bool.not_eq_true'] at hap
  have nft : ¬ fr <+: to := fun e => by
    have h7 : deepP to fr = true := (deepB_P fr ⟨to, false, ByteArray.empty, 0, []⟩).symm.trans (deep_iff.2 e)
    rw [h7] at hap; exact absurd hap.2 (by simp)
  have ntf : ¬ to <+: fr := fun e => by
    have h7 : deepP fr to = true := (deepB_P to ⟨fr, false, ByteArray.empty, 0, []⟩).symm.trans (deep_iff.2 e)
    rw [h7] at hap; exact absurd hap.1 (by simp)
  have apart : ∀ p : List ByteArray, fr <+: p → to <+: p → False := fun p x y => by
    rcases List.prefix_or_prefix_of_prefix x y with e | e
    · exact nft e
    · exact ntf e
  have hsrc : ∀ r ∈ deepL rs fr, r ∈ farR rs fr to ov v false := fun r hr => by
    obtain ⟨hm, hd⟩ := deepL_mem.1 hr
    rw [eX]
    refine whole_mem.2 (.inl (rest_mem.2 ⟨hm, ?_, fun e => by cases e⟩))
    cases e : deepB to r
    · rfl
    · exact absurd (deep_iff.1 e) (fun e => apart _ (deep_iff.1 hd) e)
  have hcar : ∀ r ∈ deepL rs fr, carryR fr to v r ∈ farR rs fr to ov v false := fun r hr => by
    rw [eX]
    exact whole_mem.2 (.inr (List.mem_map.2 ⟨r, hr, rfl⟩))
  have hcd : ∀ y ∈ carryL rs fr to v, to <+: y.pa := fun y hy => by
    unfold carryL at hy
    obtain ⟨r, _, rfl⟩ := List.mem_map.1 hy
    exact ⟨_, rfl⟩
  have hfr : 0 ≤ findI rs fr := by
    rcases there_iff.1 hth with e | e
    · omega
    · exact e
  have hfX : 0 ≤ findI (farR rs fr to ov v false) fr := by
    rcases findI_cases rs fr with e | ⟨k, hk, _, hs⟩
    · omega
    · have he : rs[k].pa = fr := by unfold sameL at hs; exact of_decide_eq_true hs
      have hm := hsrc rs[k] (deepL_mem.2 ⟨List.getElem_mem hk, deep_iff.2 (by rw [he]; exact List.prefix_refl _)⟩)
      obtain ⟨j, hj, hf, _⟩ := findI_some (hAX.find hm he)
      omega
  have hmay : mayI (farR rs fr to ov v false) fr 0 = 0 := by
    unfold mayI
    rw [hTX, hpf]; rfl
  have hrem : remI (farR rs fr to ov v false) fr = 0 := by
    unfold remI
    rw [if_neg (by simp [hmay]), if_neg (by omega), if_neg (by omega)]
  refine ⟨hTX, hTY, ?_, hfr0, hto0, fun i hi => ?_, fun i hi => ?_, ?_, ?_, ?_, ?_⟩
  · unfold farC takenC
    rw [h, h']
  · exact findI_some (hAX.find (hcar _ (List.getElem_mem hi)) rfl)
  · exact findI_some (hAX.find (hsrc _ (List.getElem_mem hi)) rfl)
  · unfold remR
    rw [if_pos hrem]
    refine asc_ext (without_asc hAX _) hAY fun y => ?_
    rw [without_mem, eX, eY, whole_mem, whole_mem, rest_mem, rest_mem]
    constructor
    · rintro ⟨h5 | h5, h6⟩
      · exact .inl ⟨h5.1, h5.2.1, fun _ => h6⟩
      · exact .inr h5
    · rintro (h5 | h5)
      · exact ⟨.inl ⟨h5.1, h5.2.1, fun e => by cases e⟩, h5.2.2 rfl⟩
      · refine ⟨.inr h5, ?_⟩
        cases e : deepB fr y
        · rfl
        · exact absurd (hcd y h5) (fun e2 => apart _ (deep_iff.1 e) e2)
  · rw [hrem]; rfl
  · have e1 : (deepL (farR rs fr to ov v false) to) = carryL rs fr to v := by
      refine asc_ext (show Asc _ from List.Pairwise.filter _ hAX) (carry_asc ha) fun y => ?_
      rw [deepL_mem, eX, whole_mem, rest_mem]
      constructor
      · rintro ⟨h5 | h5, h6⟩
        · rw [h5.2.1] at h6; cases h6
        · exact h5
      · exact fun h5 => ⟨.inr h5, deep_iff.2 (hcd y h5)⟩
    rw [e1]; unfold carryL; simp
  · unfold farC takenC
    rw [if_pos h]
    by_cases e : 0 ≤ findI rs to
    · left; rw [if_pos (there_iff.2 (.inr e))]; exact ⟨rfl, e⟩
    · right
      rw [if_neg (fun h5 => by rcases there_iff.1 h5 with h6 | h6 <;> omega)]
      exact ⟨rfl, by omega⟩
end Go.Proofs.YtclnpfpaabmkcaaGreat
namespace Go.Proofs.YtclnpfpaabmkcaaGreat
open Go.RowKit M
set_option linter.unusedVariables false

set_option maxHeartbeats 1000000 in
theorem at_any {w : World} {B : Nat} {a : Option Addr} {len : Nat} {zs : List Int} (h : CodeIn w B a len zs) (cap i : Nat) (hi : i ≤ 100) :
    Calls Tryz.prog 9 #[.slice a len cap, .int .i64 i] w fun e w' => (∃ k : Nat, k ≤ 255 ∧ e = .returned (.int .i64 k)) ∧ w' = w := by
  have hlen := h.hlen
  by_cases hil : i < len
  · obtain ⟨b, off, rfl, hcell⟩ := h.code.at0 (by omega)
    have hb := h.code.bd i hil
    have hcx := hcell i hil
    have hi' : (i : Int) < (len : Int) := by omega
    clear h hcell
    generalize zs.getD i 0 = z at hb hcx
    obtain ⟨k, rfl⟩ : ∃ k : Nat, z = (k : Int) := ⟨z.toNat, by omega⟩
    have hk : k ≤ 255 := by omega
    have hwk : IntKind.i64.wrap (k : Int) = (k : Int) := by rw [IntKind.wrap_i64]; omega
    clear hb
    go_enter Tryz.func9, Tryz.ntmps9
    go_wp2
    go_ret
    exact ⟨⟨k, hk, by first | rfl | rw [hwk]⟩, rfl⟩
  · have hi' : ¬ ((i : Int) < (len : Int)) := by omega
    have hw1 : IntKind.i64.wrap ((i : Int) * 31) = (i : Int) * 31 := by rw [IntKind.wrap_i64]; omega
    have hw2 : IntKind.i64.wrap ((len : Int) * 7) = (len : Int) * 7 := by rw [IntKind.wrap_i64]; omega
    have hw3 : IntKind.i64.wrap ((i : Int) * 31 + (len : Int) * 7) = (i : Int) * 31 + (len : Int) * 7 := by rw [IntKind.wrap_i64]; omega
    obtain ⟨k, hk⟩ : ∃ k : Nat, k = (i * 31 + len * 7) % 256 := ⟨_, rfl⟩
    have hk255 : k ≤ 255 := by omega
    have hk' : ((i : Int) * 31 + (len : Int) * 7).tmod 256 = (k : Int) := by rw [Int.tmod_eq_emod_of_nonneg (by omega)]; omega
    clear h hk
    go_enter Tryz.func9, Tryz.ntmps9
    go_wp2
    go_ret
    exact ⟨⟨k, hk255, by first | rfl | rw [hk']⟩, rfl⟩
end Go.Proofs.YtclnpfpaabmkcaaGreat
namespace Go.Proofs.YtclnpfpaabmkcaaGreat
open Go.RowKit M
set_option linter.unusedVariables false

def atN (len : Nat) (zs : List Int) (i : Nat) : Nat := if i < len then (zs.getD i 0).toNat else (i * 31 + len * 7) % 256

set_option maxHeartbeats 1000000 in
theorem at_is {w : World} {B : Nat} {a : Option Addr} {len : Nat} {zs : List Int} (h : CodeIn w B a len zs) (cap i : Nat) (hi : i ≤ 100) :
    Calls Tryz.prog 9 #[.slice a len cap, .int .i64 i] w fun e w' => e = .returned (.int .i64 (atN len zs i : Nat)) ∧ w' = w := by
  have hlen := h.hlen
  unfold atN
  by_cases hil : i < len
  · rw [if_pos hil]
    obtain ⟨b, off, rfl, hcell⟩ := h.code.at0 (by omega)
    have hb := h.code.bd i hil
    have hcx := hcell i hil
    have hi' : (i : Int) < (len : Int) := by omega
    clear h hcell
    generalize zs.getD i 0 = z at hb hcx
    obtain ⟨k, rfl⟩ : ∃ k : Nat, z = (k : Int) := ⟨z.toNat, by omega⟩
    have hk : k ≤ 255 := by omega
    have hwk : IntKind.i64.wrap (k : Int) = (k : Int) := by rw [IntKind.wrap_i64]; omega
    clear hb
    go_enter Tryz.func9, Tryz.ntmps9
    go_wp2
    go_ret
    exact ⟨by first | rfl | (rw [Int.toNat_natCast]) | (rw [hwk, Int.toNat_natCast]), rfl⟩
  · rw [if_neg hil]
    have hi' : ¬ ((i : Int) < (len : Int)) := by omega
    have hw1 : IntKind.i64.wrap ((i : Int) * 31) = (i : Int) * 31 := by rw [IntKind.wrap_i64]; omega
    have hw2 : IntKind.i64.wrap ((len : Int) * 7) = (len : Int) * 7 := by rw [IntKind.wrap_i64]; omega
    have hw3 : IntKind.i64.wrap ((i : Int) * 31 + (len : Int) * 7) = (i : Int) * 31 + (len : Int) * 7 := by rw [IntKind.wrap_i64]; omega
    obtain ⟨k, hk⟩ : ∃ k : Nat, k = (i * 31 + len * 7) % 256 := ⟨_, rfl⟩
    have hk' : ((i : Int) * 31 + (len : Int) * 7).tmod 256 = (k : Int) := by rw [Int.tmod_eq_emod_of_nonneg (by omega)]; omega
    rw [← hk]
    clear h hk
    go_enter Tryz.func9, Tryz.ntmps9
    go_wp2
    go_ret
    exact ⟨by first | rfl | rw [hk'], rfl⟩
theorem atN_le {w : World} {B : Nat} {a : Option Addr} {len : Nat} {zs : List Int} (h : CodeIn w B a len zs) (i : Nat) : atN len zs i ≤ 255 := by
  unfold atN
  by_cases hil : i < len
  · rw [if_pos hil]
    have hb := h.code.bd i hil
    omega
  · rw [if_neg hil]
    omega
end Go.Proofs.YtclnpfpaabmkcaaGreat
namespace Go.Proofs.YtclnpfpaabmkcaaGreat
open Go.RowKit

/-- What the walk is told of a slice of integers that came in: it is nil; or it leads to a row of 'cap' cells, the numbers 'zs' (the first 'len' are its elements), each fitting its kind. -/
def IsRow (k : IntKind) (w : World) (a : Option Addr) (len cap : Nat) (zs : List Int) : Prop :=
  (a = none ∧ len = 0 ∧ cap = 0 ∧ zs = []) ∨
  ∃ x, a = some x ∧ len ≤ cap ∧ cap ≤ maxLen ∧ zs.length = cap ∧ (∀ i, i < zs.length → w.cell? (x.add i) = some (.int k (zs.getD i 0))) ∧ ∀ n ∈ zs, (Lit.int k n).wf = true
end Go.Proofs.YtclnpfpaabmkcaaGreat
namespace Go.Proofs.YtclnpfpaabmkcaaGreat
open Go.RowKit
set_option linter.unusedVariables false

set_option maxHeartbeats 400000 in
theorem big_any (a : Option Addr) (len cap : Nat) (w : World) (_hl : len ≤ maxLen) :
    Calls Tryz.prog 7 #[.slice a len cap] w fun e w' => e = .returned (.bool (decide ((1048576 : Int) < len))) ∧ w' = w := by
  unfold maxLen at _hl
  go_enter Tryz.func7, Tryz.ntmps7
  go_wp2
  go_ret
  exact ⟨rfl, rfl⟩

theorem row_len {w : World} {a : Option Addr} {len cap : Nat} {zs : List Int} (h : IsRow .u8 w a len cap zs) : len ≤ maxLen := by
  rcases h with ⟨_, rfl, _, _⟩ | ⟨x, _, hl, hm, _⟩
  · exact Nat.zero_le _
  · omega
end Go.Proofs.YtclnpfpaabmkcaaGreat
namespace Go.Proofs.YtclnpfpaabmkcaaGreat
open Go.RowKit M

theorem code_of_row {w : World} {a : Option Addr} {len cap : Nat} {zs : List Int} (h : IsRow .u8 w a len cap zs) (hlen : len ≤ 1048576) : CodeIn w w.heap.size a len zs := by
  rcases h with ⟨rfl, rfl, rfl, rfl⟩ | ⟨x, rfl, hl, hm, hz, hcell, hwz⟩
  · exact ⟨⟨Nat.le_refl _, fun j hj => absurd hj (Nat.not_lt_zero _), fun h => absurd h (Nat.lt_irrefl _)⟩, fun h => absurd h (Nat.lt_irrefl _), hlen, Nat.le_refl _⟩
  · obtain ⟨b, off, spot⟩ := x
    by_cases h0 : 0 < len
    · have hc := hcell 0 (by omega)
      have hspot : spot = none := by simpa [Addr.add] using World.cell?_spot hc
      subst hspot
      have hb : b < w.heap.size := by
        have := World.block_lt_of_cell? w _ hc
        simpa [Addr.add] using this
      refine ⟨⟨by omega, fun j hj => ?_, fun _ => ⟨b, off, rfl, fun j hj => ?_⟩⟩, fun _ b' off' e => ?_, hlen, Nat.le_refl _⟩
      · have hj' : j < zs.length := by omega
        refine bounds_u8 (hwz _ ?_)
        rw [List.getD_eq_getElem?_getD, List.getElem?_eq_getElem hj']
        exact List.getElem_mem hj'
      · have h1 := hcell j (by omega)
        have e : (⟨b, off, none⟩ : Addr).add j = ⟨b, off + j, none⟩ := by unfold Addr.add; split <;> simp_all
        rwa [e] at h1
      · cases e; exact hb
    · exact ⟨⟨by omega, fun j hj => absurd hj (by omega), fun h => absurd h h0⟩, fun h => absurd h h0, hlen, Nat.le_refl _⟩
end Go.Proofs.YtclnpfpaabmkcaaGreat
