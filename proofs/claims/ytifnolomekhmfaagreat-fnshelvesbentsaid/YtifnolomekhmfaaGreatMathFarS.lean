/-
  What the program says and answers of what is put and made, against the specification: no program in sight.
  What is copied, and moved: no program in sight.
  What impl.apart and impl.farRefused do.
  What impl.carried does.
  What stays and comes, from an earlier block on.
  What impl.CopyTree does.
  What spec.l11Without does.
  What spec.l11Long does; an append as one step of a region that draws.
  What the specification says of copies and moves, case by case: no program in sight.
-/
import Derived.Test.YtifnolomekhmfaaGreatLooks
import Derived.Test.YtifnolomekhmfaaGreatRefused
import Derived.Test.YtifnolomekhmfaaGreatTurnIs
import Derived.Test.YtifnolomekhmfaaGreatSizesK
import Derived.Test.YtifnolomekhmfaaGreatSizesT
import Derived.Test.YtifnolomekhmfaaGreatMapHeld
import Derived.Test.YtifnolomekhmfaaGreatRowsW
import Derived.Test.YtifnolomekhmfaaGreatMathKids
import Derived.Test.YtifnolomekhmfaaGreatSpecCopyAll
import Derived.Test.YtifnolomekhmfaaGreatMathWhole
import Derived.Test.YtifnolomekhmfaaGreatMathOrder
import Derived.Maps.AppendAt
namespace Go.Proofs.YtifnolomekhmfaaGreat
open M

theorem notAt_new {rs : List Rs} {r : Rs} (h : findI rs r.pa < 0) : notAt r rs = rs := by
  unfold notAt
  rw [List.filter_eq_self]
  intro x hx
  unfold sameL
  rw [Bool.not_eq_true', decide_eq_false_iff_not]
  exact not_there h x hx
theorem not_coll {rs : List Rs} {p : List ByteArray} (h : findI rs p < 0) (hp : ¬ p.length = 0) : collB rs p = false := by
  rcases findI_cases rs p with e | ⟨k, hk, e, _⟩
  · exact collB_none e hp
  · omega
theorem there_false {rs : List Rs} {p : List ByteArray} (h : thereB rs p = false) : ¬ p.length = 0 ∧ findI rs p < 0 := by
  unfold thereB at h
  simp at h
  constructor
  · intro e
    exact h.1 (List.length_eq_zero_iff.1 e)
  · omega

theorem make_says {rs : List Rs} {p : List ByteArray} {v : Int} (hm : mayI rs p v = 0) : ref0 rs p (withoutL rs p) [shelfR p v] = collI rs p v := by
  obtain ⟨ht, hp, hv⟩ := mayI_ok hm
  have hC : collI rs p v = if p.length = 0 ∨ 0 ≤ findI rs p then 405 else if collB rs (aboveL p) = false then 409 else if 12 ≤ rs.length then 507 else 0 := by unfold collI; rw [if_neg (by simp [hm])]
  rw [hC]
  unfold ref0
  cases hth : thereB rs p
  · obtain ⟨h0, hf⟩ := there_false hth
    have hc := not_coll hf h0
    rw [if_neg (by simp), if_neg (by omega)]
    unfold ref1 ref2 ref3 ref4
    rw [if_neg (by simp [hc])]
    have e1 : [shelfR p v].any badP = false := by simp [badP, shelfR, hp]
    have e2 : [shelfR p v].any longP = false := by simp [longP, shelfR]
    have e3 : withoutL rs p = rs := (without_notAt ht (r := shelfR p v) hc).trans (notAt_new hf)
    rw [e1, e2, e3]
    cases collB rs (aboveL p)
    · simp
    · simp only [Bool.false_eq_true, if_false, Bool.true_eq_false, List.length_cons, List.length_nil]
      by_cases h : 12 ≤ rs.length
      · rw [if_pos (by omega), if_pos h]
      · rw [if_neg (by omega), if_neg h]
  · rw [if_pos rfl, if_pos (there_iff.1 hth)]
theorem make_answers {rs : List Rs} {p : List ByteArray} {v : Int} (hm : mayI rs p v = 0) : takenL (collI rs p v) rs p (withoutL rs p) [shelfR p v] = makeR rs p v ∧ takenC (collI rs p v) (thereB rs p) = codeM (collI rs p v) 201 := by
  obtain ⟨ht, hp, hv⟩ := mayI_ok hm
  unfold takenL takenC makeR codeM
  by_cases hc : collI rs p v = 0
  · rw [if_pos hc, if_pos hc, if_pos hc, if_pos hc]
    have hth : thereB rs p = false := by
      cases e : thereB rs p
      · rfl
      · unfold collI at hc
        rw [if_neg (by simp [hm]), if_pos (there_iff.1 e)] at hc
        cases hc
    obtain ⟨h0, hf⟩ := there_false hth
    rw [hth]
    exact ⟨whole_one ht (r := shelfR p v) (not_coll hf h0), by simp⟩
  · rw [if_neg hc, if_neg hc, if_neg hc, if_neg hc]
    exact ⟨rfl, rfl⟩
theorem make_refused {rs : List Rs} {p : List ByteArray} {v : Int} (hm : ¬ mayI rs p v = 0) : makeR rs p v = rs ∧ codeM (collI rs p v) 201 = mayI rs p v := by
  have e : collI rs p v = mayI rs p v := by unfold collI; rw [if_pos hm]
  unfold makeR codeM
  rw [e, if_neg hm, if_neg hm]
  exact ⟨rfl, rfl⟩

theorem file_says {rs : List Rs} {p : List ByteArray} {bo : ByteArray} {v : Int} (hm : mayI rs p v = 0) : ref1 rs p (withoutL rs p) [fileR rs p bo v] = fileI rs p bo v := by
  obtain ⟨ht, hp, hv⟩ := mayI_ok hm
  have hC : fileI rs p bo v = if collB rs p = true then 405 else if collB rs (aboveL p) = false then 409 else if 200 < bo.size then 413 else if findI rs p < 0 ∧ 12 ≤ rs.length then 507 else 0 := by unfold fileI; rw [if_neg (by simp [hm])]
  rw [hC]
  unfold ref1
  cases hc : collB rs p
  · rw [if_neg (by simp), if_neg (by simp)]
    unfold ref2 ref3 ref4
    have e1 : [fileR rs p bo v].any badP = false := by simp [badP, fileR, hp]
    have e3 : withoutL rs p = notAt (fileR rs p bo v) rs := without_notAt ht (r := fileR rs p bo v) hc
    have e2 : [fileR rs p bo v].any longP = decide (200 < bo.size) := by simp [longP, fileR]
    rw [e1, e2, e3]
    cases collB rs (aboveL p)
    · simp
    · simp only [Bool.false_eq_true, if_false, Bool.true_eq_false, List.length_cons, List.length_nil, decide_eq_true_eq]
      by_cases hb : 200 < bo.size
      · rw [if_pos hb, if_pos hb]
      · rw [if_neg hb, if_neg hb]
        by_cases hf : findI rs p < 0
        · have e4 : notAt (fileR rs p bo v) rs = rs := notAt_new hf
          rw [e4]
          by_cases h : 12 ≤ rs.length
          · rw [if_pos (by omega), if_pos ⟨hf, h⟩]
          · rw [if_neg (by omega), if_neg (fun h' => h h'.2)]
        · have h12 : rs.length ≤ 12 := by
            unfold treeB at ht
            simp only [Bool.and_eq_true, decide_eq_true_eq] at ht
            exact ht.1
          rcases findI_cases rs p with e | ⟨k, hk, e, hs⟩
          · omega
          · have := notAt_less (r := fileR rs p bo v) (l := rs) ⟨rs[k], List.getElem_mem hk, by unfold sameL at hs; exact of_decide_eq_true hs⟩
            rw [if_neg (by omega), if_neg (fun h' => hf h'.1)]
  · rw [if_pos rfl, if_pos rfl]
theorem file_answers {rs : List Rs} {p : List ByteArray} {bo : ByteArray} {v : Int} (hm : mayI rs p v = 0) : takenL (fileI rs p bo v) rs p (withoutL rs p) [fileR rs p bo v] = putFR rs p bo v ∧ takenC (fileI rs p bo v) (thereB rs p) = codeM (fileI rs p bo v) (okF (findI rs p)) := by
  obtain ⟨ht, hp, hv⟩ := mayI_ok hm
  unfold takenL takenC putFR codeM
  by_cases hc : fileI rs p bo v = 0
  · rw [if_pos hc, if_pos hc, if_pos hc, if_pos hc]
    have hcl : collB rs p = false := by
      cases e : collB rs p
      · rfl
      · unfold fileI at hc
        rw [if_neg (by simp [hm]), if_pos e] at hc
        cases hc
    have h0 : ¬ p.length = 0 := fun e => by rw [collB_root e] at hcl; cases hcl
    refine ⟨whole_one ht (r := fileR rs p bo v) hcl, ?_⟩
    unfold okF thereB
    by_cases hf : findI rs p < 0
    · have : decide (0 ≤ findI rs p) = false := by simp; omega
      rw [this, if_pos hf, decide_eq_false h0]
      rfl
    · have : decide (0 ≤ findI rs p) = true := by simp; omega
      rw [this, if_neg hf, Bool.or_true]
      rfl
  · rw [if_neg hc, if_neg hc, if_neg hc, if_neg hc]
    exact ⟨rfl, rfl⟩
theorem file_refused {rs : List Rs} {p : List ByteArray} {bo : ByteArray} {v : Int} (hm : ¬ mayI rs p v = 0) : putFR rs p bo v = rs ∧ codeM (fileI rs p bo v) (okF (findI rs p)) = mayI rs p v := by
  have e : fileI rs p bo v = mayI rs p v := by unfold fileI; rw [if_pos hm]
  unfold putFR codeM
  rw [e, if_neg hm, if_neg hm]
  exact ⟨rfl, rfl⟩

theorem made_small {rs : List Rs} {p : List ByteArray} {v : Int} (h : rs.length + sumR rs ≤ 1048576) : (makeR rs p v).length + sumR (makeR rs p v) ≤ 1048576 := by
  cases ht : treeB rs
  · rw [(make_refused (rs := rs) (p := p) (v := v) (by rw [mayI_500 ht]; decide)).1]; exact h
  · have := tree_small (make_tree (p := p) (v := v) ht); omega
theorem put_small {rs : List Rs} {p : List ByteArray} {bo : ByteArray} {v : Int} (h : rs.length + sumR rs ≤ 1048576) : (putFR rs p bo v).length + sumR (putFR rs p bo v) ≤ 1048576 := by
  cases ht : treeB rs
  · rw [(file_refused (rs := rs) (p := p) (bo := bo) (v := v) (by rw [mayI_500 ht]; decide)).1]; exact h
  · have := tree_small (put_tree (p := p) (bo := bo) (v := v) ht); omega
end Go.Proofs.YtifnolomekhmfaaGreat
namespace Go.Proofs.YtifnolomekhmfaaGreat
open M

/-- A thing as it is at another path. -/
def carryR (fr to : List ByteArray) (v : Int) (r : Rs) : Rs := ⟨to ++ r.pa.drop fr.length, r.co, r.bo, v, r.ps⟩
def carryL (rs : List Rs) (fr to : List ByteArray) (v : Int) : List Rs := (deepL rs fr).map (carryR fr to v)
/-- Whether neither is the other, nor under it. -/
def apartB (fr to : List ByteArray) : Bool := !deepP fr to && !deepP to fr
/-- What stays. -/
def restL (rs : List Rs) (fr to : List ByteArray) (mv : Bool) : List Rs := if mv = true then withoutL (withoutL rs to) fr else withoutL rs to
/-- What both say of a copy, ahead of the looks at what comes. -/
def far1 (rs : List Rs) (fr to : List ByteArray) (ov : Bool) (v : Int) : Int := if askI rs v (pathB fr && pathB to) ≠ 0 then askI rs v (pathB fr && pathB to) else if thereB rs fr = false then 404 else if apartB fr to = false then 403 else if (thereB rs to && !ov) = true then 412 else 0
/-- Whether a path would be too long. -/
def tooLong (rs : List Rs) (fr to : List ByteArray) : Bool := (deepL rs fr).any fun r => decide (4 < r.pa.length - fr.length + to.length)
def farI (rs : List Rs) (fr to : List ByteArray) (ov : Bool) (v : Int) (mv : Bool) : Int := if far1 rs fr to ov v ≠ 0 then far1 rs fr to ov v else if collB rs (aboveL to) = false then 409 else if tooLong rs fr to = true then 409 else if 12 < (restL rs fr to mv).length + (deepL rs fr).length then 507 else 0
def farR (rs : List Rs) (fr to : List ByteArray) (ov : Bool) (v : Int) (mv : Bool) : List Rs := if farI rs fr to ov v mv = 0 then wholeL (restL rs fr to mv) to (carryL rs fr to v) else rs
def farC (rs : List Rs) (fr to : List ByteArray) (ov : Bool) (v : Int) (mv : Bool) : Int := takenC (farI rs fr to ov v mv) (thereB rs to)

theorem far1_ok {rs : List Rs} {fr to : List ByteArray} {ov : Bool} {v : Int} (h : far1 rs fr to ov v = 0) : treeB rs = true ∧ pathB fr = true ∧ pathB to = true ∧ inB v 0 99999 = true ∧ thereB rs fr = true ∧ apartB fr to = true := by
  unfold far1 at h
  by_cases h1 : askI rs v (pathB fr && pathB to) = 0
  · rw [if_neg (by simp [h1])] at h
    unfold askI at h1
    cases e1 : treeB rs
    · rw [e1, if_pos rfl] at h1; cases h1
    · rw [e1, if_neg (by simp)] at h1
      cases e2 : (pathB fr && pathB to)
      · rw [e2, if_pos rfl] at h1; cases h1
      · rw [e2, if_neg (by simp)] at h1
        rw [Bool.and_eq_true] at e2
        cases e3 : inB v 0 99999
        · rw [e3, if_pos rfl] at h1; cases h1
        · cases e4 : thereB rs fr
          · rw [e4, if_pos rfl] at h; cases h
          · rw [e4, if_neg (by simp)] at h
            cases e5 : apartB fr to
            · rw [e5, if_pos rfl] at h; cases h
            · exact ⟨rfl, e2.1, e2.2, rfl, rfl, rfl⟩
  · rw [if_pos h1] at h; exact absurd h h1
theorem deepL_mem {rs : List Rs} {p : List ByteArray} {r : Rs} : r ∈ deepL rs p ↔ r ∈ rs ∧ deepB p r = true := List.mem_filter
theorem deepB_P (p : List ByteArray) (r : Rs) : deepB p r = deepP r.pa p := rfl

theorem pathB_iff {p : List ByteArray} : pathB p = true ↔ (∀ s ∈ p, nameB s = true) ∧ p.length ≤ 4 := by
  unfold pathB
  rw [Bool.and_eq_true, decide_eq_true_eq, List.all_eq_true]
theorem any_same {p q : Rs → Bool} : ∀ {l : List Rs}, (∀ r ∈ l, p r = q r) → l.any p = l.any q
  | [], _ => rfl
  | x :: l, h => by rw [List.any_cons, List.any_cons, h x (List.mem_cons_self ..), any_same (fun r hr => h r (List.mem_cons_of_mem _ hr))]
/-- Of right things a carried path is one unless it is too long. -/
theorem carry_bad {rs : List Rs} {fr to : List ByteArray} {v : Int} (ht : treeB rs = true) (hto : pathB to = true) : (carryL rs fr to v).any badP = tooLong rs fr to := by
  unfold carryL tooLong
  rw [List.any_map]
  refine any_same ?_
  intro r hr
  obtain ⟨hm, hd⟩ := deepL_mem.1 hr
  have hpl := (deep_iff.1 hd).length_le
  unfold treeB at ht
  simp only [Bool.and_eq_true, decide_eq_true_eq, List.all_eq_true] at ht
  have hr1 := pathB_iff.1 (resB_path (ht.2.1 r hm))
  have ht1 := pathB_iff.1 hto
  show (!pathB (to ++ r.pa.drop fr.length)) = _
  have hlen : (to ++ r.pa.drop fr.length).length = r.pa.length - fr.length + to.length := by simp; omega
  by_cases h4 : 4 < r.pa.length - fr.length + to.length
  · rw [decide_eq_true h4]
    have : pathB (to ++ r.pa.drop fr.length) = false := by
      cases e : pathB (to ++ r.pa.drop fr.length)
      · rfl
      · have := (pathB_iff.1 e).2
        omega
    rw [this]; rfl
  · rw [decide_eq_false h4]
    have : pathB (to ++ r.pa.drop fr.length) = true := pathB_iff.2 ⟨fun s hs => by
      rcases List.mem_append.1 hs with h | h
      · exact ht1.1 s h
      · exact hr1.1 s (List.mem_of_mem_drop h), by omega⟩
    rw [this]; rfl
theorem carry_long {rs : List Rs} {fr to : List ByteArray} {v : Int} (ht : treeB rs = true) : (carryL rs fr to v).any longP = false := by
  rw [List.any_eq_false]
  intro x hx
  unfold carryL at hx
  obtain ⟨r, hr, rfl⟩ := List.mem_map.1 hx
  have hm := (deepL_mem.1 hr).1
  unfold treeB at ht
  simp only [Bool.and_eq_true, decide_eq_true_eq, List.all_eq_true] at ht
  have := ht.2.1 r hm
  unfold resB at this
  simp only [Bool.and_eq_true, decide_eq_true_eq] at this
  show ¬ (decide (200 < r.bo.size)) = true
  have := this.2.2.1
  simp
  omega
/-- What the program's looks say. -/
theorem far_says {rs : List Rs} {fr to : List ByteArray} {ov : Bool} {v : Int} {mv : Bool} (h : far1 rs fr to ov v = 0) : ref2 rs to (restL rs fr to mv) (carryL rs fr to v) = farI rs fr to ov v mv := by
  obtain ⟨ht, _, hto, _⟩ := far1_ok h
  unfold ref2 ref3 ref4 farI
  rw [carry_bad ht hto, carry_long ht, if_neg (c := far1 rs fr to ov v ≠ 0) (by simp [h])]
  have e : (carryL rs fr to v).length = (deepL rs fr).length := by unfold carryL; simp
  rw [e]
  simp
theorem far_refused {rs : List Rs} {fr to : List ByteArray} {ov : Bool} {v : Int} {mv : Bool} (h : ¬ far1 rs fr to ov v = 0) : farR rs fr to ov v mv = rs ∧ farC rs fr to ov v mv = far1 rs fr to ov v := by
  have e : farI rs fr to ov v mv = far1 rs fr to ov v := by unfold farI; rw [if_pos h]
  unfold farR farC takenC
  rw [e, if_neg h, if_neg h]
  exact ⟨rfl, rfl⟩
theorem far_answers {rs : List Rs} {fr to : List ByteArray} {ov : Bool} {v : Int} {mv : Bool} : takenL (farI rs fr to ov v mv) rs to (restL rs fr to mv) (carryL rs fr to v) = farR rs fr to ov v mv := rfl

/-- The specification puts them one by one. -/
theorem carry_asc {rs : List Rs} {fr to : List ByteArray} {v : Int} (h : Asc rs) : Asc (carryL rs fr to v) := by
  unfold carryL Asc
  rw [List.pairwise_map]
  refine List.Pairwise.imp_of_mem (R := fun a b => lessL a.pa b.pa = true) ?_ (show List.Pairwise (fun a b : Rs => lessL a.pa b.pa = true) (deepL rs fr) from List.Pairwise.filter _ h)
  intro a b ha hb hl
  have ha' := deep_iff.1 (List.mem_filter.1 ha).2
  have hb' := deep_iff.1 (List.mem_filter.1 hb).2
  obtain ⟨x, hx⟩ := ha'
  obtain ⟨y, hy⟩ := hb'
  show lessL (to ++ a.pa.drop fr.length) (to ++ b.pa.drop fr.length) = true
  rw [← hx, ← hy] at hl ⊢
  rw [List.drop_left, List.drop_left]
  have cancel : ∀ (p : List ByteArray), lessL (p ++ x) (p ++ y) = lessL x y := by
    intro p
    induction p with
    | nil => rfl
    | cons s p ih => rw [List.cons_append, List.cons_append, lessL, if_pos rfl, ih]
  rw [cancel] at hl ⊢
  exact hl
theorem rest_asc {rs : List Rs} {fr to : List ByteArray} {mv : Bool} (h : Asc rs) : Asc (restL rs fr to mv) := by
  unfold restL
  split
  · exact without_asc (without_asc h _) _
  · exact without_asc h _
theorem rest_not {rs : List Rs} {fr to : List ByteArray} {mv : Bool} : ∀ y ∈ restL rs fr to mv, deepB to y = false := fun y hy => by
  unfold restL at hy
  split at hy
  · exact without_not to y (List.mem_filter.1 hy).1
  · exact without_not to y hy
theorem far_fold {rs : List Rs} {fr to : List ByteArray} {v : Int} {mv : Bool} (h : Asc rs) : (carryL rs fr to v).foldl (fun acc c => putR c false acc) (restL rs fr to mv) = wholeL (restL rs fr to mv) to (carryL rs fr to v) :=
  whole_fold (rest_asc h) rest_not (fun c hc => by
    unfold carryL at hc
    obtain ⟨r, _, rfl⟩ := List.mem_map.1 hc
    exact deep_iff.2 ⟨_, rfl⟩) (carry_asc h)
theorem restL_len (rs : List Rs) (fr to : List ByteArray) (mv : Bool) : (restL rs fr to mv).length ≤ rs.length := by
  unfold restL
  split
  · exact Nat.le_trans (List.length_filter_le _ _) (List.length_filter_le _ _)
  · exact List.length_filter_le _ _
end Go.Proofs.YtifnolomekhmfaaGreat
namespace Go.Proofs.YtifnolomekhmfaaGreat
open Go.RowKit M
set_option linter.unusedVariables false

set_option maxHeartbeats 1000000 in
theorem apart_any (a b : Option Addr) (ss tt : List ByteArray) (cap cap' B C : Nat) (w : World) (h : Strs w B a ss) (h' : Strs w C b tt) (hl : ss.length ≤ maxLen) (hl' : tt.length ≤ maxLen) (hc : ss.length ≤ cap) (hm : cap ≤ maxLen) (hc' : tt.length ≤ cap') (hm' : cap' ≤ maxLen) :
    Calls Tryz.prog 110 #[.slice a ss.length cap, .slice b tt.length cap'] w fun e w' => e = .returned (.bool (apartB ss tt)) ∧ ∀ D, Below D w w' := by
  have HQ1 := hide (isDeep_any a b ss tt cap cap' B C w h h' hl hl' hc hm)
  have HQ2 := hide (fun W (x : Strs W B a ss) (y : Strs W C b tt) => isDeep_any b a tt ss cap' cap C B W y x hl' hl hc' hm')
  have HD := hide (show apartB ss tt = (!deepP ss tt && !deepP tt ss) from rfl)
  generalize apartB ss tt = z at *
  generalize deepP ss tt = z1 at *
  generalize deepP tt ss = z2 at *
  cases z1
  · have HZ := hide (HD.out.trans (Bool.true_and (!z2)))
    clear HD
    go_enter Tryz.func110, Tryz.ntmps110
    go_wp2_with fail
    refine HQ1.out.mono ?_
    rintro e w1 ⟨rfl, hb1⟩
    have X1 := hide (HQ2.out w1 (h.below (hb1 B) (Nat.le_refl _)) (h'.below (hb1 C) (Nat.le_refl _)))
    clear HQ1 HQ2
    go_wp2_with fail
    refine X1.out.mono ?_
    rintro e w2 ⟨rfl, hb2⟩
    clear X1
    go_wp2
    go_ret
    exact ⟨by rw [HZ.out]; rfl, fun D => (hb1 D).trans (hb2 D)⟩
  · have HZ := hide (HD.out.trans (Bool.false_and (!z2)))
    clear HD
    go_enter Tryz.func110, Tryz.ntmps110
    go_wp2_with fail
    refine HQ1.out.mono ?_
    rintro e w1 ⟨rfl, hb1⟩
    go_wp2
    go_ret
    exact ⟨by rw [HZ.out]; rfl, hb1⟩

theorem PathsAt.two {w : World} {a b : Option Addr} {p q : List ByteArray} {cap cap' C D : Nat} (h : Strs w C a p) (hC : C ≤ w.heap.size) (hs : Short p) (hl : p.length ≤ maxLen) (h' : Strs w D b q) (hD : D ≤ w.heap.size) (hs' : Short q) (hl' : q.length ≤ maxLen) : PathsAt (w.alloc (Obj.cells #[.slice a p.length cap, .slice b q.length cap'] 25)) w.heap.size [(p, a, cap), (q, b, cap')] := by
  have hb := (Below.refl w.heap.size w).alloc (Nat.le_refl _) (Obj.cells #[.slice a p.length cap, .slice b q.length cap'] 25)
  refine ⟨by simp, fun j hj => ?_, fun j hj => ?_⟩
  · have hj' : j = 0 ∨ j = 1 := by simp at hj; omega
    rcases hj' with rfl | rfl
    · simp
    · simp
  · have hj' : j = 0 ∨ j = 1 := by simp at hj; omega
    rcases hj' with rfl | rfl
    · exact ⟨(h.below hb hC).mono (by simp; omega), hs, hl⟩
    · exact ⟨(h'.below hb hD).mono (by simp; omega), hs', hl'⟩
theorem pathsB_two (p q : List ByteArray) (a b : Option Addr) (c d : Nat) : pathsB [(p, a, c), (q, b, d)] = (pathB p && pathB q) := by
  unfold pathsB
  simp

set_option maxHeartbeats 2000000 in
theorem farRefused_any (a : Option Addr) (rs : List Rs) (cap B : Nat) (b1 : Option Addr) (fr : List ByteArray) (cap1 : Nat) (b2 : Option Addr) (to : List ByteArray) (cap2 : Nat) (ov : Bool) (v : Int) (w : World) (h : Rss w B a rs) (h1 : Strs w B b1 fr) (h2 : Strs w B b2 to) (hB : B ≤ w.heap.size) (hs : ShortT rs) (hl : rs.length ≤ maxLen) (hs1 : Short fr) (hl1 : fr.length ≤ maxLen) (hs2 : Short to) (hl2 : to.length ≤ maxLen) (hc1 : fr.length ≤ cap1) (hm1 : cap1 ≤ maxLen) (hc2 : to.length ≤ cap2) (hm2 : cap2 ≤ maxLen) :
    Calls Tryz.prog 58 #[.slice a rs.length cap, .slice b1 fr.length cap1, .slice b2 to.length cap2, .bool ov, .int .i64 v] w fun e w' => e = .returned (.int .i64 (far1 rs fr to ov v)) ∧ Below w.heap.size w w' := by
  have hb0 := (Below.refl w.heap.size w).alloc (Nat.le_refl _) (Obj.cells #[.slice b1 fr.length cap1, .slice b2 to.length cap2] 25)
  have hA := askRefused_any a rs cap B v w.heap.size 2 [(fr, b1, cap1), (to, b2, cap2)] (by simp) (w.alloc (Obj.cells #[.slice b1 fr.length cap1, .slice b2 to.length cap2] 25)) (h.below hb0 hB) (by simp; omega) hs hl (PathsAt.two h1 hB hs1 hl1 h2 hB hs2 hl2)
  rw [pathsB_two] at hA
  have HA := hide hA
  have HB0 := hide hb0
  have HT1 := hide (fun W (hb : Below w.heap.size w W) => isThere_any a rs cap B b1 fr cap1 B W (h.below hb hB) (h1.below hb hB) hl hl1 (Nat.le_trans hB hb.size) (Nat.le_trans hB hb.size))
  have HT2 := hide (fun W (hb : Below w.heap.size w W) => isThere_any a rs cap B b2 to cap2 B W (h.below hb hB) (h2.below hb hB) hl hl2 (Nat.le_trans hB hb.size) (Nat.le_trans hB hb.size))
  have HAP := hide (fun W (hb : Below w.heap.size w W) => apart_any b1 b2 fr to cap1 cap2 B B W (h1.below hb hB) (h2.below hb hB) hl1 hl2 hc1 hm1 hc2 hm2)
  have HE := hide (show far1 rs fr to ov v = if askI rs v (pathB fr && pathB to) ≠ 0 then askI rs v (pathB fr && pathB to) else if thereB rs fr = false then 404 else if apartB fr to = false then 403 else if (thereB rs to && !ov) = true then 412 else 0 from rfl)
  generalize far1 rs fr to ov v = E at *
  generalize askI rs v (pathB fr && pathB to) = m at *
  generalize thereB rs fr = z1 at *
  generalize apartB fr to = z2 at *
  generalize thereB rs to = z3 at *
  clear hA hb0 h h1 h2
  by_cases hm : m = 0
  rotate_left
  · have e0 : (m == 0) = false := by rw [beq_eq_false_iff_ne]; exact hm
    have HE' := hide (show E = m from HE.out.trans (if_pos hm))
    clear HE
    go_enter Tryz.func58, Tryz.ntmps58
    go_wp2_with fail
    refine HA.out.mono ?_
    rintro e w1 ⟨rfl, b1'⟩
    have c1 := HB0.out.trans (b1'.mono HB0.out.size)
    clear HA b1'
    go_wp2
    go_ret
    exact ⟨by rw [HE'.out]; rfl, c1⟩
  subst hm
  have HE0 := hide (HE.out.trans (if_neg (by simp)))
  clear HE
  have HE := HE0
  clear HE0
  cases z1
  · skip
    have HE' := hide (show E = 404 from HE.out.trans (if_pos rfl))
    clear HE
    go_enter Tryz.func58, Tryz.ntmps58
    go_wp2_with fail
    refine HA.out.mono ?_
    rintro e w1 ⟨rfl, b1'⟩
    have c1 := HB0.out.trans (b1'.mono HB0.out.size)
    clear HA b1'
    have X1 := hide (HT1.out w1 c1)
    go_wp2_with fail
    refine X1.out.mono ?_
    rintro e w2 ⟨rfl, b'⟩
    have c2 := c1.trans (b'.mono c1.size)
    clear X1 b'
    go_wp2
    go_ret
    exact ⟨by rw [HE'.out]; rfl, c2⟩
  have HE1 := hide (HE.out.trans (if_neg (by simp)))
  clear HE
  have HE := HE1
  clear HE1
  cases z2
  · skip
    have HE' := hide (show E = 403 from HE.out.trans (if_pos rfl))
    clear HE
    go_enter Tryz.func58, Tryz.ntmps58
    go_wp2_with fail
    refine HA.out.mono ?_
    rintro e w1 ⟨rfl, b1'⟩
    have c1 := HB0.out.trans (b1'.mono HB0.out.size)
    clear HA b1'
    have X1 := hide (HT1.out w1 c1)
    go_wp2_with fail
    refine X1.out.mono ?_
    rintro e w2 ⟨rfl, b'⟩
    have c2 := c1.trans (b'.mono c1.size)
    clear X1 b'
    have X2 := hide (HAP.out w2 c2)
    go_wp2_with fail
    refine X2.out.mono ?_
    rintro e w3 ⟨rfl, b'⟩
    have c3 := c2.trans (b' _)
    clear X2 b'
    go_wp2
    go_ret
    exact ⟨by rw [HE'.out]; rfl, c3⟩
  have HE2 := hide (HE.out.trans (if_neg (by simp)))
  clear HE
  have HE := HE2
  clear HE2
  cases z3
  · skip
    have HE' := hide (show E = 0 from HE.out.trans (if_neg (by simp)))
    clear HE
    go_enter Tryz.func58, Tryz.ntmps58
    go_wp2_with fail
    refine HA.out.mono ?_
    rintro e w1 ⟨rfl, b1'⟩
    have c1 := HB0.out.trans (b1'.mono HB0.out.size)
    clear HA b1'
    have X1 := hide (HT1.out w1 c1)
    go_wp2_with fail
    refine X1.out.mono ?_
    rintro e w2 ⟨rfl, b'⟩
    have c2 := c1.trans (b'.mono c1.size)
    clear X1 b'
    have X2 := hide (HAP.out w2 c2)
    go_wp2_with fail
    refine X2.out.mono ?_
    rintro e w3 ⟨rfl, b'⟩
    have c3 := c2.trans (b' _)
    clear X2 b'
    have X3 := hide (HT2.out w3 c3)
    go_wp2_with fail
    refine X3.out.mono ?_
    rintro e w4 ⟨rfl, b'⟩
    have c4 := c3.trans (b'.mono c3.size)
    clear X3 b'
    go_wp2
    go_ret
    exact ⟨by rw [HE'.out]; rfl, c4⟩
  cases ov
  · skip
    have HE' := hide (show E = 412 from HE.out.trans (if_pos rfl))
    clear HE
    go_enter Tryz.func58, Tryz.ntmps58
    go_wp2_with fail
    refine HA.out.mono ?_
    rintro e w1 ⟨rfl, b1'⟩
    have c1 := HB0.out.trans (b1'.mono HB0.out.size)
    clear HA b1'
    have X1 := hide (HT1.out w1 c1)
    go_wp2_with fail
    refine X1.out.mono ?_
    rintro e w2 ⟨rfl, b'⟩
    have c2 := c1.trans (b'.mono c1.size)
    clear X1 b'
    have X2 := hide (HAP.out w2 c2)
    go_wp2_with fail
    refine X2.out.mono ?_
    rintro e w3 ⟨rfl, b'⟩
    have c3 := c2.trans (b' _)
    clear X2 b'
    have X3 := hide (HT2.out w3 c3)
    go_wp2_with fail
    refine X3.out.mono ?_
    rintro e w4 ⟨rfl, b'⟩
    have c4 := c3.trans (b'.mono c3.size)
    clear X3 b'
    go_wp2
    go_ret
    exact ⟨by rw [HE'.out]; rfl, c4⟩
  · skip
    have HE' := hide (show E = 0 from HE.out.trans (if_neg (by simp)))
    clear HE
    go_enter Tryz.func58, Tryz.ntmps58
    go_wp2_with fail
    refine HA.out.mono ?_
    rintro e w1 ⟨rfl, b1'⟩
    have c1 := HB0.out.trans (b1'.mono HB0.out.size)
    clear HA b1'
    have X1 := hide (HT1.out w1 c1)
    go_wp2_with fail
    refine X1.out.mono ?_
    rintro e w2 ⟨rfl, b'⟩
    have c2 := c1.trans (b'.mono c1.size)
    clear X1 b'
    have X2 := hide (HAP.out w2 c2)
    go_wp2_with fail
    refine X2.out.mono ?_
    rintro e w3 ⟨rfl, b'⟩
    have c3 := c2.trans (b' _)
    clear X2 b'
    have X3 := hide (HT2.out w3 c3)
    go_wp2_with fail
    refine X3.out.mono ?_
    rintro e w4 ⟨rfl, b'⟩
    have c4 := c3.trans (b'.mono c3.size)
    clear X3 b'
    go_wp2
    go_ret
    exact ⟨by rw [HE'.out]; rfl, c4⟩
end Go.Proofs.YtifnolomekhmfaaGreat
namespace Go.Proofs.YtifnolomekhmfaaGreat
open Go.RowKit M
set_option linter.unusedVariables false

/-- A row of things in a block of its own: what they have lies elsewhere. -/
structure CarS (w : World) (g : Nat) (xs : List Rs) : Prop where
  gs : g < w.heap.size
  fz : ∀ i, w.frozen? ⟨g, i, none⟩ = false
  el : ∀ j (hj : j < xs.length), ∃ pa pc qa qc, RsAt w g (j * 5) xs[j] pa pc qa qc ∧ RsIn w w.heap.size xs[j] pa pc qa qc ∧ (∀ a, pa = some a → a.block ≠ g) ∧ (∀ a, qa = some a → a.block ≠ g) ∧ ∃ b o, pa = some ⟨b, o, none⟩
theorem CarS.below {w w' : World} {g : Nat} {xs : List Rs} (h : CarS w g xs) (hb : Below w.heap.size w w') : CarS w' g xs := by
  refine ⟨Nat.lt_of_lt_of_le h.gs hb.size, fun i => (hb.frozen (p := ⟨g, i, none⟩) h.gs).trans (h.fz i), fun j hj => ?_⟩
  obtain ⟨pa, pc, qa, qc, h1, h2, h3⟩ := h.el j hj
  exact ⟨pa, pc, qa, qc, h1.of (fun o => hb.cell (p := ⟨g, o, none⟩) h.gs), (h2.below hb (Nat.le_refl _)).mono hb.size, h3⟩
theorem CarS.rss {w : World} {g C : Nat} {xs : List Rs} (h : CarS w g xs) (hC : w.heap.size ≤ C) : Rss w C (some ⟨g, 0, none⟩) xs := fun _ => by
  refine ⟨g, 0, rfl, Nat.lt_of_lt_of_le h.gs hC, fun j hj => ?_⟩
  obtain ⟨pa, pc, qa, qc, h1, h2, _⟩ := h.el j hj
  exact ⟨pa, pc, qa, qc, by rw [Nat.zero_add]; exact h1, h2.mono hC⟩
theorem Strs.out {w w' : World} {B g : Nat} {a : Option Addr} {ss : List ByteArray} (h : Strs w B a ss) (hn : ∀ x, a = some x → x.block ≠ g) (e : ∀ b o, b ≠ g → w'.cell? ⟨b, o, none⟩ = w.cell? ⟨b, o, none⟩) : Strs w' B a ss := fun h0 => by
  obtain ⟨b, o, ea, hb, hc⟩ := h h0
  exact ⟨b, o, ea, hb, fun j hj => (e b _ (hn _ ea)).trans (hc j hj)⟩
theorem Pps.out {w w' : World} {B g : Nat} {a : Option Addr} {ps : List Pp} (h : Pps w B a ps) (hn : ∀ x, a = some x → x.block ≠ g) (e : ∀ b o, b ≠ g → w'.cell? ⟨b, o, none⟩ = w.cell? ⟨b, o, none⟩) : Pps w' B a ps := fun h0 => by
  obtain ⟨b, o, ea, hb, hc⟩ := h h0
  refine ⟨b, o, ea, hb, fun j hj => ?_⟩
  have := hc j hj
  unfold PpAt at *
  simp only [e b _ (hn _ ea)]
  exact this
/-- One thing carried. -/
theorem CarS.next {w : World} {g k : Nat} {xs : List Rs} (h : CarS w g xs) (hk : k < xs.length) (np : List ByteArray) (b9 c9 : Nat) (hp : Strs w w.heap.size (some ⟨b9, 0, none⟩) np) (hne : b9 ≠ g) (hc : np.length ≤ c9) (hm : c9 ≤ maxLen) (v : Int) :
    CarS ((w.setCell ⟨g, k * 5, none⟩ (.slice (some ⟨b9, 0, none⟩) np.length c9)).setCell ⟨g, k * 5 + 3, none⟩ (.int .i64 v)) g (xs.set k ⟨np, xs[k].co, xs[k].bo, v, xs[k].ps⟩) := by
  have far : ∀ (W : World) (o p : Nat) (x : Value), o ≠ p → (W.setCell ⟨g, p, none⟩ x).cell? ⟨g, o, none⟩ = W.cell? ⟨g, o, none⟩ := fun W o p x hne => World.cell?_setCell_other _ _ _ _ (fun e => hne (congrArg Addr.off e).symm)
  have oth : ∀ b o, b ≠ g → ((w.setCell ⟨g, k * 5, none⟩ (.slice (some ⟨b9, 0, none⟩) np.length c9)).setCell ⟨g, k * 5 + 3, none⟩ (.int .i64 v)).cell? ⟨b, o, none⟩ = w.cell? ⟨b, o, none⟩ := fun b o hb => by
    rw [World.cell?_setCell_other _ _ _ _ (fun e => hb (congrArg Addr.block e).symm), World.cell?_setCell_other _ _ _ _ (fun e => hb (congrArg Addr.block e).symm)]
  refine ⟨by simpa using h.gs, fun i => by rw [World.frozen?_setCell, World.frozen?_setCell]; exact h.fz i, fun j hj => ?_⟩
  have hj' : j < xs.length := by simpa using hj
  obtain ⟨pa, pc, qa, qc, ⟨c0, c1, c2, c3, c4⟩, h2, h3, h4, h5⟩ := h.el j hj'
  by_cases e : j = k
  · subst e
    rw [List.getElem_set_self]
    refine ⟨some ⟨b9, 0, none⟩, c9, qa, qc, ⟨?_, ?_, ?_, ?_, ?_⟩, ⟨?_, ?_, hc, h2.ql, hm, h2.qm, (fun e => by cases e), h2.qn⟩, fun a ha => by cases ha; exact hne, h4, ⟨_, _, rfl⟩⟩
    · rw [far _ _ _ _ (by omega)]
      exact World.cell?_setCell_same _ _ _ c0
    · rw [far _ _ _ _ (by omega), far _ _ _ _ (by omega)]; exact c1
    · rw [far _ _ _ _ (by omega), far _ _ _ _ (by omega)]; exact c2
    · exact World.cell?_setCell_same _ _ _ (show (w.setCell ⟨g, j * 5, none⟩ (.slice (some ⟨b9, 0, none⟩) np.length c9)).cell? ⟨g, j * 5 + 3, none⟩ = some (.int .i64 xs[j].ve) by rw [far _ _ _ _ (by omega)]; exact c3)
    · rw [far _ _ _ _ (by omega), far _ _ _ _ (by omega)]; exact c4
    · exact (hp.out (g := g) (fun x hx => by cases hx; exact hne) oth).mono (by simp)
    · exact (h2.qh.out (g := g) h4 oth).mono (by simp)
  · rw [List.getElem_set_ne (fun e' => e e'.symm)]
    refine ⟨pa, pc, qa, qc, ⟨?_, ?_, ?_, ?_, ?_⟩, ⟨(h2.ph.out (g := g) h3 oth).mono (by simp), (h2.qh.out (g := g) h4 oth).mono (by simp), h2.pl, h2.ql, h2.pm, h2.qm, h2.pn, h2.qn⟩, h3, h4, h5⟩
    · rw [far _ _ _ _ (by omega), far _ _ _ _ (by omega)]; exact c0
    · rw [far _ _ _ _ (by omega), far _ _ _ _ (by omega)]; exact c1
    · rw [far _ _ _ _ (by omega), far _ _ _ _ (by omega)]; exact c2
    · rw [far _ _ _ _ (by omega), far _ _ _ _ (by omega)]; exact c3
    · rw [far _ _ _ _ (by omega), far _ _ _ _ (by omega)]; exact c4
theorem GrowR.car {w : World} {B lo g cap : Nat} {ts : List RsT} (h : GrowR w B (.slice (some ⟨g, 0, none⟩) ts.length cap) ts lo) : CarS w g (ts.map (·.r)) := by
  have hl := h.own.lt g rfl
  have ht := h.top
  refine ⟨hl.2, ?_, fun j hj => ?_⟩
  · rcases h.own.2 with ⟨e, _⟩ | ⟨g', cap', cur, e, _, hh, _⟩
    · cases e
    · cases e
      exact fun i => rowsR_frozen hh i
  · have hj' : j < ts.length := by simpa using hj
    obtain ⟨k1, k2, k3, k4, k5, k6, k7⟩ := h.el j hj'
    obtain ⟨q1, q2, q3, q4⟩ := h.caps j hj'
    simp only [List.getElem_map]
    exact ⟨_, _, _, _, h.at rfl j hj', ⟨k4.strs' (by omega), k5.pps (by omega), q1, q3, q2, q4, (fun e => by cases e), (fun e => by cases e)⟩, fun a ha => by cases ha; exact fun e => k6 (by rw [← e]; rfl), fun a ha => by cases ha; exact fun e => k7 (by rw [← e]; rfl), ⟨_, _, rfl⟩⟩

/-- The first k carried. -/
def partL (ls : List Rs) (fr to : List ByteArray) (v : Int) (k : Nat) : List Rs := (ls.take k).map (carryR fr to v) ++ ls.drop k
theorem partL_len (ls : List Rs) (fr to : List ByteArray) (v : Int) (k : Nat) : (partL ls fr to v k).length = ls.length := by
  unfold partL
  simp
  omega
theorem partL_at (ls : List Rs) (fr to : List ByteArray) (v : Int) (k : Nat) (hk : k < ls.length) (h' : k < (partL ls fr to v k).length) : (partL ls fr to v k)[k] = ls[k] := by
  simp only [partL]
  rw [List.getElem_append_right (by simp; omega)]
  simp only [List.length_map, List.length_take, List.getElem_drop]
  congr 1
  omega
theorem partL_next (ls : List Rs) (fr to : List ByteArray) (v : Int) (k : Nat) (hk : k < ls.length) : (partL ls fr to v k).set k (carryR fr to v ls[k]) = partL ls fr to v (k + 1) := by
  unfold partL
  rw [List.set_append_right _ _ (by simp; omega), List.take_succ_eq_append_getElem hk, List.map_append, List.append_assoc]
  congr 1
  have e : k - ((ls.take k).map (carryR fr to v)).length = 0 := by simp; omega
  rw [e]
  conv => { lhs; rw [List.drop_eq_getElem_cons hk] }
  rfl

set_option maxRecDepth 100000 in
set_option maxHeartbeats 4000000 in
theorem carried_any (a : Option Addr) (rs : List Rs) (cap B : Nat) (b1 : Option Addr) (fr : List ByteArray) (cap1 : Nat) (bt ot : Nat) (to : List ByteArray) (cap2 : Nat) (v : Int) (w : World) (h : Rss w B a rs) (h1 : Strs w B b1 fr) (h2 : Strs w B (some ⟨bt, ot, none⟩) to) (hB : B ≤ w.heap.size) (hl : rs.length ≤ 1048576) (hz : SzT rs) (hl1 : fr.length ≤ 1048576) (hl2 : to.length ≤ 1048576) (hs2 : Short to) (hs : ShortT rs) (ht0 : 0 < to.length) :
    Calls Tryz.prog 61 #[.slice a rs.length cap, .slice b1 fr.length cap1, .slice (some ⟨bt, ot, none⟩) to.length cap2, .int .i64 v] w fun e w' => (∃ g c9 : Nat, e = .returned (.slice (some ⟨g, 0, none⟩) (carryL rs fr to v).length c9) ∧ Rss w' w'.heap.size (some ⟨g, 0, none⟩) (carryL rs fr to v)) ∧ Below w.heap.size w w' := by
  have X1 := hide (deepOf_grow a rs cap B b1 fr cap1 B w h h1 hB hB hl hl1 hz)
  have HLS := hide (show carryL rs fr to v = (deepL rs fr).map (carryR fr to v) from rfl)
  have HPF := hide (fun r (hr : r ∈ deepL rs fr) => show fr.length ≤ r.pa.length ∧ r.pa.length ≤ 1048576 ∧ Short r.pa from ⟨(deep_iff.1 (deepL_mem.1 hr).2).length_le, (hz r (deepL_mem.1 hr).1).1, (hs r (deepL_mem.1 hr).1).ps⟩)
  have hlen : (carryL rs fr to v).length = (deepL rs fr).length := by unfold carryL; simp
  have hdl : (deepL rs fr).length ≤ 1048576 := Nat.le_trans (List.length_filter_le _ _) hl
  rw [hlen]
  generalize carryL rs fr to v = cl at *
  generalize deepL rs fr = ls at *
  clear h h1 hz hs hlen
  have hT := h2
  clear h2
  go_enter Tryz.func61, Tryz.ntmps61
  go_wp2_with fail
  refine X1.out.mono ?_
  rintro e w1 ⟨⟨v1, ts, rfl, hG, hm, _⟩, bb1⟩
  obtain ⟨g, c9, rfl, hgl⟩ := hG.blk
  have hC := hG.car
  have hgB := (hG.own.lt g rfl).1
  have htl : ts.length = ls.length := by rw [← hm]; simp
  rw [hm] at hC
  have HC := hide hC
  have HB1 := hide bb1
  rw [htl]
  clear hG hm hC X1 bb1 htl
  go_wp2
  go_loopw [17] (fun i wr => ∃ k : Nat, k ≤ ls.length ∧ i = .int .i64 k ∧ CarS wr g (partL ls fr to v k) ∧ Below w.heap.size w wr) (fun i _ => ls.length - (intOf i).toNat)
  case atStart => exact ⟨0, Nat.zero_le _, rfl, by simpa [partL] using HC.out, HB1.out⟩
  case round =>
    obtain ⟨k, hk, rfl, hcar, hbe⟩ := hrel
    by_cases hlt : k < ls.length
    · have hpk : k < (partL ls fr to v k).length := by rw [partL_len]; exact hlt
      obtain ⟨pa, pc, qa, qc, ⟨hc0, hc1, hc2, hc3, hc4⟩, hin, n1, n2, ⟨bx, ox, rfl⟩⟩ := hcar.el k hpk
      have hat := partL_at ls fr to v k hlt hpk
      have HNX := hide (partL_next ls fr to v k hlt)
      obtain ⟨pf1, pf2, pf3⟩ := HPF.out _ (List.getElem_mem hlt)
      have hgs := hcar.gs
      have HCAR := hide hcar
      rw [hat] at hc0 hc1 hc2 hc3 hc4 hin
      have HAT := hide hat
      clear hcar hat
      -- the thing's own box, then the two lists
      have k1 := (Below.refl wr.heap.size wr).alloc (Nat.le_refl _) (Obj.cells #[.slice (some ⟨bx, ox, none⟩) (ls[k]).pa.length pc, .bool (ls[k]).co, .string (ls[k]).bo, .int .i64 (ls[k]).ve, .slice qa (ls[k]).ps.length qc] 62)
      have hin1 := hin.below k1 (Nat.le_refl _)
      have hT1 := (hT.below hbe hB).below k1 (by have := hbe.size; omega)
      have HEQ := hide (show carryR fr to v ls[k] = ⟨to ++ (ls[k]).pa.drop fr.length, (ls[k]).co, (ls[k]).bo, v, (ls[k]).ps⟩ from rfl)
      have hpl : fr.length ≤ pc := Nat.le_trans pf1 hin.pl
      have hpm := hin.pm
      have hbw := hbe.size
      have GO := hide (fun (o' cc : Nat) (hsf : Strs (wr.alloc (Obj.cells #[.slice (some ⟨bx, ox, none⟩) (ls[k]).pa.length pc, .bool (ls[k]).co, .string (ls[k]).bo, .int .i64 (ls[k]).ve, .slice qa (ls[k]).ps.length qc] 62)) wr.heap.size (some ⟨bx, o', none⟩) ((ls[k]).pa.drop fr.length)) => show Calls Tryz.prog 111 #[.slice (some ⟨wr.heap.size + 1, 0, none⟩) 2 2] ((wr.alloc (Obj.cells #[.slice (some ⟨bx, ox, none⟩) (ls[k]).pa.length pc, .bool (ls[k]).co, .string (ls[k]).bo, .int .i64 (ls[k]).ve, .slice qa (ls[k]).ps.length qc] 62)).alloc (Obj.cells #[.slice (some ⟨bt, ot, none⟩) to.length cap2, .slice (some ⟨bx, o', none⟩) ((ls[k]).pa.length - fr.length) cc] 25)) fun e w' => (∃ b9 c8 : Nat, e = .returned (.slice (some ⟨b9, 0, none⟩) (to ++ (ls[k]).pa.drop fr.length).length c8) ∧ Strs w' w'.heap.size (some ⟨b9, 0, none⟩) (to ++ (ls[k]).pa.drop fr.length) ∧ wr.heap.size ≤ b9 ∧ (to ++ (ls[k]).pa.drop fr.length).length ≤ c8 ∧ c8 ≤ maxLen) ∧ Below wr.heap.size wr w' from by
        have hP := PathsAt.two (cap := cap2) (cap' := cc) hT1 (by simp; omega) hs2 (by unfold maxLen; omega) hsf (by simp) (fun s hs => pf3 s (List.mem_of_mem_drop hs)) (by rw [List.length_drop]; unfold maxLen; omega)
        rw [List.length_drop] at hP
        have k2 := k1.alloc k1.size (Obj.cells #[.slice (some ⟨bt, ot, none⟩) to.length cap2, .slice (some ⟨bx, o', none⟩) ((ls[k]).pa.length - fr.length) cc] 25)
        have hcat : catL [(to, some ⟨bt, ot, none⟩, cap2), ((ls[k]).pa.drop fr.length, some ⟨bx, o', none⟩, cc)] = to ++ (ls[k]).pa.drop fr.length := by simp [catL]
        have hX := concat_any (wr.alloc (Obj.cells #[.slice (some ⟨bx, ox, none⟩) (ls[k]).pa.length pc, .bool (ls[k]).co, .string (ls[k]).bo, .int .i64 (ls[k]).ve, .slice qa (ls[k]).ps.length qc] 62)).heap.size 2 [(to, some ⟨bt, ot, none⟩, cap2), ((ls[k]).pa.drop fr.length, some ⟨bx, o', none⟩, cc)] (by simp) (by rw [hcat, List.length_append, List.length_drop]; omega) _ hP (fun j hj => by
          have hj' : j = 0 ∨ j = 1 := by simp at hj; omega
          rcases hj' with rfl | rfl
          · exact ⟨_, _, rfl⟩
          · exact ⟨_, _, rfl⟩)
        rw [hcat] at hX
        have hsz : (wr.alloc (Obj.cells #[.slice (some ⟨bx, ox, none⟩) (ls[k]).pa.length pc, .bool (ls[k]).co, .string (ls[k]).bo, .int .i64 (ls[k]).ve, .slice qa (ls[k]).ps.length qc] 62)).heap.size = wr.heap.size + 1 := by simp
        rw [hsz] at hX
        refine hX.mono ?_
        rintro e w' ⟨v9, rfl, hown, hb'⟩
        have hb3 := k2.trans (hb'.mono k2.size)
        rcases hown.2 with ⟨_, h0⟩ | ⟨b9, c8, cur, rfl, q1, q2, q3, q4, q5, q6⟩
        · rw [List.length_append] at h0; omega
        · refine ⟨⟨b9, c8, rfl, fun _ => ⟨b9, 0, rfl, (hown.lt b9 rfl).2, fun j hj => ?_⟩, Nat.le_trans k2.size q1, q3, q4⟩, hb3⟩
          rw [Nat.zero_add, hown.cellAt j (by rw [Nat.mul_one]; exact hj)]
          unfold strV
          rw [List.getElem?_map, List.getElem?_eq_getElem hj]
          rfl)
      have FIN := hide (fun (w' : World) (b9 c8 : Nat) (hb : Below wr.heap.size wr w') (hst : Strs w' w'.heap.size (some ⟨b9, 0, none⟩) (to ++ (ls[k]).pa.drop fr.length)) (hb9 : wr.heap.size ≤ b9) (hc8 : (to ++ (ls[k]).pa.drop fr.length).length ≤ c8) (hm8 : c8 ≤ maxLen) => show CarS ((w'.setCell ⟨g, k * 5, none⟩ (.slice (some ⟨b9, 0, none⟩) (to ++ (ls[k]).pa.drop fr.length).length c8)).setCell ⟨g, k * 5 + 3, none⟩ (.int .i64 v)) g (partL ls fr to v (k + 1)) from by
        have hn := (HCAR.out.below hb).next hpk _ b9 c8 hst (by omega) hc8 hm8 v
        rw [HAT.out, ← HEQ.out, HNX.out] at hn
        exact hn)
      have hf := HCAR.out.fz
      have hsl := hin.ph
      have hpa9 : 0 < (ls[k]).pa.length → Strs (wr.alloc (Obj.cells #[.slice (some ⟨bx, ox, none⟩) (ls[k]).pa.length pc, .bool (ls[k]).co, .string (ls[k]).bo, .int .i64 (ls[k]).ve, .slice qa (ls[k]).ps.length qc] 62)) wr.heap.size (some ⟨bx, ox + fr.length, none⟩) ((ls[k]).pa.drop fr.length) := fun hp0 hd0 => by
        obtain ⟨b0, o0, ea, hb0, hcc⟩ := hin1.ph hp0
        cases ea
        refine ⟨bx, ox + fr.length, rfl, hb0, fun j hj => ?_⟩
        have hj2 : fr.length + j < (ls[k]).pa.length := by rw [List.length_drop] at hj; omega
        rw [Nat.add_assoc, hcc (fr.length + j) hj2, List.getElem_drop]
      have hnil : pc = fr.length → (ls[k]).pa.drop fr.length = [] := fun e => List.drop_of_length_le (by have := hin.pl; omega)
      have HPA := hide hpa9
      have HNIL := hide hnil
      have HNP := hide (show (to ++ (ls[k]).pa.drop fr.length).length = (to ++ (ls[k]).pa.drop fr.length).length from rfl)
      have e1 : (0 : Int) ≤ (fr.length : Int) := by omega
      have e2 : (fr.length : Int) ≤ ((ls[k]).pa.length : Int) := by omega
      clear HEQ hpa9 hnil hin1 hT1 hsl hin
      by_cases hpc : pc = fr.length
      · have X2 := hide (GO.out ox 0 (by rw [HNIL.out hpc]; exact fun h => absurd h (Nat.lt_irrefl _)))
        subst hpc
        obtain ⟨np, hnp⟩ : ∃ np, to ++ (ls[k]).pa.drop fr.length = np := ⟨_, rfl⟩
        rw [hnp] at X2 FIN
        clear GO hnp HNP HPA HNIL
        go_wp2_with fail
        refine X2.out.mono ?_
        rintro e w3 ⟨⟨b9, c8, rfl, st9, q1, q2, q3⟩, bb3⟩
        have HF := hide (FIN.out w3 b9 c8 bb3 st9 q1 q2 q3)
        have c3 := hbe.trans (bb3.mono hbe.size)
        have d0 := (bb3.cell (p := ⟨g, k * 5, none⟩) hgs).trans hc0
        have d3 := (bb3.cell (p := ⟨g, k * 5 + 3, none⟩) hgs).trans hc3
        have f0 := (bb3.frozen (p := ⟨g, k * 5, none⟩) hgs).trans (hf _)
        have f3 := (bb3.frozen (p := ⟨g, k * 5 + 3, none⟩) hgs).trans (hf _)
        clear X2 FIN st9 bb3 hc0 hc1 hc2 hc3 hc4
        go_wp2
        go_roundw
        case rel => exact ⟨k + 1, by omega, by go_num, HF.out, (c3.setCell hgB _).setCell hgB _⟩
        case measure => simp [intOf]; omega
      · have X2 := hide (GO.out (ox + fr.length) (pc - fr.length) (fun hd => HPA.out (by rw [List.length_drop] at hd; omega) hd))
        obtain ⟨np, hnp⟩ : ∃ np, to ++ (ls[k]).pa.drop fr.length = np := ⟨_, rfl⟩
        rw [hnp] at X2 FIN
        clear GO hnp HNP HPA HNIL
        go_wp2_with fail
        refine X2.out.mono ?_
        rintro e w3 ⟨⟨b9, c8, rfl, st9, q1, q2, q3⟩, bb3⟩
        have HF := hide (FIN.out w3 b9 c8 bb3 st9 q1 q2 q3)
        have c3 := hbe.trans (bb3.mono hbe.size)
        have d0 := (bb3.cell (p := ⟨g, k * 5, none⟩) hgs).trans hc0
        have d3 := (bb3.cell (p := ⟨g, k * 5 + 3, none⟩) hgs).trans hc3
        have f0 := (bb3.frozen (p := ⟨g, k * 5, none⟩) hgs).trans (hf _)
        have f3 := (bb3.frozen (p := ⟨g, k * 5 + 3, none⟩) hgs).trans (hf _)
        clear X2 FIN st9 bb3 hc0 hc1 hc2 hc3 hc4
        go_wp2
        go_roundw
        case rel => exact ⟨k + 1, by omega, by go_num, HF.out, (c3.setCell hgB _).setCell hgB _⟩
        case measure => simp [intOf]; omega
    · have hke : partL ls fr to v k = cl := by
        unfold partL
        rw [HLS.out, List.take_of_length_le (by omega), List.drop_of_length_le (by omega), List.append_nil]
      have HR := hide (hcar.rss (Nat.le_refl _))
      rw [hke] at HR
      clear hcar hke
      go_wp2
      go_ret
      exact ⟨⟨g, c9, rfl, HR.out⟩, hbe⟩
end Go.Proofs.YtifnolomekhmfaaGreat
namespace Go.Proofs.YtifnolomekhmfaaGreat
open Go.RowKit M
theorem TurnGot.down {W : World} {L L' : Nat} {st cs : List Rs} {g caps g2 : Nat} (h : TurnGot W L st cs g caps g2) (hL : L' ≤ L) : TurnGot W L' st cs g caps g2 := by
  obtain ⟨ts, pb, qb, B1, lo1, B2, hi2, h1, h2, h3, h4, h5, h6, h7, h8, h9⟩ := h
  exact ⟨ts, pb, qb, B1, lo1, B2, hi2, h1, h2, h3, h4, h5, h6, Nat.le_trans hL h7, Nat.le_trans hL h8, h9⟩

end Go.Proofs.YtifnolomekhmfaaGreat
namespace Go.Proofs.YtifnolomekhmfaaGreat
open Go.RowKit M
set_option linter.unusedVariables false

theorem carry_sizes {rs : List Rs} {fr to : List ByteArray} {v : Int} (ht : treeB rs = true) (hto : pathB to = true) : (carryL rs fr to v).length ≤ 12 ∧ SzT (carryL rs fr to v) ∧ ShortT (carryL rs fr to v) := by
  have hts := ht
  unfold treeB at hts
  simp only [Bool.and_eq_true, decide_eq_true_eq, List.all_eq_true] at hts
  have hto' := pathB_iff.1 hto
  have hst := sumL_small to hto'.1
  have key : ∀ x ∈ carryL rs fr to v, x.pa.length ≤ 8 ∧ x.ps.length ≤ 4 ∧ (∀ s ∈ x.pa, s.size ≤ 1000) ∧ x.bo.size ≤ 200 ∧ ∀ q ∈ x.ps, q.1.size ≤ 60 ∧ q.2.1.size ≤ 60 ∧ q.2.2.size ≤ 60 := fun x hx => by
    unfold carryL at hx
    obtain ⟨r, hr, rfl⟩ := List.mem_map.1 hx
    have hm := (deepL_mem.1 hr).1
    have hres := hts.2.1 r hm
    have hsm := res_small hres
    have h2 : szR r = r.pa.length + sumL r.pa + r.bo.size + (r.ps.length + sumP r.ps) := rfl
    have hpp := pathB_iff.1 (resB_path hres)
    unfold resB at hres
    simp only [Bool.and_eq_true, decide_eq_true_eq] at hres
    have hq := hres.2.2.2.2.2
    unfold propsB at hq
    simp only [Bool.and_eq_true, decide_eq_true_eq, List.all_eq_true] at hq
    refine ⟨?_, hq.1, fun s hs => ?_, hres.2.2.1, fun q hqm => ?_⟩
    · show (to ++ r.pa.drop fr.length).length ≤ 8
      rw [List.length_append, List.length_drop]
      have := hto'.2
      have := hpp.2
      omega
    · have hs' : s ∈ to ++ r.pa.drop fr.length := hs
      rcases List.mem_append.1 hs' with h | h
      · have h3 : s.size ≤ sumL to := sumS_mem to s h
        have := hto'.2
        omega
      · have h3 : s.size ≤ sumL r.pa := sumS_mem r.pa s (List.mem_of_mem_drop h)
        omega
    · have := prop_small (hq.2.1 q hqm)
      unfold szP at this
      omega
  refine ⟨?_, fun x hx => ?_, fun x hx => ?_⟩
  · have : (carryL rs fr to v).length = (deepL rs fr).length := by unfold carryL; simp
    rw [this]
    exact Nat.le_trans (List.length_filter_le _ _) hts.1
  · obtain ⟨k1, k2, k3, k4, k5⟩ := key x hx
    exact ⟨by omega, by omega, fun s hs => Nat.le_trans (k3 s hs) (by omega), by omega, fun q hq => by have := k5 q hq; omega⟩
  · obtain ⟨k1, k2, k3, k4, k5⟩ := key x hx
    exact ⟨by unfold maxLen; omega, fun s hs => Nat.le_trans (k3 s hs) (by unfold maxLen; omega), by unfold maxLen; omega, by unfold maxLen; omega, fun q hq => by have := k5 q hq; unfold maxLen; omega⟩
theorem apart_to {fr to : List ByteArray} (h : apartB fr to = true) : 0 < to.length := by
  refine Nat.pos_of_ne_zero fun e => ?_
  obtain rfl := List.length_eq_zero_iff.1 e
  unfold apartB at h
  rw [Bool.and_eq_true] at h
  have : deepP fr [] = true := (deepB_P [] ⟨fr, false, ByteArray.empty, 0, []⟩).symm.trans (deep_iff.2 (List.nil_prefix))
  rw [this] at h
  cases h.1

/-- What is done behind a code of nothing: the looks at the turn, and the turn. -/
theorem far_taken (a : Option Addr) (rs : List Rs) (cap B : Nat) (fr : List ByteArray) (bt ot : Nat) (to : List ByteArray) (cap2 : Nat) (ov : Bool) (v : Int) (mv : Bool) (w W : World) (h : Rss w B a rs) (h2 : Strs w B (some ⟨bt, ot, none⟩) to) (hB : B ≤ w.heap.size) (hb : Below w.heap.size w W) (hl : rs.length ≤ 1048576) (hz : SzT rs) (hl2 : to.length ≤ 1048576) (hpz : ∀ x ∈ to, x.size ≤ 281474976710656) (hc2 : to.length ≤ cap2) (hm2 : cap2 ≤ maxLen) (hfar : far1 rs fr to ov v = 0) (g caps g2 capc : Nat) (hT : TurnGot W w.heap.size (restL rs fr to mv) (carryL rs fr to v) g caps g2) :
    Calls Tryz.prog 62 #[.agg #[.slice a rs.length cap, .slice (some ⟨bt, ot, none⟩) to.length cap2, .slice (some ⟨g, 0, none⟩) (restL rs fr to mv).length caps, .slice (some ⟨g2, 0, none⟩) (carryL rs fr to v).length capc], .int .i64 2] W fun e w' => GaveIs w w' e (farR rs fr to ov v mv) (farC rs fr to ov v mv) ∧ Below w.heap.size w w' := by
  obtain ⟨ht, hpf, hto, hv, hth, hap⟩ := far1_ok hfar
  obtain ⟨n1, n2, n3⟩ := carry_sizes (fr := fr) (v := v) ht hto
  refine (taken_any 2 (farI rs fr to ov v mv) a rs cap B bt ot to cap2 g (restL rs fr to mv) caps g2 (carryL rs fr to v) capc w.heap.size W (h.below hb hB) (h2.below hb hB) (Nat.le_trans hB hb.size) hT hb.size hl hl2 (Nat.le_trans (restL_len rs fr to mv) hl) (by omega) hz (fun W2 hb2 => ?_)).mono ?_
  · have hT2 := hT.below hb2
    obtain ⟨q1, q2⟩ := hT2.rss (fun r hr => by
      have := n2 r hr
      unfold maxLen
      omega)
    have hb3 := hb.trans (hb2.mono hb.size)
    have hx := refused2_any a rs cap bt ot to cap2 (some ⟨g, 0, none⟩) (restL rs fr to mv) caps (some ⟨g2, 0, none⟩) (carryL rs fr to v) capc W2.heap.size W2 ⟨(h.below hb3 hB).mono (Nat.le_trans hB hb3.size), (h2.below hb3 hB).mono (Nat.le_trans hB hb3.size), q1, q2⟩ (Nat.le_refl _) ⟨hl, hl2, hpz, hc2, hm2, Nat.le_trans (restL_len rs fr to mv) hl, by omega, n3⟩
    rw [far_says (mv := mv) hfar] at hx
    exact hx
  · rintro e w' ⟨⟨g', cap', pb', qb', he, hO⟩, hb'⟩
    exact ⟨⟨g', cap', pb', qb', he, hO⟩, hb.trans (hb'.mono (Nat.le_refl _))⟩

set_option maxRecDepth 100000 in
set_option maxHeartbeats 4000000 in
theorem copyTreeI_any (a : Option Addr) (rs : List Rs) (cap B : Nat) (b1 : Option Addr) (fr : List ByteArray) (cap1 : Nat) (bt ot : Nat) (to : List ByteArray) (cap2 : Nat) (ov : Bool) (v : Int) (w : World) (h : Rss w B a rs) (h1 : Strs w B b1 fr) (h2 : Strs w B (some ⟨bt, ot, none⟩) to) (hB : B ≤ w.heap.size) (hs : ShortT rs) (hl : rs.length ≤ 1048576) (hz : SzT rs) (hs1 : Short fr) (hl1 : fr.length ≤ 1048576) (hs2 : Short to) (hl2 : to.length ≤ 1048576) (hpz : ∀ x ∈ to, x.size ≤ 281474976710656) (hc1 : fr.length ≤ cap1) (hm1 : cap1 ≤ maxLen) (hc2 : to.length ≤ cap2) (hm2 : cap2 ≤ maxLen) :
    Calls Tryz.prog 8 #[.slice a rs.length cap, .slice b1 fr.length cap1, .slice (some ⟨bt, ot, none⟩) to.length cap2, .bool ov, .int .i64 v] w fun e w' => GaveIs w w' e (farR rs fr to ov v false) (farC rs fr to ov v false) ∧ Below w.heap.size w w' := by
  have HA := hide (farRefused_any a rs cap B b1 fr cap1 (some ⟨bt, ot, none⟩) to cap2 ov v w h h1 h2 hB hs (by unfold maxLen; omega) hs1 (by unfold maxLen; omega) hs2 (by unfold maxLen; omega) hc1 hm1 hc2 hm2)
  by_cases hfar : far1 rs fr to ov v = 0
  rotate_left
  · obtain ⟨r1, r2⟩ := far_refused (mv := false) hfar
    have HC := hide (fun W (hb : Below w.heap.size w W) => copyTree_any a rs cap B W (h.below hb hB) (Nat.le_trans hB hb.size) hl hz)
    rw [r1, r2]
    generalize far1 rs fr to ov v = M at *
    have e0 : (M == 0) = false := by rw [beq_eq_false_iff_ne]; exact hfar
    clear r1 r2
    go_enter Tryz.func8, Tryz.ntmps8
    go_wp2_with fail
    refine HA.out.mono ?_
    rintro e w1 ⟨rfl, c1⟩
    have X1 := hide (HC.out w1 c1)
    clear HA HC
    go_wp2_with fail
    refine X1.out.mono ?_
    rintro e w2 ⟨rfl, ⟨pb, qb, hO⟩, b2⟩
    have HO := hide (hO.down c1.size)
    have c2 := c1.trans (b2.mono c1.size)
    clear hO X1 b2
    go_wp2
    go_ret2
    exact ⟨⟨w1.heap.size, rs.length, pb, qb, rfl, HO.out⟩, c2⟩
  obtain ⟨ht, hpf, hto, hv, hth, hap⟩ := far1_ok hfar
  obtain ⟨n1, n2, n3⟩ := carry_sizes (fr := fr) (v := v) ht hto
  have HCA := hide (fun W (hb : Below w.heap.size w W) => carried_any a rs cap B b1 fr cap1 bt ot to cap2 v W (h.below hb hB) (h1.below hb hB) (h2.below hb hB) (Nat.le_trans hB hb.size) hl hz hl1 hl2 hs2 hs (apart_to hap))
  have HTA := hide (fun W g c9 (hb : Below w.heap.size w W) (hr : Rss W W.heap.size (some ⟨g, 0, none⟩) (carryL rs fr to v)) => turnAt_any a rs cap W.heap.size (some ⟨bt, ot, none⟩) to cap2 (some ⟨g, 0, none⟩) (carryL rs fr to v) c9 W ((h.below hb hB).mono (Nat.le_trans hB hb.size)) ((h2.below hb hB).mono (Nat.le_trans hB hb.size)) hr (Nat.le_refl _) hl hl2 (by omega) hz n2)
  have HTK := hide (fun W (hb : Below w.heap.size w W) g caps g2 capc (hT : TurnGot W w.heap.size (restL rs fr to false) (carryL rs fr to v) g caps g2) => far_taken a rs cap B fr bt ot to cap2 ov v false w W h h2 hB hb hl hz hl2 hpz hc2 hm2 hfar g caps g2 capc hT)
  have hre : restL rs fr to false = withoutL rs to := rfl
  rw [hre] at HTK
  rw [hfar] at HA
  generalize farR rs fr to ov v false = FR at *
  generalize farC rs fr to ov v false = FC at *
  generalize withoutL rs to = st at *
  generalize carryL rs fr to v = cs at *
  clear hre hfar
  go_enter Tryz.func8, Tryz.ntmps8
  go_wp2_with fail
  refine HA.out.mono ?_
  rintro e w1 ⟨rfl, c1⟩
  have X1 := hide (HCA.out w1 c1)
  clear HA HCA
  go_wp2_with fail
  refine X1.out.mono ?_
  rintro e w2 ⟨⟨g, c9, rfl, hr⟩, b2⟩
  have c2 := c1.trans (b2.mono c1.size)
  have X2 := hide (HTA.out w2 g c9 c2 hr)
  clear X1 hr b2 HTA
  go_wp2_with fail
  refine X2.out.mono ?_
  rintro e w3 ⟨⟨g1, caps, g2, rfl, hT⟩, b3⟩
  have c3 := c2.trans (b3.mono c2.size)
  have X3 := hide (HTK.out w3 c3 g1 caps g2 cs.length (hT.down c2.size))
  clear X2 hT b3 HTK
  go_wp2_with fail
  refine X3.out.mono ?_
  rintro e w4 ⟨⟨g', cap', pb', qb', rfl, hO⟩, c4⟩
  have HO := hide hO
  clear hO X3
  go_wp2
  go_ret2
  exact ⟨⟨g', cap', pb', qb', rfl, HO.out⟩, c4⟩

set_option maxRecDepth 100000 in
set_option maxHeartbeats 4000000 in
theorem moveTreeI_any (a : Option Addr) (rs : List Rs) (cap B : Nat) (b1 : Option Addr) (fr : List ByteArray) (cap1 : Nat) (bt ot : Nat) (to : List ByteArray) (cap2 : Nat) (ov : Bool) (v : Int) (w : World) (h : Rss w B a rs) (h1 : Strs w B b1 fr) (h2 : Strs w B (some ⟨bt, ot, none⟩) to) (hB : B ≤ w.heap.size) (hs : ShortT rs) (hl : rs.length ≤ 1048576) (hz : SzT rs) (hs1 : Short fr) (hl1 : fr.length ≤ 1048576) (hs2 : Short to) (hl2 : to.length ≤ 1048576) (hpz : ∀ x ∈ to, x.size ≤ 281474976710656) (hc1 : fr.length ≤ cap1) (hm1 : cap1 ≤ maxLen) (hc2 : to.length ≤ cap2) (hm2 : cap2 ≤ maxLen) :
    Calls Tryz.prog 10 #[.slice a rs.length cap, .slice b1 fr.length cap1, .slice (some ⟨bt, ot, none⟩) to.length cap2, .bool ov, .int .i64 v] w fun e w' => GaveIs w w' e (farR rs fr to ov v true) (farC rs fr to ov v true) ∧ Below w.heap.size w w' := by
  have HA := hide (farRefused_any a rs cap B b1 fr cap1 (some ⟨bt, ot, none⟩) to cap2 ov v w h h1 h2 hB hs (by unfold maxLen; omega) hs1 (by unfold maxLen; omega) hs2 (by unfold maxLen; omega) hc1 hm1 hc2 hm2)
  by_cases hfar : far1 rs fr to ov v = 0
  rotate_left
  · obtain ⟨r1, r2⟩ := far_refused (mv := true) hfar
    have HC := hide (fun W (hb : Below w.heap.size w W) => copyTree_any a rs cap B W (h.below hb hB) (Nat.le_trans hB hb.size) hl hz)
    rw [r1, r2]
    generalize far1 rs fr to ov v = M at *
    have e0 : (M == 0) = false := by rw [beq_eq_false_iff_ne]; exact hfar
    clear r1 r2
    go_enter Tryz.func10, Tryz.ntmps10
    go_wp2_with fail
    refine HA.out.mono ?_
    rintro e w1 ⟨rfl, c1⟩
    have X1 := hide (HC.out w1 c1)
    clear HA HC
    go_wp2_with fail
    refine X1.out.mono ?_
    rintro e w2 ⟨rfl, ⟨pb, qb, hO⟩, b2⟩
    have HO := hide (hO.down c1.size)
    have c2 := c1.trans (b2.mono c1.size)
    clear hO X1 b2
    go_wp2
    go_ret2
    exact ⟨⟨w1.heap.size, rs.length, pb, qb, rfl, HO.out⟩, c2⟩
  obtain ⟨ht, hpf, hto, hv, hth, hap⟩ := far1_ok hfar
  obtain ⟨n1, n2, n3⟩ := carry_sizes (fr := fr) (v := v) ht hto
  have HCA := hide (fun W (hb : Below w.heap.size w W) => carried_any a rs cap B b1 fr cap1 bt ot to cap2 v W (h.below hb hB) (h1.below hb hB) (h2.below hb hB) (Nat.le_trans hB hb.size) hl hz hl1 hl2 hs2 hs (apart_to hap))
  have HTA := hide (fun W g c9 (hb : Below w.heap.size w W) (hr : Rss W W.heap.size (some ⟨g, 0, none⟩) (carryL rs fr to v)) => turnAt_any a rs cap W.heap.size (some ⟨bt, ot, none⟩) to cap2 (some ⟨g, 0, none⟩) (carryL rs fr to v) c9 W ((h.below hb hB).mono (Nat.le_trans hB hb.size)) ((h2.below hb hB).mono (Nat.le_trans hB hb.size)) hr (Nat.le_refl _) hl hl2 (by omega) hz n2)
  have HTK := hide (fun W (hb : Below w.heap.size w W) g caps g2 capc (hT : TurnGot W w.heap.size (restL rs fr to true) (carryL rs fr to v) g caps g2) => far_taken a rs cap B fr bt ot to cap2 ov v true w W h h2 hB hb hl hz hl2 hpz hc2 hm2 hfar g caps g2 capc hT)
  have hre : restL rs fr to true = withoutL (withoutL rs to) fr := rfl
  rw [hre] at HTK
  rw [hfar] at HA
  have hstl : (withoutL rs to).length ≤ 1048576 := Nat.le_trans (List.length_filter_le _ _) hl
  have hstz : SzT (withoutL rs to) := fun r hr => hz r (List.mem_filter.1 hr).1
  have HWO := hide (fun W g caps (hb : Below w.heap.size w W) (hr : Rss W W.heap.size (some ⟨g, 0, none⟩) (withoutL rs to)) => without_grow (some ⟨g, 0, none⟩) (withoutL rs to) caps W.heap.size b1 fr cap1 B W hr (h1.below hb hB) (Nat.le_refl _) (Nat.le_trans hB hb.size) hstl hl1 hstz)
  have hcm : ∀ r ∈ carryL rs fr to v, r.pa.length ≤ maxLen ∧ r.ps.length ≤ maxLen := fun r hr => by
    have := n2 r hr
    unfold maxLen
    omega
  generalize farR rs fr to ov v true = FR at *
  generalize farC rs fr to ov v true = FC at *
  generalize withoutL (withoutL rs to) fr = su at *
  generalize withoutL rs to = st at *
  generalize carryL rs fr to v = cs at *
  clear hre hfar hstl hstz n2 n3
  go_enter Tryz.func10, Tryz.ntmps10
  go_wp2_with fail
  refine HA.out.mono ?_
  rintro e w1 ⟨rfl, c1⟩
  have X1 := hide (HCA.out w1 c1)
  clear HA HCA
  go_wp2_with fail
  refine X1.out.mono ?_
  rintro e w2 ⟨⟨g, c9, rfl, hr⟩, b2⟩
  have c2 := c1.trans (b2.mono c1.size)
  have X2 := hide (HTA.out w2 g c9 c2 hr)
  clear X1 hr b2 HTA
  go_wp2_with fail
  refine X2.out.mono ?_
  rintro e w3 ⟨⟨g1, caps, g2, rfl, hT⟩, b3⟩
  have c3 := c2.trans (b3.mono c2.size)
  have y3 := c3.size
  have k4 := (Below.refl w3.heap.size w3).alloc (Nat.le_refl _) (Obj.cells #[.slice a rs.length cap, .slice (some ⟨bt, ot, none⟩) to.length cap2, .slice (some ⟨g1, 0, none⟩) st.length caps, .slice (some ⟨g2, 0, none⟩) cs.length cs.length] 74)
  have hT3 := hT.down c2.size
  have hT4 := hT3.below k4
  have X3 := hide (HWO.out _ g1 caps (c3.trans (k4.mono c3.size)) (hT4.rss hcm).1)
  have HT := hide hT3
  have K4 := hide k4
  clear X2 hT hT3 hT4 b3 HWO k4
  go_wp2_with fail
  refine X3.out.mono ?_
  rintro e w5 ⟨⟨v5, ts, rfl, hG, hm5, hcp5⟩, b5⟩
  obtain ⟨g5, caps5, rfl, hg5⟩ := hG.blk
  have htl : ts.length = su.length := by rw [← hm5]; simp
  rw [htl] at hG ⊢
  have d0 := (b5.cell (p := ⟨w3.heap.size, 0, none⟩) (by simp)).trans (show _ = some (.slice a rs.length cap) by simp)
  have d1 := (b5.cell (p := ⟨w3.heap.size, 1, none⟩) (by simp)).trans (show _ = some (.slice (some ⟨bt, ot, none⟩) to.length cap2) by simp)
  have d2 := (b5.cell (p := ⟨w3.heap.size, 2, none⟩) (by simp)).trans (show _ = some (.slice (some ⟨g1, 0, none⟩) st.length caps) by simp)
  have d3 := (b5.cell (p := ⟨w3.heap.size, 3, none⟩) (by simp)).trans (show _ = some (.slice (some ⟨g2, 0, none⟩) cs.length cs.length) by simp)
  have f2 := (b5.frozen (p := ⟨w3.heap.size, 2, none⟩) (by simp)).trans (show _ = false by simp)
  have z5 : w3.heap.size + 1 ≤ w5.heap.size := by have := b5.size; simp at this; omega
  have c5 := c3.trans ((K4.out.trans (b5.mono K4.out.size)).mono c3.size)
  have hT6 : TurnGot (w5.setCell ⟨w3.heap.size, 2, none⟩ (.slice (some ⟨g5, 0, none⟩) su.length caps5)) w.heap.size su cs g5 caps5 g2 := by
    obtain ⟨ts0, pb, qb, B1, lo1, B2, hi2, q1, q2, q3, q4, q5, q6, q7, q8, q9⟩ := HT.out
    have q4' := (q4.below K4.out).below b5
    have hsz4 : (w3.alloc (Obj.cells #[.slice a rs.length cap, .slice (some ⟨bt, ot, none⟩) to.length cap2, .slice (some ⟨g1, 0, none⟩) st.length caps, .slice (some ⟨g2, 0, none⟩) cs.length cs.length] 74)).heap.size = w3.heap.size + 1 := by simp
    rw [hsz4] at hG
    have ne : ∀ x, x ≠ w3.heap.size → (w5.setCell ⟨w3.heap.size, 2, none⟩ (.slice (some ⟨g5, 0, none⟩) su.length caps5)).heap[x]? = w5.heap[x]? := fun x hx => Below.heap_setCell _ _ _ _ hx
    refine ⟨ts, pb, qb, w3.heap.size + 1, w5.heap.size, B2, hi2, hG.heap (by simp) (fun x hx _ => ne x (by omega)), hm5, hcp5, q4'.of (by simp) (fun x o _ hx _ => ?_) (fun x o _ hx _ => ?_), .inr (by omega), by simp; omega, by omega, q8, by simp; omega⟩
    · simp only [World.cell?]
      rw [ne x (by omega)]
    · simp only [World.frozen?]
      rw [ne x (by omega)]
  have c6 := c5.setCell (p := ⟨w3.heap.size, 2, none⟩) (by simp; omega) (.slice (some ⟨g5, 0, none⟩) su.length caps5)
  have X4 := hide (HTK.out _ c6 g5 caps5 g2 cs.length hT6)
  clear X3 hG hm5 hcp5 hT6 HTK HT K4 b5
  go_wp2_with fail
  refine X4.out.mono ?_
  rintro e w7 ⟨⟨g', cap', pb', qb', rfl, hO⟩, c7⟩
  have HO := hide hO
  clear hO X4
  go_wp2
  go_ret2
  exact ⟨⟨g', cap', pb', qb', rfl, HO.out⟩, c7⟩
end Go.Proofs.YtifnolomekhmfaaGreat
namespace Go.Proofs.YtifnolomekhmfaaGreat
open Go.RowKit M
set_option linter.unusedVariables false
set_option linter.unusedSimpArgs false

set_option maxRecDepth 100000 in
set_option maxHeartbeats 4000000 in
theorem specWithout_any (a : Option Addr) (rs : List Rs) (cap B : Nat) (b : Option Addr) (p : List ByteArray) (cap' C : Nat) (w : World) (h : Rss w B a rs) (h' : Strs w C b p) (hB : B ≤ w.heap.size) (hC : C ≤ w.heap.size) (hl : rs.length ≤ 1048576) (hl' : p.length ≤ 1048576) (hs : ∀ r ∈ rs, r.pa.length ≤ 1048576 ∧ r.ps.length ≤ 1048576) :
    Calls Tryz.prog 73 #[.slice a rs.length cap, .slice b p.length cap'] w fun e w' => (∃ v ts, e = .returned v ∧ GrowR w' w.heap.size v ts w'.heap.size ∧ ts.map (·.r) = withoutL rs p) ∧ Below w.heap.size w w' := by
  have HS := hide hs
  have hpm : p.length ≤ maxLen := by unfold maxLen; omega
  clear hs
  go_enter Tryz.func73, Tryz.ntmps73
  go_wp2
  go_loopw [5, 6] (fun v i wr => ∃ (k lo : Nat) (ts : List RsT), k ≤ rs.length ∧ i = .int .i64 k ∧ GrowR wr w.heap.size v ts lo ∧ w.heap.size ≤ lo ∧ ts.map (·.r) = (rs.take k).filter (fun r => !deepB p r) ∧ Below w.heap.size w wr) (fun _ i _ => rs.length - (intOf i).toNat)
  case atStart => exact ⟨0, w.heap.size + 1, [], Nat.zero_le _, rfl, GrowR.made w w.heap.size (Nat.le_refl _), by omega, rfl, (Below.refl _ _).alloc (Nat.le_refl _) _⟩
  case round =>
    obtain ⟨k, lo, ts, hk, rfl, hG, hlo, hts, hbe⟩ := hrel
    have HG := hide hG
    have HTS := hide hts
    clear hG hts
    by_cases hlt : k < rs.length
    · obtain ⟨b1, o1, rfl, hb1, hcc⟩ := (h.below hbe hB) (by omega)
      obtain ⟨pa, pc, qa, qc, ⟨hc0, hc1, hc2, hc3, hc4⟩, hin⟩ := hcc k hlt
      clear hcc
      have hsk := HS.out _ (List.getElem_mem hlt)
      have hp2 := h'.below hbe hC
      have hkm : (rs[k]).pa.length ≤ maxLen := Nat.le_trans hin.pl hin.pm
      have HQ1 := hide (specSamePath_any pa b rs[k].pa p pc cap' B C _ hin.ph hp2 hkm hpm)
      have HQ2 := hide (fun W (x : Strs W B pa rs[k].pa) (y : Strs W C b p) => specUnder_any pa b rs[k].pa p pc cap' B C W x y hkm hpm hin.pl hin.pm)
      have HI := hide hin
      have HP := hide hp2
      have HSK := hide hsk
      have HD := hide (show deepB p rs[k] = (sameL rs[k].pa p || underB rs[k].pa p) from rfl)
      generalize sameL rs[k].pa p = z1 at *
      generalize underB rs[k].pa p = z2 at *
      clear hin hsk hp2 hkm
      have no : (z1 || z2) = true → Hid ((rs.take (k + 1)).filter (fun r => !deepB p r) = (rs.take k).filter (fun r => !deepB p r)) := fun e1 => filter_no (q := fun r => !deepB p r) hlt (by simp only [HD.out, e1, Bool.not_true])
      have yes : z1 = false → z2 = false → Hid ((rs.take (k + 1)).filter (fun r => !deepB p r) = (rs.take k).filter (fun r => !deepB p r) ++ [rs[k]]) := fun e1 e2 => filter_yes (q := fun r => !deepB p r) hlt (by simp only [HD.out, e1, e2, Bool.or_self, Bool.not_false])
      have NO := hide no
      have YES := hide yes
      have HL := hide (show ts.length ≤ rs.length by
        have e1 : ts.length = ((rs.take k).filter (fun r => !deepB p r)).length := by have := congrArg List.length HTS.out; simpa using this
        rw [e1]; exact filter_len rs k)
      have hbw : b1 < wr.heap.size := by have := hbe.size; omega
      clear no yes HD
      cases z1
      · cases z2
        · have HF := YES.out rfl rfl
          clear NO YES
          go_wp2_with fail
          refine HQ1.out.mono ?_
          rintro e w1 ⟨rfl, hb3⟩
          have hcl := ((hb3 (b1 + 1)).cell (p := ⟨b1, o1 + k * 5, none⟩) (Nat.lt_succ_self _)).trans hc0
          have X1 := hide (HQ2.out w1 (HI.out.ph.below (hb3 B) (Nat.le_refl _)) (HP.out.below (hb3 C) (Nat.le_refl _)))
          have HI1 := hide (HI.out.below (hb3 B) (Nat.le_refl _))
          have HC1 := hide (show ∀ D, Below D wr w1 from hb3)
          clear hb3 HQ1 HQ2
          go_wp2_with fail
          refine X1.out.mono ?_
          rintro e w2 ⟨rfl, hb4⟩
          have HI2 := hide (HI1.out.below (hb4 B) (Nat.le_refl _))
          have hall : ∀ D, Below D wr w2 := fun D => (HC1.out D).trans (hb4 D)
          have b4 := hall wr.heap.size
          clear hb4 hcl X1 HI1 HC1
          have hc5 : ∀ o v, wr.cell? ⟨b1, o, none⟩ = some v → w2.cell? ⟨b1, o, none⟩ = some v := fun o v hv => ((hall (b1 + 1)).cell (p := ⟨b1, o, none⟩) (Nat.lt_succ_self _)).trans hv
          have d0 := hc5 _ _ hc0
          have d1 := hc5 _ _ hc1
          have d2 := hc5 _ _ hc2
          have d3 := hc5 _ _ hc3
          have d4 := hc5 _ _ hc4
          have c1 := hbe.trans (b4.mono hbe.size)
          have HG2 := hide (HG.out.next b4)
          have hlo2 : lo ≤ w2.heap.size := Nat.le_trans HG.out.top b4.size
          have HCp := hide (specCopy_any rs[k] pa pc qa qc B w2 HI2.out (Nat.le_trans hB c1.size) HSK.out.1 HSK.out.2)
          have hlen := HL.out
          clear hc5 hall b4 HI2
          go_wp2_with fail
          refine HCp.out.mono ?_
          rintro e w3 ⟨⟨pp, cc, qq, dd, rfl, hpp, hpq, r3, q3, k1, k2, k3, k4⟩, b5⟩
          have c3 := c1.trans (b5.mono c1.size)
          have bA := (Below.refl w3.heap.size w3).alloc (Nat.le_refl _) (Obj.cells #[.slice (some ⟨pp, 0, none⟩) (rs[k]).pa.length cc, .bool (rs[k]).co, .string (rs[k]).bo, .int .i64 (rs[k]).ve, .slice (some ⟨qq, 0, none⟩) (rs[k]).ps.length dd] 62)
          have HG4 := hide ((HG2.out.next b5).next bA)
          have HR := hide (r3.below bA)
          have HQ := hide (q3.below bA)
          have HC4 := hide (c3.trans (bA.mono c3.size))
          have HKK := hide (And.intro k1 (And.intro k2 (And.intro k3 k4)))
          clear r3 q3 b5 bA c1 c3 d0 d1 d2 d3 d4 HCp k1 k2 k3 k4
          go_wp2_with (at_builtin; refine wp_append_res rfl _ _ rfl w.heap.size lo _ ts rfl HG4.out w3.heap.size ⟨rs[k], pp, cc, qq, dd⟩ rfl ?_ ?_ hlo (Nat.le_trans hlo2 hpp) hpq HR.out HQ.out HKK.out ?_)
          · exact ⟨by simp, by simp, by simp, by simp, by simp⟩
          · omega
          · intro v' w' hG' hB'
            have HG' := hide hG'
            have HC' := hide (HC4.out.trans hB')
            clear hG' hB'
            go_wp2
            go_roundw
            case rel => exact ⟨k + 1, _, _, by omega, by go_num, HG'.out, HC'.out.size, by rw [HF.out, List.map_append, HTS.out]; rfl, HC'.out⟩
            case measure => simp [intOf]; omega
        · have HF := NO.out rfl
          clear NO YES HSK
          go_wp2_with fail
          refine HQ1.out.mono ?_
          rintro e w1 ⟨rfl, hb3⟩
          have hcl := ((hb3 (b1 + 1)).cell (p := ⟨b1, o1 + k * 5, none⟩) (Nat.lt_succ_self _)).trans hc0
          have X1 := hide (HQ2.out w1 (HI.out.ph.below (hb3 B) (Nat.le_refl _)) (HP.out.below (hb3 C) (Nat.le_refl _)))
          have b3 := hb3 wr.heap.size
          clear hb3 HQ1 HQ2
          go_wp2_with fail
          refine X1.out.mono ?_
          rintro e w2 ⟨rfl, hb4⟩
          have b4 := b3.trans (hb4 _)
          have c1 := hbe.trans (b4.mono hbe.size)
          have HG2 := hide (HG.out.next b4)
          clear b3 hb4 b4 hcl X1
          go_wp2
          go_roundw
          case rel => exact ⟨k + 1, lo, ts, by omega, by go_num, HG2.out, hlo, by rw [HF.out]; exact HTS.out, c1⟩
          case measure => simp [intOf]; omega
      · have HF := NO.out rfl
        clear NO YES HSK
        go_wp2_with fail
        refine HQ1.out.mono ?_
        rintro e w1 ⟨rfl, hb3⟩
        have b4 := hb3 wr.heap.size
        have c1 := hbe.trans (b4.mono hbe.size)
        have HG2 := hide (HG.out.next b4)
        clear hb3 b4 HQ1 HQ2
        go_wp2
        go_roundw
        case rel => exact ⟨k + 1, lo, ts, by omega, by go_num, HG2.out, hlo, by rw [HF.out]; exact HTS.out, c1⟩
        case measure => simp [intOf]; omega
    · have HF := hide (filter_end (q := fun r => !deepB p r) hlt)
      have HM := hide (show ts.map (·.r) = withoutL rs p by rw [HTS.out, HF.out]; rfl)
      have HG3 := hide (HG.out.up HG.out.top (Nat.le_refl _))
      clear HTS HF
      go_wp2
      go_ret
      exact ⟨⟨_, ts, rfl, HG3.out, HM.out⟩, hbe⟩
end Go.Proofs.YtifnolomekhmfaaGreat
namespace Go.Proofs.YtifnolomekhmfaaGreat
open Go.RowKit M
set_option linter.unusedVariables false

theorem step_append_ownT {P : Program} {ops : Array Oper} {o : Oper} {a : Act} {w : World} {K : Act → World → Prop} {Q : Exit → Act → World → Prop} {E : Prop} (hgd : o.guard = none) (s x : Operand) (t : TypeId)
    (ho : o.op = .call { callee := .builtin .append, args := #[s, x], argTypes := #[t, t] })
    (base : Nat) (e : TypeId) (i : TypeInfo) (z : Value) (size bytes : Nat) (ht : P.underlying t = some (.slice e)) (hi : P.info? e = some i) (hz : i.zero = some z)
    (hsize : i.size = size) (hby : i.bytes = bytes) (hzs : z.cells.size = size) (hsz : 0 < size)
    (v : Value) (n : Nat) (xs : List Value) (hs : a.eval s = v) (hown : w.ownsRow base e size v n xs)
    (ad : Addr) (m c : Nat) (news : List Value) (hx : a.eval x = .slice (some ad) m c) (hl : news.length = m * size) (hnews : ∀ j u, news[j]? = some u → w.cell? (ad.add j) = some u) (h1 : ∀ u ∈ news, u.oneCell' = true)
    (h63 : n + m ≤ maxLen) (hbytes : (n + m) * bytes ≤ 140737488355328) (hbase : base ≤ w.heap.size)
    (h : ∀ v' w', w'.ownsRow base e size v' (n + m) (xs ++ news) → w.grownBy w' v.ownBlock → K (a.put o.dst v') w') :
    if Region.wanted o (yielded ops a.tmps) = true then Oper.wp P o a w K Q else E := by
  have hw : Region.wanted o (yielded ops a.tmps) = true := by simp [Region.wanted, hgd]
  rw [if_pos hw]
  obtain ⟨v', w', hr, h2, h3, h4, h5⟩ := run_append_own_at (P := P) w base t o.type e i z size bytes ht hi hz hsize hby hzs hsz v n xs hown ad m c news hl hnews h1 h63 hbytes hbase
  unfold Oper.wp execOp
  simp only [ho, resolve, invoke, builtin, Sem.run_bind, Sem.run_pure, Result.andThen_ok, List.map_toArray, List.map_cons, List.map_nil, hs, hx, hr]
  exact h v' w' h2 h3
theorem below_own {W W' : World} {base e size n L : Nat} {v : Value} {xs : List Value} (hown : W.ownsRow base e size v n xs) (hg : W.grownBy W' v.ownBlock) (hL : L ≤ base) (hLW : L ≤ W.heap.size) : Below L W W' :=
  ⟨hg.os, hg.tape, hg.output, hg.size, fun b hb => hg.block b (by omega) (fun e => by have := (hown.lt b e.symm).1; omega)⟩

def longB (fr to : List ByteArray) (r : Rs) : Bool := decide (4 < r.pa.length - fr.length + to.length)
theorem anyL_at {rs : List Rs} {q : Rs → Bool} (k : Nat) (hk : k < rs.length) (h : q rs[k] = true) : rs.any q = true := List.any_eq_true.2 ⟨_, List.getElem_mem hk, h⟩
theorem anyL_none {rs : List Rs} {q : Rs → Bool} (h : ∀ j (hj : j < rs.length), q rs[j] = false) : rs.any q = false := by
  rw [List.any_eq_false]
  intro r hr
  obtain ⟨j, hj, rfl⟩ := List.mem_iff_getElem.1 hr
  rw [h j hj]; simp

set_option maxHeartbeats 2000000 in
theorem specLong_any (a : Option Addr) (ls : List Rs) (cap B : Nat) (b1 b2 : Option Addr) (fr to : List ByteArray) (cap1 cap2 : Nat) (w : World) (h : Rss w B a ls) (hl : ls.length ≤ 1048576) (hp : ∀ r ∈ ls, fr.length ≤ r.pa.length ∧ r.pa.length ≤ 1048576) (hl1 : fr.length ≤ 1048576) (hl2 : to.length ≤ 1048576) :
    Calls Tryz.prog 114 #[.slice a ls.length cap, .slice b1 fr.length cap1, .slice b2 to.length cap2] w fun e w' => e = .returned (.bool (ls.any (longB fr to))) ∧ w' = w := by
  have HP := hide hp
  clear hp
  go_enter Tryz.func114, Tryz.ntmps114
  go_wp2
  go_loop [7] (fun i => ∃ k : Nat, k ≤ ls.length ∧ i = .int .i64 k ∧ ∀ j (hj : j < ls.length), j < k → longB fr to ls[j] = false) (fun i => ls.length - (intOf i).toNat)
  case atStart => exact ⟨0, Nat.zero_le _, rfl, fun j _ hj => absurd hj (Nat.not_lt_zero _)⟩
  case round =>
    obtain ⟨k, hk, rfl, ht⟩ := hrel
    have HT := hide ht
    clear ht
    by_cases hlt : k < ls.length
    · obtain ⟨b, o, rfl, hb, hc⟩ := h (by omega)
      obtain ⟨pa, pc, qa, qc, ⟨hc0, hc1, hc2, hc3, hc4⟩, hin⟩ := hc k hlt
      clear hc hin
      obtain ⟨p1, p2⟩ := HP.out _ (List.getElem_mem hlt)
      by_cases hd : 4 < ls[k].pa.length - fr.length + to.length
      · have HZ := hide (show longB fr to ls[k] = true from decide_eq_true hd)
        have e9 : decide ((4 : Int) < (ls[k].pa.length : Int) - (fr.length : Int) + (to.length : Int)) = true := by simp; omega
        generalize (ls[k]).pa.length = m at *
        go_wp2
        go_ret
        exact ⟨by rw [anyL_at k hlt HZ.out]; rfl, rfl⟩
      · have HZ := hide (show longB fr to ls[k] = false from decide_eq_false hd)
        have e9 : decide ((4 : Int) < (ls[k].pa.length : Int) - (fr.length : Int) + (to.length : Int)) = false := by simp; omega
        generalize (ls[k]).pa.length = m at *
        go_wp2
        go_round
        case rel => exact ⟨k + 1, by omega, by go_num, fun j hj hjk => by
                      by_cases e : j = k
                      · subst e; exact HZ.out
                      · exact HT.out j hj (by omega)⟩
        case measure => simp [intOf]; omega
    · have HE := hide (anyL_none (rs := ls) (q := longB fr to) (fun j hj => HT.out j hj (by omega)))
      go_wp2
      go_ret
      exact ⟨by rw [HE.out]; rfl, rfl⟩
end Go.Proofs.YtifnolomekhmfaaGreat
namespace Go.Proofs.YtifnolomekhmfaaGreat
open M

theorem deepP_nil (p : List ByteArray) : deepP p [] = true := (deepB_P [] ⟨p, false, ByteArray.empty, 0, []⟩).symm.trans (deep_iff.2 (List.nil_prefix))
theorem sameL_comm (a b : List ByteArray) : sameL a b = sameL b a := by
  unfold sameL
  by_cases h : a = b
  · subst h; rfl
  · rw [decide_eq_false h, decide_eq_false (fun e => h e.symm)]
theorem apart_no {fr to : List ByteArray} (h : fr.length = 0 ∨ to.length = 0 ∨ sameL fr to = true ∨ underB fr to = true ∨ underB to fr = true) : apartB fr to = false := by
  unfold apartB
  rcases h with h | h | h | h | h
  · obtain rfl := List.length_eq_zero_iff.1 h
    rw [deepP_nil to]; simp
  · obtain rfl := List.length_eq_zero_iff.1 h
    rw [deepP_nil fr]; simp
  · have : deepP fr to = true := by unfold deepP; rw [h]; rfl
    rw [this]; simp
  · have : deepP fr to = true := by unfold deepP; rw [h]; simp
    rw [this]; simp
  · have : deepP to fr = true := by unfold deepP; rw [h]; simp
    rw [this]; simp
theorem apart_yes {fr to : List ByteArray} (h1 : sameL fr to = false) (h2 : underB fr to = false) (h3 : underB to fr = false) : apartB fr to = true := by
  unfold apartB deepP
  rw [sameL_comm to fr, h1, h2, h3]; rfl
theorem far_code {rs : List Rs} {fr to : List ByteArray} {ov : Bool} {v : Int} {mv : Bool} {c : Int} (h : farI rs fr to ov v mv = c) (hc : ¬ c = 0) : farR rs fr to ov v mv = rs ∧ farC rs fr to ov v mv = c := by
  unfold farR farC takenC
  rw [h, if_neg hc, if_neg hc]
  exact ⟨rfl, rfl⟩
theorem farI_ask {rs : List Rs} {fr to : List ByteArray} {ov : Bool} {v : Int} {mv : Bool} {c : Int} (h : askI rs v (pathB fr && pathB to) = c) (hc : ¬ c = 0) : farI rs fr to ov v mv = c := by
  have h1 : far1 rs fr to ov v = c := by unfold far1; rw [h, if_pos hc]
  unfold farI; rw [h1, if_pos hc]
theorem ask_zero {rs : List Rs} {fr to : List ByteArray} {v : Int} (ht : treeB rs = true) (h1 : pathB fr = true) (h2 : pathB to = true) (hv : inB v 0 99999 = true) : askI rs v (pathB fr && pathB to) = 0 := by
  unfold askI; rw [ht, h1, h2, hv]; rfl
theorem farI_404 {rs : List Rs} {fr to : List ByteArray} {ov : Bool} {v : Int} {mv : Bool} (h : askI rs v (pathB fr && pathB to) = 0) (hf : thereB rs fr = false) : farI rs fr to ov v mv = 404 := by
  have h1 : far1 rs fr to ov v = 404 := by unfold far1; rw [if_neg (by simp [h]), if_pos hf]
  unfold farI; rw [h1]; rfl
theorem farI_403 {rs : List Rs} {fr to : List ByteArray} {ov : Bool} {v : Int} {mv : Bool} (h : askI rs v (pathB fr && pathB to) = 0) (hf : thereB rs fr = true) (ha : apartB fr to = false) : farI rs fr to ov v mv = 403 := by
  have h1 : far1 rs fr to ov v = 403 := by unfold far1; rw [if_neg (by simp [h]), if_neg (by simp [hf]), if_pos ha]
  unfold farI; rw [h1]; rfl
theorem farI_412 {rs : List Rs} {fr to : List ByteArray} {v : Int} {mv : Bool} (h : askI rs v (pathB fr && pathB to) = 0) (hf : thereB rs fr = true) (ha : apartB fr to = true) (ht : thereB rs to = true) : farI rs fr to false v mv = 412 := by
  have h1 : far1 rs fr to false v = 412 := by unfold far1; rw [if_neg (by simp [h]), if_neg (by simp [hf]), if_neg (by simp [ha]), if_pos (by simp [ht])]
  unfold farI; rw [h1]; rfl
theorem far1_zero {rs : List Rs} {fr to : List ByteArray} {ov : Bool} {v : Int} (h : askI rs v (pathB fr && pathB to) = 0) (hf : thereB rs fr = true) (ha : apartB fr to = true) (ht : (thereB rs to && !ov) = false) : far1 rs fr to ov v = 0 := by
  unfold far1; rw [if_neg (by simp [h]), if_neg (by simp [hf]), if_neg (by simp [ha]), if_neg (by simp [ht])]
theorem farI_409a {rs : List Rs} {fr to : List ByteArray} {ov : Bool} {v : Int} {mv : Bool} (h : far1 rs fr to ov v = 0) (hc : collB rs (aboveL to) = false) : farI rs fr to ov v mv = 409 := by
  unfold farI; rw [if_neg (by simp [h]), if_pos hc]
theorem farI_409b {rs : List Rs} {fr to : List ByteArray} {ov : Bool} {v : Int} {mv : Bool} (h : far1 rs fr to ov v = 0) (hc : collB rs (aboveL to) = true) (hl : (deepL rs fr).any (longB fr to) = true) : farI rs fr to ov v mv = 409 := by
  unfold farI; rw [if_neg (by simp [h]), if_neg (by simp [hc]), if_pos (show tooLong rs fr to = true from hl)]
theorem farI_507 {rs : List Rs} {fr to : List ByteArray} {ov : Bool} {v : Int} {mv : Bool} (h : far1 rs fr to ov v = 0) (hc : collB rs (aboveL to) = true) (hl : (deepL rs fr).any (longB fr to) = false) (h12 : 12 < (restL rs fr to mv).length + (deepL rs fr).length) : farI rs fr to ov v mv = 507 := by
  unfold farI; rw [if_neg (by simp [h]), if_neg (by simp [hc]), if_neg (show ¬ tooLong rs fr to = true by unfold tooLong; have := hl; unfold longB at this; rw [this]; simp), if_pos h12]
theorem farI_0 {rs : List Rs} {fr to : List ByteArray} {ov : Bool} {v : Int} {mv : Bool} (h : far1 rs fr to ov v = 0) (hc : collB rs (aboveL to) = true) (hl : (deepL rs fr).any (longB fr to) = false) (h12 : ¬ 12 < (restL rs fr to mv).length + (deepL rs fr).length) : farI rs fr to ov v mv = 0 := by
  unfold farI; rw [if_neg (by simp [h]), if_neg (by simp [hc]), if_neg (show ¬ tooLong rs fr to = true by unfold tooLong; have := hl; unfold longB at this; rw [this]; simp), if_neg h12]
theorem there_of {rs : List Rs} {p : List ByteArray} (h : ¬ findI rs p < 0) : thereB rs p = true := there_iff.2 (.inr (by omega))
theorem there_not {rs : List Rs} {p : List ByteArray} (h0 : ¬ p.length = 0) (h : findI rs p < 0) : thereB rs p = false := by
  unfold thereB
  rw [decide_eq_false h0, decide_eq_false (by omega)]; rfl
end Go.Proofs.YtifnolomekhmfaaGreat
