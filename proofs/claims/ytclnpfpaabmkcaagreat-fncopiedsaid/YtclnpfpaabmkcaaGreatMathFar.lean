/-
  What is copied, and moved: no program in sight.
-/
import Derived.Test.YtclnpfpaabmkcaaGreatMathMake
namespace Go.Proofs.YtclnpfpaabmkcaaGreat
open M

/-- A thing as it is at another path. -/
def carryR (fr to : List ByteArray) (v : Int) (r : Rs) : Rs := ⟨to ++ r.pa.drop fr.length, r.co, r.bo, v, r.ps⟩
def carryL (rs : List Rs) (fr to : List ByteArray) (v : Int) : List Rs := (deepL rs fr).map (carryR fr to v)
/-- Whether neither is the other, nor under it. -/
def apartB (fr to : List ByteArray) : Bool := !deepP fr to && !deepP to fr
/-- What stays. -/
def restL (rs : List Rs) (fr to : List ByteArray) (mv : Bool) : List Rs := if mv = true then withoutL (withoutL rs to) fr else withoutL rs to
/-- What both say of a copy, ahead of the looks at what comes. -/
def far1 (rs : List Rs) (fr to : List ByteArray) (ov : Bool) (v : Int) : Int := if askI rs v (pathB fr && pathB to) ≠ 0 then askI rs v (pathB fr && pathB to) else if thereB rs fr = false then 404 else if apartB fr to = false then 403 else if (thereB rs to && !ov) = true then 412 else 0
/-- Whether a path would be too long. -/
def tooLong (rs : List Rs) (fr to : List ByteArray) : Bool := (deepL rs fr).any fun r => decide (4 < r.pa.length - fr.length + to.length)
def farI (rs : List Rs) (fr to : List ByteArray) (ov : Bool) (v : Int) (mv : Bool) : Int := if far1 rs fr to ov v ≠ 0 then far1 rs fr to ov v else if collB rs (aboveL to) = false then 409 else if tooLong rs fr to = true then 409 else if 12 < (restL rs fr to mv).length + (deepL rs fr).length then 507 else 0
def farR (rs : List Rs) (fr to : List ByteArray) (ov : Bool) (v : Int) (mv : Bool) : List Rs := if farI rs fr to ov v mv = 0 then wholeL (restL rs fr to mv) to (carryL rs fr to v) else rs
def farC (rs : List Rs) (fr to : List ByteArray) (ov : Bool) (v : Int) (mv : Bool) : Int := takenC (farI rs fr to ov v mv) (thereB rs to)

theorem far1_ok {rs : List Rs} {fr to : List ByteArray} {ov : Bool} {v : Int} (h : far1 rs fr to ov v = 0) : treeB rs = true ∧ pathB fr = true ∧ pathB to = true ∧ inB v 0 99999 = true ∧ thereB rs fr = true ∧ apartB fr to = true := by
  unfold far1 at h
  by_cases h1 : askI rs v (pathB fr && pathB to) = 0
  · rw [if_neg (by simp [h1])] at h
    unfold askI at h1
    cases e1 : treeB rs
    · rw [e1, if_pos rfl] at h1; cases h1
    · rw [e1, if_neg (by simp)] at h1
      cases e2 : (pathB fr && pathB to)
      · rw [e2, if_pos rfl] at h1; cases h1
      · rw [e2, if_neg (by simp)] at h1
        rw [Bool.and_eq_true] at e2
        cases e3 : inB v 0 99999
        · rw [e3, if_pos rfl] at h1; cases h1
        · cases e4 : thereB rs fr
          · rw [e4, if_pos rfl] at h; cases h
          · rw [e4, if_neg (by simp)] at h
            cases e5 : apartB fr to
            · rw [e5, if_pos rfl] at h; cases h
            · exact ⟨rfl, e2.1, e2.2, rfl, rfl, rfl⟩
  · rw [if_pos h1] at h; exact absurd h h1
theorem deepL_mem {rs : List Rs} {p : List ByteArray} {r : Rs} : r ∈ deepL rs p ↔ r ∈ rs ∧ deepB p r = true := List.mem_filter
theorem deepB_P (p : List ByteArray) (r : Rs) : deepB p r = deepP r.pa p := rfl

theorem pathB_iff {p : List ByteArray} : pathB p = true ↔ (∀ s ∈ p, nameB s = true) ∧ p.length ≤ 4 := by
  unfold pathB
  rw [Bool.and_eq_true, decide_eq_true_eq, List.all_eq_true]
theorem any_same {p q : Rs → Bool} : ∀ {l : List Rs}, (∀ r ∈ l, p r = q r) → l.any p = l.any q
  | [], _ => rfl
  | x :: l, h => by rw [List.any_cons, List.any_cons, h x (List.mem_cons_self ..), any_same (fun r hr => h r (List.mem_cons_of_mem _ hr))]
/-- Of right things a carried path is one unless it is too long. -/
theorem carry_bad {rs : List Rs} {fr to : List ByteArray} {v : Int} (ht : treeB rs = true) (hto : pathB to = true) : (carryL rs fr to v).any badP = tooLong rs fr to := by
  unfold carryL tooLong
  rw [List.any_map]
  refine any_same ?_
  intro r hr
  obtain ⟨hm, hd⟩ := deepL_mem.1 hr
  have hpl := (deep_iff.1 hd).length_le
  unfold treeB at ht
  simp only [Bool.and_eq_true, decide_eq_true_eq, List.all_eq_true] at ht
  have hr1 := pathB_iff.1 (resB_path (ht.2.1 r hm))
  have ht1 := pathB_iff.1 hto
  show (!pathB (to ++ r.pa.drop fr.length)) = _
  have hlen : (to ++ r.pa.drop fr.length).length = r.pa.length - fr.length + to.length := by simp; omega
  by_cases h4 : 4 < r.pa.length - fr.length + to.length
  · rw [decide_eq_true h4]
    have : pathB (to ++ r.pa.drop fr.length) = false := by
      cases e : pathB (to ++ r.pa.drop fr.length)
      · rfl
      · have := (pathB_iff.1 e).2
        omega
    rw [this]; rfl
  · rw [decide_eq_false h4]
    have : pathB (to ++ r.pa.drop fr.length) = true := pathB_iff.2 ⟨fun s hs => by
      rcases List.mem_append.1 hs with h | h
      · exact ht1.1 s h
      · exact hr1.1 s (List.mem_of_mem_drop h), by omega⟩
    rw [this]; rfl
theorem carry_long {rs : List Rs} {fr to : List ByteArray} {v : Int} (ht : treeB rs = true) : (carryL rs fr to v).any longP = false := by
  rw [List.any_eq_false]
  intro x hx
  unfold carryL at hx
  obtain ⟨r, hr, rfl⟩ := List.mem_map.1 hx
  have hm := (deepL_mem.1 hr).1
  unfold treeB at ht
  simp only [Bool.and_eq_true, decide_eq_true_eq, List.all_eq_true] at ht
  have := ht.2.1 r hm
  unfold resB at this
  simp only [Bool.and_eq_true, decide_eq_true_eq] at this
  show ¬ (decide (200 < r.bo.size)) = true
  have := this.2.2.1
  simp
  omega
/-- What the program's looks say. -/
theorem far_says {rs : List Rs} {fr to : List ByteArray} {ov : Bool} {v : Int} {mv : Bool} (h : far1 rs fr to ov v = 0) : ref2 rs to (restL rs fr to mv) (carryL rs fr to v) = farI rs fr to ov v mv := by
  obtain ⟨ht, _, hto, _⟩ := far1_ok h
  unfold ref2 ref3 ref4 farI
  rw [carry_bad ht hto, carry_long ht, if_neg (c := far1 rs fr to ov v ≠ 0) (by simp [h])]
  have e : (carryL rs fr to v).length = (deepL rs fr).length := by unfold carryL; simp
  rw [e]
  simp
theorem far_refused {rs : List Rs} {fr to : List ByteArray} {ov : Bool} {v : Int} {mv : Bool} (h : ¬ far1 rs fr to ov v = 0) : farR rs fr to ov v mv = rs ∧ farC rs fr to ov v mv = far1 rs fr to ov v := by
  have e : farI rs fr to ov v mv = far1 rs fr to ov v := by unfold farI; rw [if_pos h]
  unfold farR farC takenC
  rw [e, if_neg h, if_neg h]
  exact ⟨rfl, rfl⟩
theorem far_answers {rs : List Rs} {fr to : List ByteArray} {ov : Bool} {v : Int} {mv : Bool} : takenL (farI rs fr to ov v mv) rs to (restL rs fr to mv) (carryL rs fr to v) = farR rs fr to ov v mv := rfl

/-- The specification puts them one by one. -/
theorem carry_asc {rs : List Rs} {fr to : List ByteArray} {v : Int} (h : Asc rs) : Asc (carryL rs fr to v) := by
  unfold carryL Asc
  rw [List.pairwise_map]
  refine List.Pairwise.imp_of_mem (R := fun a b => lessL a.pa b.pa = true) ?_ (show List.Pairwise (fun a b : Rs => lessL a.pa b.pa = true) (deepL rs fr) from List.Pairwise.filter _ h)
  intro a b ha hb hl
  have ha' := deep_iff.1 (List.mem_filter.1 ha).2
  have hb' := deep_iff.1 (List.mem_filter.1 hb).2
  obtain ⟨x, hx⟩ := ha'
  obtain ⟨y, hy⟩ := hb'
  show lessL (to ++ a.pa.drop fr.length) (to ++ b.pa.drop fr.length) = true
  rw [← hx, ← hy] at hl ⊢
  rw [List.drop_left, List.drop_left]
  have cancel : ∀ (p : List ByteArray), lessL (p ++ x) (p ++ y) = lessL x y := by
    intro p
    induction p with
    | nil => rfl
    | cons s p ih => rw [List.cons_append, List.cons_append, lessL, if_pos rfl, ih]
  rw [cancel] at hl ⊢
  exact hl
theorem rest_asc {rs : List Rs} {fr to : List ByteArray} {mv : Bool} (h : Asc rs) : Asc (restL rs fr to mv) := by
  unfold restL
  split
  · exact without_asc (without_asc h _) _
  · exact without_asc h _
theorem rest_not {rs : List Rs} {fr to : List ByteArray} {mv : Bool} : ∀ y ∈ restL rs fr to mv, deepB to y = false := fun y hy => by
  unfold restL at hy
  split at hy
  · exact without_not to y (List.mem_filter.1 hy).1
  · exact without_not to y hy
theorem far_fold {rs : List Rs} {fr to : List ByteArray} {v : Int} {mv : Bool} (h : Asc rs) : (carryL rs fr to v).foldl (fun acc c => putR c false acc) (restL rs fr to mv) = wholeL (restL rs fr to mv) to (carryL rs fr to v) :=
  whole_fold (rest_asc h) rest_not (fun c hc => by
    unfold carryL at hc
    obtain ⟨r, _, rfl⟩ := List.mem_map.1 hc
    exact deep_iff.2 ⟨_, rfl⟩) (carry_asc h)
theorem restL_len (rs : List Rs) (fr to : List ByteArray) (mv : Bool) : (restL rs fr to mv).length ≤ rs.length := by
  unfold restL
  split
  · exact Nat.le_trans (List.length_filter_le _ _) (List.length_filter_le _ _)
  · exact List.length_filter_le _ _
end Go.Proofs.YtclnpfpaabmkcaaGreat
