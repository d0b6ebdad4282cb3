/-
  What is put, and made, among right things: no program in sight.
-/
import Derived.Test.YtifnolomekhmfaaGreatMathPutR
namespace Go.Proofs.YtifnolomekhmfaaGreat
open M

/-- Why shelves cannot be turned; 0: they can. -/
def mayI (rs : List Rs) (p : List ByteArray) (v : Int) : Int := if treeB rs = false then 500 else if pathB p = false then 400 else if inB v 0 99999 = false then 507 else 0
theorem mayI_500 {rs : List Rs} {p : List ByteArray} {v : Int} (h : treeB rs = false) : mayI rs p v = 500 := by unfold mayI; rw [if_pos h]
theorem mayI_400 {rs : List Rs} {p : List ByteArray} {v : Int} (h : treeB rs = true) (h1 : pathB p = false) : mayI rs p v = 400 := by unfold mayI; rw [if_neg (by simp [h]), if_pos h1]
theorem mayI_507 {rs : List Rs} {p : List ByteArray} {v : Int} (h : treeB rs = true) (h1 : pathB p = true) (h2 : inB v 0 99999 = false) : mayI rs p v = 507 := by unfold mayI; rw [if_neg (by simp [h]), if_neg (by simp [h1]), if_pos h2]
theorem mayI_0 {rs : List Rs} {p : List ByteArray} {v : Int} (h : treeB rs = true) (h1 : pathB p = true) (h2 : inB v 0 99999 = true) : mayI rs p v = 0 := by unfold mayI; rw [if_neg (by simp [h]), if_neg (by simp [h1]), if_neg (by simp [h2])]
theorem mayI_ok {rs : List Rs} {p : List ByteArray} {v : Int} (h : mayI rs p v = 0) : treeB rs = true ∧ pathB p = true ∧ inB v 0 99999 = true := by
  cases h1 : treeB rs
  · rw [mayI_500 h1] at h; cases h
  · cases h2 : pathB p
    · rw [mayI_400 h1 h2] at h; cases h
    · cases h3 : inB v 0 99999
      · rw [mayI_507 h1 h2 h3] at h; cases h
      · exact ⟨rfl, rfl, rfl⟩


theorem notAt_len {r : Rs} {l : List Rs} : (notAt r l).length ≤ l.length := List.length_filter_le _ _
theorem notAt_less {r : Rs} {l : List Rs} (h : ∃ x ∈ l, x.pa = r.pa) : (notAt r l).length < l.length := by
  obtain ⟨x, hm, he⟩ := h
  unfold notAt
  refine List.length_filter_lt_length_iff_exists.2 ⟨x, hm, ?_⟩
  rw [he, sameL_refl]
  simp
theorem putR_len {r : Rs} : ∀ {l : List Rs}, (putR r false l).length = (notAt r l).length + 1
  | [] => rfl
  | x :: l => by
    cases h : lessL x.pa r.pa
    · rw [putR_here h, List.length_cons]
    · have hs : sameL x.pa r.pa = false := by
        unfold sameL
        rw [decide_eq_false_iff_not]
        intro e
        rw [e, lessL_irr] at h
        cases h
      rw [putR_less h, List.length_cons, putR_len (l := l)]
      unfold notAt
      rw [List.filter_cons, hs]
      simp
theorem not_there {rs : List Rs} {p : List ByteArray} (h : findI rs p < 0) : ∀ x ∈ rs, x.pa ≠ p := fun x hx e => by
  have h1 : 0 ≤ findI rs p := by
    rcases findI_cases rs p with e2 | ⟨k, hk, e2, _⟩
    · exfalso
      unfold findI at e2
      by_cases hlt : rs.findIdx (isAt p) < rs.length
      · rw [if_pos hlt] at e2; omega
      · exact hlt (List.findIdx_lt_length_of_exists ⟨_, hx, by unfold isAt; rw [e]; exact sameL_refl _⟩)
    · rw [e2]; omega
  omega

/-- What MakeColl says, and answers. -/
def collI (rs : List Rs) (p : List ByteArray) (v : Int) : Int := if mayI rs p v ≠ 0 then mayI rs p v else if p.length = 0 ∨ 0 ≤ findI rs p then 405 else if collB rs (aboveL p) = false then 409 else if 12 ≤ rs.length then 507 else 0
def shelfR (p : List ByteArray) (v : Int) : Rs := ⟨p, true, ByteArray.empty, v, []⟩
def makeR (rs : List Rs) (p : List ByteArray) (v : Int) : List Rs := if collI rs p v = 0 then putR (shelfR p v) false rs else rs
theorem make_tree {rs : List Rs} {p : List ByteArray} {v : Int} (h : treeB rs = true) : treeB (makeR rs p v) = true := by
  unfold makeR
  by_cases hc : collI rs p v = 0
  · rw [if_pos hc]
    unfold collI at hc
    by_cases h1 : mayI rs p v = 0
    · rw [if_neg (by simp [h1])] at hc
      by_cases h2 : p.length = 0 ∨ 0 ≤ findI rs p
      · rw [if_pos h2] at hc; cases hc
      · rw [if_neg h2] at hc
        cases h3 : collB rs (aboveL p)
        · rw [if_pos h3] at hc; cases hc
        · rw [if_neg (by simp [h3])] at hc
          by_cases h4 : 12 ≤ rs.length
          · rw [if_pos h4] at hc; cases hc
          · obtain ⟨_, hp, hv⟩ := mayI_ok h1
            have hne : ∀ x ∈ rs, x.pa ≠ p := not_there (by omega)
            refine tree_put h ?_ h3 (fun x hx e => absurd e (hne x hx)) ?_
            · have h0 : 0 < p.length := by omega
              unfold resB shelfR
              simp [h0, hp, hv, propsB, ascB]
            · rw [putR_len]
              have := notAt_len (r := shelfR p v) (l := rs)
              omega
    · rw [if_pos h1] at hc; exact absurd hc h1
  · rw [if_neg hc]; exact h

/-- What PutFile says, and answers. -/
def fileI (rs : List Rs) (p : List ByteArray) (bo : ByteArray) (v : Int) : Int := if mayI rs p v ≠ 0 then mayI rs p v else if collB rs p = true then 405 else if collB rs (aboveL p) = false then 409 else if 200 < bo.size then 413 else if findI rs p < 0 ∧ 12 ≤ rs.length then 507 else 0
/-- What is known of the one that was there. -/
def oldPs (rs : List Rs) (p : List ByteArray) : List Pp := match rs.find? (isAt p) with | none => [] | some r => r.ps
def fileR (rs : List Rs) (p : List ByteArray) (bo : ByteArray) (v : Int) : Rs := ⟨p, false, bo, v, oldPs rs p⟩
def putFR (rs : List Rs) (p : List ByteArray) (bo : ByteArray) (v : Int) : List Rs := if fileI rs p bo v = 0 then putR (fileR rs p bo v) false rs else rs
theorem put_tree {rs : List Rs} {p : List ByteArray} {bo : ByteArray} {v : Int} (h : treeB rs = true) : treeB (putFR rs p bo v) = true := by
  unfold putFR
  by_cases hc : fileI rs p bo v = 0
  · rw [if_pos hc]
    unfold fileI at hc
    by_cases h1 : mayI rs p v = 0
    · rw [if_neg (by simp [h1])] at hc
      cases h2 : collB rs p
      · rw [if_neg (by simp [h2])] at hc
        cases h3 : collB rs (aboveL p)
        · rw [if_pos h3] at hc; cases hc
        · rw [if_neg (by simp [h3])] at hc
          by_cases h4 : 200 < bo.size
          · rw [if_pos h4] at hc; cases hc
          · rw [if_neg h4] at hc
            by_cases h5 : findI rs p < 0 ∧ 12 ≤ rs.length
            · rw [if_pos h5] at hc; cases hc
            · obtain ⟨_, hp, hv⟩ := mayI_ok h1
              have h' := h
              unfold treeB at h'
              simp only [Bool.and_eq_true, decide_eq_true_eq, List.all_eq_true] at h'
              obtain ⟨t1, t2, t3, _⟩ := h'
              have ha := asc_of t3
              have h0 : 0 < p.length := by
                refine Nat.pos_of_ne_zero fun e => ?_
                rw [collB_root e] at h2
                cases h2
              have hno : ∀ x ∈ rs, x.pa = p → x.co = false := fun x hx e => by
                cases e2 : x.co
                · rfl
                · have : collB rs p = true := (coll_iff ha p).2 (.inr ⟨x, hx, e, e2⟩)
                  rw [h2] at this
                  cases this
              have hold : propsB (oldPs rs p) = true := by
                unfold oldPs
                cases e : rs.find? (isAt p) with
                | none => simp [propsB, ascB]
                | some x =>
                  have := t2 x (List.mem_of_find?_eq_some e)
                  unfold resB at this
                  simp only [Bool.and_eq_true] at this
                  exact this.2.2.2.2.2
              refine tree_put h ?_ h3 hno ?_
              · unfold resB fileR
                simp [h0, hp, hv, hold]
                omega
              · rw [putR_len]
                by_cases e : findI rs p < 0
                · have := notAt_len (r := fileR rs p bo v) (l := rs)
                  omega
                · rcases findI_cases rs p with e2 | ⟨k, hk, e2, hs⟩
                  · omega
                  · have := notAt_less (r := fileR rs p bo v) (l := rs) ⟨rs[k], List.getElem_mem hk, by unfold sameL at hs; exact of_decide_eq_true hs⟩
                    omega
      · rw [if_pos h2] at hc; cases hc
    · rw [if_pos h1] at hc; exact absurd hc h1
  · rw [if_neg hc]; exact h
end Go.Proofs.YtifnolomekhmfaaGreat
