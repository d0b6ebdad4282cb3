/-
  What the program says and answers of what is put and made, against the specification: no program in sight.
-/
import Derived.Test.YtclnpfpaabmkcaaGreatTaken
import Derived.Test.YtclnpfpaabmkcaaGreatRefused
import Derived.Test.YtclnpfpaabmkcaaGreatSameTexts
import Derived.Test.YtclnpfpaabmkcaaGreatSpecPathOk
namespace Go.Proofs.YtclnpfpaabmkcaaGreat
open M

theorem notAt_new {rs : List Rs} {r : Rs} (h : findI rs r.pa < 0) : notAt r rs = rs := by
  unfold notAt
  rw [List.filter_eq_self]
  intro x hx
  unfold sameL
  rw [Bool.not_eq_true', decide_eq_false_iff_not]
  exact not_there h x hx
theorem not_coll {rs : List Rs} {p : List ByteArray} (h : findI rs p < 0) (hp : ¬ p.length = 0) : collB rs p = false := by
  rcases findI_cases rs p with e | ⟨k, hk, e, _⟩
  · exact collB_none e hp
  · omega
theorem there_false {rs : List Rs} {p : List ByteArray} (h : thereB rs p = false) : ¬ p.length = 0 ∧ findI rs p < 0 := by
  unfold thereB at h
  simp at h
  constructor
  · intro e
    exact h.1 (List.length_eq_zero_iff.1 e)
  · omega

theorem make_says {rs : List Rs} {p : List ByteArray} {v : Int} (hm : mayI rs p v = 0) : ref0 rs p (withoutL rs p) [shelfR p v] = collI rs p v := by
  obtain ⟨ht, hp, hv⟩ := mayI_ok hm
  have hC : collI rs p v = if p.length = 0 ∨ 0 ≤ findI rs p then 405 else if collB rs (aboveL p) = false then 409 else if 12 ≤ rs.length then 507 else 0 := by unfold collI; rw [if_neg (by simp [hm])]
  rw [hC]
  unfold ref0
  cases hth : thereB rs p
  · obtain ⟨h0, hf⟩ := there_false hth
    have hc := not_coll hf h0
    rw [if_neg (by simp), if_neg (by omega)]
    unfold ref1 ref2 ref3 ref4
    rw [if_neg (by simp [hc])]
    have e1 : [shelfR p v].any badP = false := by simp [badP, shelfR, hp]
    have e2 : [shelfR p v].any longP = false := by simp [longP, shelfR]
    have e3 : withoutL rs p = rs := (without_notAt ht (r := shelfR p v) hc).trans (notAt_new hf)
    rw [e1, e2, e3]
    cases collB rs (aboveL p)
    · simp
    · simp only [Bool.false_eq_true, if_false, Bool.true_eq_false, List.length_cons, List.length_nil]
      by_cases h : 12 ≤ rs.length
      · rw [if_pos (by omega), if_pos h]
      · rw [if_neg (by omega), if_neg h]
  · rw [if_pos rfl, if_pos (there_iff.1 hth)]
theorem make_answers {rs : List Rs} {p : List ByteArray} {v : Int} (hm : mayI rs p v = 0) : takenL (collI rs p v) rs p (withoutL rs p) [shelfR p v] = makeR rs p v ∧ takenC (collI rs p v) (thereB rs p) = codeM (collI rs p v) 201 := by
  obtain ⟨ht, hp, hv⟩ := mayI_ok hm
  unfold takenL takenC makeR codeM
  by_cases hc : collI rs p v = 0
  · rw [if_pos hc, if_pos hc, if_pos hc, if_pos hc]
    have hth : thereB rs p = false := by
      cases e : thereB rs p
      · rfl
      · unfold collI at hc
        rw [if_neg (by simp [hm]), if_pos (there_iff.1 e)] at hc
        cases hc
    obtain ⟨h0, hf⟩ := there_false hth
    rw [hth]
    exact ⟨whole_one ht (r := shelfR p v) (not_coll hf h0), by simp⟩
  · rw [if_neg hc, if_neg hc, if_neg hc, if_neg hc]
    exact ⟨rfl, rfl⟩
theorem make_refused {rs : List Rs} {p : List ByteArray} {v : Int} (hm : ¬ mayI rs p v = 0) : makeR rs p v = rs ∧ codeM (collI rs p v) 201 = mayI rs p v := by
  have e : collI rs p v = mayI rs p v := by unfold collI; rw [if_pos hm]
  unfold makeR codeM
  rw [e, if_neg hm, if_neg hm]
  exact ⟨rfl, rfl⟩

theorem file_says {rs : List Rs} {p : List ByteArray} {bo : ByteArray} {v : Int} (hm : mayI rs p v = 0) : ref1 rs p (withoutL rs p) [fileR rs p bo v] = fileI rs p bo v := by
  obtain ⟨ht, hp, hv⟩ := mayI_ok hm
  have hC : fileI rs p bo v = if collB rs p = true then 405 else if collB rs (aboveL p) = false then 409 else if 200 < bo.size then 413 else if findI rs p < 0 ∧ 12 ≤ rs.length then 507 else 0 := by unfold fileI; rw [if_neg (by simp [hm])]
  rw [hC]
  unfold ref1
  cases hc : collB rs p
  · rw [if_neg (by simp), if_neg (by simp)]
    unfold ref2 ref3 ref4
    have e1 : [fileR rs p bo v].any badP = false := by simp [badP, fileR, hp]
    have e3 : withoutL rs p = notAt (fileR rs p bo v) rs := without_notAt ht (r := fileR rs p bo v) hc
    have e2 : [fileR rs p bo v].any longP = decide (200 < bo.size) := by simp [longP, fileR]
    rw [e1, e2, e3]
    cases collB rs (aboveL p)
    · simp
    · simp only [Bool.false_eq_true, if_false, Bool.true_eq_false, List.length_cons, List.length_nil, decide_eq_true_eq]
      by_cases hb : 200 < bo.size
      · rw [if_pos hb, if_pos hb]
      · rw [if_neg hb, if_neg hb]
        by_cases hf : findI rs p < 0
        · have e4 : notAt (fileR rs p bo v) rs = rs := notAt_new hf
          rw [e4]
          by_cases h : 12 ≤ rs.length
          · rw [if_pos (by omega), if_pos ⟨hf, h⟩]
          · rw [if_neg (by omega), if_neg (fun h' => h h'.2)]
        · have h12 : rs.length ≤ 12 := by
            unfold treeB at ht
            simp only [Bool.and_eq_true, decide_eq_true_eq] at ht
            exact ht.1
          rcases findI_cases rs p with e | ⟨k, hk, e, hs⟩
          · omega
          · have := notAt_less (r := fileR rs p bo v) (l := rs) ⟨rs[k], List.getElem_mem hk, by unfold sameL at hs; exact of_decide_eq_true hs⟩
            rw [if_neg (by omega), if_neg (fun h' => hf h'.1)]
  · rw [if_pos rfl, if_pos rfl]
theorem file_answers {rs : List Rs} {p : List ByteArray} {bo : ByteArray} {v : Int} (hm : mayI rs p v = 0) : takenL (fileI rs p bo v) rs p (withoutL rs p) [fileR rs p bo v] = putFR rs p bo v ∧ takenC (fileI rs p bo v) (thereB rs p) = codeM (fileI rs p bo v) (okF (findI rs p)) := by
  obtain ⟨ht, hp, hv⟩ := mayI_ok hm
  unfold takenL takenC putFR codeM
  by_cases hc : fileI rs p bo v = 0
  · rw [if_pos hc, if_pos hc, if_pos hc, if_pos hc]
    have hcl : collB rs p = false := by
      cases e : collB rs p
      · rfl
      · unfold fileI at hc
        rw [if_neg (by simp [hm]), if_pos e] at hc
        cases hc
    have h0 : ¬ p.length = 0 := fun e => by rw [collB_root e] at hcl; cases hcl
    refine ⟨whole_one ht (r := fileR rs p bo v) hcl, ?_⟩
    unfold okF thereB
    by_cases hf : findI rs p < 0
    · have : decide (0 ≤ findI rs p) = false := by simp; omega
      rw [this, if_pos hf, decide_eq_false h0]
      rfl
    · have : decide (0 ≤ findI rs p) = true := by simp; omega
      rw [this, if_neg hf, Bool.or_true]
      rfl
  · rw [if_neg hc, if_neg hc, if_neg hc, if_neg hc]
    exact ⟨rfl, rfl⟩
theorem file_refused {rs : List Rs} {p : List ByteArray} {bo : ByteArray} {v : Int} (hm : ¬ mayI rs p v = 0) : putFR rs p bo v = rs ∧ codeM (fileI rs p bo v) (okF (findI rs p)) = mayI rs p v := by
  have e : fileI rs p bo v = mayI rs p v := by unfold fileI; rw [if_pos hm]
  unfold putFR codeM
  rw [e, if_neg hm, if_neg hm]
  exact ⟨rfl, rfl⟩

theorem made_small {rs : List Rs} {p : List ByteArray} {v : Int} (h : rs.length + sumR rs ≤ 1048576) : (makeR rs p v).length + sumR (makeR rs p v) ≤ 1048576 := by
  cases ht : treeB rs
  · rw [(make_refused (rs := rs) (p := p) (v := v) (by rw [mayI_500 ht]; decide)).1]; exact h
  · have := tree_small (make_tree (p := p) (v := v) ht); omega
theorem put_small {rs : List Rs} {p : List ByteArray} {bo : ByteArray} {v : Int} (h : rs.length + sumR rs ≤ 1048576) : (putFR rs p bo v).length + sumR (putFR rs p bo v) ≤ 1048576 := by
  cases ht : treeB rs
  · rw [(file_refused (rs := rs) (p := p) (bo := bo) (v := v) (by rw [mayI_500 ht]; decide)).1]; exact h
  · have := tree_small (put_tree (p := p) (bo := bo) (v := v) ht); omega
end Go.Proofs.YtclnpfpaabmkcaaGreat
