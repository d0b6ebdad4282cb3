/-
  What a turn of the specification hands back.
  How much what is handed back may be.
  Right things are small: no program in sight.
  What the program says and answers of what is put and made, against the specification: no program in sight.
-/
import Derived.Test.YtepdfppbnepamabGreatRowsW
import Derived.Test.YtepdfppbnepamabGreatTaken
import Derived.Test.YtepdfppbnepamabGreatRefused
namespace Go.Proofs.YtepdfppbnepamabGreat
open Go.RowKit M
/-- What such a call answers: a row of its own, and a code. -/
def TurnIs (w w' : World) (e : Ending) (rs : List Rs) (c : Int) : Prop := ∃ (v : Value) (ts : List RsT) (base : Nat), w.heap.size ≤ base ∧ e = .returned (.tuple #[v, .int .i64 c]) ∧ GrowR w' base v ts w'.heap.size ∧ ts.map (·.r) = rs
def codeM (c ok : Int) : Int := if c = 0 then ok else c

/-- what a put answers when it puts -/
def okF (F : Int) : Int := if F < 0 then 201 else 204
theorem okF_new {F : Int} (h : F < 0) : okF F = 201 := by unfold okF; rw [if_pos h]
theorem okF_old {F : Int} (h : ¬ F < 0) : okF F = 204 := by unfold okF; rw [if_neg h]
end Go.Proofs.YtepdfppbnepamabGreat
namespace Go.Proofs.YtepdfppbnepamabGreat
open M

theorem filter_sumR (q : Rs → Bool) (rs : List Rs) : (rs.filter q).length + sumR (rs.filter q) ≤ rs.length + sumR rs := by
  induction rs with
  | nil => simp [sumR]
  | cons r l ih =>
    have h1 : sumR (r :: l) = szR r + sumR l := by simp [sumR]
    rw [h1, List.length_cons, List.filter_cons]
    cases e : q r
    · simp only [Bool.false_eq_true, if_false]
      omega
    · simp only [if_true]
      have h3 : sumR (r :: l.filter q) = szR r + sumR (l.filter q) := by simp [sumR]
      rw [List.length_cons, h3]
      omega
theorem without_sum (rs : List Rs) (p : List ByteArray) : (withoutL rs p).length + sumR (withoutL rs p) ≤ rs.length + sumR rs := filter_sumR _ rs

theorem short_of_sumK {rs : List Rs} (h : rs.length + sumR rs ≤ 1048576) : ∀ r ∈ rs, r.pa.length ≤ 1048576 ∧ r.ps.length ≤ 1048576 ∧ (∀ s ∈ r.pa, s.size ≤ 281474976710656) ∧ r.bo.size ≤ 281474976710656 ∧ ∀ p ∈ r.ps, p.1.size ≤ 281474976710656 ∧ p.2.1.size ≤ 281474976710656 ∧ p.2.2.size ≤ 281474976710656 := fun r hr => by
  have h1 := sumR_mem rs r hr
  have h2 : szR r = r.pa.length + sumL r.pa + r.bo.size + (r.ps.length + sumP r.ps) := rfl
  refine ⟨by omega, by omega, fun s hs => ?_, by omega, fun p hp => ?_⟩
  · have h3 : s.size ≤ sumL r.pa := sumS_mem r.pa s hs
    omega
  · have h3 := sumP_mem r.ps p hp
    have h4 : szP p = p.1.size + p.2.1.size + p.2.2.size := rfl
    omega
end Go.Proofs.YtepdfppbnepamabGreat
namespace Go.Proofs.YtepdfppbnepamabGreat
open M

theorem prop_small {p : Pp} (h : propB p = true) : szP p ≤ 60 := by
  unfold propB at h
  simp only [Bool.and_eq_true, decide_eq_true_eq] at h
  obtain ⟨h1, _, h2, h3, _⟩ := h
  have h4 : p.2.1.size ≤ 20 := by
    have e : p.2.1.data.toList.length = p.2.1.size := Array.length_toList
    cases hd : p.2.1.data.toList with
    | nil => rw [hd] at e; simp at e; omega
    | cons c r =>
      rw [hd] at h2 e
      unfold smB at h2
      simp only [Bool.and_eq_true, decide_eq_true_eq] at h2
      omega
  unfold szP
  omega
theorem sumL_small : ∀ l : List ByteArray, (∀ s ∈ l, nameB s = true) → sumL l ≤ 8 * l.length
  | [], _ => by simp [sumL]
  | s :: l, hl => by
    have h1 := sumL_small l (fun x hx => hl x (List.mem_cons_of_mem _ hx))
    have h3 := hl s (List.mem_cons_self ..)
    unfold nameB inB at h3
    simp only [Bool.and_eq_true, decide_eq_true_eq] at h3
    have h4 : sumL (s :: l) = s.size + sumL l := by simp [sumL]
    rw [h4, List.length_cons]
    omega
theorem sumP_small : ∀ l : List Pp, (∀ s ∈ l, propB s = true) → sumP l ≤ 60 * l.length
  | [], _ => by simp [sumP]
  | s :: l, hl => by
    have h1 := sumP_small l (fun x hx => hl x (List.mem_cons_of_mem _ hx))
    have h4 : sumP (s :: l) = szP s + sumP l := by simp [sumP]
    have h5 : szP s ≤ 60 := prop_small (hl s (List.mem_cons_self ..))
    rw [h4, List.length_cons]
    omega
theorem res_small {r : Rs} (h : resB r = true) : szR r ≤ 1000 := by
  unfold resB at h
  simp only [Bool.and_eq_true, decide_eq_true_eq] at h
  obtain ⟨_, hp, hb, _, _, hq⟩ := h
  have h2 : szR r = r.pa.length + sumL r.pa + r.bo.size + (r.ps.length + sumP r.ps) := rfl
  unfold pathB at hp
  rw [Bool.and_eq_true, decide_eq_true_eq, List.all_eq_true] at hp
  have h3 := sumL_small _ hp.1
  unfold propsB at hq
  simp only [Bool.and_eq_true, decide_eq_true_eq, List.all_eq_true] at hq
  have h4 := sumP_small _ hq.2.1
  have := hp.2
  have := hq.1
  omega
theorem sumR_small : ∀ l : List Rs, (∀ r ∈ l, resB r = true) → sumR l ≤ 1000 * l.length
  | [], _ => by simp [sumR]
  | r :: l, hl => by
    have h1 := sumR_small l (fun x hx => hl x (List.mem_cons_of_mem _ hx))
    have h4 : sumR (r :: l) = szR r + sumR l := by simp [sumR]
    have h5 := res_small (hl r (List.mem_cons_self ..))
    rw [h4, List.length_cons]
    omega
theorem tree_small {rs : List Rs} (h : treeB rs = true) : rs.length + sumR rs ≤ 20000 := by
  unfold treeB at h
  simp only [Bool.and_eq_true, decide_eq_true_eq, List.all_eq_true] at h
  have := sumR_small rs h.2.1
  have := h.1
  omega
end Go.Proofs.YtepdfppbnepamabGreat
namespace Go.Proofs.YtepdfppbnepamabGreat
open M

theorem notAt_new {rs : List Rs} {r : Rs} (h : findI rs r.pa < 0) : notAt r rs = rs := by
  unfold notAt
  rw [List.filter_eq_self]
  intro x hx
  unfold sameL
  rw [Bool.not_eq_true', decide_eq_false_iff_not]
  exact not_there h x hx
theorem not_coll {rs : List Rs} {p : List ByteArray} (h : findI rs p < 0) (hp : ¬ p.length = 0) : collB rs p = false := by
  rcases findI_cases rs p with e | ⟨k, hk, e, _⟩
  · exact collB_none e hp
  · omega
theorem there_false {rs : List Rs} {p : List ByteArray} (h : thereB rs p = false) : ¬ p.length = 0 ∧ findI rs p < 0 := by
  unfold thereB at h
  simp at h
  constructor
  · intro e
    exact h.1 (List.length_eq_zero_iff.1 e)
  · omega

theorem make_says {rs : List Rs} {p : List ByteArray} {v : Int} (hm : mayI rs p v = 0) : ref0 rs p (withoutL rs p) [shelfR p v] = collI rs p v := by
  obtain ⟨ht, hp, hv⟩ := mayI_ok hm
  have hC : collI rs p v = if p.length = 0 ∨ 0 ≤ findI rs p then 405 else if collB rs (aboveL p) = false then 409 else if 12 ≤ rs.length then 507 else 0 := by unfold collI; rw [if_neg (by simp [hm])]
  rw [hC]
  unfold ref0
  cases hth : thereB rs p
  · obtain ⟨h0, hf⟩ := there_false hth
    have hc := not_coll hf h0
    rw [if_neg (by simp), if_neg (by omega)]
    unfold ref1 ref2 ref3 ref4
    rw [if_neg (by simp [hc])]
    have e1 : [shelfR p v].any badP = false := by simp [badP, shelfR, hp]
    have e2 : [shelfR p v].any longP = false := by simp [longP, shelfR]
    have e3 : withoutL rs p = rs := (without_notAt ht (r := shelfR p v) hc).trans (notAt_new hf)
    rw [e1, e2, e3]
    cases collB rs (aboveL p)
    · simp
    · simp only [Bool.false_eq_true, if_false, Bool.true_eq_false, List.length_cons, List.length_nil]
      by_cases h : 12 ≤ rs.length
      · rw [if_pos (by omega), if_pos h]
      · rw [if_neg (by omega), if_neg h]
  · rw [if_pos rfl, if_pos (there_iff.1 hth)]
theorem make_answers {rs : List Rs} {p : List ByteArray} {v : Int} (hm : mayI rs p v = 0) : takenL (collI rs p v) rs p (withoutL rs p) [shelfR p v] = makeR rs p v ∧ takenC (collI rs p v) (thereB rs p) = codeM (collI rs p v) 201 := by
  obtain ⟨ht, hp, hv⟩ := mayI_ok hm
  unfold takenL takenC makeR codeM
  by_cases hc : collI rs p v = 0
  · rw [if_pos hc, if_pos hc, if_pos hc, if_pos hc]
    have hth : thereB rs p = false := by
      cases e : thereB rs p
      · rfl
      · unfold collI at hc
        rw [if_neg (by simp [hm]), if_pos (there_iff.1 e)] at hc
        cases hc
    obtain ⟨h0, hf⟩ := there_false hth
    rw [hth]
    exact ⟨whole_one ht (r := shelfR p v) (not_coll hf h0), by simp⟩
  · rw [if_neg hc, if_neg hc, if_neg hc, if_neg hc]
    exact ⟨rfl, rfl⟩
theorem make_refused {rs : List Rs} {p : List ByteArray} {v : Int} (hm : ¬ mayI rs p v = 0) : makeR rs p v = rs ∧ codeM (collI rs p v) 201 = mayI rs p v := by
  have e : collI rs p v = mayI rs p v := by unfold collI; rw [if_pos hm]
  unfold makeR codeM
  rw [e, if_neg hm, if_neg hm]
  exact ⟨rfl, rfl⟩

theorem file_says {rs : List Rs} {p : List ByteArray} {bo : ByteArray} {v : Int} (hm : mayI rs p v = 0) : ref1 rs p (withoutL rs p) [fileR rs p bo v] = fileI rs p bo v := by
  obtain ⟨ht, hp, hv⟩ := mayI_ok hm
  have hC : fileI rs p bo v = if collB rs p = true then 405 else if collB rs (aboveL p) = false then 409 else if 200 < bo.size then 413 else if findI rs p < 0 ∧ 12 ≤ rs.length then 507 else 0 := by unfold fileI; rw [if_neg (by simp [hm])]
  rw [hC]
  unfold ref1
  cases hc : collB rs p
  · rw [if_neg (by simp), if_neg (by simp)]
    unfold ref2 ref3 ref4
    have e1 : [fileR rs p bo v].any badP = false := by simp [badP, fileR, hp]
    have e3 : withoutL rs p = notAt (fileR rs p bo v) rs := without_notAt ht (r := fileR rs p bo v) hc
    have e2 : [fileR rs p bo v].any longP = decide (200 < bo.size) := by simp [longP, fileR]
    rw [e1, e2, e3]
    cases collB rs (aboveL p)
    · simp
    · simp only [Bool.false_eq_true, if_false, Bool.true_eq_false, List.length_cons, List.length_nil, decide_eq_true_eq]
      by_cases hb : 200 < bo.size
      · rw [if_pos hb, if_pos hb]
      · rw [if_neg hb, if_neg hb]
        by_cases hf : findI rs p < 0
        · have e4 : notAt (fileR rs p bo v) rs = rs := notAt_new hf
          rw [e4]
          by_cases h : 12 ≤ rs.length
          · rw [if_pos (by omega), if_pos ⟨hf, h⟩]
          · rw [if_neg (by omega), if_neg (fun h' => h h'.2)]
        · have h12 : rs.length ≤ 12 := by
            unfold treeB at ht
            simp only [Bool.and_eq_true, decide_eq_true_eq] at ht
            exact ht.1
          rcases findI_cases rs p with e | ⟨k, hk, e, hs⟩
          · omega
          · have := notAt_less (r := fileR rs p bo v) (l := rs) ⟨rs[k], List.getElem_mem hk, by unfold sameL at hs; exact of_decide_eq_true hs⟩
            rw [if_neg (by omega), if_neg (fun h' => hf h'.1)]
  · rw [if_pos rfl, if_pos rfl]
theorem file_answers {rs : List Rs} {p : List ByteArray} {bo : ByteArray} {v : Int} (hm : mayI rs p v = 0) : takenL (fileI rs p bo v) rs p (withoutL rs p) [fileR rs p bo v] = putFR rs p bo v ∧ takenC (fileI rs p bo v) (thereB rs p) = codeM (fileI rs p bo v) (okF (findI rs p)) := by
  obtain ⟨ht, hp, hv⟩ := mayI_ok hm
  unfold takenL takenC putFR codeM
  by_cases hc : fileI rs p bo v = 0
  · rw [if_pos hc, if_pos hc, if_pos hc, if_pos hc]
    have hcl : collB rs p = false := by
      cases e : collB rs p
      · rfl
      · unfold fileI at hc
        rw [if_neg (by simp [hm]), if_pos e] at hc
        cases hc
    have h0 : ¬ p.length = 0 := fun e => by rw [collB_root e] at hcl; cases hcl
    refine ⟨whole_one ht (r := fileR rs p bo v) hcl, ?_⟩
    unfold okF thereB
    by_cases hf : findI rs p < 0
    · have : decide (0 ≤ findI rs p) = false := by simp; omega
      rw [this, if_pos hf, decide_eq_false h0]
      rfl
    · have : decide (0 ≤ findI rs p) = true := by simp; omega
      rw [this, if_neg hf, Bool.or_true]
      rfl
  · rw [if_neg hc, if_neg hc, if_neg hc, if_neg hc]
    exact ⟨rfl, rfl⟩
theorem file_refused {rs : List Rs} {p : List ByteArray} {bo : ByteArray} {v : Int} (hm : ¬ mayI rs p v = 0) : putFR rs p bo v = rs ∧ codeM (fileI rs p bo v) (okF (findI rs p)) = mayI rs p v := by
  have e : fileI rs p bo v = mayI rs p v := by unfold fileI; rw [if_pos hm]
  unfold putFR codeM
  rw [e, if_neg hm, if_neg hm]
  exact ⟨rfl, rfl⟩

theorem made_small {rs : List Rs} {p : List ByteArray} {v : Int} (h : rs.length + sumR rs ≤ 1048576) : (makeR rs p v).length + sumR (makeR rs p v) ≤ 1048576 := by
  cases ht : treeB rs
  · rw [(make_refused (rs := rs) (p := p) (v := v) (by rw [mayI_500 ht]; decide)).1]; exact h
  · have := tree_small (make_tree (p := p) (v := v) ht); omega
theorem put_small {rs : List Rs} {p : List ByteArray} {bo : ByteArray} {v : Int} (h : rs.length + sumR rs ≤ 1048576) : (putFR rs p bo v).length + sumR (putFR rs p bo v) ≤ 1048576 := by
  cases ht : treeB rs
  · rw [(file_refused (rs := rs) (p := p) (bo := bo) (v := v) (by rw [mayI_500 ht]; decide)).1]; exact h
  · have := tree_small (put_tree (p := p) (bo := bo) (v := v) ht); omega
end Go.Proofs.YtepdfppbnepamabGreat
