/-
  Plain facts: a request comes back of its bytes: no program in sight.
-/
import Derived.Test.YtkhnkockdfmkgabGreatDoorParseHex
import Derived.Test.YtkhnkockdfmkgabGreatDoorMathResp
import Derived.Test.YtkhnkockdfmkgabGreatDoorMathBack
namespace Go.Proofs.YtkhnkockdfmkgabGreatDoor.M

theorem low_kind : ∀ n : Fin 256, anyB ((UInt8.ofNat n.val).toNat : Int) [2, 4, 7] = true → lowB (UInt8.ofNat n.val) = UInt8.ofNat n.val := by decide +kernel
theorem low_sm {l : List UInt8} (h : allB l [2, 4, 7] = true) : lowL l = l := by
  unfold lowL
  rw [show l.map lowB = l.map id from List.map_congr_left fun c hc => ?_, List.map_id]
  have h1 : anyB (c.toNat : Int) [2, 4, 7] = true := by
    have := List.all_eq_true.1 h c hc
    simpa using this
  have h2 := low_kind ⟨c.toNat, c.toNat_lt⟩
  simp only [UInt8.ofNat_toNat] at h2
  exact h2 h1
theorem headS_line {h : Hd} (hb : hdB h = true) : headS (hdLine h) = some h := by
  obtain ⟨h1, h2, _, _, _, h6⟩ := hd_facts hb
  have hc : cut1 58 (hdLine h) = some (h.1.data.toList, 32 :: h.2.data.toList) := cut1_some.2 ⟨by simp [hdLine], h2⟩
  have hm : mkH h.1.data.toList (32 :: h.2.data.toList) = h := by
    unfold mkH
    rw [low_sm (sm_all h1).1, trimL_front 32 _ (by decide), h6]
    exact Prod.ext (bytesOf_self _) (bytesOf_self _)
  unfold headS
  rw [hc]
  simp only
  rw [hm, if_pos hb]
theorem headsS_lines : ∀ hs : List Hd, (∀ x ∈ hs, hdB x = true) → headsS (hs.map hdLine) = some hs := by
  intro hs
  induction hs with
  | nil => intro _; rfl
  | cons x hs ih =>
    intro h
    rw [List.map_cons, headsS, headS_line (h x (by simp))]
    simp only
    rw [ih (fun y hy => h y (by simp [hy]))]
    rfl
def topR (r : Rq) : List UInt8 := r.m.data.toList ++ (32 :: (r.p.data.toList ++ (32 :: proto)))
def linesR (r : Rq) (ts : List Hd) : List (List UInt8) := topR r :: (r.hs ++ ts).map hdLine
theorem frontL_flat (r : Rq) (ts : List Hd) : frontL r (hdsTxt ts) = flatE (linesR r ts) ++ [13, 10] := by
  unfold frontL linesR
  rw [flatE_cons, hdsTxt_flat, hdsTxt_flat]
  simp [flatE, crlf, topTxt, topR]
theorem req_parts {r : Rq} (h : reqB r = true) : methB r.m = true ∧ targB r.p = true ∧ (∀ x ∈ r.hs, hdFree x = true) ∧ r.hs.length ≤ 8 ∧ r.b.size ≤ 200 := by
  simp only [reqB, hdsB, Bool.and_eq_true, decide_eq_true_eq, List.all_eq_true] at h
  exact ⟨h.1, h.2.1, h.2.2.1.1, h.2.2.1.2, h.2.2.2⟩
theorem linesR_ok {r : Rq} {ts : List Hd} (h : reqB r = true) (ht : ∀ x ∈ ts, hdB x = true) : ∀ x ∈ linesR r ts, lineOk x := by
  obtain ⟨h1, h2, h3, _⟩ := req_parts h
  rw [← bytesOf_self r.m] at h1
  rw [← bytesOf_self r.p] at h2
  obtain ⟨a1, _, a3⟩ := meth_no h1
  obtain ⟨b1, _, _⟩ := targ_no h2
  intro x hx
  rcases List.mem_cons.1 hx with rfl | hx
  · refine ⟨fun e => a3 (List.append_eq_nil_iff.1 e).1, fun e => ?_⟩
    rcases List.mem_append.1 e with e | e
    · exact a1 e
    · rcases List.mem_cons.1 e with e | e
      · cases e
      · rcases List.mem_append.1 e with e | e
        · exact b1 e
        · revert e; decide
  · obtain ⟨y, hy, rfl⟩ := List.mem_map.1 hx
    rcases List.mem_append.1 hy with hy | hy
    · exact hdLine_ok (free_hd (h3 y hy)).1
    · exact hdLine_ok (ht y hy)
theorem readI_lines {r : Rq} {ts : List Hd} (h : reqB r = true) (ht : ∀ x ∈ ts, hdB x = true) : readI (flatE (linesR r ts)) = some (r.m, r.p, r.hs ++ ts) := by
  obtain ⟨h1, h2, h3, _⟩ := req_parts h
  have h1' := h1
  have h2' := h2
  rw [← bytesOf_self r.m] at h1'
  rw [← bytesOf_self r.p] at h2'
  obtain ⟨_, a2, _⟩ := meth_no h1'
  obtain ⟨_, b2, _⟩ := targ_no h2'
  have hall : ∀ x ∈ r.hs ++ ts, hdB x = true := fun x hx => by
    rcases List.mem_append.1 hx with hx | hx
    · exact (free_hd (h3 x hx)).1
    · exact ht x hx
  have hno : ∀ l ∈ (r.hs ++ ts).map hdLine, noEnd l := fun l hl => noEnd_of (linesR_ok h ht l (List.mem_cons_of_mem _ hl)).2
  unfold linesR
  rw [flatE_cons]
  have c1 : cut1 32 (topR r ++ 13 :: 10 :: flatE ((r.hs ++ ts).map hdLine)) = some (r.m.data.toList, r.p.data.toList ++ 32 :: (proto ++ 13 :: 10 :: flatE ((r.hs ++ ts).map hdLine))) := cut1_some.2 ⟨by simp [topR], a2⟩
  have c2 : cut1 32 (r.p.data.toList ++ 32 :: (proto ++ 13 :: 10 :: flatE ((r.hs ++ ts).map hdLine))) = some (r.p.data.toList, proto ++ 13 :: 10 :: flatE ((r.hs ++ ts).map hdLine)) := cut1_some.2 ⟨rfl, b2⟩
  have c3 : cut2 (proto ++ 13 :: 10 :: flatE ((r.hs ++ ts).map hdLine)) = some (proto, flatE ((r.hs ++ ts).map hdLine)) := cut2_app _ (noEnd_of (by decide))
  unfold readI
  rw [c1]
  simp only
  rw [if_pos h1', c2]
  simp only
  rw [if_pos h2', c3]
  simp only
  rw [if_pos trivial, headsI_lines _ _ hno (Nat.lt_succ_self _), headsS_lines _ hall]
  simp [bytesOf_self]
theorem front_end {r : Rq} {ts : List Hd} (h : reqB r = true) (ht : ∀ x ∈ ts, hdB x = true) (h4 : (frontL r (hdsTxt ts)).length ≤ 400) (q : List UInt8) : heL (frontL r (hdsTxt ts) ++ q) = ((frontL r (hdsTxt ts)).length : Int) := by
  obtain ⟨n, h1, h2⟩ := idx_lines q (linesR r ts) (by simp [linesR]) (linesR_ok h ht)
  have e : frontL r (hdsTxt ts) ++ q = flatE (linesR r ts) ++ (13 :: 10 :: q) := by rw [frontL_flat]; simp
  have hl : (frontL r (hdsTxt ts)).length = n + 4 := by rw [frontL_flat]; simp; omega
  rw [← e] at h1
  have h5 := idx_here (j := 400) h1 (by omega)
  unfold heL
  rw [h5, if_pos (by omega), hl]
  omega
theorem front_read {r : Rq} {ts : List Hd} (h : reqB r = true) (ht : ∀ x ∈ ts, hdB x = true) (q : List UInt8) : readI ((frontL r (hdsTxt ts) ++ q).take ((frontL r (hdsTxt ts)).length - 2)) = some (r.m, r.p, r.hs ++ ts) := by
  have : (frontL r (hdsTxt ts) ++ q).take ((frontL r (hdsTxt ts)).length - 2) = flatE (linesR r ts) := by
    rw [frontL_flat]; simp
  rw [this, readI_lines h ht]
theorem lens_free {hs : List Hd} (h : ∀ x ∈ hs, hdFree x = true) : lensOf hs = [] ∧ codsOf hs = [] ∧ othOf hs = hs := by
  refine ⟨List.filter_eq_nil_iff.2 fun x hx => ?_, List.filter_eq_nil_iff.2 fun x hx => ?_, List.filter_eq_self.2 fun x hx => ?_⟩
  · simp [(free_hd (h x hx)).2.1]
  · simp [(free_hd (h x hx)).2.2]
  · simp [(free_hd (h x hx)).2.1, (free_hd (h x hx)).2.2]
theorem lens_app (a b : List Hd) : lensOf (a ++ b) = lensOf a ++ lensOf b ∧ codsOf (a ++ b) = codsOf a ++ codsOf b ∧ othOf (a ++ b) = othOf a ++ othOf b := by simp [lensOf, codsOf, othOf]
theorem val_dec {n : Nat} (h : n ≤ 9999999) : hdB (lenH n) = true := by
  obtain ⟨_, h2, h3, _⟩ := dec_back n n (Nat.le_refl _)
  have h5 := dec_len 6 n (by omega)
  have hk : ∀ c ∈ Lib.decDigits n, 48 ≤ c.toNat ∧ c.toNat ≤ 57 := fun c hc => by
    have := List.all_eq_true.1 h2 c hc
    simp [anyB, isB] at this
    omega
  have hb : ∀ c ∈ Lib.decDigits n, bl c = false := fun c hc => by
    have := hk c hc
    simp [bl, isB]
    omega
  have hp : allB (Lib.decDigits n) [0] = true := List.all_eq_true.2 fun c hc => by
    have := hk c hc
    simp [anyB, isB]
    omega
  have ht : trimL (Lib.decDigits n) = Lib.decDigits n := trimL_done _ (by omega) (hb _ (List.getElem_mem _)) (hb _ (List.getElem_mem _))
  have hz : (bytesOf (Lib.decDigits n)).size = (Lib.decDigits n).length := by simp [bytesOf, ByteArray.size]
  have h7 : smB lenName.data.toList = true := by decide
  unfold hdB valB
  rw [Bool.and_eq_true, Bool.and_eq_true, Bool.and_eq_true, decide_eq_true_eq, decide_eq_true_eq]
  refine ⟨h7, ?_, hp, ht⟩
  show (bytesOf (Lib.decDigits n)).size ≤ 60
  omega
def chkH : Hd := (codName, ⟨#[99, 104, 117, 110, 107, 101, 100]⟩)
theorem chkH_ok : hdB chkH = true ∧ codOk chkH = true ∧ lensOf [chkH] = [] ∧ codsOf [chkH] = [chkH] ∧ othOf [chkH] = [] := by decide +kernel
theorem lenH_parts (n : Nat) : lensOf [lenH n] = [lenH n] ∧ codsOf [lenH n] = [] ∧ othOf [lenH n] = [] := by
  refine ⟨?_, ?_, ?_⟩
  · simp [lensOf, lenH]
  · have : ¬ lenName = codName := by decide
    simp [codsOf, lenH, this]
  · simp [othOf, lenH]
theorem lenH_num {n : Nat} (h : n ≤ 9999999) : numOk (lenH n) = true ∧ numOf (lenH n) = n := by
  have := parse_dec n 9999999 (by omega) (by omega)
  have e : (lenH n).2.data.toList = Lib.decDigits n := rfl
  unfold numOk numOf
  rw [e, this]
  exact ⟨rfl, by simp⟩
/-- A request comes back of what stands ahead of its body and of its body. -/
theorem round_any {r : Rq} {ts : List Hd} {rest : List UInt8} {n : Nat} (h : reqB r = true) (ht : ∀ x ∈ ts, hdB x = true) (h4 : (frontL r (hdsTxt ts)).length ≤ 400) (hf : frameC (r.hs ++ ts) = 0) (ho : othOf ts = [])
    (hb : bodyL (frontL r (hdsTxt ts) ++ rest) (frontL r (hdsTxt ts)).length (r.hs ++ ts) = (r.b.data.toList, n, 0)) : getR (frontL r (hdsTxt ts) ++ rest) = (r, n, 0) := by
  have he := front_end h ht h4 rest
  have hr := front_read h ht rest
  have e2 : (heL (frontL r (hdsTxt ts) ++ rest)).toNat = (frontL r (hdsTxt ts)).length := by rw [he]; simp
  rw [← e2] at hr hb
  have := getR_good (by rw [he]; omega) hr hf (by rw [hb])
  rw [this, hb, (lens_app _ _).2.2, ho, List.append_nil, (lens_free (req_parts h).2.2.1).2.2, bytesOf_self]
theorem bodyLine_ts (b : ByteArray) : bodyLine b = hdsTxt (if b.size = 0 then [] else [lenH b.size]) := by
  unfold bodyLine
  split
  · rfl
  · simp [hdsTxt, lenLine, hdTxt, lenTag, lenH, lenName, bytesOf]
/-- A request comes back of its bytes, whatever stands behind. -/
theorem putL_back {r : Rq} (h : putL r ≠ []) (q : List UInt8) : reqB r = true ∧ getR (putL r ++ q) = (r, (putL r).length, 0) := by
  unfold putL put0 at h ⊢
  rw [bodyLine_ts] at h ⊢
  by_cases hc : reqB r = true ∧ (frontL r (hdsTxt (if r.b.size = 0 then [] else [lenH r.b.size]))).length ≤ 400
  · rw [if_pos hc]
    refine ⟨hc.1, ?_⟩
    obtain ⟨_, _, p3, p4, p5⟩ := req_parts hc.1
    obtain ⟨f1, f2, f3⟩ := lens_free p3
    have eb : r.b.data.toList.length = r.b.size := Array.length_toList
    rw [List.append_assoc]
    by_cases hz : r.b.size = 0
    · rw [if_pos hz] at hc ⊢
      have h0 : r.b.data.toList = [] := List.length_eq_zero_iff.1 (by omega)
      refine round_any hc.1 (by simp) hc.2 ?_ rfl ?_
      · rw [List.append_nil]; unfold frameC; simp [f1, f2, f3]; omega
      · rw [List.append_nil]
        unfold bodyL chkF lenF
        rw [f1, f2, h0]
        simp
    · rw [if_neg hz] at hc ⊢
      obtain ⟨g1, g2, g3⟩ := lenH_parts r.b.size
      obtain ⟨n1, n2⟩ := lenH_num (n := r.b.size) (by omega)
      refine round_any hc.1 (by intro x hx; obtain rfl := List.mem_singleton.1 hx; exact val_dec (by omega)) hc.2 ?_ g3 ?_
      · unfold frameC
        rw [(lens_app _ _).1, (lens_app _ _).2.1, (lens_app _ _).2.2, f1, f2, f3, g1, g2, g3]
        simp [n1, n2]
        omega
      · unfold bodyL chkF lenF
        rw [(lens_app _ _).1, (lens_app _ _).2.1, f1, f2, g1, g2]
        simp only [List.nil_append, List.isEmpty_nil, Bool.not_true, n2]
        rw [if_neg (by decide), if_neg (by simp [eb]), List.drop_left' rfl, List.take_left' eb]
        simp [eb]
  · rw [if_neg hc] at h
    exact absurd rfl h
/-- A request comes back of its bytes in pieces, whatever stands behind. -/
theorem putC_back {r : Rq} {ns : List Int} (h : put0 r (hdsTxt [chkH]) (putCs ns r.b.data.toList) ≠ []) (q : List UInt8) : reqB r = true ∧ getR (put0 r (hdsTxt [chkH]) (putCs ns r.b.data.toList) ++ q) = (r, (put0 r (hdsTxt [chkH]) (putCs ns r.b.data.toList)).length, 0) := by
  unfold put0 at h ⊢
  by_cases hc : reqB r = true ∧ (frontL r (hdsTxt [chkH])).length ≤ 400
  · rw [if_pos hc]
    refine ⟨hc.1, ?_⟩
    obtain ⟨_, _, p3, p4, p5⟩ := req_parts hc.1
    obtain ⟨f1, f2, f3⟩ := lens_free p3
    have eb : r.b.data.toList.length = r.b.size := Array.length_toList
    obtain ⟨k1, k2, g1, g2, g3⟩ := chkH_ok
    rw [List.append_assoc]
    refine round_any hc.1 (by intro x hx; obtain rfl := List.mem_singleton.1 hx; exact k1) hc.2 ?_ g3 ?_
    · unfold frameC
      rw [(lens_app _ _).1, (lens_app _ _).2.1, (lens_app _ _).2.2, f1, f2, f3, g1, g2, g3]
      simp [k2]
      omega
    · have := chunks_back (frontL r (hdsTxt [chkH])) q ns r.b.data.toList (by omega)
      unfold bodyL chkF
      rw [(lens_app _ _).2.1, f2, g2]
      simp only [List.nil_append, List.isEmpty_cons, Bool.not_false, if_true]
      rw [this]
      simp
  · rw [if_neg hc] at h
    exact absurd rfl h
end Go.Proofs.YtkhnkockdfmkgabGreatDoor.M
