/-
  Plain facts on the bytes of an answer: no program in sight.
-/
import Derived.Test.YtkhnkockdfmkgabGreatDoorMathFront
import Derived.Test.YtkhnkockdfmkgabGreatDoorMathLines
namespace Go.Proofs.YtkhnkockdfmkgabGreatDoor.M

/-- An answer: its code, its heads, its body. -/
structure Rs where
  c : Int
  hs : List Hd
  b : ByteArray
def codeB (c : Int) : Bool := inB c 100 599
def respB (r : Rs) : Bool := codeB r.c && (hdsB r.hs && decide (r.b.size ≤ 400))
def zeroA : Rs := ⟨0, [], ⟨#[]⟩⟩
def topA (c : Int) : List UInt8 := proto ++ (32 :: Lib.decDigits c.toNat)
def lenH (n : Nat) : Hd := (lenName, bytesOf (Lib.decDigits n))
def frontA (r : Rs) : List UInt8 := linesTxt (topA r.c) r.hs [lenH r.b.size]
/-- The bytes of an answer. -/
def putA (r : Rs) : List UInt8 := if respB r = true then frontA r ++ r.b.data.toList else []
def sameA (a b : Rs) : Bool := decide (a.c = b.c) && (sameH a.hs b.hs && decide (a.b = b.b))

theorem dec3 {c : Int} (h : codeB c = true) : c = (c.toNat : Int) ∧ 100 ≤ c.toNat ∧ c.toNat ≤ 599 := by
  simp [codeB, inB] at h
  omega
theorem dec_no13 (n : Nat) : 13 ∉ Lib.decDigits n ∧ 58 ∉ Lib.decDigits n ∧ 32 ∉ Lib.decDigits n ∧ Lib.decDigits n ≠ [] := by
  obtain ⟨_, h2, h3, _⟩ := dec_back n n (Nat.le_refl _)
  refine ⟨allB_no 13 h2 (by decide), allB_no 58 h2 (by decide), allB_no 32 h2 (by decide), fun e => ?_⟩
  rw [e] at h3; simp at h3
theorem dec_three {n : Nat} (h1 : 100 ≤ n) (h2 : n ≤ 599) : (Lib.decDigits n).length = 3 := by
  rw [dec_great n (by omega), dec_great (n / 10) (by omega), dec_small (n / 10 / 10) (by omega)]
  simp
theorem lenH_ok (n : Nat) : lineOk (hdLine (lenH n)) := by
  refine ⟨?_, ?_⟩
  · unfold hdLine lenH lenName; simp
  · have := (dec_no13 n).1
    unfold hdLine lenH lenName bytesOf
    simpa using this
theorem free_hd {h : Hd} (hb : hdFree h = true) : hdB h = true ∧ ¬ h.1 = lenName ∧ ¬ h.1 = codName := by
  simpa [hdFree] using hb
theorem resp_hds {r : Rs} (h : respB r = true) : codeB r.c = true ∧ (∀ x ∈ r.hs, hdFree x = true) ∧ r.hs.length ≤ 8 ∧ r.b.size ≤ 400 := by
  simp only [respB, hdsB, Bool.and_eq_true, decide_eq_true_eq, List.all_eq_true] at h
  exact ⟨h.1, h.2.1.1, h.2.1.2, h.2.2⟩
/-- The lines of an answer. -/
def linesA (r : Rs) : List (List UInt8) := topA r.c :: (r.hs.map hdLine ++ [hdLine (lenH r.b.size)])
theorem front_flat (r : Rs) : frontA r = flatE (linesA r) ++ [13, 10] := by
  unfold frontA linesTxt linesA
  rw [flatE_cons, hdsTxt_flat, hdsTxt_flat]
  simp [flatE, crlf]
theorem topA_ok (c : Int) : lineOk (topA c) := by
  refine ⟨by simp [topA, proto], ?_⟩
  have := (dec_no13 c.toNat).1
  simpa [topA, proto] using this
theorem linesA_ok {r : Rs} (h : respB r = true) : ∀ x ∈ linesA r, lineOk x := by
  obtain ⟨_, h2, _⟩ := resp_hds h
  intro x hx
  rcases List.mem_cons.1 hx with rfl | hx
  · exact topA_ok _
  · rcases List.mem_append.1 hx with hx | hx
    · obtain ⟨y, hy, rfl⟩ := List.mem_map.1 hx
      exact hdLine_ok (free_hd (h2 y hy)).1
    · obtain rfl := List.mem_singleton.1 hx
      exact lenH_ok _
theorem putA_of {r : Rs} (h : respB r = true) : putA r = frontA r ++ r.b.data.toList := if_pos h
theorem putA_no {r : Rs} (h : respB r = false) : putA r = [] := if_neg (by rw [h]; decide)
theorem putA_ne {r : Rs} (h : respB r = true) : putA r ≠ [] := by
  rw [putA_of h]
  intro e
  have := (List.append_eq_nil_iff.1 e).1
  simp [frontA, linesTxt, topA, proto] at this
/-- An answer stands ahead of these bytes. -/
def RespAt (r : Rs) (l : List UInt8) : Prop := respB r = true ∧ ∃ q, l = putA r ++ q
theorem RespAt.flat {r : Rs} {l : List UInt8} (h : RespAt r l) : ∃ q, l = flatE (linesA r) ++ (13 :: 10 :: (r.b.data.toList ++ q)) := by
  obtain ⟨h1, q, rfl⟩ := h
  exact ⟨q, by rw [putA_of h1, front_flat]; simp⟩
/-- Where the first two line's ends are. -/
theorem RespAt.idx {r : Rs} {l : List UInt8} (h : RespAt r l) : Lib.index l two4 + 4 = ((frontA r).length : Int) := by
  obtain ⟨q, e⟩ := h.flat
  obtain ⟨n, h1, h2⟩ := idx_lines (r.b.data.toList ++ q) (linesA r) (by simp [linesA]) (linesA_ok h.1)
  rw [e, h1, front_flat]
  simp
  omega
theorem flatE_end {L : List (List UInt8)} (h : L ≠ []) : ∃ t, flatE L = t ++ [13, 10] := by
  obtain ⟨M, y, rfl⟩ : ∃ M y, L = M ++ [y] := ⟨L.dropLast, L.getLast h, (List.dropLast_concat_getLast h).symm⟩
  exact ⟨flatE M ++ y, by simp [flatE]⟩
theorem RespAt.lines {r : Rs} {l : List UInt8} (h : RespAt r l) : linesL (l.take ((frontA r).length - 4)) = linesA r := by
  obtain ⟨q, e⟩ := h.flat
  have hne : linesA r ≠ [] := by simp [linesA]
  obtain ⟨t, ht⟩ := flatE_end hne
  have : l.take ((frontA r).length - 4) = t := by
    rw [front_flat, e, ht]
    simp
  rw [this]
  exact lines_flat _ t hne (fun x hx => (linesA_ok h.1 x hx).2) ht.symm
theorem RespAt.body {r : Rs} {l : List UInt8} (h : RespAt r l) : (frontA r).length + r.b.size ≤ l.length ∧ (l.drop (frontA r).length).take r.b.size = r.b.data.toList ∧ l.take ((frontA r).length + r.b.size) = putA r := by
  obtain ⟨h1, q, rfl⟩ := h
  have e : r.b.data.toList.length = r.b.size := Array.length_toList
  rw [putA_of h1]
  refine ⟨by simp [e], ?_, ?_⟩
  · rw [List.append_assoc, List.drop_left' rfl, List.take_left' e]
  · rw [List.take_left' (by simp [e])]
theorem topA_len {c : Int} (h : codeB c = true) : (topA c).length = 12 ∧ (topA c).take 9 = proto ++ [32] ∧ (topA c).drop 9 = Lib.decDigits c.toNat := by
  obtain ⟨_, h1, h2⟩ := dec3 h
  have := dec_three h1 h2
  refine ⟨by simp [topA, proto, this], by simp [topA, proto], by simp [topA, proto]⟩
theorem parse_code {c : Int} (h : codeB c = true) (m : Int) (hm : 599 ≤ m) : parseNum (Lib.decDigits c.toNat) m = (c, true) := by
  obtain ⟨h0, h1, h2⟩ := dec3 h
  rw [parse_dec _ _ (by omega) (by omega), ← h0]
theorem parse_len {n : Nat} (h : n ≤ 400) : parseNum (Lib.decDigits n) 400 = ((n : Int), true) := parse_dec _ _ (by omega) (by omega)
/-- A head's line, cut at its first ': '. -/
theorem cut_line {h : Hd} (hc : 58 ∉ h.1.data.toList) : cutS [58, 32] (hdLine h) = some (h.1.data.toList, h.2.data.toList) := by
  exact cutS_word (c := 58) (p := [32]) hc
theorem lenH_no {n : Nat} : 58 ∉ (lenH n).1.data.toList := by show 58 ∉ lenName.data.toList; unfold lenName; decide
theorem cut_hdLine {h k : Hd} (hc : 58 ∉ h.1.data.toList) (kc : 58 ∉ k.1.data.toList) (e : hdLine h = hdLine k) : h = k := by
  have h1 := cut_line hc
  have h2 := cut_line kc
  rw [e, h2] at h1
  have h3 := Option.some.inj h1
  have a := congrArg Prod.fst h3
  have b := congrArg Prod.snd h3
  simp only at a b
  refine Prod.ext ?_ ?_
  · rw [← bytesOf_self h.1, ← bytesOf_self k.1, a]
  · rw [← bytesOf_self h.2, ← bytesOf_self k.2, b]
theorem map_hdLine : ∀ {hs ks : List Hd}, (∀ x ∈ hs, 58 ∉ x.1.data.toList) → (∀ x ∈ ks, 58 ∉ x.1.data.toList) → hs.map hdLine = ks.map hdLine → hs = ks := by
  intro hs
  induction hs with
  | nil => intro ks _ _ e; cases ks with
    | nil => rfl
    | cons _ _ => cases e
  | cons x hs ih =>
    intro ks h1 h2 e
    cases ks with
    | nil => cases e
    | cons y ks =>
      simp only [List.map_cons, List.cons.injEq] at e
      rw [cut_hdLine (h1 x (by simp)) (h2 y (by simp)) e.1, ih (fun z hz => h1 z (by simp [hz])) (fun z hz => h2 z (by simp [hz])) e.2]
/-- There is one answer at most ahead of bytes. -/
theorem RespAt.one {r s : Rs} {l : List UInt8} (h : RespAt r l) (k : RespAt s l) : r = s := by
  have h1 := h.idx
  have k1 := k.idx
  have hlen : (frontA r).length = (frontA s).length := by omega
  have h2 := h.lines
  have k2 := k.lines
  rw [hlen, k2] at h2
  unfold linesA at h2
  obtain ⟨c1, g1, _, z1⟩ := resp_hds h.1
  obtain ⟨c2, g2, _, z2⟩ := resp_hds k.1
  simp only [List.cons.injEq] at h2
  obtain ⟨e1, e2⟩ := h2
  have e3 : (s.hs ++ [lenH s.b.size]).map hdLine = (r.hs ++ [lenH r.b.size]).map hdLine := by simpa using e2
  have n1 : ∀ x ∈ s.hs ++ [lenH s.b.size], 58 ∉ x.1.data.toList := fun x hx => by
    rcases List.mem_append.1 hx with hx | hx
    · exact (hd_facts (free_hd (g2 x hx)).1).2.1
    · obtain rfl := List.mem_singleton.1 hx; exact lenH_no
  have n2 : ∀ x ∈ r.hs ++ [lenH r.b.size], 58 ∉ x.1.data.toList := fun x hx => by
    rcases List.mem_append.1 hx with hx | hx
    · exact (hd_facts (free_hd (g1 x hx)).1).2.1
    · obtain rfl := List.mem_singleton.1 hx; exact lenH_no
  have e4 := map_hdLine n1 n2 e3
  have e5 := List.append_inj' e4 rfl
  have e6 : lenH s.b.size = lenH r.b.size := by simpa using e5.2
  have e7 : Lib.decDigits s.b.size = Lib.decDigits r.b.size := by
    have := congrArg (fun x : Hd => x.2.data.toList) e6
    simpa [lenH, bytesOf] using this
  have e8 : r.b.size = s.b.size := by
    have p1 := parse_len z1
    have p2 := parse_len z2
    rw [e7, p1] at p2
    have := congrArg Prod.fst p2
    simp only at this
    omega
  have e9 : r.c = s.c := by
    have p1 := parse_code c1 599 (by omega)
    have p2 := parse_code c2 599 (by omega)
    have t1 := (topA_len c1).2.2
    have t2 := (topA_len c2).2.2
    rw [← e1, t2] at t1
    rw [← t1, p2] at p1
    exact (congrArg Prod.fst p1).symm
  have e10 : r.b = s.b := by
    have b1 := h.body.2.1
    have b2 := k.body.2.1
    rw [hlen, e8, b2] at b1
    rw [← bytesOf_self r.b, ← bytesOf_self s.b, b1]
  cases r
  cases s
  simp only at e9 e10 e5
  rw [e9, e10, e5.1]
open Classical in
/-- What GetResp answers. -/
noncomputable def getA (l : List UInt8) : Rs × Nat × Bool := if h : ∃ r, RespAt r l then (h.choose, (putA h.choose).length, true) else (zeroA, 0, false)
theorem getA_yes {r : Rs} {l : List UInt8} (h : RespAt r l) : getA l = (r, (putA r).length, true) := by
  have hx : ∃ r, RespAt r l := ⟨r, h⟩
  unfold getA
  rw [dif_pos hx, hx.choose_spec.one h]
theorem getA_no {l : List UInt8} (h : ∀ r, ¬ RespAt r l) : getA l = (zeroA, 0, false) := by
  unfold getA
  rw [dif_neg (fun ⟨r, hr⟩ => h r hr)]
theorem respAt_pre {r : Rs} {l : List UInt8} (h : respB r = true) (hp : (putA r).isPrefixOf l = true) : RespAt r l := by
  rw [List.isPrefixOf_iff_prefix] at hp
  obtain ⟨q, e⟩ := hp
  exact ⟨h, q, e.symm⟩
/-- What is left where k heads are read. -/
def leftA (r : Rs) (k : Nat) (q : List UInt8) : List UInt8 := hdsTxt (r.hs.drop k) ++ (hdTxt (lenH r.b.size) ++ (crlf ++ (r.b.data.toList ++ q)))
theorem RespAt.cut0 {r : Rs} {l : List UInt8} (h : RespAt r l) : ∃ q, cutS [32] l = some (proto, Lib.decDigits r.c.toNat ++ (crlf ++ leftA r 0 q)) ∧ cutS crlf (Lib.decDigits r.c.toNat ++ (crlf ++ leftA r 0 q)) = some (Lib.decDigits r.c.toNat, leftA r 0 q) := by
  obtain ⟨h1, q, rfl⟩ := h
  refine ⟨q, ?_, cutS_word (c := 13) (p := [10]) (dec_no13 _).1⟩
  have := cutS_word (c := 32) (p := []) (a := proto) (b := Lib.decDigits r.c.toNat ++ (crlf ++ leftA r 0 q)) (by decide)
  rw [← this, putA_of h1]
  simp [frontA, linesTxt, topA, leftA, hdsTxt]
theorem leftA_cut {r : Rs} (h : respB r = true) (k : Nat) (hk : k < r.hs.length) (q : List UInt8) : cutS [58, 32] (leftA r k q) = some ((r.hs[k]).1.data.toList, (r.hs[k]).2.data.toList ++ (crlf ++ leftA r (k + 1) q)) ∧ cutS crlf ((r.hs[k]).2.data.toList ++ (crlf ++ leftA r (k + 1) q)) = some ((r.hs[k]).2.data.toList, leftA r (k + 1) q) ∧ ¬ (r.hs[k]).1 = lenName := by
  obtain ⟨_, g, _⟩ := resp_hds h
  obtain ⟨f1, f2, _⟩ := free_hd (g _ (List.getElem_mem hk))
  obtain ⟨_, n1, _, _, n2, _⟩ := hd_facts f1
  refine ⟨?_, cutS_word (c := 13) (p := [10]) n2, f2⟩
  have := cutS_word (c := 58) (p := [32]) (a := (r.hs[k]).1.data.toList) (b := (r.hs[k]).2.data.toList ++ (crlf ++ leftA r (k + 1) q)) n1
  rw [← this]
  unfold leftA
  have e : hdsTxt (r.hs.drop k) = hdTxt r.hs[k] ++ hdsTxt (r.hs.drop (k + 1)) := by
    unfold hdsTxt
    rw [List.drop_eq_getElem_cons hk, List.flatMap_cons]
  rw [e]
  simp only [hdTxt, List.append_assoc]
theorem leftA_last (r : Rs) (q : List UInt8) : cutS [58, 32] (leftA r r.hs.length q) = some (lenName.data.toList, Lib.decDigits r.b.size ++ (crlf ++ (crlf ++ (r.b.data.toList ++ q)))) ∧ cutS crlf (Lib.decDigits r.b.size ++ (crlf ++ (crlf ++ (r.b.data.toList ++ q)))) = some (Lib.decDigits r.b.size, crlf ++ (r.b.data.toList ++ q)) := by
  refine ⟨?_, cutS_word (c := 13) (p := [10]) (dec_no13 _).1⟩
  have := cutS_word (c := 58) (p := [32]) (a := lenName.data.toList) (b := Lib.decDigits r.b.size ++ (crlf ++ (crlf ++ (r.b.data.toList ++ q)))) (by decide)
  rw [← this]
  unfold leftA
  rw [List.drop_of_length_le (Nat.le_refl _)]
  simp [hdsTxt, hdTxt, lenH, bytesOf]
end Go.Proofs.YtkhnkockdfmkgabGreatDoor.M
