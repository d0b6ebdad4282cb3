/-
  A tree comes back of its text: no program in sight.
-/
import Derived.Test.YtccehdlgpbeijaaGreatDoorMathNodeT
import Derived.Test.YtccehdlgpbeijaaGreatDoorMathBack7
import Derived.Test.YtccehdlgpbeijaaGreatDoorSpecSkip
namespace Go.Proofs.YtccehdlgpbeijaaGreatDoor
open M

/-- The pieces of a tree. -/
def pOpen (k : Int) (a b o : ByteArray) : Pce := ⟨k, b, if a = o then noB else a, !decide (a = o), noB⟩
def textP (c : ByteArray) : List Pce := if c.size = 0 then [] else [⟨4, noB, noB, false, c⟩]
def closeP (b : ByteArray) : Pce := ⟨2, b, noB, false, noB⟩
mutual
def Nd.pcs : Nd → ByteArray → List Pce
  | .mk a b c ks, o => if c.size = 0 ∧ ks.length = 0 then [pOpen 3 a b o] else pOpen 1 a b o :: (textP c ++ (pcsK ks a ++ [closeP b]))
def pcsK : List Nd → ByteArray → List Pce
  | [], _ => []
  | x :: r, o => x.pcs o ++ pcsK r o
end
theorem pOpen_spc (k : Int) (a b o : ByteArray) : spcT (pOpen k a b o) = spN a o := by
  unfold spcT spN pOpen
  by_cases h : a = o
  · simp [h]
  · simp [h]
theorem bytes0 {c : ByteArray} (h : c.size = 0) : c = noB := by
  apply ByteArray.ext; apply Array.ext'
  have h1 : c.data.toList.length = c.size := Array.length_toList
  have h2 : c.data.toList = [] := List.length_eq_zero_iff.1 (by omega)
  rw [h2]; rfl
theorem textP_flat (c : ByteArray) : (textP c).flatMap markT = escL c.data.toList := by
  unfold textP
  split
  · rename_i h
    rw [bytes0 h]; rfl
  · simp [markT]
theorem closeP_txt (b : ByteArray) : markT (closeP b) = [60, 47] ++ b.data.toList ++ [62] := by simp [markT, closeP]

mutual
theorem txt_pcs : ∀ (n : Nd) (o : ByteArray), n.txt o = (n.pcs o).flatMap markT
  | .mk a b c ks, o => by
    rw [Nd.txt, Nd.pcs]
    split
    · rw [List.flatMap_cons, List.flatMap_nil, markT]
      rw [if_neg (by simp [pOpen]), if_neg (by simp [pOpen]), if_pos (by simp [pOpen]), pOpen_spc, List.append_nil]
      rfl
    · rw [List.flatMap_cons, List.flatMap_append, List.flatMap_append, List.flatMap_cons, List.flatMap_nil, textP_flat, closeP_txt, ← txtL_pcs ks a, markT, if_pos (by simp [pOpen]), pOpen_spc]
      simp only [List.append_assoc, List.append_nil]
      rfl
theorem txtL_pcs : ∀ (ks : List Nd) (o : ByteArray), txtL ks o = (pcsK ks o).flatMap markT
  | [], o => by rw [txtL, pcsK]; rfl
  | x :: r, o => by rw [txtL, pcsK, List.flatMap_append, txt_pcs x o, txtL_pcs r o]
end

mutual
/-- Every node's own parts are right. -/
def Nd.okT : Nd → Prop
  | .mk a b c ks => ownN (.mk a b c ks) = true ∧ okTL ks
def okTL : List Nd → Prop
  | [] => True
  | x :: r => x.okT ∧ okTL r
end
mutual
theorem cS_good : ∀ (n : Nd) (d : Nat), n.cS d ≤ 20 → n.okT ∧ n.cnt ≤ n.cS d
  | .mk a b c ks, d, h => by
    rw [Nd.cS] at h
    rw [Nd.cS, Nd.cnt, Nd.okT]
    by_cases h1 : d = 0 ∨ ownN (.mk a b c ks) = false
    · rw [if_pos h1] at h; omega
    · rw [if_neg h1] at h ⊢
      obtain ⟨i1, i2⟩ := cSL_good ks (d - 1) 1 h
      refine ⟨⟨?_, i1⟩, by omega⟩
      cases ho : ownN (.mk a b c ks)
      · exact absurd (.inr ho) h1
      · rfl
theorem cSL_good : ∀ (r : List Nd) (d k : Nat), cSL r d k ≤ 20 → okTL r ∧ cntL r + k ≤ cSL r d k
  | [], d, k, h => by simp [okTL, cntL, cSL]
  | x :: r, d, k, h => by
    rw [cSL] at h
    rw [cSL, okTL, cntL]
    split at h
    · rename_i hk
      rw [if_pos hk]
      obtain ⟨i1, i2⟩ := cSL_good r d _ h
      obtain ⟨j1, j2⟩ := cS_good x d (by omega)
      exact ⟨⟨j1, i1⟩, by omega⟩
    · omega
end

mutual
theorem pcs_len : ∀ (n : Nd) (o : ByteArray), (n.pcs o).length ≤ 3 * n.cnt ∧ 1 ≤ (n.pcs o).length
  | .mk a b c ks, o => by
    rw [Nd.pcs, Nd.cnt]
    have h := pcsK_len ks a
    split
    · simp; omega
    · have ht : (textP c).length ≤ 1 := by unfold textP; split <;> simp
      simp only [List.length_cons, List.length_append, List.length_nil]
      omega
theorem pcsK_len : ∀ (ks : List Nd) (o : ByteArray), (pcsK ks o).length ≤ 3 * cntL ks
  | [], o => by simp [pcsK]
  | x :: r, o => by
    have h1 := pcs_len x o
    have h2 := pcsK_len r o
    rw [pcsK, cntL, List.length_append]
    omega
end
theorem pcs_head (n : Nd) (o : ByteArray) : ∃ p t, n.pcs o = p :: t ∧ (p.k = 1 ∨ p.k = 3) := by
  obtain ⟨a, b, c, ks⟩ := n
  rw [Nd.pcs]
  split
  · exact ⟨_, _, rfl, .inr rfl⟩
  · exact ⟨_, _, rfl, .inl rfl⟩

theorem own_parts {a b c : ByteArray} {ks : List Nd} (h : ownN (.mk a b c ks) = true) : allB a.data.toList [0] = true ∧ a.size ≤ 20 ∧ smB b.data.toList = true ∧ allB c.data.toList [0] = true ∧ c.size ≤ 60 ∧ (c.size = 0 ∨ ks.length = 0) := by
  simp only [ownN, Nd.ns, Nd.nm, Nd.tx, Nd.ks, Bool.and_eq_true, Bool.or_eq_true] at h
  obtain ⟨⟨⟨⟨⟨h1, h2⟩, h3⟩, h4⟩, h5⟩, h6⟩ := h
  exact ⟨h1, of_decide_eq_true h2, h3, h4, of_decide_eq_true h5, h6.elim (fun e => .inl (of_decide_eq_true e)) (fun e => .inr (of_decide_eq_true e))⟩
theorem GoodL_app {a b : List Pce} (ha : GoodL a) (hb : GoodL b) (hh : ∀ p r, b = p :: r → p.k ≠ 4) : GoodL (a ++ b) := by
  induction a with
  | nil => exact hb
  | cons p a ih =>
    obtain ⟨h1, h2, h3⟩ := ha
    refine ⟨h1, fun hp q qs e => ?_, ih h3⟩
    match a, h2, e with
    | [], _, e => exact hh q qs e
    | x :: y, h2, e =>
      cases e
      exact h2 hp _ _ rfl
theorem pOpen_good {k : Int} {a b o : ByteArray} (hk : k = 1 ∨ k = 3) (hb : smB b.data.toList = true) (ha : a.size ≤ 20) : GoodP (pOpen k a b o) := by
  refine .inr (.inl ⟨hk, hb, ?_, ?_, rfl⟩)
  · unfold pOpen
    by_cases h : a = o
    · simp only [h, if_true]; exact Nat.zero_le _
    · simp only [h, if_false]; exact ha
  · intro h
    have : a = o := by simpa [pOpen] using h
    simp [pOpen, this]
theorem sm_plain {l : List UInt8} (h : smB l = true) : allB l [0] = true := by
  have := smB_name h
  unfold allB
  rw [List.all_eq_true]
  intro c hc
  have h1 := this c hc
  simp only [nameP, anyB, List.any_cons, List.any_nil, Bool.or_false, isB] at h1 ⊢
  simp at h1 ⊢
  omega
theorem pOpen_plain {k : Int} {a b o : ByteArray} (hb : smB b.data.toList = true) (ha : allB a.data.toList [0] = true) : plainP (pOpen k a b o) := by
  refine ⟨sm_plain hb, ?_, rfl⟩
  unfold pOpen
  by_cases h : a = o
  · simp only [h, if_true]; rfl
  · simp only [h, if_false]; exact ha
theorem closeP_good {b : ByteArray} (hb : smB b.data.toList = true) : GoodP (closeP b) := .inl ⟨rfl, hb, rfl, rfl, rfl⟩
theorem list_ne {c : ByteArray} (h : ¬ c.size = 0) : c.data.toList ≠ [] := by
  intro e
  have : c.data.toList.length = c.size := Array.length_toList
  rw [e] at this
  exact h this.symm

mutual
theorem pcs_good : ∀ (n : Nd) (o : ByteArray), n.okT → GoodL (n.pcs o) ∧ ∀ p ∈ n.pcs o, plainP p
  | .mk a b c ks, o, h => by
    rw [Nd.okT] at h
    obtain ⟨h0, hk⟩ := h
    obtain ⟨h1, h2, h3, h4, h5, h6⟩ := own_parts h0
    obtain ⟨g1, g2⟩ := pcsK_good ks a hk
    rw [Nd.pcs]
    split
    · refine ⟨⟨pOpen_good (.inr rfl) h3 h2, fun e => by simp [pOpen] at e, trivial⟩, fun p hp => ?_⟩
      obtain rfl := List.mem_singleton.1 hp
      exact pOpen_plain h3 h1
    · rename_i hne
      have gc : GoodL [closeP b] := ⟨closeP_good h3, fun e => by simp [closeP] at e, trivial⟩
      have pc : plainP (closeP b) := ⟨sm_plain h3, rfl, rfl⟩
      have g3 : GoodL (pcsK ks a ++ [closeP b]) := GoodL_app g1 gc (fun p r e => by cases e; simp [closeP])
      have hh3 : ∀ p r, pcsK ks a ++ [closeP b] = p :: r → p.k ≠ 4 := by
        intro p r e
        cases ks with
        | nil => rw [pcsK, List.nil_append] at e; cases e; simp [closeP]
        | cons x s =>
          obtain ⟨q, t, e1, e2⟩ := pcs_head x a
          rw [pcsK, e1] at e
          cases e
          rcases e2 with e2 | e2 <;> rw [e2] <;> decide
      have g4 : GoodL (textP c ++ (pcsK ks a ++ [closeP b])) := by
        refine GoodL_app ?_ g3 hh3
        unfold textP
        split
        · trivial
        · rename_i hc
          exact ⟨.inr (.inr ⟨rfl, rfl, rfl, rfl, list_ne hc⟩), (fun _ q qs e => by cases e), trivial⟩
      refine ⟨⟨pOpen_good (.inl rfl) h3 h2, fun e => by simp [pOpen] at e, g4⟩, fun p hp => ?_⟩
      rcases List.mem_cons.1 hp with rfl | hp
      · exact pOpen_plain h3 h1
      · rcases List.mem_append.1 hp with hp | hp
        · unfold textP at hp
          split at hp
          · cases hp
          · obtain rfl := List.mem_singleton.1 hp
            exact ⟨rfl, rfl, h4⟩
        · rcases List.mem_append.1 hp with hp | hp
          · exact g2 p hp
          · obtain rfl := List.mem_singleton.1 hp
            exact pc
theorem pcsK_good : ∀ (ks : List Nd) (o : ByteArray), okTL ks → GoodL (pcsK ks o) ∧ ∀ p ∈ pcsK ks o, plainP p
  | [], o, _ => by rw [pcsK]; exact ⟨trivial, fun p hp => by cases hp⟩
  | x :: r, o, h => by
    rw [okTL] at h
    obtain ⟨g1, g2⟩ := pcs_good x o h.1
    obtain ⟨g3, g4⟩ := pcsK_good r o h.2
    rw [pcsK]
    refine ⟨GoodL_app g1 g3 (fun p t e => ?_), fun p hp => (List.mem_append.1 hp).elim (g2 p) (g4 p)⟩
    cases r with
    | nil => rw [pcsK] at e; cases e
    | cons y s =>
      obtain ⟨q, t', e1, e2⟩ := pcs_head y o
      rw [pcsK, e1] at e
      cases e
      rcases e2 with e2 | e2 <;> rw [e2] <;> decide
end

theorem sdK_kid {f d : Nat} {p : Pce} {t : List Pce} {l : List Pce} (hl : l = p :: t) (h2 : p.k ≠ 2) (h4 : p.k ≠ 4) (ns nm : ByteArray) (acc : List Nd) (x : List UInt8) (n : Nd) (r1 : List Pce) (hn : sdN f d l ns = some (n, r1)) :
    sdK (f + 1) d l ns nm acc x = sdK f d r1 ns nm (acc ++ [n]) x := by
  subst hl
  rw [sdK, if_neg h2, if_neg h4, hn]
theorem sdK_close {f d : Nat} (b ns : ByteArray) (acc : List Nd) (t : List UInt8) (r : List Pce) (h : acc = [] ∨ t = []) :
    sdK (f + 1) d (closeP b :: r) ns b acc t = some (.mk ns b (if acc = [] then ⟨t.toArray⟩ else ⟨#[]⟩) acc, r) := by
  rw [sdK, if_pos (show (closeP b).k = 2 from rfl), if_pos (show (closeP b).name = b from rfl)]
  by_cases ha : acc = []
  · simp [ha]
  · rw [if_neg ha, if_neg ha]
    rcases h with h | h
    · exact absurd h ha
    · subst h; rw [if_pos (show trimL [] = [] from rfl)]
mutual
theorem sd_back : ∀ (n : Nd) (o : ByteArray) (f d : Nat) (r : List Pce), n.okT → fitN d n → (n.pcs o).length ≤ f → sdN f d (n.pcs o ++ r) o = some (n, r)
  | .mk a b c ks, o, f, d, r, h, hd, hf => by
    rw [Nd.okT] at h
    obtain ⟨h0, hk⟩ := h
    obtain ⟨h1, h2, h3, h4, h5, h6⟩ := own_parts h0
    cases d with
    | zero => exact absurd hd (by simp [fitN])
    | succ d =>
      have hd' : ∀ k ∈ ks, fitN d k := hd
      have hpo : (if (pOpen 1 a b o).has = true then (pOpen 1 a b o).ns else o) = a := by
        unfold pOpen
        by_cases e : a = o
        · simp [e]
        · simp [e]
      have hpo3 : (if (pOpen 3 a b o).has = true then (pOpen 3 a b o).ns else o) = a := by
        unfold pOpen
        by_cases e : a = o
        · simp [e]
        · simp [e]
      rw [Nd.pcs] at hf ⊢
      split at hf
      · rename_i hc
        rw [if_pos hc]
        cases f with
        | zero => simp at hf
        | succ f =>
          rw [List.singleton_append, sdN, if_pos (show (pOpen 3 a b o).k = 3 from rfl), hpo3]
          have hks : ks = [] := List.length_eq_zero_iff.1 hc.2
          rw [hks, bytes0 hc.1]
          rfl
      · rename_i hc
        rw [if_neg hc]
        cases f with
        | zero => simp at hf
        | succ f =>
          rw [List.cons_append, sdN, if_neg (by simp [pOpen]), if_pos (show (pOpen 1 a b o).k = 1 from rfl), hpo]
          simp only [List.length_cons, List.length_append, List.length_nil] at hf
          show sdK f d ((textP c ++ (pcsK ks a ++ [closeP b])) ++ r) a b [] [] = _
          by_cases hs : c.size = 0
          · have ht : textP c = [] := by unfold textP; rw [if_pos hs]
            rw [ht, List.nil_append, List.append_assoc, List.singleton_append, sdK_back ks a f d b [] r hk hd' (by omega), bytes0 hs]
            rfl
          · have hks : ks = [] := List.length_eq_zero_iff.1 (h6.elim (fun e => absurd e hs) id)
            have ht : textP c = [⟨4, noB, noB, false, c⟩] := by unfold textP; rw [if_neg hs]
            subst hks
            rw [ht] at hf ⊢
            cases f with
            | zero => simp at hf
            | succ f =>
              rw [pcsK, List.nil_append, List.append_assoc, List.singleton_append, List.singleton_append, sdK, if_neg (show ¬ (4 : Int) = 2 by decide), if_pos (show (4 : Int) = 4 from rfl)]
              cases f with
              | zero => simp only [List.length_cons, List.length_nil] at hf; omega
              | succ f =>
                rw [sdK_close b a [] _ r (.inl rfl)]
                simp
theorem sdK_back : ∀ (ks : List Nd) (a : ByteArray) (f d : Nat) (b : ByteArray) (acc : List Nd) (r : List Pce), okTL ks → (∀ k ∈ ks, fitN d k) → (pcsK ks a).length + 1 ≤ f → sdK f d (pcsK ks a ++ closeP b :: r) a b acc [] = some (.mk a b noB (acc ++ ks), r)
  | [], a, f, d, b, acc, r, _, _, hf => by
    cases f with
    | zero => omega
    | succ f =>
      rw [pcsK, List.nil_append, sdK_close b a acc [] r (.inr rfl), List.append_nil]
      split <;> rfl
  | x :: s, a, f, d, b, acc, r, h, hd, hf => by
    rw [okTL] at h
    rw [pcsK, List.length_append] at hf
    have hx := pcs_len x a
    cases f with
    | zero => omega
    | succ f =>
      have i1 := sd_back x a f d (pcsK s a ++ closeP b :: r) h.1 (hd x (List.mem_cons_self ..)) (by omega)
      obtain ⟨p, t, e1, e2⟩ := pcs_head x a
      rw [pcsK, List.append_assoc, sdK_kid (p := p) (t := t ++ (pcsK s a ++ closeP b :: r)) (by rw [e1]; rfl) (by rcases e2 with e | e <;> rw [e] <;> decide) (by rcases e2 with e | e <;> rw [e] <;> decide) a b acc [] x _ i1]
      rw [sdK_back s a f d b (acc ++ [x]) r h.2 (fun k hk => hd k (List.mem_cons_of_mem _ hk)) (by omega)]
      simp
end

/-- A tree that is right comes back of its text. -/
theorem tree_back (n : Nd) (h : nodeB n = true) : pcsR (n.txt noB) = (n.pcs noB, true) ∧ readP (n.pcs noB) = some n := by
  have h20 : n.cS 5 ≤ 20 := by simpa [nodeB] using h
  obtain ⟨g1, g2⟩ := cS_good n 5 h20
  obtain ⟨p1, p2⟩ := pcs_good n noB g1
  have hl := pcs_len n noB
  have e1 : pcsR (n.txt noB) = (n.pcs noB, true) := by rw [txt_pcs]; exact pcsR_back p1 p2 (by omega)
  refine ⟨e1, ?_⟩
  have hn : noTwo (n.pcs noB) := by
    have := noTwo_pcsR (n.txt noB)
    rw [e1] at this
    exact this
  rw [← read_same hn (2 * (n.pcs noB).length + 1) (Nat.le_refl _)]
  have hd : (n.pcs noB).dropWhile blankP = n.pcs noB := by
    obtain ⟨p, t, e, e2⟩ := pcs_head n noB
    rw [e, List.dropWhile_cons, if_neg]
    intro hb
    simp [blankP] at hb
    rcases e2 with e2 | e2 <;> rw [e2] at hb <;> exact absurd hb.1 (by decide)
  have := sd_back n noB (2 * (n.pcs noB).length + 1) 5 [] g1 (fit_nodeB h) (by omega)
  rw [List.append_nil] at this
  rw [hd]
  show readU (sdN _ 5 (n.pcs noB) noB) = some n
  rw [this]
  simp [readU, h]
end Go.Proofs.YtccehdlgpbeijaaGreatDoor
