/-
  A tree read of pieces: it is short; the whole reading.
  A tree read of pieces, as the specification reads it, and that both readings are one.
  Both readings of pieces are one.
  The whole reading, as the specification makes it.
  What the specification's l1Blank and Trim do.
  What the specification's reader of pieces does: texts of blanks passed over.
  What the specification's l8Skip does: texts of blanks passed over.
-/
import Derived.Test.YtccehdlgpbeijaaGreatDoorRowsP
import Derived.Test.YtccehdlgpbeijaaGreatDoorKinds
import Derived.Test.YtccehdlgpbeijaaGreatDoorNodeS
import Derived.Deep.QuietTactic
import Derived.BigQuiet
namespace Go.Proofs.YtccehdlgpbeijaaGreatDoor
open M

theorem rd_short : ∀ f, (∀ ps o n r, rdN f ps o = some (n, r) → (∀ p ∈ ps, pcSize p ≤ maxLen) → ps.length ≤ maxLen → o.size ≤ maxLen → n.short) ∧ (∀ ps o ks r, rdK f ps o = some (ks, r) → (∀ p ∈ ps, pcSize p ≤ maxLen) → ps.length ≤ maxLen → o.size ≤ maxLen → shortK ks ∧ ks.length ≤ ps.length) := by
  intro f
  induction f with
  | zero => exact ⟨fun ps o n r h => by simp [rdN] at h, fun ps o ks r h => by simp [rdK] at h⟩
  | succ f ih =>
    constructor
    · intro ps o n r h hz hl ho
      cases ps with
      | nil => simp [rdN] at h
      | cons p t =>
        have hp := hz p (by simp)
        obtain ⟨z1, z2, z3⟩ := pc_name p
        have hns : (if p.has then p.ns else o).size ≤ maxLen := by split <;> omega
        have h0 : (⟨#[]⟩ : ByteArray).size = 0 := rfl
        rw [rdN] at h
        split at h
        · cases h
          rw [Nd.short]
          exact ⟨hns, by omega, by omega, by simp, by rw [shortK]; trivial⟩
        · split at h
          · split at h
            · rename_i ks q r2 hk
              have e1 := skipP_len (aloneP t).2
              have e2 := aloneP_len t
              have hl' : t.length + 1 ≤ maxLen := hl
              obtain ⟨k1, k2⟩ := ih.2 _ _ _ _ hk (fun x hx => hz x (List.mem_cons_of_mem _ (aloneP_mem _ _ (skipP_mem _ _ hx)))) (by omega) hns
              split at h
              · cases h
                rw [Nd.short]
                refine ⟨hns, by omega, ?_, by omega, k1⟩
                match t, hz with
                | [], _ => show (⟨#[]⟩ : ByteArray).size ≤ maxLen; omega
                | [_], _ => show (⟨#[]⟩ : ByteArray).size ≤ maxLen; omega
                | a :: b :: t', hz =>
                  rw [aloneP]
                  have ha := hz a (by simp)
                  obtain ⟨_, _, a3⟩ := pc_name a
                  split
                  · show a.s.size ≤ maxLen; omega
                  · show (⟨#[]⟩ : ByteArray).size ≤ maxLen; omega
              · cases h
            · cases h
          · cases h
    · intro ps o ks r h hz hl ho
      cases ps with
      | nil => simp [rdK] at h
      | cons p t =>
        rw [rdK] at h
        split at h
        · cases h
          exact ⟨by rw [shortK]; trivial, by simp⟩
        · split at h
          · cases h
          · rename_i n r1 hn
            obtain ⟨a1, a2⟩ := (rd_left f).1 _ _ _ _ hn
            have s1 := ih.1 _ _ _ _ hn hz hl ho
            split at h
            · cases h
            · rename_i ks' r2 hk
              cases h
              have e1 := skipP_len r1
              obtain ⟨b1, b2⟩ := ih.2 _ _ _ _ hk (fun x hx => hz x (a1 x (skipP_mem _ _ hx))) (by omega) ho
              exact ⟨by rw [shortK]; exact ⟨s1, b1⟩, by simp only [List.length_cons] at a2 ⊢; omega⟩

theorem pcsL_size : ∀ (k : Nat) (l : List UInt8) (ps : List Pce), l.length ≤ k → pcsL l = some ps → ∀ p ∈ ps, pcSize p ≤ 40 + l.length := by
  intro k
  induction k with
  | zero =>
    intro l ps hl h
    have : l = [] := List.length_eq_zero_iff.1 (by omega)
    subst this
    rw [pcsL_nil] at h
    cases h
    simp
  | succ k ih =>
    intro l ps hl h
    by_cases h0 : l = []
    · subst h0
      rw [pcsL_nil] at h
      cases h
      simp
    · cases hm : markL l with
      | none => rw [pcsL_none h0 hm] at h; cases h
      | some x =>
        obtain ⟨p, q⟩ := x
        rw [pcsL_some h0 hm] at h
        have e1 := markL_lt h0 hm
        cases hq : pcsL q with
        | none => rw [hq] at h; cases h
        | some qs =>
          rw [hq] at h
          cases h
          intro y hy
          rcases List.mem_cons.1 hy with rfl | hy
          · exact markL_size hm
          · have := ih q qs (by omega) hq y hy
            omega
theorem pcsR_size (l : List UInt8) : (pcsR l).1.length ≤ 60 ∧ ∀ p ∈ (pcsR l).1, pcSize p ≤ 40 + l.length := by
  unfold pcsR
  split
  · split
    · rename_i ps h
      split
      · exact ⟨by assumption, pcsL_size _ l ps (Nat.le_refl _) h⟩
      · exact ⟨by simp, by simp⟩
    · exact ⟨by simp, by simp⟩
  · exact ⟨by simp, by simp⟩

/-- What a reading comes to: nothing may stand behind but blanks, and the tree is good. -/
def readT : Option (Nd × List Pce) → Option Nd
  | none => none
  | some (n, r) => if skipP r = [] then (if nodeB n = true then some n else none) else none
/-- The whole reading: one tree with blanks around it, and nothing behind. -/
def readP (ps : List Pce) : Option Nd := readT (rdN (2 * ps.length + 1) (skipP ps) ⟨#[]⟩)
end Go.Proofs.YtccehdlgpbeijaaGreatDoor
namespace Go.Proofs.YtccehdlgpbeijaaGreatDoor
open M

theorem dw_nil (l : List UInt8) : l.dropWhile bl = [] ↔ ∀ x ∈ l, bl x = true := by
  induction l with
  | nil => simp
  | cons a r ih =>
    rw [List.dropWhile_cons]
    cases h : bl a with
    | true => simp only [if_true, ih, List.mem_cons, forall_eq_or_imp, h, true_and]
    | false =>
      simp only [Bool.false_eq_true, if_false]
      exact ⟨fun e => (by cases e), fun e => (by have := e a (by simp); rw [h] at this; cases this)⟩
theorem dw_head : ∀ (l : List UInt8) (a : UInt8) (r : List UInt8), l.dropWhile bl = a :: r → bl a = false
  | [], a, r, h => by cases h
  | b :: l, a, r, h => by
    rw [List.dropWhile_cons] at h
    cases hb : bl b with
    | true => rw [hb] at h; exact dw_head l a r h
    | false => rw [hb] at h; cases h; exact hb
theorem trim_all (l : List UInt8) : trimL l = [] ↔ ∀ x ∈ l, bl x = true := by
  unfold trimL
  rw [List.reverse_eq_nil_iff, dw_nil]
  constructor
  · intro h x hx
    cases hd : l.dropWhile bl with
    | nil => exact (dw_nil l).1 hd x hx
    | cons a r =>
      have h1 := h a (by rw [hd]; simp)
      rw [dw_head l a r hd] at h1
      cases h1
  · intro h x hx
    have hx' : x ∈ l.dropWhile bl := by simpa using hx
    exact h x ((List.dropWhile_sublist bl).subset hx')
theorem trim_app {a b : List UInt8} : trimL (a ++ b) = [] ↔ trimL a = [] ∧ trimL b = [] := by
  simp only [trim_all, List.mem_append]
  exact ⟨fun h => ⟨fun x hx => h x (.inl hx), fun x hx => h x (.inr hx)⟩, fun h x hx => hx.elim (h.1 x) (h.2 x)⟩

mutual
/-- One node, as the specification reads it: how deep it may still go. -/
def sdN : Nat → Nat → List Pce → ByteArray → Option (Nd × List Pce)
  | 0, _, _, _ => none
  | _ + 1, 0, _, _ => none
  | _ + 1, _ + 1, [], _ => none
  | f + 1, d + 1, p :: r, o =>
    if p.k = 3 then some (.mk (if p.has then p.ns else o) p.name ⟨#[]⟩ [], r)
    else if p.k = 1 then sdK f d r (if p.has then p.ns else o) p.name [] []
    else none
/-- What stands within, up to what closes it. -/
def sdK : Nat → Nat → List Pce → ByteArray → ByteArray → List Nd → List UInt8 → Option (Nd × List Pce)
  | 0, _, _, _, _, _, _ => none
  | _ + 1, _, [], _, _, _, _ => none
  | f + 1, d, p :: r, ns, nm, acc, t =>
    if p.k = 2 then
      (if p.name = nm then (if acc = [] then some (.mk ns nm ⟨t.toArray⟩ [], r) else if trimL t = [] then some (.mk ns nm ⟨#[]⟩ acc, r) else none) else none)
    else if p.k = 4 then sdK f d r ns nm acc (t ++ p.s.data.toList)
    else match sdN f d (p :: r) ns with
      | none => none
      | some (n, r1) => sdK f d r1 ns nm (acc ++ [n]) t
end
/-- How deep a tree may be. -/
def fitN : Nat → Nd → Prop
  | 0, _ => False
  | d + 1, n => ∀ k ∈ n.ks, fitN d k
open Classical in
noncomputable def lim (d : Nat) : Option (Nd × List Pce) → Option (Nd × List Pce)
  | none => none
  | some (n, r) => if fitN d n then some (n, r) else none
open Classical in
noncomputable def limK (d : Nat) : Option (List Nd × List Pce) → Option (List Nd × List Pce)
  | none => none
  | some (ks, r) => if ∀ k ∈ ks, fitN d k then some (ks, r) else none
def finK (ns nm tx : ByteArray) (acc : List Nd) : Option (List Nd × List Pce) → Option (Nd × List Pce)
  | some (ks, q :: r2) => if q.name = nm then some (.mk ns nm tx (acc ++ ks), r2) else none
  | _ => none
/-- No two texts stand side by side. -/
def noTwo : List Pce → Prop
  | p :: q :: r => ¬ (p.k = 4 ∧ q.k = 4) ∧ noTwo (q :: r)
  | _ => True
theorem noTwo_tail {p : Pce} {r : List Pce} (h : noTwo (p :: r)) : noTwo r := by
  cases r with
  | nil => trivial
  | cons q r => exact h.2
theorem noTwo_suffix {a b : List Pce} (h : noTwo b) (hs : a <:+ b) : noTwo a := by
  obtain ⟨pre, rfl⟩ := hs
  induction pre with
  | nil => exact h
  | cons p pre ih => exact ih (noTwo_tail h)
theorem skipP_suffix (l : List Pce) : skipP l <:+ l := by
  cases l with
  | nil => exact List.suffix_refl _
  | cons p r => rw [skipP]; split; exact List.suffix_cons _ _; exact List.suffix_refl _
theorem aloneP_suffix : ∀ l : List Pce, (aloneP l).2 <:+ l
  | [] => List.suffix_refl _
  | [p] => List.suffix_refl _
  | p :: q :: r => by rw [aloneP]; split; exact List.suffix_cons _ _; exact List.suffix_refl _
theorem rd_suffix : ∀ f, (∀ ps o n r, rdN f ps o = some (n, r) → r <:+ ps) ∧ (∀ ps o ks r, rdK f ps o = some (ks, r) → r <:+ ps) := by
  intro f
  induction f with
  | zero => exact ⟨fun ps o n r h => by simp [rdN] at h, fun ps o ks r h => by simp [rdK] at h⟩
  | succ f ih =>
    constructor
    · intro ps o n r h
      cases ps with
      | nil => simp [rdN] at h
      | cons p t =>
        rw [rdN] at h
        split at h
        · cases h; exact List.suffix_cons _ _
        · split at h
          · split at h
            · rename_i ks q r2 hk
              have h1 := ih.2 _ _ _ _ hk
              split at h
              · cases h
                exact ((List.suffix_cons _ _).trans h1).trans ((skipP_suffix _).trans ((aloneP_suffix _).trans (List.suffix_cons _ _)))
              · cases h
            · cases h
          · cases h
    · intro ps o ks r h
      cases ps with
      | nil => simp [rdK] at h
      | cons p t =>
        rw [rdK] at h
        split at h
        · cases h; exact List.suffix_refl _
        · split at h
          · cases h
          · rename_i n r1 hn
            split at h
            · cases h
            · rename_i ks' r2 hk
              cases h
              exact (ih.2 _ _ _ _ hk).trans ((skipP_suffix _).trans (ih.1 _ _ _ _ hn))

/-- A text that is more than blanks stands beside kids. -/
theorem sdK_bad : ∀ (f d : Nat) (qs : List Pce) (ns nm : ByteArray) (acc : List Nd) (t : List UInt8), trimL t ≠ [] → (acc ≠ [] ∨ ∀ p r, qs = p :: r → p.k ≠ 2 ∧ p.k ≠ 4) → sdK f d qs ns nm acc t = none := by
  intro f
  induction f with
  | zero => intros; rw [sdK]
  | succ f ih =>
    intro d qs ns nm acc t ht ha
    cases qs with
    | nil => rw [sdK]
    | cons p r =>
      rw [sdK]
      by_cases h2 : p.k = 2
      · have : acc ≠ [] := ha.elim id (fun h => absurd h2 (h p r rfl).1)
        rw [if_pos h2, if_neg this, if_neg ht]
        simp
      · rw [if_neg h2]
        by_cases h4 : p.k = 4
        · have : acc ≠ [] := ha.elim id (fun h => absurd h4 (h p r rfl).2)
          rw [if_pos h4]
          exact ih d r ns nm acc _ (fun e => ht (trim_app.1 e).1) (.inl this)
        · rw [if_neg h4]
          cases sdN f d (p :: r) ns with
          | none => rfl
          | some x => exact ih d x.2 ns nm _ t ht (.inl (by simp))
end Go.Proofs.YtccehdlgpbeijaaGreatDoor
namespace Go.Proofs.YtccehdlgpbeijaaGreatDoor
open M

def okK (acc : List Nd) (t : List UInt8) (qs : List Pce) : Prop := acc ≠ [] ∨ (t = [] ∧ ∀ p q r, qs = p :: q :: r → ¬ (p.k = 4 ∧ q.k = 2)) ∨ ∀ p r, qs = p :: r → p.k ≠ 2 ∧ p.k ≠ 4
theorem skipP_not {p : Pce} {r : List Pce} (h : ¬ p.k = 4) : skipP (p :: r) = p :: r := by rw [skipP, if_neg (by simp [blankP, h])]
theorem aloneP_no {l : List Pce} (h : ∀ p q r, l = p :: q :: r → ¬ (p.k = 4 ∧ q.k = 2)) : aloneP l = (⟨#[]⟩, l) := by
  match l, h with
  | [], _ => rfl
  | [_], _ => rfl
  | p :: q :: r, h => rw [aloneP, if_neg (h p q r rfl)]
theorem fin_lim (d : Nat) (ns nm : ByteArray) (x : Option (List Nd × List Pce)) :
    finK ns nm ⟨#[]⟩ [] (limK d x) = lim (d + 1) (match x with | some (ks, q :: r2) => if q.name = nm then some (.mk ns nm ⟨#[]⟩ ks, r2) else none | _ => none) := by
  cases x with
  | none => rfl
  | some y =>
    obtain ⟨ks, r⟩ := y
    cases r with
    | nil => simp only [limK]; split <;> rfl
    | cons q r2 =>
      simp only [limK]
      by_cases hq : q.name = nm
      · by_cases hf : ∀ k ∈ ks, fitN d k
        · rw [if_pos hf, if_pos hq]
          simp only [finK, if_pos hq, lim]
          rw [if_pos (show fitN (d + 1) (.mk ns nm ⟨#[]⟩ ks) from hf)]
          rfl
        · rw [if_neg hf, if_pos hq]
          simp only [finK, lim]
          rw [if_neg (show ¬ fitN (d + 1) (.mk ns nm ⟨#[]⟩ ks) from hf)]
      · rw [if_neg hq]
        split
        · simp only [finK, if_neg hq, lim]
        · rfl

theorem sp_rd : ∀ f, (∀ g d ps o, 2 * ps.length + 1 ≤ f → 2 * ps.length + 1 ≤ g → noTwo ps → sdN f d ps o = lim d (rdN g ps o)) ∧ (∀ g d qs ns nm acc t, 2 * qs.length + 2 ≤ f → 2 * qs.length + 2 ≤ g → noTwo qs → trimL t = [] → okK acc t qs → sdK f d qs ns nm acc t = finK ns nm ⟨#[]⟩ acc (limK d (rdK g (skipP qs) ns))) := by
  intro f
  induction f with
  | zero => exact ⟨fun g d ps o h => by omega, fun g d qs ns nm acc t h => by omega⟩
  | succ f ih =>
    constructor
    · intro g d ps o hf hg hn
      obtain ⟨g', rfl⟩ : ∃ g', g = g' + 1 := ⟨g - 1, by omega⟩
      cases d with
      | zero =>
        rw [sdN]
        cases rdN (g' + 1) ps o with
        | none => rfl
        | some x => simp [lim, fitN]
      | succ d =>
        cases ps with
        | nil => rw [sdN, rdN]; rfl
        | cons p r =>
          simp only [List.length_cons] at hf hg
          rw [sdN, rdN]
          by_cases h3 : p.k = 3
          · rw [if_pos h3, if_pos h3]
            simp [lim, fitN, Nd.ks]
          · rw [if_neg h3, if_neg h3]
            by_cases h1 : p.k = 1
            · rw [if_pos h1, if_pos h1]
              obtain ⟨ns, hns⟩ : ∃ ns, (if p.has = true then p.ns else o) = ns := ⟨_, rfl⟩
              rw [hns]
              by_cases ha : ∃ a b r', r = a :: b :: r' ∧ a.k = 4 ∧ b.k = 2
              · obtain ⟨a, b, r', rfl, ha4, hb2⟩ := ha
                simp only [List.length_cons] at hf hg
                obtain ⟨f1, rfl⟩ : ∃ f1, f = f1 + 1 + 1 := ⟨f - 2, by omega⟩
                obtain ⟨g1, rfl⟩ : ∃ g1, g' = g1 + 1 := ⟨g' - 1, by omega⟩
                have ha2 : ¬ a.k = 2 := by omega
                have hb4 : ¬ b.k = 4 := by omega
                have q1 : aloneP (a :: b :: r') = (a.s, b :: r') := by rw [aloneP, if_pos ⟨ha4, hb2⟩]
                have q2 : sdK (f1 + 1 + 1) d (a :: b :: r') ns p.name [] [] = if b.name = p.name then some (.mk ns p.name a.s [], r') else none := by
                  rw [sdK, if_neg ha2, if_pos ha4, sdK, if_pos hb2]
                  simp
                have q3 : rdK (g1 + 1) (skipP (b :: r')) ns = some ([], b :: r') := by rw [skipP_not hb4, rdK, if_pos hb2]
                rw [q1, q2]
                simp only
                rw [q3]
                by_cases hq : b.name = p.name
                · simp [hq, lim, fitN, Nd.ks]
                · simp [hq, lim]
              · have ha' : ∀ x y z, r = x :: y :: z → ¬ (x.k = 4 ∧ y.k = 2) := fun x y z e h => ha ⟨x, y, z, e, h.1, h.2⟩
                rw [aloneP_no ha', ih.2 g' d r _ p.name [] [] (by omega) (by omega) (noTwo_tail hn) rfl (.inr (.inl ⟨rfl, ha'⟩)), fin_lim]
                rfl
            · rw [if_neg h1, if_neg h1]
              rfl
    · intro g d qs ns nm acc t hf hg hn ht hok
      obtain ⟨g', rfl⟩ : ∃ g', g = g' + 1 := ⟨g - 1, by omega⟩
      cases qs with
      | nil => rw [sdK, skipP, rdK]; rfl
      | cons p r =>
        simp only [List.length_cons] at hf hg
        rw [sdK]
        by_cases h2 : p.k = 2
        · have h4 : ¬ p.k = 4 := by omega
          rw [if_pos h2, skipP_not h4, rdK, if_pos h2]
          have q1 : limK d (some ([], p :: r)) = some ([], p :: r) := by simp [limK]
          rw [q1]
          simp only [finK, List.append_nil]
          by_cases hq : p.name = nm
          · rw [if_pos hq, if_pos hq]
            by_cases hacc : acc = []
            · have ht0 : t = [] := by
                rcases hok with h | h | h
                · exact absurd hacc h
                · exact h.1
                · exact absurd h2 (h p r rfl).1
              subst ht0
              subst hacc
              rfl
            · rw [if_neg hacc, if_pos ht]
          · rw [if_neg hq, if_neg hq]
        · rw [if_neg h2]
          by_cases h4 : p.k = 4
          · rw [if_pos h4]
            have hhead : acc ≠ [] ∨ ∀ q s, r = q :: s → q.k ≠ 2 ∧ q.k ≠ 4 := by
              rcases hok with h | h | h
              · exact .inl h
              · refine .inr (fun q s e => ?_)
                subst e
                exact ⟨fun e => h.2 p q s rfl ⟨h4, e⟩, fun e => hn.1 ⟨h4, e⟩⟩
              · exact absurd h4 (h p r rfl).2
            by_cases hb : trimL p.s.data.toList = []
            · have hs : skipP (p :: r) = r := by rw [skipP, if_pos (by simp [blankP, h4, hb])]
              have hs2 : skipP r = r := by
                cases r with
                | nil => rfl
                | cons q s => exact skipP_not (fun e => hn.1 ⟨h4, e⟩)
              rw [hs, ih.2 (g' + 1) d r ns nm acc _ (by omega) (by omega) (noTwo_tail hn) (trim_app.2 ⟨ht, hb⟩) (hhead.elim .inl (fun h => .inr (.inr h))), hs2]
            · rw [sdK_bad f d r ns nm acc _ (fun e => hb (trim_app.1 e).2) hhead]
              have hs : skipP (p :: r) = p :: r := by rw [skipP, if_neg (by simp [blankP, hb])]
              obtain ⟨g1, rfl⟩ : ∃ g1, g' = g1 + 1 := ⟨g' - 1, by omega⟩
              have h3 : ¬ p.k = 3 := by omega
              have h1 : ¬ p.k = 1 := by omega
              rw [hs, rdK, if_neg h2, rdN, if_neg h3, if_neg h1]
              rfl
          · rw [if_neg h4, ih.1 g' d (p :: r) ns (by simp; omega) (by simp; omega) hn, skipP_not h4, rdK, if_neg h2]
            cases hx : rdN g' (p :: r) ns with
            | none => rfl
            | some x =>
              obtain ⟨n, r1⟩ := x
              obtain ⟨_, hl⟩ := (rd_left g').1 _ _ _ _ hx
              simp only [List.length_cons] at hl
              have hs := (rd_suffix g').1 _ _ _ _ hx
              simp only [lim]
              by_cases hfit : fitN d n
              · rw [if_pos hfit]
                simp only
                rw [ih.2 g' d r1 ns nm (acc ++ [n]) t (by omega) (by omega) (noTwo_suffix hn hs) ht (.inl (by simp))]
                cases rdK g' (skipP r1) ns with
                | none => rfl
                | some y =>
                  obtain ⟨ks, r2⟩ := y
                  simp only [limK]
                  by_cases hk : ∀ k ∈ ks, fitN d k
                  · rw [if_pos hk, if_pos (by intro k hk'; rcases List.mem_cons.1 hk' with rfl | h; exact hfit; exact hk k h)]
                    cases r2 with
                    | nil => rfl
                    | cons q r3 => simp [finK]
                  · rw [if_neg hk, if_neg (fun h => hk (fun k hk' => h k (List.mem_cons_of_mem _ hk')))]
                    rfl
              · rw [if_neg hfit]
                cases rdK g' (skipP r1) ns with
                | none => rfl
                | some y =>
                  obtain ⟨ks, r2⟩ := y
                  simp only [limK]
                  rw [if_neg (fun h => hfit (h n (by simp)))]
                  rfl
end Go.Proofs.YtccehdlgpbeijaaGreatDoor
namespace Go.Proofs.YtccehdlgpbeijaaGreatDoor
open M

theorem cSL_mem : ∀ (ks : List Nd) (d k : Nat), cSL ks d k ≤ 20 → ∀ x ∈ ks, x.cS d ≤ 20
  | [], d, k, h, x, hx => by cases hx
  | y :: r, d, k, h, x, hx => by
    rw [cSL] at h
    split at h
    · have h1 := cSL_ge r d (k + y.cS d)
      rcases List.mem_cons.1 hx with rfl | hx
      · omega
      · exact cSL_mem r d _ h x hx
    · omega
theorem fit_cS : ∀ (d : Nat) (n : Nd), n.cS d ≤ 20 → fitN d n
  | 0, n, h => by rw [cS_ks] at h; simp at h
  | d + 1, n, h => by
    rw [cS_ks] at h
    split at h
    · omega
    · intro k hk
      exact fit_cS d k (cSL_mem n.ks _ 1 h k hk)
theorem fit_nodeB {n : Nd} (h : nodeB n = true) : fitN 5 n := fit_cS 5 n (by simpa [nodeB] using h)

theorem mark_text {l q : List UInt8} {p : Pce} (h : markL l = some (p, q)) (hk : p.k = 4) : q = [] ∨ [60].isPrefixOf q = true := by
  unfold markL at h
  split at h
  · unfold closeL at h
    split at h
    · cases h; cases hk
    · cases h
  split at h
  · unfold openL at h
    split at h
    · split at h
      · unfold endM at h
        split at h
        · cases h; simp [openP] at hk
        split at h
        · cases h; simp [openP] at hk
        · cases h
      · cases h
    · cases h
  · unfold textL7 at h
    split at h
    · cases h
      unfold fromB
      cases hd : l.dropWhile (· != 60) with
      | nil => exact .inl rfl
      | cons a r =>
        right
        have : ∀ (l : List UInt8), l.dropWhile (· != 60) = a :: r → a = 60 := by
          intro l
          induction l with
          | nil => intro e; cases e
          | cons b l ih =>
            intro e
            rw [List.dropWhile_cons] at e
            split at e
            · exact ih e
            · rename_i hb
              cases e
              simpa using hb
        rw [this l hd]
        rfl
    · cases h
theorem mark_60 {l q : List UInt8} {p : Pce} (h : markL l = some (p, q)) (h60 : [60].isPrefixOf l = true) : ¬ p.k = 4 := by
  intro hk
  unfold markL at h
  split at h
  · unfold closeL at h
    split at h
    · cases h; cases hk
    · cases h
  · unfold openL at h
    split at h
    · split at h
      · unfold endM at h
        split at h
        · cases h; simp [openP] at hk
        split at h
        · cases h; simp [openP] at hk
        · cases h
      · cases h
    · cases h
theorem noTwo_pcsL : ∀ (k : Nat) (l : List UInt8) (ps : List Pce), l.length ≤ k → pcsL l = some ps → noTwo ps ∧ ([60].isPrefixOf l = true → ∀ p r, ps = p :: r → ¬ p.k = 4) := by
  intro k
  induction k with
  | zero =>
    intro l ps hl h
    have : l = [] := List.length_eq_zero_iff.1 (by omega)
    subst this
    rw [pcsL_nil] at h
    cases h
    exact ⟨trivial, fun _ p r e => by cases e⟩
  | succ k ih =>
    intro l ps hl h
    by_cases h0 : l = []
    · subst h0
      rw [pcsL_nil] at h
      cases h
      exact ⟨trivial, fun _ p r e => by cases e⟩
    · cases hm : markL l with
      | none => rw [pcsL_none h0 hm] at h; cases h
      | some x =>
        obtain ⟨p, q⟩ := x
        rw [pcsL_some h0 hm] at h
        have e1 := markL_lt h0 hm
        cases hq : pcsL q with
        | none => rw [hq] at h; cases h
        | some qs =>
          rw [hq] at h
          cases h
          obtain ⟨i1, i2⟩ := ih q qs (by omega) hq
          refine ⟨?_, fun h60 p' r e => ?_⟩
          · cases qs with
            | nil => trivial
            | cons a r =>
              refine ⟨fun hh => ?_, i1⟩
              rcases mark_text hm hh.1 with rfl | h60
              · rw [pcsL_nil] at hq; cases hq
              · exact i2 h60 a r rfl hh.2
          · cases e
            exact mark_60 hm h60
theorem noTwo_pcsR (l : List UInt8) : noTwo (pcsR l).1 := by
  unfold pcsR
  split
  · split
    · rename_i ps h
      split
      · exact (noTwo_pcsL _ l ps (Nat.le_refl _) h).1
      · trivial
    · trivial
  · trivial
theorem skips_noTwo {ps : List Pce} (h : noTwo ps) : ps.dropWhile blankP = skipP ps := by
  cases ps with
  | nil => rfl
  | cons p r =>
    rw [List.dropWhile_cons, skipP]
    split
    · rename_i hb
      cases r with
      | nil => rfl
      | cons q s =>
        rw [List.dropWhile_cons]
        have hp4 : p.k = 4 := by simp [blankP] at hb; exact hb.1
        rw [if_neg]
        intro hq
        simp [blankP] at hq
        exact h.1 ⟨hp4, hq.1⟩
    · rfl
/-- What the specification's reading comes to. -/
def readU : Option (Nd × List Pce) → Option Nd
  | none => none
  | some (n, r) => if r.dropWhile blankP = [] then (if nodeB n = true then some n else none) else none
theorem read_same {ps : List Pce} (h : noTwo ps) (f : Nat) (hf : 2 * ps.length + 1 ≤ f) : readU (sdN f 5 (ps.dropWhile blankP) ⟨#[]⟩) = readP ps := by
  unfold readP
  have hs := skipP_suffix ps
  have hl := skipP_len ps
  rw [skips_noTwo h, (sp_rd f).1 (2 * ps.length + 1) 5 (skipP ps) ⟨#[]⟩ (by omega) (by omega) (noTwo_suffix h hs)]
  cases hx : rdN (2 * ps.length + 1) (skipP ps) ⟨#[]⟩ with
  | none => rfl
  | some x =>
    obtain ⟨n, r⟩ := x
    have hr := (rd_suffix _).1 _ _ _ _ hx
    have hn := noTwo_suffix h (hr.trans hs)
    simp only [lim, readT]
    by_cases hf : fitN 5 n
    · rw [if_pos hf]
      simp only [readU]
      rw [skips_noTwo hn]
    · rw [if_neg hf]
      have hb : ¬ nodeB n = true := fun e => hf (fit_nodeB e)
      simp only [readU]
      rw [if_neg hb]
      split <;> rfl
end Go.Proofs.YtccehdlgpbeijaaGreatDoor
namespace Go.Proofs.YtccehdlgpbeijaaGreatDoor
open Go.RowKit M

def strLen : Value → Nat | .string t => t.size | _ => 0

set_option maxHeartbeats 400000 in
theorem l1Blank_any (c : UInt8) (w : World) :
    Calls Tryz.prog 93 #[.int .u8 c.toNat] w fun e w' => e = .returned (.bool (bl c)) ∧ w' = w := by
  go_enter Tryz.func93, Tryz.ntmps93
  go_wp2
  all_goals
    go_ret
    refine ⟨ret_bool ?_, rfl⟩
    go_light
    unfold bl isB
    simp_all

set_option maxHeartbeats 1000000 in
theorem specTrim_any (s : ByteArray) (w : World) (hs : s.size ≤ maxLen) :
    Calls Tryz.prog 79 #[.string s] w fun e w' => (∃ t : ByteArray, e = .returned (.string t) ∧ t.data.toList = trimL s.data.toList) ∧ w' = w := by
  unfold maxLen at hs
  go_enter Tryz.func79, Tryz.ntmps79
  go_wp2
  go_loop [0] (fun v => ∃ t : ByteArray, v = .string t ∧ t.size ≤ s.size ∧ trimL t.data.toList = trimL s.data.toList) (fun v => strLen v)
  case atStart => exact ⟨s, rfl, Nat.le_refl _, rfl⟩
  case round =>
    obtain ⟨t, rfl, ht, hn⟩ := hrel
    have HN : Hid (trimL t.data.toList = trimL s.data.toList) := hn; clear hn
    by_cases h0 : 0 < t.size
    · cases hb : bl t[0]
      · go_wp2_with (go_at_call 93; refine (l1Blank_any _ _).mono ?_; rintro e w' ⟨rfl, rfl⟩; rw [hb])
        go_loop [0] (fun v => ∃ u : ByteArray, v = .string u ∧ u.size ≤ s.size ∧ trimL u.data.toList = trimL s.data.toList ∧ ∀ h : 0 < u.size, bl u[0] = false) (fun v => strLen v)
        case atStart => exact ⟨t, rfl, ht, HN.out, fun _ => hb⟩
        case round =>
          clear hb
          obtain ⟨u, rfl, hu, hn, hf⟩ := hrel
          have HU : Hid (trimL u.data.toList = trimL s.data.toList) := hn; clear hn
          have HF : Hid (∀ h : 0 < u.size, bl u[0] = false) := hf; clear hf
          by_cases h1 : 0 < u.size
          · cases hb1 : bl u[u.size - 1]
            · go_wp2_with (go_at_call 93; refine (l1Blank_any _ _).mono ?_; rintro e w' ⟨rfl, rfl⟩; rw [hb1])
              go_ret
              exact ⟨⟨u, rfl, step_done u _ h1 (HF.out h1) hb1 HU.out⟩, rfl⟩
            · go_wp2_with (go_at_call 93; refine (l1Blank_any _ _).mono ?_; rintro e w' ⟨rfl, rfl⟩; rw [hb1])
              go_round
              case rel => exact ⟨_, rfl, by rw [size_extract _ _ _ (by omega)]; omega, step_back u _ h1 hb1 HU.out, step_back_head u h1 (HF.out h1)⟩
              case measure => simp only [strLen]; rw [size_extract _ _ _ (by omega)]; omega
          · go_wp2
            go_ret
            exact ⟨⟨u, rfl, step_none u _ h1 HU.out⟩, rfl⟩
      · go_wp2_with (go_at_call 93; refine (l1Blank_any _ _).mono ?_; rintro e w' ⟨rfl, rfl⟩; rw [hb])
        go_round
        case rel => exact ⟨_, rfl, by rw [size_extract _ _ _ (Nat.le_refl _)]; omega, step_front t _ h0 hb HN.out⟩
        case measure => simp only [strLen]; rw [size_extract _ _ _ (Nat.le_refl _)]; omega
    · go_wp2
      go_loop [0] (fun v => v = .string t) (fun v => strLen v)
      case atStart => rfl
      case round =>
        subst hrel
        go_wp2
        go_ret
        exact ⟨⟨t, rfl, step_none t _ h0 HN.out⟩, rfl⟩
end Go.Proofs.YtccehdlgpbeijaaGreatDoor
namespace Go.Proofs.YtccehdlgpbeijaaGreatDoor
open Go.RowKit M
set_option linter.unusedVariables false

/-- The specification's reader in its block: all pieces, which lie below B, a place among them, and whether it was bad. -/
structure Sr (w : World) (N B : Nat) (all : List Pce) (at_ : Nat) (bad : Bool) : Prop where
  lt : N < w.heap.size
  hB : B ≤ N
  fz : ∀ k, w.frozen? ⟨N, k, none⟩ = false
  row : ∃ a c, w.cell? ⟨N, 0, none⟩ = some (.slice a all.length c) ∧ Pcs w B a all
  c1 : w.cell? ⟨N, 1, none⟩ = some (.int .i64 at_)
  c2 : w.cell? ⟨N, 2, none⟩ = some (.bool bad)
theorem Sr.nextB {w w' : World} {N B L : Nat} {all : List Pce} {k : Nat} {bad : Bool} (h : Sr w N B all k bad) (hb : Below L w w') (hN : N < L) : Sr w' N B all k bad := by
  obtain ⟨a, c, h1, h2⟩ := h.row
  have := h.hB
  exact ⟨Nat.lt_of_lt_of_le h.lt hb.size, h.hB, fun k => (hb.frozen (p := ⟨N, k, none⟩) hN).trans (h.fz k), ⟨a, c, (hb.cell (p := ⟨N, 0, none⟩) hN).trans h1, h2.below hb (by omega)⟩, (hb.cell (p := ⟨N, 1, none⟩) hN).trans h.c1, (hb.cell (p := ⟨N, 2, none⟩) hN).trans h.c2⟩
theorem Pcs.set {w : World} {B N o : Nat} {a : Option Addr} {ps : List Pce} (h : Pcs w B a ps) (hB : B ≤ N) (v : Value) : Pcs (w.setCell ⟨N, o, none⟩ v) B a ps :=
  h.below (C := B) ((Below.refl B w).setCell (by exact hB) v) (Nat.le_refl _)
theorem Sr.step {w : World} {N B : Nat} {all : List Pce} {k : Nat} {bad : Bool} (h : Sr w N B all k bad) (k' : Nat) : Sr (w.setCell ⟨N, 1, none⟩ (.int .i64 k')) N B all k' bad := by
  obtain ⟨a, c, h1, h2⟩ := h.row
  exact ⟨by simpa using h.lt, h.hB, fun k => by rw [World.frozen?_setCell]; exact h.fz k, ⟨a, c, (World.cell?_setCell_other _ _ _ _ (by simp)).trans h1, h2.set h.hB _⟩, World.cell?_setCell_same _ _ _ h.c1, (World.cell?_setCell_other _ _ _ _ (by simp)).trans h.c2⟩
theorem Sr.bad {w : World} {N B : Nat} {all : List Pce} {k : Nat} {b : Bool} (h : Sr w N B all k b) (b' : Bool) : Sr (w.setCell ⟨N, 2, none⟩ (.bool b')) N B all k b' := by
  obtain ⟨a, c, h1, h2⟩ := h.row
  exact ⟨by simpa using h.lt, h.hB, fun k => by rw [World.frozen?_setCell]; exact h.fz k, ⟨a, c, (World.cell?_setCell_other _ _ _ _ (by simp)).trans h1, h2.set h.hB _⟩, (World.cell?_setCell_other _ _ _ _ (by simp)).trans h.c1, World.cell?_setCell_same _ _ _ h.c2⟩
theorem Sr.drew {w : World} {N B : Nat} {all : List Pce} {k : Nat} {bad : Bool} (h : Sr w N B all k bad) (n : Nat) : Sr (w.drewN n) N B all k bad := ⟨h.lt, h.hB, h.fz, h.row, h.c1, h.c2⟩
theorem grownR_drew {w w1 : World} {N : Nat} (h : w.grownBy w1 (some N)) (n : Nat) : w.grownBy (w1.drewN n) (some N) := grownR_below h ⟨rfl, rfl, rfl, Nat.le_refl _, fun k hk => rfl⟩

theorem l8Blank_any (s : ByteArray) (w : World) (hs : s.size ≤ maxLen) :
    Calls Tryz.prog 56 #[.string s] w fun e w' => e = .returned (.bool (decide (trimL s.data.toList = []))) ∧ w' = w := by
  have HT := hide (specTrim_any s w hs)
  by_cases h0 : trimL s.data.toList = []
  · rw [decide_eq_true h0]
    go_enter Tryz.func56, Tryz.ntmps56
    go_wp2_with fail
    refine HT.out.mono ?_
    rintro e w1 ⟨⟨t, rfl, ht⟩, hw⟩
    obtain rfl := hw.symm
    have q1 := emptyT8 (ht.trans h0)
    clear h0 ht
    go_wp2
    go_ret
    exact ⟨rfl, rfl⟩
  · rw [decide_eq_false h0]
    go_enter Tryz.func56, Tryz.ntmps56
    go_wp2_with fail
    refine HT.out.mono ?_
    rintro e w1 ⟨⟨t, rfl, ht⟩, hw⟩
    obtain rfl := hw.symm
    have q1 := emptyF8 (s := t) (by rw [ht]; exact h0)
    clear h0 ht
    go_wp2
    go_ret
    exact ⟨rfl, rfl⟩

theorem dw_step {l : List Pce} {k : Nat} (hk : k < l.length) (hb : blankP l[k] = true) : (l.drop k).dropWhile blankP = (l.drop (k + 1)).dropWhile blankP := by
  rw [List.drop_eq_getElem_cons hk, List.dropWhile_cons, if_pos hb]
theorem dw_stop {l : List Pce} {k : Nat} (hk : k < l.length) (hb : ¬ blankP l[k] = true) : (l.drop k).dropWhile blankP = l.drop k := by
  rw [List.drop_eq_getElem_cons hk, List.dropWhile_cons, if_neg hb]

end Go.Proofs.YtccehdlgpbeijaaGreatDoor
namespace Go.Proofs.YtccehdlgpbeijaaGreatDoor
open Go.RowKit M
set_option linter.unusedVariables false

set_option maxRecDepth 100000 in
set_option maxHeartbeats 4000000 in
theorem l8Skip_any (N B : Nat) (all : List Pce) (k0 : Nat) (bad : Bool) (w : World) (h : Sr w N B all k0 bad) (hk0 : k0 ≤ all.length) (hl : all.length ≤ 1000) (hz : ∀ p ∈ all, p.s.size ≤ maxLen) :
    Calls Tryz.prog 32 #[.pointer (some ⟨N, 0, none⟩)] w fun e w' => e = .returned (.tuple #[]) ∧ ∃ k', k0 ≤ k' ∧ k' ≤ all.length ∧ all.drop k' = (all.drop k0).dropWhile blankP ∧ Sr w' N B all k' bad ∧ w.grownBy w' (some N) := by
  have H := hide h
  have HZ := hide hz
  clear h hz
  go_enter Tryz.func32, Tryz.ntmps32
  go_wp2
  go_loopw [] (fun wr => ∃ k, k0 ≤ k ∧ k ≤ all.length ∧ (all.drop k0).dropWhile blankP = (all.drop k).dropWhile blankP ∧ Sr wr N B all k bad ∧ w.grownBy wr (some N)) (fun wr => match wr.cell? ⟨N, 1, none⟩ with | some (.int _ n) => (1000 - n).toNat | _ => 0)
  case atStart => exact ⟨k0, Nat.le_refl _, hk0, rfl, H.out, grownR_of (Below.refl _ _)⟩
  case round =>
    obtain ⟨k, hk1, hk2, hd, hsr, hgr⟩ := hrel
    have HD := hide hd
    have HS := hide hsr
    have HG := hide hgr
    obtain ⟨a, c, h1, h2⟩ := hsr.row
    have hc1 := hsr.c1
    have hfz := hsr.fz
    clear hd hsr hgr
    by_cases hlt : k < all.length
    · have hT : ∀ W, (∃ n, W = wr.drewN n) → Calls Tryz.prog 56 #[.string all[k].s] W fun e w' => e = .returned (.bool (decide (trimL all[k].s.data.toList = []))) ∧ ∃ n, w' = W.drewN n := fun W _ => (l8Blank_any all[k].s W (HZ.out _ (List.getElem_mem hlt))).mono (fun e w' h => ⟨h.1, 0, h.2⟩)
      obtain ⟨b, o, rfl, hbB, hcs⟩ := h2 (by omega)
      obtain ⟨x0, x1, x2, x3, x4⟩ := hcs k hlt
      have hin : 0 ≤ (k : Int) ∧ (k : Int) < all.length := by omega
      clear hcs h2 x1 x2 x3
      by_cases h4 : all[k].k = 4
      · rw [h4] at x0
        by_cases hb : trimL all[k].s.data.toList = []
        · rw [decide_eq_true hb] at hT
          have HST := hide (dw_step hlt (show blankP all[k] = true by simp [blankP, h4, hb]))
          clear hb h4
          go_wp2
          go_quiet ((go_at_call 56; exact Calls.quiet_of (hT _ ⟨_, rfl⟩)))
          have S1 := hide ((HS.out.drew nq).step (k + 1))
          have G1 := hide (grownR_set (grownR_drew HG.out nq) 1 (.int .i64 ((k + 1 : Nat) : Int)))
          have hc1' : (wr.drewN nq).cell? ⟨N, 1, none⟩ = some (.int .i64 k) := hc1
          have hfz' : ∀ j, (wr.drewN nq).frozen? ⟨N, j, none⟩ = false := hfz
          go_wp2
          go_roundw
          case rel => exact ⟨k + 1, by omega, by omega, HD.out.trans HST.out, S1.out, G1.out⟩
          case measure =>
            have e := S1.out.c1
            simp only [Int.natCast_add, Int.cast_ofNat_Int] at e
            rw [e, hc1]
            simp
            omega
        · rw [decide_eq_false hb] at hT
          have HST := hide (dw_stop hlt (show ¬ blankP all[k] = true by simp [blankP, hb]))
          clear hb h4
          go_wp2
          go_quiet ((go_at_call 56; exact Calls.quiet_of (hT _ ⟨_, rfl⟩)))
          go_wp2
          go_end0
          exact ⟨rfl, k, hk1, hk2, (HD.out.trans HST.out).symm, HS.out.drew _, grownR_drew HG.out _⟩
      · have HST := hide (dw_stop hlt (show ¬ blankP all[k] = true by simp [blankP, h4]))
        obtain ⟨kk, hkk⟩ : ∃ kk, all[k].k = kk := ⟨_, rfl⟩
        rw [hkk] at x0 h4
        have q4 : (kk == 4) = false := by rw [beq_eq_false_iff_ne]; exact h4
        have q5 : decide (kk = 4) = false := decide_eq_false h4
        have hd0 : ((k : Int) < all.length) := by omega
        clear h4 hkk hT
        go_wp2
        go_quiet (fail)
        go_wp2
        go_end0
        exact ⟨rfl, k, hk1, hk2, (HD.out.trans HST.out).symm, HS.out.drew _, grownR_drew HG.out _⟩
    · have hke : k = all.length := by omega
      have HST : Hid ((all.drop k).dropWhile blankP = all.drop k) := by show (all.drop k).dropWhile blankP = all.drop k; rw [hke]; simp
      have hlt' : decide (k < all.length) = false := decide_eq_false hlt
      clear hke h2
      go_wp2
      go_quiet (fail)
      go_wp2
      go_end0
      exact ⟨rfl, k, hk1, hk2, (HD.out.trans HST.out).symm, HS.out.drew _, grownR_drew HG.out _⟩
end Go.Proofs.YtccehdlgpbeijaaGreatDoor
