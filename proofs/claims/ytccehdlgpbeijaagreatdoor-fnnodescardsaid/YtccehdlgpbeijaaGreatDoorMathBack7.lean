/-
  Pieces come back of their texts, one behind the other: no program in sight.
-/
import Derived.Test.YtccehdlgpbeijaaGreatDoorRowsP
namespace Go.Proofs.YtccehdlgpbeijaaGreatDoor.M

theorem smB_name {l : List UInt8} (h : smB l = true) : ∀ x ∈ l, nameP x = true := by
  match l, h with
  | c :: r, h =>
    simp only [smB, Bool.and_eq_true] at h
    have h2 := h.2
    unfold allB at h2
    rw [List.all_eq_true] at h2
    exact h2
theorem nm_all {l : List UInt8} (h : ∀ x ∈ l, nameP x = true) (c : UInt8) (hc : nameP c = false) (r : List UInt8) : nmL (l ++ c :: r) = l ∧ nmR (l ++ c :: r) = c :: r := by
  induction l with
  | nil => simp [nmL, nmR, hc]
  | cons b l ih =>
    obtain ⟨i1, i2⟩ := ih (fun x hx => h x (List.mem_cons_of_mem _ hx))
    have hb := h b (List.mem_cons_self ..)
    simp only [nmL, nmR] at i1 i2 ⊢
    rw [List.cons_append, List.takeWhile_cons, List.dropWhile_cons, hb]
    simp [i1, i2]

theorem bytes_back (b : ByteArray) : bytesOf b.data.toList = b := by
  apply ByteArray.ext
  simp [bytesOf]

/-- A piece that is right. -/
def GoodP (p : Pce) : Prop :=
  (p.k = 2 ∧ smB p.name.data.toList = true ∧ p.ns = noB ∧ p.has = false ∧ p.s = noB) ∨
  ((p.k = 1 ∨ p.k = 3) ∧ smB p.name.data.toList = true ∧ p.ns.size ≤ 20 ∧ (p.has = false → p.ns = noB) ∧ p.s = noB) ∨
  (p.k = 4 ∧ p.name = noB ∧ p.ns = noB ∧ p.has = false ∧ p.s.data.toList ≠ [])

theorem nb_list : noB.data.toList = [] := rfl
theorem nb_of : bytesOf [] = noB := rfl

theorem spcL_has (ns r : List UInt8) (h : ns.length ≤ 20) : spcL (spcS ++ escL ns ++ [34] ++ r) = some ((true, ns), r) := by
  have h34 : ∀ x ∈ escL ns, x ≠ 34 := fun x hx => (escL_none ns x hx).2.1
  have e : spcS ++ escL ns ++ [34] ++ r = spcS ++ (escL ns ++ 34 :: r) := by simp
  obtain ⟨u1, u2⟩ := upTo_all h34 r
  unfold spcL
  rw [e]
  have hp : spcS.isPrefixOf (spcS ++ (escL ns ++ 34 :: r)) = true := by rw [List.isPrefixOf_iff_prefix]; exact List.prefix_append ..
  have hd : (spcS ++ (escL ns ++ 34 :: r)).drop 8 = escL ns ++ 34 :: r := by simp [spcS]
  rw [if_pos hp, hd, u1, u2, unesc_escL]
  simp [h]
theorem spcL_not (c : UInt8) (r : List UInt8) (hc : c ≠ 32) : spcL (c :: r) = some ((false, []), c :: r) := by
  unfold spcL
  have hp : spcS.isPrefixOf (c :: r) = false := by
    simp only [spcS, List.isPrefixOf]
    have : ((32 : UInt8) == c) = false := by simp [Ne.symm hc]
    rw [this]; rfl
  rw [if_neg (by simp [hp])]

theorem openL_back (p : Pce) (e r : List UInt8) (k : Int) (c0 : UInt8) (e0 : List UInt8) (he : e = c0 :: e0) (hn0 : nameP c0 = false) (h32 : c0 ≠ 32) (hsm : smB p.name.data.toList = true) (hns : p.ns.size ≤ 20) (hno : p.has = false → p.ns = noB)
    (hend : ∀ n sp, endM n sp (e ++ r) = some (openP k n sp, r)) : openL (p.name.data.toList ++ spcT p ++ e ++ r) = some (⟨k, p.name, p.ns, p.has, noB⟩, r) := by
  have hl : p.ns.data.toList.length = p.ns.size := Array.length_toList
  cases hh : p.has
  · have hns0 := hno hh
    have e1 : p.name.data.toList ++ spcT p ++ e ++ r = p.name.data.toList ++ c0 :: (e0 ++ r) := by simp [spcT, hh, he]
    obtain ⟨n1, n2⟩ := nm_all (smB_name hsm) c0 hn0 (e0 ++ r)
    unfold openL
    rw [e1, n1, n2, if_pos hsm, spcL_not _ _ h32]
    have h2 := hend p.name.data.toList (false, [])
    rw [he] at h2
    simp only [List.cons_append] at h2
    simp only [h2, openP, bytes_back, hns0]
    rfl
  · have e1 : p.name.data.toList ++ spcT p ++ e ++ r = p.name.data.toList ++ 32 :: ([120, 109, 108, 110, 115, 61, 34] ++ escL p.ns.data.toList ++ [34] ++ (e ++ r)) := by simp [spcT, hh, spcS]
    have e2 : (32 : UInt8) :: ([120, 109, 108, 110, 115, 61, 34] ++ escL p.ns.data.toList ++ [34] ++ (e ++ r)) = spcS ++ escL p.ns.data.toList ++ [34] ++ (e ++ r) := by simp [spcS]
    obtain ⟨n1, n2⟩ := nm_all (smB_name hsm) 32 (by decide) ([120, 109, 108, 110, 115, 61, 34] ++ escL p.ns.data.toList ++ [34] ++ (e ++ r))
    unfold openL
    rw [e1, n1, n2, if_pos hsm, e2, spcL_has _ _ (by omega)]
    simp only [hend, openP, bytes_back]

theorem isPre_false {c : UInt8} {a : UInt8} {l r : List UInt8} (h : c ≠ a) : (a :: l).isPrefixOf (c :: r) = false := by
  simp only [List.isPrefixOf]
  have : (a == c) = false := by simp [Ne.symm h]
  rw [this]; rfl

theorem smB_head {l : List UInt8} (h : smB l = true) : ∃ c r, l = c :: r ∧ isB (c.toNat : Int) 2 = true := by
  match l, h with
  | c :: r, h =>
    simp only [smB, Bool.and_eq_true] at h
    exact ⟨c, r, rfl, h.1.2⟩

theorem markL_open {l : List UInt8} (h : ∃ c r, l = c :: r ∧ isB (c.toNat : Int) 2 = true) : markL (60 :: l) = openL l := by
  obtain ⟨c, r, rfl, hc⟩ := h
  have h47 : c ≠ 47 := fun e => by subst e; exact absurd hc (by decide)
  have hp : ([60, 47] : List UInt8).isPrefixOf (60 :: c :: r) = false := by
    have := isPre_false (l := []) (r := r) h47
    simpa [List.isPrefixOf] using this
  unfold markL
  rw [if_neg (by simp [hp]), if_pos (by simp [List.isPrefixOf])]
  rfl

theorem markL_back (p : Pce) (r : List UInt8) (h : GoodP p) (hr : p.k = 4 → r = [] ∨ ∃ q, r = 60 :: q) : markL (markT p ++ r) = some (p, r) := by
  obtain ⟨k, name, ns, has, s⟩ := p
  rcases h with ⟨h1, h2, h3, h4, h5⟩ | ⟨h1, h2, h3, h4, h5⟩ | ⟨h1, h2, h3, h4, h5⟩
  · simp only at h1 h2 h3 h4 h5
    subst h1 h3 h4 h5
    have e : markT ⟨2, name, noB, false, noB⟩ ++ r = 60 :: 47 :: (name.data.toList ++ 62 :: r) := by simp [markT]
    obtain ⟨n1, n2⟩ := nm_all (smB_name h2) 62 (by decide) r
    rw [e]
    unfold markL
    rw [if_pos (by simp [List.isPrefixOf])]
    show closeL (name.data.toList ++ 62 :: r) = _
    unfold closeL
    rw [n1, n2, h2]
    simp [List.isPrefixOf, closeP, bytes_back]
  · simp only at h1 h2 h3 h4 h5
    subst h5
    rcases h1 with rfl | rfl
    · have e : markT ⟨1, name, ns, has, noB⟩ ++ r = 60 :: (name.data.toList ++ spcT ⟨1, name, ns, has, noB⟩ ++ [62] ++ r) := by simp [markT]
      rw [e, markL_open (by obtain ⟨c, q, hq, hc⟩ := smB_head h2; rw [hq]; exact ⟨c, _, rfl, hc⟩)]
      exact openL_back ⟨1, name, ns, has, noB⟩ [62] r 1 62 [] rfl (by decide) (by decide) h2 h3 h4 (fun n sp => by
        unfold endM
        rw [if_neg (by simp [List.isPrefixOf]), if_pos (by simp [List.isPrefixOf])]
        rfl)
    · have e : markT ⟨3, name, ns, has, noB⟩ ++ r = 60 :: (name.data.toList ++ spcT ⟨3, name, ns, has, noB⟩ ++ [47, 62] ++ r) := by simp [markT]
      rw [e, markL_open (by obtain ⟨c, q, hq, hc⟩ := smB_head h2; rw [hq]; exact ⟨c, _, rfl, hc⟩)]
      exact openL_back ⟨3, name, ns, has, noB⟩ [47, 62] r 3 47 [62] rfl (by decide) (by decide) h2 h3 h4 (fun n sp => by
        unfold endM
        rw [if_pos (by simp [List.isPrefixOf])]
        rfl)
  · simp only at h1 h2 h3 h4 h5
    subst h1 h2 h3 h4
    have e : markT ⟨4, noB, noB, false, s⟩ ++ r = escL s.data.toList ++ r := by simp [markT]
    have h60 : ∀ x ∈ escL s.data.toList, x ≠ 60 := fun x hx => (escL_none _ x hx).1
    have hne : ∃ c q, escL s.data.toList = c :: q := by
      cases he : escL s.data.toList with
      | nil =>
        have := unesc_escL s.data.toList
        rw [he, unesc_nil] at this
        exact absurd (Option.some.inj this).symm h5
      | cons c q => exact ⟨c, q, rfl⟩
    obtain ⟨c, q, hcq⟩ := hne
    have hc : c ≠ 60 := h60 c (by rw [hcq]; exact List.mem_cons_self ..)
    have hu : upTo 60 (escL s.data.toList ++ r) = escL s.data.toList ∧ fromB 60 (escL s.data.toList ++ r) = r := by
      rcases hr rfl with rfl | ⟨q', rfl⟩
      · rw [List.append_nil]; exact upTo_none h60
      · exact upTo_all h60 q'
    rw [e]
    unfold markL
    rw [if_neg (by rw [hcq]; simp [isPre_false hc]), if_neg (by rw [hcq]; simp [isPre_false hc])]
    unfold textL7
    rw [hu.1, hu.2, unesc_escL]
    simp [textP, bytes_back]

/-- Pieces that are right, no two texts beside each other. -/
def GoodL : List Pce → Prop
  | [] => True
  | p :: ps => GoodP p ∧ (p.k = 4 → ∀ q qs, ps = q :: qs → q.k ≠ 4) ∧ GoodL ps

theorem markT_ne {p : Pce} (h : GoodP p) : markT p ≠ [] := by
  rcases h with ⟨h1, _⟩ | ⟨h1 | h1, _⟩ | ⟨h1, _, _, _, h5⟩
  · simp [markT, h1]
  · simp [markT, h1]
  · simp [markT, h1]
  · simp only [markT, h1]
    intro he
    have he' : escL p.s.data.toList = [] := by simpa using he
    have := unesc_escL p.s.data.toList
    rw [he', unesc_nil] at this
    exact h5 (Option.some.inj this).symm
theorem markT_head {p : Pce} (h : GoodP p) (hk : p.k ≠ 4) : ∃ q, markT p = 60 :: q := by
  rcases h with ⟨h1, _⟩ | ⟨h1 | h1, _⟩ | ⟨h1, _⟩
  · exact ⟨47 :: (p.name.data.toList ++ [62]), by simp [markT, h1]⟩
  · exact ⟨p.name.data.toList ++ spcT p ++ [62], by simp [markT, h1]⟩
  · exact ⟨p.name.data.toList ++ spcT p ++ [47, 62], by simp [markT, h1]⟩
  · exact absurd h1 hk

theorem pcsL_back (ps : List Pce) (h : GoodL ps) : pcsL (ps.flatMap markT) = some ps := by
  induction ps with
  | nil => exact pcsL_nil
  | cons p ps ih =>
    obtain ⟨h1, h2, h3⟩ := h
    have hm := markL_back p (ps.flatMap markT) h1 (fun hk => by
      match ps, h2, h3 with
      | [], _, _ => exact .inl rfl
      | q :: qs, h2, h3 =>
        obtain ⟨x, hx⟩ := markT_head h3.1 (h2 hk q qs rfl)
        exact .inr ⟨x ++ qs.flatMap markT, by rw [List.flatMap_cons, hx]; rfl⟩)
    rw [List.flatMap_cons, pcsL_some (by intro e; exact markT_ne h1 (List.append_eq_nil_iff.1 e).1) hm, ih h3]
    rfl

theorem GoodL.snoc {ps : List Pce} {p : Pce} (h : GoodL ps) (hp : GoodP p) (hk : p.k = 4 → ∀ q, ps.getLast? = some q → q.k ≠ 4) : GoodL (ps ++ [p]) := by
  induction ps with
  | nil => exact ⟨hp, fun _ q qs e => by simp at e, trivial⟩
  | cons a ps ih =>
    obtain ⟨h1, h2, h3⟩ := h
    refine ⟨h1, ?_, ih h3 (fun hk4 q hq => hk hk4 q (by
      match ps, hq with
      | b :: bs, hq => rw [List.getLast?_cons_cons]; exact hq))⟩
    intro ha q qs hq
    match ps, h2, hq with
    | [], _, hq =>
      simp at hq
      obtain ⟨rfl, rfl⟩ := hq
      intro hp4
      exact hk hp4 a (by simp) ha
    | b :: bs, h2, hq =>
      simp at hq
      obtain ⟨rfl, rfl⟩ := hq
      exact h2 ha b bs rfl

/-- .. and all of it is plain. -/
def plainP (p : Pce) : Prop := allB p.name.data.toList [0] = true ∧ allB p.ns.data.toList [0] = true ∧ allB p.s.data.toList [0] = true
theorem allB_append (l m : List UInt8) (ks : List Int) : allB (l ++ m) ks = (allB l ks && allB m ks) := by simp [allB]
theorem escB_plain {c : UInt8} (h : anyB (c.toNat : Int) [0] = true) : allB (escB c) [0] = true := by
  unfold escB
  split; · decide
  split; · decide
  split; · decide
  split; · decide
  · simp [allB, h]
theorem escL_plain {l : List UInt8} (h : allB l [0] = true) : allB (escL l) [0] = true := by
  induction l with
  | nil => rfl
  | cons c r ih =>
    have h' : anyB (c.toNat : Int) [0] = true ∧ allB r [0] = true := by simpa [allB] using h
    rw [escL_cons, allB_append, escB_plain h'.1, ih h'.2]; rfl
theorem markT_plain {p : Pce} (h : plainP p) : allB (markT p) [0] = true := by
  obtain ⟨h1, h2, h3⟩ := h
  have hs : allB (spcT p) [0] = true := by
    unfold spcT
    split
    · rw [allB_append, allB_append, escL_plain h2]; decide
    · rfl
  have c1 : allB [60] [0] = true := by decide
  have c2 : allB [60, 47] [0] = true := by decide
  have c3 : allB [62] [0] = true := by decide
  have c4 : allB [47, 62] [0] = true := by decide
  unfold markT
  split; · simp only [allB_append, h1, hs, c1, c3, Bool.and_self]
  split; · simp only [allB_append, h1, c2, c3, Bool.and_self]
  split; · simp only [allB_append, h1, hs, c1, c4, Bool.and_self]
  · exact escL_plain h3
theorem flat_plain {ps : List Pce} (h : ∀ p ∈ ps, plainP p) : allB (ps.flatMap markT) [0] = true := by
  induction ps with
  | nil => rfl
  | cons p ps ih =>
    rw [List.flatMap_cons, allB_append, markT_plain (h p (List.mem_cons_self ..)), ih (fun q hq => h q (List.mem_cons_of_mem _ hq))]; rfl
theorem pcsR_back {ps : List Pce} (h : GoodL ps) (hp : ∀ p ∈ ps, plainP p) (hn : ps.length ≤ 60) : pcsR (ps.flatMap markT) = (ps, true) := by
  unfold pcsR
  rw [if_pos (flat_plain hp), pcsL_back ps h]
  simp [hn]
end Go.Proofs.YtccehdlgpbeijaaGreatDoor.M
