/-
  Plain facts on what GetReq answers: no program in sight.
-/
import Derived.Test.YtcgmokjnjmefpaaGreatDoorLower
import Derived.Test.YtcgmokjnjmefpaaGreatDoorMathCut
namespace Go.Proofs.YtcgmokjnjmefpaaGreatDoor.M

def lensOf (hs : List Hd) : List Hd := hs.filter fun h => decide (h.1 = lenName)
def codsOf (hs : List Hd) : List Hd := hs.filter fun h => decide (h.1 = codName)
def othOf (hs : List Hd) : List Hd := hs.filter fun h => !decide (h.1 = lenName) && !decide (h.1 = codName)
def numOk (h : Hd) : Bool := (parseNum h.2.data.toList 9999999).2
def numOf (h : Hd) : Nat := (parseNum h.2.data.toList 9999999).1.toNat
def inPcs : List UInt8 := [99, 104, 117, 110, 107, 101, 100]
def codOk (h : Hd) : Bool := decide (lowL h.2.data.toList = inPcs)
/-- The code of what is told of a body. -/
def frameC (hs : List Hd) : Int :=
  if 1 < (lensOf hs).length + (codsOf hs).length then 400
  else if (lensOf hs).all numOk = false then 400
  else if 8 < (othOf hs).length then 431
  else if (codsOf hs).all codOk = false then 501
  else if (lensOf hs).any (fun h => decide (200 < numOf h)) = true then 413 else 0
def lenF (hs : List Hd) : Nat := match lensOf hs with | [] => 0 | h :: _ => numOf h
def chkF (hs : List Hd) : Bool := !(codsOf hs).isEmpty
def zeroR : Rq := ⟨ByteArray.empty, ByteArray.empty, [], ByteArray.empty⟩
/-- The body, from a place on. -/
def bodyL (l : List UInt8) (e : Nat) (hs : List Hd) : List UInt8 × Nat × Int :=
  if chkF hs then chunksC l e else if l.length < e + lenF hs then ([], 0, 1) else ((l.drop e).take (lenF hs), e + lenF hs, 0)
/-- What GetReq answers. -/
def getR (l : List UInt8) : Rq × Nat × Int :=
  if heL l < 0 then (zeroR, 0, if l.length ≤ 400 then 1 else 431)
  else match readI (l.take ((heL l).toNat - 2)) with
  | none => (zeroR, 0, 400)
  | some (m, p, hs) =>
    if frameC hs ≠ 0 then (zeroR, 0, frameC hs)
    else if (bodyL l (heL l).toNat hs).2.2 ≠ 0 then (zeroR, 0, (bodyL l (heL l).toNat hs).2.2)
    else (⟨m, p, othOf hs, bytesOf (bodyL l (heL l).toNat hs).1⟩, (bodyL l (heL l).toNat hs).2.1, 0)

theorem getR_no {l : List UInt8} (h : heL l < 0) : getR l = (zeroR, 0, if l.length ≤ 400 then 1 else 431) := by unfold getR; rw [if_pos h]
theorem getR_form {l : List UInt8} (h : ¬ heL l < 0) (hr : readI (l.take ((heL l).toNat - 2)) = none) : getR l = (zeroR, 0, 400) := by unfold getR; rw [if_neg h, hr]
theorem getR_frame {l : List UInt8} {m p : ByteArray} {hs : List Hd} (h : ¬ heL l < 0) (hr : readI (l.take ((heL l).toNat - 2)) = some (m, p, hs)) (hf : frameC hs ≠ 0) : getR l = (zeroR, 0, frameC hs) := by unfold getR; rw [if_neg h, hr]; simp only; rw [if_pos hf]
theorem getR_body {l : List UInt8} {m p : ByteArray} {hs : List Hd} (h : ¬ heL l < 0) (hr : readI (l.take ((heL l).toNat - 2)) = some (m, p, hs)) (hf : frameC hs = 0) (hb : (bodyL l (heL l).toNat hs).2.2 ≠ 0) : getR l = (zeroR, 0, (bodyL l (heL l).toNat hs).2.2) := by
  unfold getR; rw [if_neg h, hr]; simp only; rw [if_neg (by rw [hf]; decide), if_pos hb]
theorem getR_good {l : List UInt8} {m p : ByteArray} {hs : List Hd} (h : ¬ heL l < 0) (hr : readI (l.take ((heL l).toNat - 2)) = some (m, p, hs)) (hf : frameC hs = 0) (hb : (bodyL l (heL l).toNat hs).2.2 = 0) : getR l = (⟨m, p, othOf hs, bytesOf (bodyL l (heL l).toNat hs).1⟩, (bodyL l (heL l).toNat hs).2.1, 0) := by
  unfold getR; rw [if_neg h, hr]; simp only; rw [if_neg (by rw [hf]; decide), if_neg (by rw [hb]; decide)]
/-- Which way it goes. -/
theorem getR_ways (l : List UInt8) : (heL l < 0) ∨ (¬ heL l < 0 ∧ readI (l.take ((heL l).toNat - 2)) = none) ∨ (∃ m p hs, ¬ heL l < 0 ∧ readI (l.take ((heL l).toNat - 2)) = some (m, p, hs) ∧ (frameC hs ≠ 0 ∨ (frameC hs = 0 ∧ (bodyL l (heL l).toNat hs).2.2 ≠ 0) ∨ (frameC hs = 0 ∧ (bodyL l (heL l).toNat hs).2.2 = 0))) := by
  by_cases h : heL l < 0
  · exact .inl h
  · cases hr : readI (l.take ((heL l).toNat - 2)) with
    | none => exact .inr (.inl ⟨h, rfl⟩)
    | some q =>
      obtain ⟨m, p, hs⟩ := q
      refine .inr (.inr ⟨m, p, hs, h, rfl, ?_⟩)
      by_cases hf : frameC hs = 0
      · by_cases hb : (bodyL l (heL l).toNat hs).2.2 = 0
        · exact .inr (.inr ⟨hf, hb⟩)
        · exact .inr (.inl ⟨hf, hb⟩)
      · exact .inl hf

theorem frame_zero {hs : List Hd} (h : frameC hs = 0) : ¬ 1 < (lensOf hs).length + (codsOf hs).length ∧ (lensOf hs).all numOk = true ∧ (othOf hs).length ≤ 8 ∧ (codsOf hs).all codOk = true ∧ (∀ x ∈ lensOf hs, numOf x ≤ 200) := by
  unfold frameC at h
  split at h
  · cases h
  · split at h
    · cases h
    · split at h
      · cases h
      · split at h
        · cases h
        · split at h
          · cases h
          · rename_i h1 h2 h3 h4 h5
            refine ⟨h1, by simpa using h2, by omega, by simpa using h4, fun x hx => ?_⟩
            simp only [List.any_eq_true, decide_eq_true_eq, not_exists, not_and, Nat.not_lt] at h5
            exact h5 x hx
theorem lenF_le {hs : List Hd} (h : frameC hs = 0) : lenF hs ≤ 200 := by
  obtain ⟨_, _, _, _, h5⟩ := frame_zero h
  unfold lenF
  cases hl : lensOf hs with
  | nil => simp
  | cons x r => exact h5 x (by rw [hl]; simp)

theorem headsI_ok : ∀ (f : Nat) (t : List UInt8) (hs : List Hd), headsI f t = some hs → ∀ h ∈ hs, hdB h = true := by
  intro f
  induction f with
  | zero => intro t hs h; cases h
  | succ f ih =>
    intro t hs h
    rw [headsI] at h
    split at h
    · cases h; simp
    · split at h
      · cases h
      · split at h
        · cases h
        · rename_i n t1 _ _ v t2 _
          split at h
          · rename_i hb
            cases hq : headsI f t2 with
            | none => rw [hq] at h; cases h
            | some q =>
              rw [hq] at h
              cases h
              intro x hx
              rcases List.mem_cons.1 hx with rfl | hx
              · exact hb
              · exact ih t2 q hq x hx
          · cases h
theorem readI_ok {t : List UInt8} {m p : ByteArray} {hs : List Hd} (h : readI t = some (m, p, hs)) : methB m = true ∧ targB p = true ∧ ∀ x ∈ hs, hdB x = true := by
  unfold readI at h
  split at h
  · cases h
  · split at h
    · rename_i hm
      split at h
      · cases h
      · split at h
        · rename_i hp
          split at h
          · cases h
          · rename_i v t3 _
            split at h
            · cases hq : headsI (t3.length + 1) t3 with
              | none => rw [hq] at h; cases h
              | some q =>
                rw [hq] at h
                cases h
                exact ⟨hm, hp, headsI_ok _ _ _ hq⟩
            · cases h
        · cases h
    · cases h
theorem bodyL_ok {l : List UInt8} {e : Nat} {hs : List Hd} (hf : frameC hs = 0) (h : (bodyL l e hs).2.2 = 0) : (bodyL l e hs).1.length ≤ 200 ∧ (bodyL l e hs).2.1 ≤ l.length := by
  have hle := lenF_le hf
  unfold bodyL at *
  split at h
  · rename_i hc
    rw [if_pos hc]
    unfold chunksC at *
    split at h
    · rename_i hi
      rw [if_pos hi]
      obtain ⟨h1, h2⟩ := getC_size _ _ _ h
      exact ⟨h2 (by simp), h1⟩
    · cases h
  · rename_i hc
    rw [if_neg hc]
    split at h
    · cases h
    · rename_i hl
      rw [if_neg hl]
      refine ⟨?_, by show e + lenF hs ≤ _; omega⟩
      simp only [List.length_take]
      omega
/-- What is read is right. -/
theorem getR_ok {l : List UInt8} (h : (getR l).2.2 = 0) : reqB (getR l).1 = true ∧ (getR l).2.1 ≤ l.length := by
  rcases getR_ways l with h1 | ⟨h1, h2⟩ | ⟨m, p, hs, h1, h2, h3⟩
  · rw [getR_no h1] at h
    exfalso
    simp only at h
    split at h <;> cases h
  · rw [getR_form h1 h2] at h; cases h
  · rcases h3 with h3 | ⟨h3, h4⟩ | ⟨h3, h4⟩
    · rw [getR_frame h1 h2 h3] at h; exact absurd h h3
    · rw [getR_body h1 h2 h3 h4] at h; exact absurd h h4
    · rw [getR_good h1 h2 h3 h4]
      obtain ⟨a1, a2, a3⟩ := readI_ok h2
      obtain ⟨b1, b2⟩ := bodyL_ok h3 h4
      obtain ⟨_, _, c3, _, _⟩ := frame_zero h3
      refine ⟨?_, b2⟩
      simp only [reqB, a1, a2, Bool.true_and, Bool.and_eq_true, decide_eq_true_eq]
      refine ⟨?_, ?_⟩
      · simp only [hdsB, Bool.and_eq_true, decide_eq_true_eq]
        refine ⟨?_, c3⟩
        rw [List.all_eq_true]
        intro x hx
        obtain ⟨hx1, hx2⟩ := List.mem_filter.1 hx
        simp only [hdFree, a3 x hx1, Bool.true_and]
        exact hx2
      · have : (bytesOf (bodyL l (heL l).toNat hs).1).size = (bodyL l (heL l).toNat hs).1.length := by simp [bytesOf, ByteArray.size]
        rw [this]; exact b1
theorem getR_bad {l : List UInt8} (h : (getR l).2.2 ≠ 0) : (getR l).1 = zeroR ∧ (getR l).2.1 = 0 := by
  rcases getR_ways l with h1 | ⟨h1, h2⟩ | ⟨m, p, hs, h1, h2, h3⟩
  · rw [getR_no h1]; exact ⟨rfl, rfl⟩
  · rw [getR_form h1 h2]; exact ⟨rfl, rfl⟩
  · rcases h3 with h3 | ⟨h3, h4⟩ | ⟨h3, h4⟩
    · rw [getR_frame h1 h2 h3]; exact ⟨rfl, rfl⟩
    · rw [getR_body h1 h2 h3 h4]; exact ⟨rfl, rfl⟩
    · rw [getR_good h1 h2 h3 h4] at h; exact absurd rfl h

theorem occ_take {s : List UInt8} {j k : Nat} (h : k + 4 ≤ j) : Lib.occAt (s.take j) two4 k = Lib.occAt s two4 k := by
  unfold Lib.occAt
  rw [prefix_take, prefix_take]
  have e : ((s.take j).drop k).take two4.length = (s.drop k).take two4.length := by
    rw [List.drop_take, List.take_take]
    congr 1
    show min 4 (j - k) = 4
    omega
  rw [e]
theorem occ_room {s : List UInt8} {k : Nat} (h : Lib.occAt s two4 k = true) : k + 4 ≤ s.length := by
  rcases Lib.occAt_room h with h | h
  · exact h
  · cases h
theorem idx_stay {s : List UInt8} {j : Nat} (h : 0 ≤ Lib.index (s.take j) two4) : Lib.index s two4 = Lib.index (s.take j) two4 := by
  rcases Lib.index_spec (s.take j) two4 with ⟨h1, _⟩ | ⟨k, h1, h2, h3, h4⟩
  · omega
  · have hr := occ_room h3
    rw [List.length_take] at hr
    rw [h1]
    refine Lib.index_first (by omega) (by rw [← occ_take (j := j) (by omega)]; exact h3) (fun i hi => ?_)
    rw [← occ_take (j := j) (by omega)]
    exact h4 i hi
theorem idx_here {s : List UInt8} {j k : Nat} (h : Lib.index s two4 = (k : Int)) (hj : k + 4 ≤ j) : Lib.index (s.take j) two4 = (k : Int) := by
  rcases Lib.index_spec s two4 with ⟨h1, _⟩ | ⟨i, h1, h2, h3, h4⟩
  · omega
  · obtain rfl : i = k := by omega
    have hr := occ_room h3
    exact Lib.index_first (by rw [List.length_take]; omega) (by rw [occ_take hj]; exact h3) (fun x hx => by rw [occ_take (by omega)]; exact h4 x hx)
theorem take_comm (l : List UInt8) (i : Nat) : (l.take i).take 400 = (l.take 400).take i := by rw [List.take_take, List.take_take, Nat.min_comm]
/-- A head's end stays. -/
theorem heL_stay {l : List UInt8} {i : Nat} (h : ¬ heL (l.take i) < 0) : heL l = heL (l.take i) := by
  have h0 : 0 ≤ Lib.index ((l.take 400).take i) two4 := by
    unfold heL at h
    rw [take_comm] at h
    split at h
    · assumption
    · omega
  have e := idx_stay h0
  unfold heL
  rw [take_comm, e]
theorem heL_here {l : List UInt8} {i : Nat} (h : ¬ heL l < 0) (hi : heL l ≤ i) : heL (l.take i) = heL l := by
  have h0 : 0 ≤ Lib.index (l.take 400) two4 := by
    unfold heL at h
    split at h
    · assumption
    · omega
  obtain ⟨k, hk⟩ := Int.eq_ofNat_of_zero_le h0
  have hL : heL l = k + 4 := by unfold heL; rw [if_pos h0, hk]
  have e := idx_here (j := i) (k := k) hk (by omega)
  unfold heL
  rw [take_comm, e, if_pos (by omega), if_pos h0, hk]
theorem heL_long {l : List UInt8} {i : Nat} (hi : 400 ≤ (l.take i).length) : heL l = heL (l.take i) := by
  rw [List.length_take] at hi
  unfold heL
  rw [List.take_take, Nat.min_eq_left (by omega)]

theorem bodyL_stay {l : List UInt8} {i e : Nat} {hs : List Hd} (he : e ≤ (l.take i).length) (h : (bodyL (l.take i) e hs).2.2 ≠ 1) : bodyL l e hs = bodyL (l.take i) e hs := by
  have hl := List.length_take (i := i) (l := l)
  unfold bodyL at *
  by_cases hc : chkF hs = true
  · rw [if_pos hc] at h ⊢
    rw [if_pos hc]
    unfold chunksC at *
    rw [if_pos ⟨by omega, by omega⟩] at h ⊢
    rw [if_pos ⟨by omega, by omega⟩]
    exact getC_stay _ _ _ h
  · rw [if_neg hc] at h ⊢
    rw [if_neg hc]
    by_cases hb : (l.take i).length < e + lenF hs
    · rw [if_pos hb] at h; exact absurd rfl h
    · rw [if_neg hb, if_neg (by omega), List.drop_take, List.take_take]
      congr 2
      omega
theorem bodyL_here {l : List UInt8} {i e : Nat} {hs : List Hd} (he : e ≤ l.length) (h : (bodyL l e hs).2.2 = 0) (hi : (bodyL l e hs).2.1 ≤ i) : e ≤ i ∧ bodyL (l.take i) e hs = bodyL l e hs := by
  have hl := List.length_take (i := i) (l := l)
  unfold bodyL at *
  by_cases hc : chkF hs = true
  · rw [if_pos hc] at h hi ⊢
    rw [if_pos hc]
    unfold chunksC at *
    rw [if_pos ⟨by omega, by omega⟩] at h hi
    have hb := getC_here.getC_end _ _ _ h
    rw [Int.toNat_natCast] at *
    have hei : e ≤ i := Nat.le_trans hb hi
    rw [if_pos ⟨by omega, by omega⟩, if_pos ⟨by omega, by omega⟩]
    exact ⟨by omega, getC_here _ _ _ h hi⟩
  · rw [if_neg hc] at h hi ⊢
    rw [if_neg hc]
    by_cases hb : l.length < e + lenF hs
    · rw [if_pos hb] at h; cases h
    · rw [if_neg hb] at hi ⊢
      simp only at hi
      rw [if_neg (by omega), List.drop_take, List.take_take]
      refine ⟨by omega, ?_⟩
      congr 2
      omega

/-- What does not ask for more stays, whatever comes. -/
theorem getR_stay {l : List UInt8} {i : Nat} (h : (getR (l.take i)).2.2 ≠ 1) : getR l = getR (l.take i) := by
  have hl := List.length_take (i := i) (l := l)
  rcases getR_ways (l.take i) with h1 | ⟨h1, h2⟩ | ⟨m, p, hs, h1, h2, h3⟩
  · rw [getR_no h1] at h
    have hlen : ¬ (l.take i).length ≤ 400 := by intro e; exact h (if_pos e)
    have e := heL_long (l := l) (i := i) (by omega)
    rw [getR_no h1, getR_no (by rw [e]; exact h1), if_neg hlen, if_neg (by omega)]
  · have e := heL_stay h1
    have hbd := heL_bd (l.take i)
    have et : (l.take i).take ((heL (l.take i)).toNat - 2) = l.take ((heL (l.take i)).toNat - 2) := by rw [List.take_take, Nat.min_eq_left (by omega)]
    rw [et] at h2
    rw [getR_form h1 (by rw [et]; exact h2), getR_form (by rw [e]; exact h1) (by rw [e]; exact h2)]
  · have e := heL_stay h1
    have hbd := heL_bd (l.take i)
    have et : (l.take i).take ((heL (l.take i)).toNat - 2) = l.take ((heL (l.take i)).toNat - 2) := by rw [List.take_take, Nat.min_eq_left (by omega)]
    have h2' : readI (l.take ((heL l).toNat - 2)) = some (m, p, hs) := by rw [e, ← et]; exact h2
    have h1' : ¬ heL l < 0 := by rw [e]; exact h1
    rcases h3 with h3 | ⟨h3, h4⟩ | ⟨h3, h4⟩
    · rw [getR_frame h1 h2 h3, getR_frame h1' h2' h3]
    · rw [getR_body h1 h2 h3 h4] at h
      have eb := bodyL_stay (l := l) (i := i) (e := (heL (l.take i)).toNat) (hs := hs) (by omega) h
      rw [getR_body h1 h2 h3 h4, getR_body h1' h2' h3 (by rw [e, eb]; exact h4), e, eb]
    · have eb := bodyL_stay (l := l) (i := i) (e := (heL (l.take i)).toNat) (hs := hs) (by omega) (by rw [h4]; decide)
      rw [getR_good h1 h2 h3 h4, getR_good h1' h2' h3 (by rw [e, eb]; exact h4), e, eb]
/-- What is all there is read, whatever is cut behind. -/
theorem getR_here {l : List UInt8} {i : Nat} (h : (getR l).2.2 = 0) (hi : (getR l).2.1 ≤ i) : getR (l.take i) = getR l := by
  rcases getR_ways l with h1 | ⟨h1, h2⟩ | ⟨m, p, hs, h1, h2, h3⟩
  · rw [getR_no h1] at h
    exfalso
    simp only at h
    split at h <;> cases h
  · rw [getR_form h1 h2] at h; cases h
  · rcases h3 with h3 | ⟨h3, h4⟩ | ⟨h3, h4⟩
    · rw [getR_frame h1 h2 h3] at h; exact absurd h h3
    · rw [getR_body h1 h2 h3 h4] at h; exact absurd h h4
    · rw [getR_good h1 h2 h3 h4] at hi
      have hbd := heL_bd l
      obtain ⟨he, eb⟩ := bodyL_here (l := l) (i := i) (e := (heL l).toNat) (hs := hs) (by omega) h4 hi
      have e := heL_here (i := i) h1 (by omega)
      have et : (l.take i).take ((heL l).toNat - 2) = l.take ((heL l).toNat - 2) := by rw [List.take_take, Nat.min_eq_left (by omega)]
      rw [getR_good h1 h2 h3 h4, getR_good (by rw [e]; exact h1) (by rw [e, et]; exact h2) h3 (by rw [e, eb]; exact h4), e, eb]
end Go.Proofs.YtcgmokjnjmefpaaGreatDoor.M
