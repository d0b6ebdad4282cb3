/-
  Plain facts on what GetReq answers: no program in sight.
  What is read of a wire: requests one behind the other; however the bytes were cut.
  Rows of heads that the call itself made: one more behind, and what they hold.
  A request that lies in a box of the call's own.
  Rows of heads that the call owns.
  Rows of requests that the call owns: one more behind, and what they hold; each request's heads lie in a row of its own.
  Two requests one behind the other are read back; a row of requests whose heads are only read.
  Plain facts on requests that are the same, and on texts that are.
  Two answers that are the same.
  Whether two heads are the same, as the language has it.
  Two lists of heads held against each other by the program.
  What the program's SameReq does.
-/
import Derived.Test.YtanebchmeaomgaaGreatDoorMathGet
import Derived.Test.YtanebchmeaomgaaGreatDoorMathCut
import Derived.WalkSmall
import Derived.Laws.OwnMore
import Derived.Laws.Append
import Derived.Laws.AppendOwn
import Derived.Maps.AppendAt
import Derived.Test.YtanebchmeaomgaaGreatDoorMathSmall
import Derived.Test.YtanebchmeaomgaaGreatDoorRows
import Derived.WalkKit
import Derived.Laws.StructEq
namespace Go.Proofs.YtanebchmeaomgaaGreatDoor.M

def lensOf (hs : List Hd) : List Hd := hs.filter fun h => decide (h.1 = lenName)
def codsOf (hs : List Hd) : List Hd := hs.filter fun h => decide (h.1 = codName)
def othOf (hs : List Hd) : List Hd := hs.filter fun h => !decide (h.1 = lenName) && !decide (h.1 = codName)
def numOk (h : Hd) : Bool := (parseNum h.2.data.toList 9999999).2
def numOf (h : Hd) : Nat := (parseNum h.2.data.toList 9999999).1.toNat
def inPcs : List UInt8 := [99, 104, 117, 110, 107, 101, 100]
def codOk (h : Hd) : Bool := decide (lowL h.2.data.toList = inPcs)
/-- The code of what is told of a body. -/
def frameC (hs : List Hd) : Int :=
  if 1 < (lensOf hs).length + (codsOf hs).length then 400
  else if (lensOf hs).all numOk = false then 400
  else if 8 < (othOf hs).length then 431
  else if (codsOf hs).all codOk = false then 501
  else if (lensOf hs).any (fun h => decide (200 < numOf h)) = true then 413 else 0
def lenF (hs : List Hd) : Nat := match lensOf hs with | [] => 0 | h :: _ => numOf h
def chkF (hs : List Hd) : Bool := !(codsOf hs).isEmpty
def zeroR : Rq := ⟨ByteArray.empty, ByteArray.empty, [], ByteArray.empty⟩
/-- The body, from a place on. -/
def bodyL (l : List UInt8) (e : Nat) (hs : List Hd) : List UInt8 × Nat × Int :=
  if chkF hs then chunksC l e else if l.length < e + lenF hs then ([], 0, 1) else ((l.drop e).take (lenF hs), e + lenF hs, 0)
/-- What GetReq answers. -/
def getR (l : List UInt8) : Rq × Nat × Int :=
  if heL l < 0 then (zeroR, 0, if l.length ≤ 400 then 1 else 431)
  else match readI (l.take ((heL l).toNat - 2)) with
  | none => (zeroR, 0, 400)
  | some (m, p, hs) =>
    if frameC hs ≠ 0 then (zeroR, 0, frameC hs)
    else if (bodyL l (heL l).toNat hs).2.2 ≠ 0 then (zeroR, 0, (bodyL l (heL l).toNat hs).2.2)
    else (⟨m, p, othOf hs, bytesOf (bodyL l (heL l).toNat hs).1⟩, (bodyL l (heL l).toNat hs).2.1, 0)

theorem getR_no {l : List UInt8} (h : heL l < 0) : getR l = (zeroR, 0, if l.length ≤ 400 then 1 else 431) := by unfold getR; rw [if_pos h]
theorem getR_form {l : List UInt8} (h : ¬ heL l < 0) (hr : readI (l.take ((heL l).toNat - 2)) = none) : getR l = (zeroR, 0, 400) := by unfold getR; rw [if_neg h, hr]
theorem getR_frame {l : List UInt8} {m p : ByteArray} {hs : List Hd} (h : ¬ heL l < 0) (hr : readI (l.take ((heL l).toNat - 2)) = some (m, p, hs)) (hf : frameC hs ≠ 0) : getR l = (zeroR, 0, frameC hs) := by unfold getR; rw [if_neg h, hr]; simp only; rw [if_pos hf]
theorem getR_body {l : List UInt8} {m p : ByteArray} {hs : List Hd} (h : ¬ heL l < 0) (hr : readI (l.take ((heL l).toNat - 2)) = some (m, p, hs)) (hf : frameC hs = 0) (hb : (bodyL l (heL l).toNat hs).2.2 ≠ 0) : getR l = (zeroR, 0, (bodyL l (heL l).toNat hs).2.2) := by
  unfold getR; rw [if_neg h, hr]; simp only; rw [if_neg (by rw [hf]; decide), if_pos hb]
theorem getR_good {l : List UInt8} {m p : ByteArray} {hs : List Hd} (h : ¬ heL l < 0) (hr : readI (l.take ((heL l).toNat - 2)) = some (m, p, hs)) (hf : frameC hs = 0) (hb : (bodyL l (heL l).toNat hs).2.2 = 0) : getR l = (⟨m, p, othOf hs, bytesOf (bodyL l (heL l).toNat hs).1⟩, (bodyL l (heL l).toNat hs).2.1, 0) := by
  unfold getR; rw [if_neg h, hr]; simp only; rw [if_neg (by rw [hf]; decide), if_neg (by rw [hb]; decide)]
/-- Which way it goes. -/
theorem getR_ways (l : List UInt8) : (heL l < 0) ∨ (¬ heL l < 0 ∧ readI (l.take ((heL l).toNat - 2)) = none) ∨ (∃ m p hs, ¬ heL l < 0 ∧ readI (l.take ((heL l).toNat - 2)) = some (m, p, hs) ∧ (frameC hs ≠ 0 ∨ (frameC hs = 0 ∧ (bodyL l (heL l).toNat hs).2.2 ≠ 0) ∨ (frameC hs = 0 ∧ (bodyL l (heL l).toNat hs).2.2 = 0))) := by
  by_cases h : heL l < 0
  · exact .inl h
  · cases hr : readI (l.take ((heL l).toNat - 2)) with
    | none => exact .inr (.inl ⟨h, rfl⟩)
    | some q =>
      obtain ⟨m, p, hs⟩ := q
      refine .inr (.inr ⟨m, p, hs, h, rfl, ?_⟩)
      by_cases hf : frameC hs = 0
      · by_cases hb : (bodyL l (heL l).toNat hs).2.2 = 0
        · exact .inr (.inr ⟨hf, hb⟩)
        · exact .inr (.inl ⟨hf, hb⟩)
      · exact .inl hf

theorem frame_zero {hs : List Hd} (h : frameC hs = 0) : ¬ 1 < (lensOf hs).length + (codsOf hs).length ∧ (lensOf hs).all numOk = true ∧ (othOf hs).length ≤ 8 ∧ (codsOf hs).all codOk = true ∧ (∀ x ∈ lensOf hs, numOf x ≤ 200) := by
  unfold frameC at h
  split at h
  · cases h
  · split at h
    · cases h
    · split at h
      · cases h
      · split at h
        · cases h
        · split at h
          · cases h
          · rename_i h1 h2 h3 h4 h5
            refine ⟨h1, by simpa using h2, by omega, by simpa using h4, fun x hx => ?_⟩
            simp only [List.any_eq_true, decide_eq_true_eq, not_exists, not_and, Nat.not_lt] at h5
            exact h5 x hx
theorem lenF_le {hs : List Hd} (h : frameC hs = 0) : lenF hs ≤ 200 := by
  obtain ⟨_, _, _, _, h5⟩ := frame_zero h
  unfold lenF
  cases hl : lensOf hs with
  | nil => simp
  | cons x r => exact h5 x (by rw [hl]; simp)

theorem headsI_ok : ∀ (f : Nat) (t : List UInt8) (hs : List Hd), headsI f t = some hs → ∀ h ∈ hs, hdB h = true := by
  intro f
  induction f with
  | zero => intro t hs h; cases h
  | succ f ih =>
    intro t hs h
    rw [headsI] at h
    split at h
    · cases h; simp
    · split at h
      · cases h
      · split at h
        · cases h
        · rename_i n t1 _ _ v t2 _
          split at h
          · rename_i hb
            cases hq : headsI f t2 with
            | none => rw [hq] at h; cases h
            | some q =>
              rw [hq] at h
              cases h
              intro x hx
              rcases List.mem_cons.1 hx with rfl | hx
              · exact hb
              · exact ih t2 q hq x hx
          · cases h
theorem readI_ok {t : List UInt8} {m p : ByteArray} {hs : List Hd} (h : readI t = some (m, p, hs)) : methB m = true ∧ targB p = true ∧ ∀ x ∈ hs, hdB x = true := by
  unfold readI at h
  split at h
  · cases h
  · split at h
    · rename_i hm
      split at h
      · cases h
      · split at h
        · rename_i hp
          split at h
          · cases h
          · rename_i v t3 _
            split at h
            · cases hq : headsI (t3.length + 1) t3 with
              | none => rw [hq] at h; cases h
              | some q =>
                rw [hq] at h
                cases h
                exact ⟨hm, hp, headsI_ok _ _ _ hq⟩
            · cases h
        · cases h
    · cases h
theorem bodyL_ok {l : List UInt8} {e : Nat} {hs : List Hd} (hf : frameC hs = 0) (h : (bodyL l e hs).2.2 = 0) : (bodyL l e hs).1.length ≤ 200 ∧ (bodyL l e hs).2.1 ≤ l.length := by
  have hle := lenF_le hf
  unfold bodyL at *
  split at h
  · rename_i hc
    rw [if_pos hc]
    unfold chunksC at *
    split at h
    · rename_i hi
      rw [if_pos hi]
      obtain ⟨h1, h2⟩ := getC_size _ _ _ h
      exact ⟨h2 (by simp), h1⟩
    · cases h
  · rename_i hc
    rw [if_neg hc]
    split at h
    · cases h
    · rename_i hl
      rw [if_neg hl]
      refine ⟨?_, by show e + lenF hs ≤ _; omega⟩
      simp only [List.length_take]
      omega
/-- What is read is right. -/
theorem getR_ok {l : List UInt8} (h : (getR l).2.2 = 0) : reqB (getR l).1 = true ∧ (getR l).2.1 ≤ l.length := by
  rcases getR_ways l with h1 | ⟨h1, h2⟩ | ⟨m, p, hs, h1, h2, h3⟩
  · rw [getR_no h1] at h
    exfalso
    simp only at h
    split at h <;> cases h
  · rw [getR_form h1 h2] at h; cases h
  · rcases h3 with h3 | ⟨h3, h4⟩ | ⟨h3, h4⟩
    · rw [getR_frame h1 h2 h3] at h; exact absurd h h3
    · rw [getR_body h1 h2 h3 h4] at h; exact absurd h h4
    · rw [getR_good h1 h2 h3 h4]
      obtain ⟨a1, a2, a3⟩ := readI_ok h2
      obtain ⟨b1, b2⟩ := bodyL_ok h3 h4
      obtain ⟨_, _, c3, _, _⟩ := frame_zero h3
      refine ⟨?_, b2⟩
      simp only [reqB, a1, a2, Bool.true_and, Bool.and_eq_true, decide_eq_true_eq]
      refine ⟨?_, ?_⟩
      · simp only [hdsB, Bool.and_eq_true, decide_eq_true_eq]
        refine ⟨?_, c3⟩
        rw [List.all_eq_true]
        intro x hx
        obtain ⟨hx1, hx2⟩ := List.mem_filter.1 hx
        simp only [hdFree, a3 x hx1, Bool.true_and]
        exact hx2
      · have : (bytesOf (bodyL l (heL l).toNat hs).1).size = (bodyL l (heL l).toNat hs).1.length := by simp [bytesOf, ByteArray.size]
        rw [this]; exact b1
theorem getR_bad {l : List UInt8} (h : (getR l).2.2 ≠ 0) : (getR l).1 = zeroR ∧ (getR l).2.1 = 0 := by
  rcases getR_ways l with h1 | ⟨h1, h2⟩ | ⟨m, p, hs, h1, h2, h3⟩
  · rw [getR_no h1]; exact ⟨rfl, rfl⟩
  · rw [getR_form h1 h2]; exact ⟨rfl, rfl⟩
  · rcases h3 with h3 | ⟨h3, h4⟩ | ⟨h3, h4⟩
    · rw [getR_frame h1 h2 h3]; exact ⟨rfl, rfl⟩
    · rw [getR_body h1 h2 h3 h4]; exact ⟨rfl, rfl⟩
    · rw [getR_good h1 h2 h3 h4] at h; exact absurd rfl h

theorem occ_take {s : List UInt8} {j k : Nat} (h : k + 4 ≤ j) : Lib.occAt (s.take j) two4 k = Lib.occAt s two4 k := by
  unfold Lib.occAt
  rw [prefix_take, prefix_take]
  have e : ((s.take j).drop k).take two4.length = (s.drop k).take two4.length := by
    rw [List.drop_take, List.take_take]
    congr 1
    show min 4 (j - k) = 4
    omega
  rw [e]
theorem occ_room {s : List UInt8} {k : Nat} (h : Lib.occAt s two4 k = true) : k + 4 ≤ s.length := by
  rcases Lib.occAt_room h with h | h
  · exact h
  · cases h
theorem idx_stay {s : List UInt8} {j : Nat} (h : 0 ≤ Lib.index (s.take j) two4) : Lib.index s two4 = Lib.index (s.take j) two4 := by
  rcases Lib.index_spec (s.take j) two4 with ⟨h1, _⟩ | ⟨k, h1, h2, h3, h4⟩
  · omega
  · have hr := occ_room h3
    rw [List.length_take] at hr
    rw [h1]
    refine Lib.index_first (by omega) (by rw [← occ_take (j := j) (by omega)]; exact h3) (fun i hi => ?_)
    rw [← occ_take (j := j) (by omega)]
    exact h4 i hi
theorem idx_here {s : List UInt8} {j k : Nat} (h : Lib.index s two4 = (k : Int)) (hj : k + 4 ≤ j) : Lib.index (s.take j) two4 = (k : Int) := by
  rcases Lib.index_spec s two4 with ⟨h1, _⟩ | ⟨i, h1, h2, h3, h4⟩
  · omega
  · obtain rfl : i = k := by omega
    have hr := occ_room h3
    exact Lib.index_first (by rw [List.length_take]; omega) (by rw [occ_take hj]; exact h3) (fun x hx => by rw [occ_take (by omega)]; exact h4 x hx)
theorem take_comm (l : List UInt8) (i : Nat) : (l.take i).take 400 = (l.take 400).take i := by rw [List.take_take, List.take_take, Nat.min_comm]
/-- A head's end stays. -/
theorem heL_stay {l : List UInt8} {i : Nat} (h : ¬ heL (l.take i) < 0) : heL l = heL (l.take i) := by
  have h0 : 0 ≤ Lib.index ((l.take 400).take i) two4 := by
    unfold heL at h
    rw [take_comm] at h
    split at h
    · assumption
    · omega
  have e := idx_stay h0
  unfold heL
  rw [take_comm, e]
theorem heL_here {l : List UInt8} {i : Nat} (h : ¬ heL l < 0) (hi : heL l ≤ i) : heL (l.take i) = heL l := by
  have h0 : 0 ≤ Lib.index (l.take 400) two4 := by
    unfold heL at h
    split at h
    · assumption
    · omega
  obtain ⟨k, hk⟩ := Int.eq_ofNat_of_zero_le h0
  have hL : heL l = k + 4 := by unfold heL; rw [if_pos h0, hk]
  have e := idx_here (j := i) (k := k) hk (by omega)
  unfold heL
  rw [take_comm, e, if_pos (by omega), if_pos h0, hk]
theorem heL_long {l : List UInt8} {i : Nat} (hi : 400 ≤ (l.take i).length) : heL l = heL (l.take i) := by
  rw [List.length_take] at hi
  unfold heL
  rw [List.take_take, Nat.min_eq_left (by omega)]

theorem bodyL_stay {l : List UInt8} {i e : Nat} {hs : List Hd} (he : e ≤ (l.take i).length) (h : (bodyL (l.take i) e hs).2.2 ≠ 1) : bodyL l e hs = bodyL (l.take i) e hs := by
  have hl := List.length_take (i := i) (l := l)
  unfold bodyL at *
  by_cases hc : chkF hs = true
  · rw [if_pos hc] at h ⊢
    rw [if_pos hc]
    unfold chunksC at *
    rw [if_pos ⟨by omega, by omega⟩] at h ⊢
    rw [if_pos ⟨by omega, by omega⟩]
    exact getC_stay _ _ _ h
  · rw [if_neg hc] at h ⊢
    rw [if_neg hc]
    by_cases hb : (l.take i).length < e + lenF hs
    · rw [if_pos hb] at h; exact absurd rfl h
    · rw [if_neg hb, if_neg (by omega), List.drop_take, List.take_take]
      congr 2
      omega
theorem bodyL_here {l : List UInt8} {i e : Nat} {hs : List Hd} (he : e ≤ l.length) (h : (bodyL l e hs).2.2 = 0) (hi : (bodyL l e hs).2.1 ≤ i) : e ≤ i ∧ bodyL (l.take i) e hs = bodyL l e hs := by
  have hl := List.length_take (i := i) (l := l)
  unfold bodyL at *
  by_cases hc : chkF hs = true
  · rw [if_pos hc] at h hi ⊢
    rw [if_pos hc]
    unfold chunksC at *
    rw [if_pos ⟨by omega, by omega⟩] at h hi
    have hb := getC_here.getC_end _ _ _ h
    rw [Int.toNat_natCast] at *
    have hei : e ≤ i := Nat.le_trans hb hi
    rw [if_pos ⟨by omega, by omega⟩, if_pos ⟨by omega, by omega⟩]
    exact ⟨by omega, getC_here _ _ _ h hi⟩
  · rw [if_neg hc] at h hi ⊢
    rw [if_neg hc]
    by_cases hb : l.length < e + lenF hs
    · rw [if_pos hb] at h; cases h
    · rw [if_neg hb] at hi ⊢
      simp only at hi
      rw [if_neg (by omega), List.drop_take, List.take_take]
      refine ⟨by omega, ?_⟩
      congr 2
      omega

/-- What does not ask for more stays, whatever comes. -/
theorem getR_stay {l : List UInt8} {i : Nat} (h : (getR (l.take i)).2.2 ≠ 1) : getR l = getR (l.take i) := by
  have hl := List.length_take (i := i) (l := l)
  rcases getR_ways (l.take i) with h1 | ⟨h1, h2⟩ | ⟨m, p, hs, h1, h2, h3⟩
  · rw [getR_no h1] at h
    have hlen : ¬ (l.take i).length ≤ 400 := by intro e; exact h (if_pos e)
    have e := heL_long (l := l) (i := i) (by omega)
    rw [getR_no h1, getR_no (by rw [e]; exact h1), if_neg hlen, if_neg (by omega)]
  · have e := heL_stay h1
    have hbd := heL_bd (l.take i)
    have et : (l.take i).take ((heL (l.take i)).toNat - 2) = l.take ((heL (l.take i)).toNat - 2) := by rw [List.take_take, Nat.min_eq_left (by omega)]
    rw [et] at h2
    rw [getR_form h1 (by rw [et]; exact h2), getR_form (by rw [e]; exact h1) (by rw [e]; exact h2)]
  · have e := heL_stay h1
    have hbd := heL_bd (l.take i)
    have et : (l.take i).take ((heL (l.take i)).toNat - 2) = l.take ((heL (l.take i)).toNat - 2) := by rw [List.take_take, Nat.min_eq_left (by omega)]
    have h2' : readI (l.take ((heL l).toNat - 2)) = some (m, p, hs) := by rw [e, ← et]; exact h2
    have h1' : ¬ heL l < 0 := by rw [e]; exact h1
    rcases h3 with h3 | ⟨h3, h4⟩ | ⟨h3, h4⟩
    · rw [getR_frame h1 h2 h3, getR_frame h1' h2' h3]
    · rw [getR_body h1 h2 h3 h4] at h
      have eb := bodyL_stay (l := l) (i := i) (e := (heL (l.take i)).toNat) (hs := hs) (by omega) h
      rw [getR_body h1 h2 h3 h4, getR_body h1' h2' h3 (by rw [e, eb]; exact h4), e, eb]
    · have eb := bodyL_stay (l := l) (i := i) (e := (heL (l.take i)).toNat) (hs := hs) (by omega) (by rw [h4]; decide)
      rw [getR_good h1 h2 h3 h4, getR_good h1' h2' h3 (by rw [e, eb]; exact h4), e, eb]
/-- What is all there is read, whatever is cut behind. -/
theorem getR_here {l : List UInt8} {i : Nat} (h : (getR l).2.2 = 0) (hi : (getR l).2.1 ≤ i) : getR (l.take i) = getR l := by
  rcases getR_ways l with h1 | ⟨h1, h2⟩ | ⟨m, p, hs, h1, h2, h3⟩
  · rw [getR_no h1] at h
    exfalso
    simp only at h
    split at h <;> cases h
  · rw [getR_form h1 h2] at h; cases h
  · rcases h3 with h3 | ⟨h3, h4⟩ | ⟨h3, h4⟩
    · rw [getR_frame h1 h2 h3] at h; exact absurd h h3
    · rw [getR_body h1 h2 h3 h4] at h; exact absurd h h4
    · rw [getR_good h1 h2 h3 h4] at hi
      have hbd := heL_bd l
      obtain ⟨he, eb⟩ := bodyL_here (l := l) (i := i) (e := (heL l).toNat) (hs := hs) (by omega) h4 hi
      have e := heL_here (i := i) h1 (by omega)
      have et : (l.take i).take ((heL l).toNat - 2) = l.take ((heL l).toNat - 2) := by rw [List.take_take, Nat.min_eq_left (by omega)]
      rw [getR_good h1 h2 h3 h4, getR_good (by rw [e]; exact h1) (by rw [e, et]; exact h2) h3 (by rw [e, eb]; exact h4), e, eb]
end Go.Proofs.YtanebchmeaomgaaGreatDoor.M
namespace Go.Proofs.YtanebchmeaomgaaGreatDoor.M
set_option linter.unusedVariables false

theorem getR_nil : getR [] = (zeroR, 0, 1) := by
  rw [getR_no (show heL [] < 0 by decide)]; rfl
theorem getR_pos {l : List UInt8} (h : (getR l).2.2 = 0) : 0 < (getR l).2.1 := by
  rcases Nat.eq_zero_or_pos (getR l).2.1 with e | e
  · have h1 := getR_here (i := 0) h (by omega)
    rw [List.take_zero, getR_nil] at h1
    rw [← h1] at h
    exact absurd h (by decide)
  · exact e

/-- What is read of bytes: requests, what is left, and why nothing more is read (0: there may be more). -/
def drainL (l : List UInt8) : List Rq × List UInt8 × Int :=
  if h : (getR l).2.2 = 0 then ((getR l).1 :: (drainL (l.drop (getR l).2.1)).1, (drainL (l.drop (getR l).2.1)).2)
  else if (getR l).2.2 = 1 then ([], l, 0) else ([], [], (getR l).2.2)
termination_by l.length
decreasing_by
  all_goals
    have h1 := getR_pos h
    have h2 := (getR_ok h).2
    rw [List.length_drop]
    omega
theorem drain_good {l : List UInt8} (h : (getR l).2.2 = 0) : drainL l = ((getR l).1 :: (drainL (l.drop (getR l).2.1)).1, (drainL (l.drop (getR l).2.1)).2) := by
  rw [drainL, dif_pos h]
theorem drain_more {l : List UInt8} (h : (getR l).2.2 = 1) : drainL l = ([], l, 0) := by
  rw [drainL, dif_neg (by rw [h]; decide), if_pos h]
theorem drain_bad {l : List UInt8} (h : (getR l).2.2 ≠ 0) (h1 : (getR l).2.2 ≠ 1) : drainL l = ([], [], (getR l).2.2) := by
  rw [drainL, dif_neg h, if_neg h1]
theorem drain_nil : drainL [] = ([], [], 0) := drain_more (by rw [getR_nil])

/-- All that is read of it is right; there is no more of it than bytes; what is left is no longer. -/
theorem drain_all (n : Nat) : ∀ l : List UInt8, l.length ≤ n → (∀ r ∈ (drainL l).1, reqB r = true) ∧ (drainL l).1.length ≤ l.length ∧ (drainL l).2.1.length ≤ l.length := by
  induction n with
  | zero =>
    intro l hl
    obtain rfl : l = [] := List.length_eq_zero_iff.1 (by omega)
    rw [drain_nil]
    exact ⟨(fun r h => by cases h), Nat.le_refl _, Nat.le_refl _⟩
  | succ n ih =>
    intro l hl
    by_cases h : (getR l).2.2 = 0
    · have h1 := getR_pos h
      have h2 := (getR_ok h).2
      obtain ⟨i1, i2, i3⟩ := ih (l.drop (getR l).2.1) (by rw [List.length_drop]; omega)
      rw [List.length_drop] at i2 i3
      rw [drain_good h]
      refine ⟨fun r hr => ?_, by simp only [List.length_cons]; omega, by show (drainL (l.drop (getR l).2.1)).2.1.length ≤ _; omega⟩
      rcases List.mem_cons.1 hr with rfl | hr
      · exact (getR_ok h).1
      · exact i1 r hr
    · by_cases h1 : (getR l).2.2 = 1
      · rw [drain_more h1]
        exact ⟨(fun r h => by cases h), Nat.zero_le _, Nat.le_refl _⟩
      · rw [drain_bad h h1]
        exact ⟨(fun r h => by cases h), Nat.zero_le _, Nat.zero_le _⟩

/-- What a wire is behind it, and what was read. -/
def feedM (buf : List UInt8) (bad : Int) (b : List UInt8) : List Rq × List UInt8 × Int :=
  if bad = 0 then drainL (buf ++ b) else ([], buf, bad)
theorem feedM_bad {buf b : List UInt8} {bad : Int} (h : bad ≠ 0) : feedM buf bad b = ([], buf, bad) := by unfold feedM; rw [if_neg h]
theorem feedM_good (buf b : List UInt8) : feedM buf 0 b = drainL (buf ++ b) := by unfold feedM; rw [if_pos rfl]
theorem feedM_all (buf : List UInt8) (bad : Int) (b : List UInt8) : (∀ r ∈ (feedM buf bad b).1, reqB r = true) ∧ (feedM buf bad b).1.length ≤ buf.length + b.length ∧ (feedM buf bad b).2.1.length ≤ buf.length + b.length := by
  by_cases h : bad = 0
  · subst h
    rw [feedM_good]
    have := drain_all _ (buf ++ b) (Nat.le_refl _)
    rwa [List.length_append] at this
  · rw [feedM_bad h]
    exact ⟨(fun r h => by cases h), Nat.zero_le _, Nat.le_add_right _ _⟩
/-- All pieces, one behind the other. -/
def feedsM : List (List UInt8) → List UInt8 → Int → List Rq × List UInt8 × Int
  | [], buf, bad => ([], buf, bad)
  | b :: ls, buf, bad => ((feedM buf bad b).1 ++ (feedsM ls (feedM buf bad b).2.1 (feedM buf bad b).2.2).1, (feedsM ls (feedM buf bad b).2.1 (feedM buf bad b).2.2).2)

theorem feedsM_snoc : ∀ (ls : List (List UInt8)) (b buf : List UInt8) (bad : Int), feedsM (ls ++ [b]) buf bad = ((feedsM ls buf bad).1 ++ (feedM (feedsM ls buf bad).2.1 (feedsM ls buf bad).2.2 b).1, (feedM (feedsM ls buf bad).2.1 (feedsM ls buf bad).2.2 b).2)
  | [], b, buf, bad => by simp [feedsM]
  | x :: ls, b, buf, bad => by
    have ih := feedsM_snoc ls b (feedM buf bad x).2.1 (feedM buf bad x).2.2
    show ((feedM buf bad x).1 ++ (feedsM (ls ++ [b]) (feedM buf bad x).2.1 (feedM buf bad x).2.2).1, (feedsM (ls ++ [b]) (feedM buf bad x).2.1 (feedM buf bad x).2.2).2) = _
    rw [ih]
    show _ = (((feedM buf bad x).1 ++ (feedsM ls (feedM buf bad x).2.1 (feedM buf bad x).2.2).1) ++ _, _)
    rw [List.append_assoc]
    rfl
theorem drain_count (n : Nat) : ∀ l : List UInt8, l.length ≤ n → (drainL l).1.length + (drainL l).2.1.length ≤ l.length := by
  induction n with
  | zero =>
    intro l hl
    obtain rfl : l = [] := List.length_eq_zero_iff.1 (by omega)
    rw [drain_nil]
    exact Nat.le_refl _
  | succ n ih =>
    intro l hl
    by_cases h : (getR l).2.2 = 0
    · have h1 := getR_pos h
      have h2 := (getR_ok h).2
      have i1 := ih (l.drop (getR l).2.1) (by rw [List.length_drop]; omega)
      rw [List.length_drop] at i1
      rw [drain_good h]
      simp only [List.length_cons]
      omega
    · by_cases h1 : (getR l).2.2 = 1
      · rw [drain_more h1]; simp
      · rw [drain_bad h h1]; simp
theorem feedM_count (buf : List UInt8) (bad : Int) (b : List UInt8) : (feedM buf bad b).1.length + (feedM buf bad b).2.1.length ≤ buf.length + b.length := by
  by_cases h : bad = 0
  · subst h
    rw [feedM_good]
    have := drain_count _ (buf ++ b) (Nat.le_refl _)
    rwa [List.length_append] at this
  · rw [feedM_bad h]
    simp
theorem feedsM_all : ∀ (ls : List (List UInt8)) (buf : List UInt8) (bad : Int), (∀ r ∈ (feedsM ls buf bad).1, reqB r = true) ∧ (feedsM ls buf bad).1.length + (feedsM ls buf bad).2.1.length ≤ buf.length + ls.flatten.length
  | [], buf, bad => ⟨(fun r h => by cases h), by simp [feedsM]⟩
  | b :: ls, buf, bad => by
    obtain ⟨i1, i2⟩ := feedsM_all ls (feedM buf bad b).2.1 (feedM buf bad b).2.2
    have h1 := (feedM_all buf bad b).1
    have h2 := feedM_count buf bad b
    refine ⟨fun r hr => ?_, ?_⟩
    · rcases List.mem_append.1 hr with hr | hr
      · exact h1 r hr
      · exact i1 r hr
    · show ((feedM buf bad b).1 ++ (feedsM ls (feedM buf bad b).2.1 (feedM buf bad b).2.2).1).length + (feedsM ls (feedM buf bad b).2.1 (feedM buf bad b).2.2).2.1.length ≤ _
      rw [List.length_append, List.flatten_cons, List.length_append]
      omega

theorem getR_more_of {l : List UInt8} (m : List UInt8) (h : (getR l).2.2 ≠ 1) : getR (l ++ m) = getR l := by
  have e : (l ++ m).take l.length = l := List.take_left
  have := getR_stay (l := l ++ m) (i := l.length) (by rw [e]; exact h)
  rwa [e] at this
theorem drain_append (n : Nat) : ∀ (l m : List UInt8), l.length ≤ n → drainL (l ++ m) = ((drainL l).1 ++ (feedM (drainL l).2.1 (drainL l).2.2 m).1, (feedM (drainL l).2.1 (drainL l).2.2 m).2) := by
  induction n with
  | zero =>
    intro l m hl
    obtain rfl : l = [] := List.length_eq_zero_iff.1 (by omega)
    rw [drain_nil]
    show _ = (([] : List Rq) ++ (feedM [] 0 m).1, (feedM [] 0 m).2)
    rw [feedM_good]
    rfl
  | succ n ih =>
    intro l m hl
    by_cases h : (getR l).2.2 = 0
    · have h1 := getR_pos h
      have h2 := (getR_ok h).2
      have e := getR_more_of m (by rw [h]; decide)
      have i1 := ih (l.drop (getR l).2.1) m (by rw [List.length_drop]; omega)
      rw [drain_good (by rw [e]; exact h), e, List.drop_append_of_le_length h2, i1, drain_good h]
      rfl
    · by_cases h1 : (getR l).2.2 = 1
      · rw [drain_more h1]
        show _ = (([] : List Rq) ++ (feedM l 0 m).1, (feedM l 0 m).2)
        rw [feedM_good]
        rfl
      · have e := getR_more_of m h1
        rw [drain_bad (by rw [e]; exact h) (by rw [e]; exact h1), e, drain_bad h h1]
        show _ = (([] : List Rq) ++ (feedM [] (getR l).2.2 m).1, (feedM [] (getR l).2.2 m).2)
        rw [feedM_bad h]
        rfl
/-- However bytes are cut, the same requests are read, and the same is left. -/
theorem feedsM_flat : ∀ (ls : List (List UInt8)) (buf : List UInt8), (getR buf).2.2 = 1 → feedsM ls buf 0 = drainL (buf ++ ls.flatten) := by
  suffices H : ∀ (ls : List (List UInt8)) (l : List UInt8), feedsM ls (drainL l).2.1 (drainL l).2.2 = (((feedM (drainL l).2.1 (drainL l).2.2 ls.flatten).1), (feedM (drainL l).2.1 (drainL l).2.2 ls.flatten).2) by
    intro ls buf h
    have := H ls buf
    rw [drain_more h] at this
    rw [this]
    show ((feedM buf 0 _).1, (feedM buf 0 _).2) = _
    rw [feedM_good]
  intro ls
  induction ls with
  | nil =>
    intro l
    have := drain_append l.length l [] (Nat.le_refl _)
    rw [List.append_nil] at this
    show ([], (drainL l).2.1, (drainL l).2.2) = _
    have e1 := congrArg Prod.fst this
    have e2 := congrArg Prod.snd this
    simp only at e1 e2
    have e3 : (feedM (drainL l).2.1 (drainL l).2.2 []).1 = [] := by
      have := congrArg List.length e1
      rw [List.length_append] at this
      exact List.length_eq_zero_iff.1 (by omega)
    rw [List.flatten_nil, e3, ← e2]
  | cons b ls ih =>
    intro l
    have h1 := drain_append l.length l b (Nat.le_refl _)
    have h2 := drain_append l.length l (b ++ ls.flatten) (Nat.le_refl _)
    have h3 := drain_append (l ++ b).length (l ++ b) ls.flatten (Nat.le_refl _)
    have h4 := ih (l ++ b)
    rw [List.append_assoc, h2, h1] at h3
    rw [h1] at h4
    simp only at h3 h4
    have e1 := congrArg Prod.fst h3
    have e2 := congrArg Prod.snd h3
    simp only [List.append_assoc] at e1 e2
    have e1' := List.append_cancel_left e1
    rw [List.flatten_cons]
    show ((feedM (drainL l).2.1 (drainL l).2.2 b).1 ++ (feedsM ls (feedM (drainL l).2.1 (drainL l).2.2 b).2.1 (feedM (drainL l).2.1 (drainL l).2.2 b).2.2).1, (feedsM ls (feedM (drainL l).2.1 (drainL l).2.2 b).2.1 (feedM (drainL l).2.1 (drainL l).2.2 b).2.2).2) = _
    rw [h4, e1', e2]
end Go.Proofs.YtanebchmeaomgaaGreatDoor.M
namespace Go.Proofs.YtanebchmeaomgaaGreatDoor
open Go.RowKit M
set_option linter.unusedVariables false

def hdCells (hs : List Hd) : List Value := hs.flatMap fun h => [.string h.1, .string h.2]
theorem hdCells_length (hs : List Hd) : (hdCells hs).length = hs.length * 2 := by
  induction hs with
  | nil => rfl
  | cons h r ih => simp only [hdCells, List.flatMap_cons, List.length_append, List.length_cons, List.length_nil] at *; omega
theorem hdCells_append (hs ts : List Hd) : hdCells (hs ++ ts) = hdCells hs ++ hdCells ts := by simp [hdCells]
theorem hdCells_at (hs : List Hd) : ∀ j (hj : j < hs.length), (hdCells hs)[j * 2]? = some (.string hs[j].1) ∧ (hdCells hs)[j * 2 + 1]? = some (.string hs[j].2) := by
  induction hs with
  | nil => intro j hj; cases hj
  | cons h r ih =>
    intro j hj
    have e : hdCells (h :: r) = .string h.1 :: .string h.2 :: hdCells r := rfl
    rw [e]
    cases j with
    | zero => exact ⟨rfl, rfl⟩
    | succ j =>
      have h1 := ih j (by simpa using hj)
      have e1 : (j + 1) * 2 = j * 2 + 1 + 1 := by omega
      rw [e1]
      simp only [List.getElem?_cons_succ, List.getElem_cons_succ]
      exact h1

theorem infoHd : (Tryz.prog.info? 82).map (fun i => (i.zero, i.size, i.bytes)) = some (some (.agg #[.string ByteArray.empty, .string ByteArray.empty]), 2, 32) := by kernel_rfl

/-- A row that the call owns stays where only new memory is laid. -/
theorem ownsH_below {B : Nat} {v : Value} {n : Nat} {xs : List Value} {w w' : World} (h : w.ownsRow B 82 2 v n xs) (hb : Below w.heap.size w w') : w'.ownsRow B 82 2 v n xs :=
  h.kept (row := none) ⟨hb.os, hb.tape, hb.output, hb.size, fun k hk _ => hb.block k hk⟩ (Classical.em _)
theorem belowH_grown {w w' : World} {B n : Nat} {v : Value} {xs : List Value} (h : w.ownsRow B 82 2 v n xs) (hB : B ≤ w.heap.size) (hg : w.grownBy w' v.ownBlock) : Below B w w' :=
  ⟨hg.os, hg.tape, hg.output, hg.size, fun k hk => hg.block k (Nat.lt_of_lt_of_le hk hB) (fun e => by have := h.lt k e.symm; omega)⟩

/-- 'l = append(l, h)' on a row of heads that the call owns. -/
theorem wp_append_head {w : World} {ops : Array Oper} {rest : List Oper} {o : Oper} {a : Act} {Q : Exit → Act → World → Prop} (hgd : o.guard = none) (s x : Operand)
    (ho : o.op = .call { callee := .builtin .append, args := #[s, x], argTypes := #[37, 37] })
    (B : Nat) (v : Value) (n : Nat) (l : List Hd) (hs : a.eval s = v) (hown : w.ownsRow B 82 2 v n (hdCells l))
    (N : Nat) (c : Hd) (hx : a.eval x = .slice (some ⟨N, 0, none⟩) 1 1) (hc0 : w.cell? ⟨N, 0, none⟩ = some (.string c.1)) (hc1 : w.cell? ⟨N, 1, none⟩ = some (.string c.2)) (hlen : n + 1 ≤ 1099511627776) (hB : B ≤ w.heap.size)
    (h : ∀ g cap w', w'.ownsRow B 82 2 (.slice (some ⟨g, 0, none⟩) (n + 1) cap) (n + 1) (hdCells (l ++ [c])) → Below B w w' → wpList Tryz.prog ops Q rest (a.put o.dst (.slice (some ⟨g, 0, none⟩) (n + 1) cap)) w') : wpList Tryz.prog ops Q (o :: rest) a w := by
  obtain ⟨i0, hi, hz0, hz1, hz2⟩ := info_parts infoHd
  refine wpList_append_own w hgd s x 37 ho B 82 i0 _ 2 32 Tryz.underlying37 hi hz0 hz1 hz2 rfl (by decide) v n _ hs hown ⟨N, 0, none⟩ 1 1 [.string c.1, .string c.2] hx rfl ?_ ?_ ?_ ?_ hB ?_
  · intro j u hj
    have e : ∀ k, (⟨N, 0, none⟩ : Addr).add k = ⟨N, k, none⟩ := fun k => by unfold Addr.add; split <;> simp_all
    rw [e]
    match j, hj with
    | 0, hj => simp at hj; subst hj; exact hc0
    | 1, hj => simp at hj; subst hj; exact hc1
  · intro u hu; simp at hu; rcases hu with rfl | rfl <;> rfl
  · unfold maxLen; omega
  · omega
  · intro v' w' ho' hg _
    obtain ⟨g, cap, rfl⟩ : ∃ g cap, v' = .slice (some ⟨g, 0, none⟩) (n + 1) cap := by
      rcases ho'.2 with ⟨_, h0⟩ | ⟨g, cap, cur, hv, _⟩
      · omega
      · exact ⟨g, cap, hv⟩
    refine h g cap w' ?_ (belowH_grown hown hB hg)
    rw [hdCells_append]
    exact ho'

theorem ownsH_hds {w : World} {B g n c : Nat} {hs : List Hd} (h : w.ownsRow B 82 2 (.slice (some ⟨g, 0, none⟩) n c) n (hdCells hs)) (hn : n = hs.length) : Hds w w.heap.size (some ⟨g, 0, none⟩) hs := fun h0 =>
  ⟨g, 0, rfl, (h.lt g rfl).2, fun j hj => by
    have hx := hdCells_at hs j hj
    have hl := hdCells_length hs
    rw [Nat.zero_add]
    exact ⟨by rw [h.cellAt (j * 2) (by omega)]; exact hx.1, by rw [h.cellAt (j * 2 + 1) (by omega)]; exact hx.2⟩⟩
theorem ownsH_cap {w : World} {B g n c : Nat} {xs : List Value} (h : w.ownsRow B 82 2 (.slice (some ⟨g, 0, none⟩) n c) n xs) : n ≤ c ∧ c ≤ maxLen := by
  rcases h.2 with ⟨e, _⟩ | ⟨g', cap', cur, hv, _, _, h1, h2, _⟩
  · cases e
  · cases hv; exact ⟨h1, h2⟩
theorem ownsH_grown {w w' : World} {B N g n c : Nat} {xs : List Value} (h : w.ownsRow B 82 2 (.slice (some ⟨g, 0, none⟩) n c) n xs) (hg : w.grownBy w' (some N)) (hN : N < B) : w'.ownsRow B 82 2 (.slice (some ⟨g, 0, none⟩) n c) n xs :=
  h.kept hg (.inr (by have := (h.lt g rfl).1; simp [Value.ownBlock]; omega))

/-- Few short heads. -/
def FewH (n : Nat) (hs : List Hd) : Prop := hs.length ≤ n ∧ ∀ h ∈ hs, h.1.size ≤ 60 ∧ h.2.size ≤ 60
theorem FewH.snoc {n : Nat} {hs : List Hd} {h : Hd} (H : FewH n hs) (h1 : h.1.size ≤ 60) (h2 : h.2.size ≤ 60) : FewH (n + 1) (hs ++ [h]) := ⟨by have := H.1; simp; omega, fun x hx => by
  rcases List.mem_append.1 hx with hx | hx
  · exact H.2 x hx
  · simp at hx; subst hx; exact ⟨h1, h2⟩⟩
theorem FewH.mono {n m : Nat} {hs : List Hd} (h : FewH n hs) (hm : n ≤ m) : FewH m hs := ⟨Nat.le_trans h.1 hm, h.2⟩
theorem FewH.short {n : Nat} {hs : List Hd} (h : FewH n hs) : ShortH hs := fun x hx => ⟨Nat.le_trans (h.2 x hx).1 (by decide), Nat.le_trans (h.2 x hx).2 (by decide)⟩
end Go.Proofs.YtanebchmeaomgaaGreatDoor
namespace Go.Proofs.YtanebchmeaomgaaGreatDoor
open Go.RowKit M

/-- The box N holds this request. -/
def BoxR (w : World) (N : Nat) (a : Option Addr) (cap : Nat) (r : Rq) : Prop :=
  N < w.heap.size ∧ w.cell? ⟨N, 0, none⟩ = some (.string r.m) ∧ w.cell? ⟨N, 1, none⟩ = some (.string r.p) ∧ w.cell? ⟨N, 2, none⟩ = some (.slice a r.hs.length cap) ∧ w.cell? ⟨N, 3, none⟩ = some (.string r.b)

theorem BoxR.below {w w' : World} {N C : Nat} {a : Option Addr} {cap : Nat} {r : Rq} (h : BoxR w N a cap r) (hb : Below C w w') (hC : N < C) : BoxR w' N a cap r := by
  obtain ⟨h0, h1, h2, h3, h4⟩ := h
  exact ⟨Nat.lt_of_lt_of_le h0 hb.size, (hb.cell (p := ⟨N, 0, none⟩) hC).trans h1, (hb.cell (p := ⟨N, 1, none⟩) hC).trans h2, (hb.cell (p := ⟨N, 2, none⟩) hC).trans h3, (hb.cell (p := ⟨N, 3, none⟩) hC).trans h4⟩
theorem BoxR.next {w w' : World} {N : Nat} {a : Option Addr} {cap : Nat} {r : Rq} (h : BoxR w N a cap r) (hb : Below w.heap.size w w') : BoxR w' N a cap r := h.below hb h.1

theorem BoxR.made (w : World) (a : Option Addr) (cap : Nat) (r : Rq) (T : TypeId) : BoxR (w.alloc (Obj.cells #[Value.string r.m, Value.string r.p, Value.slice a r.hs.length cap, Value.string r.b] T)) w.heap.size a cap r := ⟨by simp, by simp, by simp, by simp, by simp⟩
theorem BoxR.alloc {w : World} {N : Nat} {a : Option Addr} {cap : Nat} {r : Rq} (h : BoxR w N a cap r) (o : Obj) : BoxR (w.alloc o) N a cap r := h.next ((Below.refl _ _).alloc (Nat.le_refl _) _)
theorem Hds.alloc {w : World} {B : Nat} {a : Option Addr} {hs : List Hd} (h : Hds w B a hs) (hB : B ≤ w.heap.size) (o : Obj) : Hds (w.alloc o) B a hs := h.below ((Below.refl w.heap.size w).alloc (Nat.le_refl _) o) hB

/-- The cells of two boxes, one by one. -/
theorem keep8 {w : World} {N M : Nat} {a b : Option Addr} {cap cap' : Nat} {r q : Rq} (hx : BoxR w N a cap r) (hy : BoxR w M b cap' q) :
    w.cell? ⟨N, 0, none⟩ = some (.string r.m) ∧ w.cell? ⟨N, 1, none⟩ = some (.string r.p) ∧ w.cell? ⟨N, 2, none⟩ = some (.slice a r.hs.length cap) ∧ w.cell? ⟨N, 3, none⟩ = some (.string r.b) ∧ w.cell? ⟨M, 0, none⟩ = some (.string q.m) ∧ w.cell? ⟨M, 1, none⟩ = some (.string q.p) ∧ w.cell? ⟨M, 2, none⟩ = some (.slice b q.hs.length cap') ∧ w.cell? ⟨M, 3, none⟩ = some (.string q.b) := by
  obtain ⟨_, h1, h2, h3, h4⟩ := hx
  obtain ⟨_, g1, g2, g3, g4⟩ := hy
  exact ⟨h1, h2, h3, h4, g1, g2, g3, g4⟩
theorem keep4 {w : World} {N : Nat} {a : Option Addr} {cap : Nat} {r : Rq} (hx : BoxR w N a cap r) :
    w.cell? ⟨N, 0, none⟩ = some (.string r.m) ∧ w.cell? ⟨N, 1, none⟩ = some (.string r.p) ∧ w.cell? ⟨N, 2, none⟩ = some (.slice a r.hs.length cap) ∧ w.cell? ⟨N, 3, none⟩ = some (.string r.b) := by
  obtain ⟨_, h1, h2, h3, h4⟩ := hx
  exact ⟨h1, h2, h3, h4⟩
theorem BoxR.drew {w : World} {N : Nat} {a : Option Addr} {cap : Nat} {r : Rq} (h : BoxR w N a cap r) : BoxR w.drew N a cap r := h
theorem below_drew {w w' : World} {C : Nat} (h : Below C w w') : Below C w w'.drew := ⟨h.os, h.tape, h.output, h.size, h.block⟩
theorem Hds.drew {w : World} {B : Nat} {a : Option Addr} {hs : List Hd} (h : Hds w B a hs) : Hds w.drew B a hs := h

/-- The box N holds this head. -/
def BoxH (w : World) (N : Nat) (x y : ByteArray) : Prop := N < w.heap.size ∧ w.cell? ⟨N, 0, none⟩ = some (.string x) ∧ w.cell? ⟨N, 1, none⟩ = some (.string y)
theorem BoxH.next {w w' : World} {N : Nat} {x y : ByteArray} (h : BoxH w N x y) (hb : Below w.heap.size w w') : BoxH w' N x y :=
  ⟨Nat.lt_of_lt_of_le h.1 hb.size, (hb.cell (p := ⟨N, 0, none⟩) h.1).trans h.2.1, (hb.cell (p := ⟨N, 1, none⟩) h.1).trans h.2.2⟩
theorem BoxH.made (w : World) (x y : ByteArray) (T : TypeId) : BoxH (w.alloc (Obj.cells #[Value.string x, Value.string y] T)) w.heap.size x y := ⟨by simp, by simp, by simp⟩
end Go.Proofs.YtanebchmeaomgaaGreatDoor
namespace Go.Proofs.YtanebchmeaomgaaGreatDoor
open Go.RowKit M
set_option linter.unusedVariables false

/-- 'l = append(l, h)', and where the row lies then. -/
theorem wp_append_head2 {w : World} {ops : Array Oper} {rest : List Oper} {o : Oper} {a : Act} {Q : Exit → Act → World → Prop} (hgd : o.guard = none) (s x : Operand)
    (ho : o.op = .call { callee := .builtin .append, args := #[s, x], argTypes := #[37, 37] })
    (B : Nat) (v : Value) (n : Nat) (l : List Hd) (hs : a.eval s = v) (hown : w.ownsRow B 82 2 v n (hdCells l))
    (N : Nat) (c : Hd) (hx : a.eval x = .slice (some ⟨N, 0, none⟩) 1 1) (hc0 : w.cell? ⟨N, 0, none⟩ = some (.string c.1)) (hc1 : w.cell? ⟨N, 1, none⟩ = some (.string c.2)) (hlen : n + 1 ≤ 1099511627776) (hB : B ≤ w.heap.size)
    (h : ∀ g cap w', w'.ownsRow B 82 2 (.slice (some ⟨g, 0, none⟩) (n + 1) cap) (n + 1) (hdCells (l ++ [c])) → w.grownBy w' v.ownBlock → (v.ownBlock = some g ∨ g = w.heap.size) → wpList Tryz.prog ops Q rest (a.put o.dst (.slice (some ⟨g, 0, none⟩) (n + 1) cap)) w') : wpList Tryz.prog ops Q (o :: rest) a w := by
  obtain ⟨i0, hi, hz0, hz1, hz2⟩ := info_parts infoHd
  have hnews : ∀ j u, [Value.string c.1, Value.string c.2][j]? = some u → w.cell? ((⟨N, 0, none⟩ : Addr).add j) = some u := by
    intro j u hj
    have e : ∀ k, (⟨N, 0, none⟩ : Addr).add k = ⟨N, k, none⟩ := fun k => by unfold Addr.add; split <;> simp_all
    rw [e]
    match j, hj with
    | 0, hj => simp at hj; subst hj; exact hc0
    | 1, hj => simp at hj; subst hj; exact hc1
  have hone : ∀ u ∈ [Value.string c.1, Value.string c.2], u.oneCell' = true := by
    intro u hu; simp at hu; rcases hu with rfl | rfl <;> rfl
  have hex := run_append_own (P := Tryz.prog) w B 37 o.type 82 i0 _ 2 32 Tryz.underlying37 hi hz0 hz1 hz2 rfl (by decide) v n _ hown ⟨N, 0, none⟩ 1 1 [.string c.1, .string c.2] rfl hnews hone (by unfold maxLen; omega) (by omega) hB
  obtain ⟨v', w', hrun, ho', hg, _⟩ := hex
  obtain ⟨g, cap, rfl⟩ : ∃ g cap, v' = .slice (some ⟨g, 0, none⟩) (n + 1) cap := by
    rcases ho'.2 with ⟨_, h0⟩ | ⟨g, cap, cur, hv, _⟩
    · omega
    · exact ⟨g, cap, hv⟩
  have hwhere : v.ownBlock = some g ∨ g = w.heap.size := by
    rcases hown.2 with ⟨rfl, h0⟩ | ⟨g1, cap1, cur1, rfl, hg1, hh1, hn1, hm1, hs1, ht1⟩
    · right
      have hr := run_append_nil (P := Tryz.prog) w 37 o.type 82 i0 _ Tryz.underlying37 hi hz0 ⟨N, 0, none⟩ 1 1 [.string c.1, .string c.2] (by rw [hz1]; rfl) hnews (by decide) (by decide) (by rw [hz2]; decide)
      rw [hr] at hrun
      have := congrArg (fun r => match r with | Result.ok (Value.slice (some a) _ _) _ => a.block | _ => 0) hrun
      exact this.symm
    · by_cases hroom : n + 1 ≤ cap1
      · left
        have hr := run_append_room (P := Tryz.prog) w 37 o.type 82 i0 Tryz.underlying37 hi g1 n cap1 cur1 hh1 ⟨N, 0, none⟩ 1 1 [.string c.1, .string c.2] (by rw [hz1]; rfl) hnews hone hroom (by rw [hz1, hs1]; simp only [List.length_cons, List.length_nil]; omega)
        rw [hr] at hrun
        have := congrArg (fun r => match r with | Result.ok (Value.slice (some a) _ _) _ => a.block | _ => 0) hrun
        have : g1 = g := this
        rw [← this]; rfl
      · right
        have hr := run_append_grow (P := Tryz.prog) w 37 o.type 82 i0 _ Tryz.underlying37 hi hz0 ⟨g1, 0, none⟩ n cap1 (hdCells l) (by rw [hz1]; exact hown.1) (fun j u hu => hown.cells (g := g1) rfl j u hu) ⟨N, 0, none⟩ 1 1 [.string c.1, .string c.2] (by rw [hz1]; rfl) hnews (by omega) (by omega) (by rw [hz2]; exact growslice_fits (by omega) (by omega))
        rw [hr] at hrun
        have := congrArg (fun r => match r with | Result.ok (Value.slice (some a) _ _) _ => a.block | _ => 0) hrun
        exact this.symm
  refine wpList_plain hgd fun K hK => ?_
  unfold Oper.wp execOp
  simp only [ho, resolve, invoke, builtin, Sem.run_bind, Sem.run_pure, Result.andThen_ok, List.map_toArray, List.map_cons, List.map_nil, hs, hx, hrun]
  exact hK _ _ (h g cap w' (by rw [hdCells_append]; exact ho') hg hwhere)
/-- Two rows that do not lie in one block. -/
def ApartV (v v' : Value) : Prop := v.ownBlock = none ∨ v.ownBlock ≠ v'.ownBlock
theorem ApartV.symm {v v' : Value} (h : ApartV v v') : ApartV v' v := by
  rcases h with h | h
  · cases hv : v'.ownBlock with
    | none => exact .inl hv
    | some k => exact .inr (by rw [hv, h]; simp)
  · cases hv : v'.ownBlock with
    | none => exact .inl hv
    | some k => exact .inr (fun e => h e.symm)
/-- A row of heads. -/
def RowsH (w : World) (B : Nat) (v : Value) (hs : List Hd) : Prop := w.ownsRow B 82 2 v hs.length (hdCells hs)
theorem ApartV.grown {w : World} {B g n cap : Nat} {v v2 : Value} {hs : List Hd} (h : ApartV v v2) (h2 : RowsH w B v2 hs) (hw : v.ownBlock = some g ∨ g = w.heap.size) : ApartV (.slice (some ⟨g, 0, none⟩) n cap) v2 := by
  right
  intro e
  have e' : v2.ownBlock = some g := e.symm
  rcases hw with hw | hw
  · rcases h with h | h
    · rw [hw] at h; cases h
    · exact h (by rw [hw, e'])
  · have := (World.ownsRow.lt h2 g e').2
    omega
theorem RowsH.kept {w w' : World} {B : Nat} {v v2 : Value} {hs : List Hd} (h : RowsH w B v2 hs) (ha : ApartV v v2) (hg : w.grownBy w' v.ownBlock) : RowsH w' B v2 hs :=
  World.ownsRow.kept h hg (by
    rcases ha.symm with h | h
    · exact .inl h
    · exact .inr h)
/-- A row of heads as a slice that is read. -/
theorem RowsH.hds {w : World} {B : Nat} {v : Value} {hs : List Hd} (h : RowsH w B v hs) : ∃ a c, v = .slice a hs.length c ∧ Hds w w.heap.size a hs := by
  rcases h.2 with ⟨e, h0⟩ | ⟨g, cap, cur, e, _⟩
  · have : hs = [] := List.length_eq_zero_iff.1 h0
    subst this
    exact ⟨none, 0, e, fun h => absurd h (Nat.lt_irrefl _)⟩
  · subst e
    exact ⟨_, _, rfl, ownsH_hds h rfl⟩
theorem RowsH.base {w : World} {B C : Nat} {v : Value} {hs : List Hd} (h : RowsH w B v hs) (hC : C ≤ B) : RowsH w C v hs := by
  refine ⟨h.1, ?_⟩
  rcases h.2 with h | ⟨g, cap, cur, e, hB, hr⟩
  · exact .inl h
  · exact .inr ⟨g, cap, cur, e, Nat.le_trans hC hB, hr⟩
end Go.Proofs.YtanebchmeaomgaaGreatDoor
namespace Go.Proofs.YtanebchmeaomgaaGreatDoor
open Go.RowKit M
set_option linter.unusedVariables false

/-- A request, and the slice of its heads. -/
abbrev Rv := Rq × Value
def rvCells (qs : List Rv) : List Value := qs.flatMap fun q => [.string q.1.m, .string q.1.p, q.2, .string q.1.b]
theorem rvCells_length (qs : List Rv) : (rvCells qs).length = qs.length * 4 := by
  induction qs with
  | nil => rfl
  | cons h r ih => simp only [rvCells, List.flatMap_cons, List.length_append, List.length_cons, List.length_nil] at *; omega
theorem rvCells_append (qs ts : List Rv) : rvCells (qs ++ ts) = rvCells qs ++ rvCells ts := by simp [rvCells]
theorem rvCells_at (qs : List Rv) : ∀ j (hj : j < qs.length), (rvCells qs)[j * 4]? = some (.string qs[j].1.m) ∧ (rvCells qs)[j * 4 + 1]? = some (.string qs[j].1.p) ∧ (rvCells qs)[j * 4 + 2]? = some qs[j].2 ∧ (rvCells qs)[j * 4 + 3]? = some (.string qs[j].1.b) := by
  induction qs with
  | nil => intro j hj; cases hj
  | cons h r ih =>
    intro j hj
    have e : rvCells (h :: r) = .string h.1.m :: .string h.1.p :: h.2 :: .string h.1.b :: rvCells r := rfl
    rw [e]
    cases j with
    | zero => exact ⟨rfl, rfl, rfl, rfl⟩
    | succ j =>
      have h1 := ih j (by simpa using hj)
      have e1 : (j + 1) * 4 = j * 4 + 1 + 1 + 1 + 1 := by omega
      have e2 : (j + 1) * 4 + 1 = j * 4 + 1 + 1 + 1 + 1 + 1 := by omega
      have e3 : (j + 1) * 4 + 2 = j * 4 + 2 + 1 + 1 + 1 + 1 := by omega
      have e4 : (j + 1) * 4 + 3 = j * 4 + 3 + 1 + 1 + 1 + 1 := by omega
      rw [e2, e3, e4, e1]
      simp only [List.getElem?_cons_succ, List.getElem_cons_succ]
      exact h1

theorem infoRq : (Tryz.prog.info? 39).map (fun i => (i.zero, i.size, i.bytes)) = some (some (.agg #[.string ByteArray.empty, .string ByteArray.empty, .slice none 0 0, .string ByteArray.empty]), 4, 72) := by kernel_rfl

/-- A row of requests, and each one's heads, all of the call's own, from B on, each in a block of its own. -/
structure RowsQ (w : World) (B : Nat) (v : Value) (qs : List Rv) : Prop where
  own : w.ownsRow B 39 4 v qs.length (rvCells qs)
  heads : ∀ q ∈ qs, RowsH w B q.2 q.1.hs
  apart : ∀ q ∈ qs, ApartV q.2 v
  pair : qs.Pairwise fun a b => ApartV a.2 b.2
theorem RowsQ.nul (w : World) (B : Nat) : RowsQ w B (.slice none 0 0) [] := ⟨World.ownsRow_nil _ _ _ _, (fun q h => by cases h), (fun q h => by cases h), List.Pairwise.nil⟩
theorem RowsQ.same {w w' : World} {B : Nat} {v : Value} {qs : List Rv} (h : RowsQ w B v qs) (hb : ∀ k, B ≤ k → k < w.heap.size → w'.heap[k]? = w.heap[k]?) : RowsQ w' B v qs := by
  refine ⟨⟨h.own.1, ?_⟩, fun q hq => ?_, h.apart, h.pair⟩
  · rcases h.own.2 with h | ⟨g, cap, cur, e, hB, hh, hr⟩
    · exact .inl h
    · exact .inr ⟨g, cap, cur, e, hB, (hb g hB (Array.getElem?_eq_some_iff.1 hh).1).trans hh, hr⟩
  · have h1 := h.heads q hq
    refine ⟨h1.1, ?_⟩
    rcases h1.2 with h | ⟨g, cap, cur, e, hB, hh, hr⟩
    · exact .inl h
    · exact .inr ⟨g, cap, cur, e, hB, (hb g hB (Array.getElem?_eq_some_iff.1 hh).1).trans hh, hr⟩
theorem RowsQ.next {w w' : World} {B : Nat} {v : Value} {qs : List Rv} (h : RowsQ w B v qs) (hb : Below w.heap.size w w') : RowsQ w' B v qs := h.same (fun k _ hk => hb.block k hk)
theorem RowsQ.base {w : World} {B C : Nat} {v : Value} {qs : List Rv} (h : RowsQ w B v qs) (hC : C ≤ B) : RowsQ w C v qs := by
  refine ⟨⟨h.own.1, ?_⟩, fun q hq => (h.heads q hq).base hC, h.apart, h.pair⟩
  rcases h.own.2 with h | ⟨g, cap, cur, e, hB, hr⟩
  · exact .inl h
  · exact .inr ⟨g, cap, cur, e, Nat.le_trans hC hB, hr⟩
/-- A store into a block below. -/
theorem RowsQ.store {w : World} {B : Nat} {v : Value} {qs : List Rv} (h : RowsQ w B v qs) {N : Nat} (hN : N < B) (o : Nat) (u : Value) : RowsQ (w.setCell ⟨N, o, none⟩ u) B v qs :=
  h.same (fun k hk _ => Below.heap_setCell _ _ _ _ (by show k ≠ N; omega))

theorem RowsH.lt {w : World} {B : Nat} {v : Value} {hs : List Hd} (h : RowsH w B v hs) : ∀ g, v.ownBlock = some g → B ≤ g ∧ g < w.heap.size := fun g hg => World.ownsRow.lt h g hg

theorem run_append_req (w : World) (B : Nat) (v : Value) (qs : List Rv) (ty : TypeId) (hown : RowsQ w B v qs)
    (N : Nat) (q : Rv) (hc0 : w.cell? ⟨N, 0, none⟩ = some (.string q.1.m)) (hc1 : w.cell? ⟨N, 1, none⟩ = some (.string q.1.p)) (hc2 : w.cell? ⟨N, 2, none⟩ = some q.2) (hc3 : w.cell? ⟨N, 3, none⟩ = some (.string q.1.b))
    (hq : RowsH w B q.2 q.1.hs) (hqa : ApartV q.2 v) (hqs : ∀ p ∈ qs, ApartV p.2 q.2) (hlen : qs.length + 1 ≤ 1000000000) (hB : B ≤ w.heap.size) :
    ∃ g cap w', (Builtin.append_ #[28, 28] ty #[v, .slice (some ⟨N, 0, none⟩) 1 1]).run Tryz.prog w = .ok (.slice (some ⟨g, 0, none⟩) (qs.length + 1) cap) w' ∧ RowsQ w' B (.slice (some ⟨g, 0, none⟩) (qs.length + 1) cap) (qs ++ [q]) ∧ w.grownBy w' v.ownBlock ∧ (v.ownBlock = some g ∨ g = w.heap.size) := by
  obtain ⟨i0, hi, hz0, hz1, hz2⟩ := info_parts infoRq
  have hnews : ∀ j u, [Value.string q.1.m, Value.string q.1.p, q.2, Value.string q.1.b][j]? = some u → w.cell? ((⟨N, 0, none⟩ : Addr).add j) = some u := by
    intro j u hj
    have e : ∀ k, (⟨N, 0, none⟩ : Addr).add k = ⟨N, k, none⟩ := fun k => by unfold Addr.add; split <;> simp_all
    rw [e]
    match j, hj with
    | 0, hj => simp at hj; subst hj; exact hc0
    | 1, hj => simp at hj; subst hj; exact hc1
    | 2, hj => simp at hj; subst hj; exact hc2
    | 3, hj => simp at hj; subst hj; exact hc3
  obtain ⟨aq, cq, hvq, _⟩ := RowsH.hds hq
  have hone : ∀ u ∈ [Value.string q.1.m, Value.string q.1.p, q.2, Value.string q.1.b], u.oneCell' = true := by
    intro u hu
    simp only [List.mem_cons, List.not_mem_nil, or_false] at hu
    rcases hu with rfl | rfl | rfl | rfl
    · rfl
    · rfl
    · rw [hvq]; rfl
    · rfl
  obtain ⟨v', w', hrun, ho', hg, _, hwh⟩ := run_append_own_at (P := Tryz.prog) w B 28 ty 39 i0 _ 4 72 Tryz.underlying28 hi hz0 hz1 hz2 rfl (by decide) v qs.length _ hown.own ⟨N, 0, none⟩ 1 1 [.string q.1.m, .string q.1.p, q.2, .string q.1.b] rfl hnews hone (by unfold maxLen; omega) (by omega) hB
  obtain ⟨g, cap, rfl⟩ : ∃ g cap, v' = .slice (some ⟨g, 0, none⟩) (qs.length + 1) cap := by
    rcases ho'.2 with ⟨_, h0⟩ | ⟨g, cap, cur, hv, _⟩
    · omega
    · exact ⟨g, cap, hv⟩
  have hwhere : v.ownBlock = some g ∨ g = w.heap.size := by
    rcases hwh with e | e
    · exact .inl e.symm
    · exact .inr (Option.some.inj e)
  have hap : ∀ u hs, RowsH w B u hs → ApartV u v → ApartV u (.slice (some ⟨g, 0, none⟩) (qs.length + 1) cap) := fun u hs hu ha => (ApartV.grown ha.symm hu hwhere).symm
  have hkp : ∀ u hs, RowsH w B u hs → ApartV u v → RowsH w' B u hs := fun u hs hu ha => RowsH.kept hu ha.symm hg
  refine ⟨g, cap, w', hrun, ⟨?_, ?_, ?_, ?_⟩, hg, hwhere⟩
  · rw [rvCells_append, List.length_append]; exact ho'
  · intro p hp
    rcases List.mem_append.1 hp with hp | hp
    · exact hkp _ _ (hown.heads p hp) (hown.apart p hp)
    · simp at hp; subst hp; exact hkp _ _ hq hqa
  · intro p hp
    rcases List.mem_append.1 hp with hp | hp
    · exact hap _ _ (hown.heads p hp) (hown.apart p hp)
    · simp at hp; subst hp; exact hap _ _ hq hqa
  · rw [List.pairwise_append]
    exact ⟨hown.pair, List.pairwise_singleton _ _, fun p hp q' hq' => by simp at hq'; subst hq'; exact hqs p hp⟩
/-- 'l = append(l, r)'. -/
theorem wp_append_req {w : World} {ops : Array Oper} {rest : List Oper} {o : Oper} {a : Act} {Q : Exit → Act → World → Prop} (hgd : o.guard = none) (s x : Operand)
    (ho : o.op = .call { callee := .builtin .append, args := #[s, x], argTypes := #[28, 28] })
    (B : Nat) (v : Value) (qs : List Rv) (hs : a.eval s = v) (hown : RowsQ w B v qs)
    (N : Nat) (q : Rv) (hx : a.eval x = .slice (some ⟨N, 0, none⟩) 1 1) (hc0 : w.cell? ⟨N, 0, none⟩ = some (.string q.1.m)) (hc1 : w.cell? ⟨N, 1, none⟩ = some (.string q.1.p)) (hc2 : w.cell? ⟨N, 2, none⟩ = some q.2) (hc3 : w.cell? ⟨N, 3, none⟩ = some (.string q.1.b))
    (hq : RowsH w B q.2 q.1.hs) (hqa : ApartV q.2 v) (hqs : ∀ p ∈ qs, ApartV p.2 q.2) (hlen : qs.length + 1 ≤ 1000000000) (hB : B ≤ w.heap.size)
    (h : ∀ g cap w', RowsQ w' B (.slice (some ⟨g, 0, none⟩) (qs.length + 1) cap) (qs ++ [q]) → w.grownBy w' v.ownBlock → (v.ownBlock = some g ∨ g = w.heap.size) → wpList Tryz.prog ops Q rest (a.put o.dst (.slice (some ⟨g, 0, none⟩) (qs.length + 1) cap)) w') : wpList Tryz.prog ops Q (o :: rest) a w := by
  obtain ⟨g, cap, w', hrun, h1, h2, h3⟩ := run_append_req w B v qs o.type hown N q hc0 hc1 hc2 hc3 hq hqa hqs hlen hB
  refine wpList_plain hgd fun K hK => ?_
  unfold Oper.wp execOp
  simp only [ho, resolve, invoke, builtin, Sem.run_bind, Sem.run_pure, Result.andThen_ok, List.map_toArray, List.map_cons, List.map_nil, hs, hx, hrun]
  exact hK _ _ (h g cap w' h1 h2 h3)
/-- The same at one step of a drawn region. -/
theorem step_append_req {ops : Array Oper} {o : Oper} {a : Act} {w : World} {K : Act → World → Prop} {Q : Exit → Act → World → Prop} {E : Prop} (hgd : o.guard = none) (s x : Operand)
    (ho : o.op = .call { callee := .builtin .append, args := #[s, x], argTypes := #[28, 28] })
    (B : Nat) (v : Value) (qs : List Rv) (hs : a.eval s = v) (hown : RowsQ w B v qs)
    (N : Nat) (q : Rv) (hx : a.eval x = .slice (some ⟨N, 0, none⟩) 1 1) (hc0 : w.cell? ⟨N, 0, none⟩ = some (.string q.1.m)) (hc1 : w.cell? ⟨N, 1, none⟩ = some (.string q.1.p)) (hc2 : w.cell? ⟨N, 2, none⟩ = some q.2) (hc3 : w.cell? ⟨N, 3, none⟩ = some (.string q.1.b))
    (hq : RowsH w B q.2 q.1.hs) (hqa : ApartV q.2 v) (hqs : ∀ p ∈ qs, ApartV p.2 q.2) (hlen : qs.length + 1 ≤ 1000000000) (hB : B ≤ w.heap.size)
    (h : ∀ g cap w', RowsQ w' B (.slice (some ⟨g, 0, none⟩) (qs.length + 1) cap) (qs ++ [q]) → w.grownBy w' v.ownBlock → (v.ownBlock = some g ∨ g = w.heap.size) → K (a.put o.dst (.slice (some ⟨g, 0, none⟩) (qs.length + 1) cap)) w') :
    if Region.wanted o (yielded ops a.tmps) = true then Oper.wp Tryz.prog o a w K Q else E := by
  have hwt : Region.wanted o (yielded ops a.tmps) = true := by simp [Region.wanted, hgd]
  rw [if_pos hwt]
  obtain ⟨g, cap, w', hrun, h1, h2, h3⟩ := run_append_req w B v qs o.type hown N q hc0 hc1 hc2 hc3 hq hqa hqs hlen hB
  unfold Oper.wp execOp
  simp only [ho, resolve, invoke, builtin, Sem.run_bind, Sem.run_pure, Result.andThen_ok, List.map_toArray, List.map_cons, List.map_nil, hs, hx, hrun]
  exact h g cap w' h1 h2 h3

/-- What a slice of requests holds, in blocks below B. -/
def Rqs (w : World) (B : Nat) (a : Option Addr) (rs : List Rq) : Prop :=
  0 < rs.length → ∃ b o, a = some ⟨b, o, none⟩ ∧ b < B ∧ ∀ j (hj : j < rs.length), ∃ aj cj, w.cell? ⟨b, o + j * 4, none⟩ = some (.string rs[j].m) ∧ w.cell? ⟨b, o + j * 4 + 1, none⟩ = some (.string rs[j].p) ∧ w.cell? ⟨b, o + j * 4 + 2, none⟩ = some (.slice aj rs[j].hs.length cj) ∧ w.cell? ⟨b, o + j * 4 + 3, none⟩ = some (.string rs[j].b) ∧ Hds w B aj rs[j].hs
theorem Rqs.below {w w' : World} {B C : Nat} {a : Option Addr} {rs : List Rq} (h : Rqs w B a rs) (hb : Below C w w') (hB : B ≤ C) : Rqs w' B a rs := fun h0 => by
  obtain ⟨b, o, e, hbB, hc⟩ := h h0
  refine ⟨b, o, e, hbB, fun j hj => ?_⟩
  obtain ⟨aj, cj, h1, h2, h3, h4, h5⟩ := hc j hj
  have k := fun i => hb.cell (p := ⟨b, i, none⟩) (Nat.lt_of_lt_of_le hbB hB)
  exact ⟨aj, cj, (k _).trans h1, (k _).trans h2, (k _).trans h3, (k _).trans h4, h5.below hb hB⟩
theorem Rqs.mono {w : World} {B C : Nat} {a : Option Addr} {rs : List Rq} (h : Rqs w B a rs) (hB : B ≤ C) : Rqs w C a rs := fun h0 => by
  obtain ⟨b, o, e, hbB, hc⟩ := h h0
  refine ⟨b, o, e, Nat.lt_of_lt_of_le hbB hB, fun j hj => ?_⟩
  obtain ⟨aj, cj, h1, h2, h3, h4, h5⟩ := hc j hj
  exact ⟨aj, cj, h1, h2, h3, h4, h5.mono hB⟩
theorem Rqs.next {w w' : World} {a : Option Addr} {rs : List Rq} (h : Rqs w w.heap.size a rs) (hb : Below w.heap.size w w') : Rqs w' w'.heap.size a rs := (h.below hb (Nat.le_refl _)).mono hb.size
/-- A row of requests as a slice that is read. -/
theorem RowsQ.rqs {w : World} {B : Nat} {v : Value} {qs : List Rv} (h : RowsQ w B v qs) : ∃ a c, v = .slice a qs.length c ∧ Rqs w w.heap.size a (qs.map Prod.fst) := by
  rcases h.own.2 with ⟨e, h0⟩ | ⟨g, cap, cur, e, hB, hh, h1, h2, h3, h4⟩
  · have : qs = [] := List.length_eq_zero_iff.1 h0
    subst this
    exact ⟨none, 0, e, fun h => absurd h (Nat.lt_irrefl _)⟩
  · subst e
    refine ⟨_, _, rfl, fun _ => ⟨g, 0, rfl, (Array.getElem?_eq_some_iff.1 hh).1, fun j hj => ?_⟩⟩
    rw [List.length_map] at hj
    have hx := rvCells_at qs j hj
    have hl := rvCells_length qs
    obtain ⟨aj, cj, hv, hd⟩ := RowsH.hds (h.heads qs[j] (List.getElem_mem hj))
    have hown : w.ownsRow B 39 4 (.slice (some ⟨g, 0, none⟩) qs.length cap) qs.length (rvCells qs) := h.own
    rw [Nat.zero_add, List.getElem_map]
    refine ⟨aj, cj, ?_, ?_, ?_, ?_, hd⟩
    · rw [hown.cellAt (j * 4) (by omega)]; exact hx.1
    · rw [hown.cellAt (j * 4 + 1) (by omega)]; exact hx.2.1
    · rw [hown.cellAt (j * 4 + 2) (by omega), hx.2.2.1, hv]
    · rw [hown.cellAt (j * 4 + 3) (by omega)]; exact hx.2.2.2
end Go.Proofs.YtanebchmeaomgaaGreatDoor
namespace Go.Proofs.YtanebchmeaomgaaGreatDoor
open Go.RowKit M
set_option linter.unusedVariables false

theorem drain_one {A C : List UInt8} {r : Rq} (h : getR (A ++ C) = (r, A.length, 0)) : drainL (A ++ C) = (r :: (drainL C).1, (drainL C).2) := by
  rw [drain_good (by rw [h]), h]
  simp only [List.drop_left]
theorem drain_two {A C : List UInt8} {r q : Rq} (h : A ≠ [] → getR (A ++ C) = (r, A.length, 0)) (h2 : C ≠ [] → getR C = (q, C.length, 0)) :
    drainL (A ++ C) = ((if A.length = 0 then [] else [r]) ++ (if C.length = 0 then [] else [q]), [], 0) := by
  have hC : drainL C = ((if C.length = 0 then [] else [q]), [], 0) := by
    by_cases hc : C = []
    · subst hc
      exact drain_nil
    · have hl : ¬ C.length = 0 := fun e => hc (List.length_eq_zero_iff.1 e)
      have h3 := drain_one (A := C) (C := []) (r := q) (by rw [List.append_nil]; exact h2 hc)
      rw [List.append_nil] at h3
      rw [h3, drain_nil, if_neg hl]
  by_cases ha : A = []
  · subst ha
    rw [List.nil_append, hC]
    rfl
  · have hl : ¬ A.length = 0 := fun e => ha (List.length_eq_zero_iff.1 e)
    rw [drain_one (h ha), hC, if_neg hl]
    rfl
theorem feeds_two {A C : List UInt8} {r q : Rq} (h : A ≠ [] → getR (A ++ C) = (r, A.length, 0)) (h2 : C ≠ [] → getR C = (q, C.length, 0)) (ls : List (List UInt8)) (hl : ls.flatten = A ++ C) :
    feedsM ls [] 0 = ((if A.length = 0 then [] else [r]) ++ (if C.length = 0 then [] else [q]), [], 0) := by
  rw [feedsM_flat ls [] (by rw [getR_nil]), List.nil_append, hl]
  exact drain_two h h2

/-- A row of requests that the call made; the heads lie where they will. -/
def OwnR (w : World) (B : Nat) (v : Value) (qs : List Rv) : Prop := w.ownsRow B 39 4 v qs.length (rvCells qs)
theorem OwnR.alloc {w : World} {B : Nat} {v : Value} {qs : List Rv} (h : OwnR w B v qs) (o : Obj) : OwnR (w.alloc o) B v qs := World.ownsRow.alloc h o
theorem OwnR.bare (w : World) : OwnR (w.alloc (Obj.cells #[] 39)) w.heap.size (.slice (some ⟨w.heap.size, 0, none⟩) 0 0) [] :=
  ⟨rfl, .inr ⟨w.heap.size, 0, #[], rfl, Nat.le_refl _, heap_alloc_new w _, Nat.le_refl _, Nat.zero_le _, rfl, rfl⟩⟩
theorem OwnR.next {w w' : World} {B : Nat} {v : Value} {qs : List Rv} (h : OwnR w B v qs) (hb : Below w.heap.size w w') : OwnR w' B v qs := by
  obtain ⟨hn, h⟩ := h
  refine ⟨hn, ?_⟩
  rcases h with h | ⟨g, cap, cur, e, hB, hg, r⟩
  · exact .inl h
  · exact .inr ⟨g, cap, cur, e, hB, (hb.block g (Array.getElem?_eq_some_iff.1 hg).1).trans hg, r⟩
theorem wp_append_rq {w : World} {ops : Array Oper} {rest : List Oper} {o : Oper} {a : Act} {Q : Exit → Act → World → Prop} (hgd : o.guard = none) (s x : Operand)
    (ho : o.op = .call { callee := .builtin .append, args := #[s, x], argTypes := #[28, 28] })
    (B : Nat) (v : Value) (qs : List Rv) (hs : a.eval s = v) (hown : OwnR w B v qs)
    (N : Nat) (r : Rq) (ah : Option Addr) (nh ch : Nat) (hx : a.eval x = .slice (some ⟨N, 0, none⟩) 1 1) (hc0 : w.cell? ⟨N, 0, none⟩ = some (.string r.m)) (hc1 : w.cell? ⟨N, 1, none⟩ = some (.string r.p)) (hc2 : w.cell? ⟨N, 2, none⟩ = some (.slice ah nh ch)) (hc3 : w.cell? ⟨N, 3, none⟩ = some (.string r.b))
    (hlen : qs.length + 1 ≤ 1048576) (hB : B ≤ w.heap.size)
    (h : ∀ g cap w', OwnR w' B (.slice (some ⟨g, 0, none⟩) (qs.length + 1) cap) (qs ++ [(r, .slice ah nh ch)]) → w.grownBy w' v.ownBlock → wpList Tryz.prog ops Q rest (a.put o.dst (.slice (some ⟨g, 0, none⟩) (qs.length + 1) cap)) w') : wpList Tryz.prog ops Q (o :: rest) a w := by
  obtain ⟨i0, hi, hz0, hz1, hz2⟩ := info_parts infoRq
  have hnews : ∀ j u, [Value.string r.m, Value.string r.p, .slice ah nh ch, Value.string r.b][j]? = some u → w.cell? ((⟨N, 0, none⟩ : Addr).add j) = some u := by
    intro j u hj
    have e : ∀ k, (⟨N, 0, none⟩ : Addr).add k = ⟨N, k, none⟩ := fun k => by unfold Addr.add; split <;> simp_all
    rw [e]
    match j, hj with
    | 0, hj => simp at hj; subst hj; exact hc0
    | 1, hj => simp at hj; subst hj; exact hc1
    | 2, hj => simp at hj; subst hj; exact hc2
    | 3, hj => simp at hj; subst hj; exact hc3
  have hone : ∀ u ∈ [Value.string r.m, Value.string r.p, .slice ah nh ch, Value.string r.b], u.oneCell' = true := by
    intro u hu
    simp only [List.mem_cons, List.not_mem_nil, or_false] at hu
    rcases hu with rfl | rfl | rfl | rfl <;> rfl
  refine wpList_append_own w hgd s x 28 ho B 39 i0 _ 4 72 Tryz.underlying28 hi hz0 hz1 hz2 rfl (by decide) v qs.length _ hs hown ⟨N, 0, none⟩ 1 1 [.string r.m, .string r.p, .slice ah nh ch, .string r.b] hx rfl hnews hone (by unfold maxLen; omega) (by omega) hB ?_
  intro v' w' ho' hg _
  obtain ⟨g, cap, rfl⟩ : ∃ g cap, v' = .slice (some ⟨g, 0, none⟩) (qs.length + 1) cap := by
    rcases ho'.2 with ⟨_, h0⟩ | ⟨g, cap, cur, hv, _⟩
    · omega
    · exact ⟨g, cap, hv⟩
  refine h g cap w' ?_ hg
  unfold OwnR
  rw [rvCells_append, List.length_append]
  exact ho'
/-- What is read in such a row. -/
theorem OwnR.rqs {w : World} {B : Nat} {v : Value} {qs : List Rv} (h : OwnR w B v qs) (hh : ∀ q ∈ qs, ∃ aj cj, q.2 = .slice aj q.1.hs.length cj ∧ Hds w w.heap.size aj q.1.hs) : ∃ a c, v = .slice a qs.length c ∧ Rqs w w.heap.size a (qs.map Prod.fst) := by
  rcases h.2 with ⟨e, h0⟩ | ⟨g, cap, cur, e, hB, hg, h1, h2, h3, h4⟩
  · exact ⟨none, 0, by rw [e, h0], fun hl => by rw [List.length_map, h0] at hl; exact absurd hl (Nat.lt_irrefl _)⟩
  · refine ⟨some ⟨g, 0, none⟩, cap, e, fun _ => ⟨g, 0, rfl, (Array.getElem?_eq_some_iff.1 hg).1, fun j hj => ?_⟩⟩
    rw [List.length_map] at hj
    obtain ⟨aj, cj, eq, hd⟩ := hh qs[j] (List.getElem_mem hj)
    obtain ⟨d0, d1, d2, d3⟩ := rvCells_at qs j hj
    have hx : ∀ i u, i < qs.length * 4 → (rvCells qs)[i]? = some u → w.cell? ⟨g, 0 + i, none⟩ = some u := by
      intro i u hi hu
      have : cur.toList[i]? = some u := by rw [← hu, ← h4, List.getElem?_take, if_pos hi]
      rw [Nat.zero_add]
      simp [World.cell?, hg]
      simpa using this
    refine ⟨aj, cj, ?_, ?_, ?_, ?_, ?_⟩
    · rw [hx _ _ (by omega) d0]; simp
    · rw [Nat.add_assoc, hx _ _ (by omega) d1]; simp
    · rw [Nat.add_assoc, hx _ _ (by omega) d2, eq]; simp
    · rw [Nat.add_assoc, hx _ _ (by omega) d3]; simp
    · simpa using hd
end Go.Proofs.YtanebchmeaomgaaGreatDoor
namespace Go.Proofs.YtanebchmeaomgaaGreatDoor
open Go.RowKit M
set_option linter.unusedVariables false

theorem sameR_m {a b : Rq} (h : ¬ a.m = b.m) : sameR a b = false := by simp [sameR, h]
theorem sameR_p {a b : Rq} (h : ¬ a.p = b.p) : sameR a b = false := by simp [sameR, h]
theorem sameR_h {a b : Rq} (h : sameH a.hs b.hs = false) : sameR a b = false := by simp [sameR, h]
theorem sameR_b {a b : Rq} (h : ¬ a.b = b.b) : sameR a b = false := by simp [sameR, h]
theorem sameR_all {a b : Rq} (h1 : a.m = b.m) (h2 : a.p = b.p) (h3 : sameH a.hs b.hs = true) (h4 : a.b = b.b) : sameR a b = true := by simp [sameR, h1, h2, h3, h4]

theorem neStr {x y : ByteArray} (h : ¬ x = y) : (x.toList == y.toList) = false := by
  rw [beq_eq_false_iff_ne]; exact fun e => h (strInj e)
theorem eqStr {x y : ByteArray} (h : x = y) : (x.toList == y.toList) = true := by rw [h]; simp
end Go.Proofs.YtanebchmeaomgaaGreatDoor
namespace Go.Proofs.YtanebchmeaomgaaGreatDoor

theorem ret_bool {a b : Bool} (h : a = b) : Ending.returned (.bool a) = .returned (.bool b) := by rw [h]
end Go.Proofs.YtanebchmeaomgaaGreatDoor
namespace Go.Proofs.YtanebchmeaomgaaGreatDoor
open Go.RowKit M
set_option linter.unusedVariables false


theorem head_struct : Tryz.prog.underlying 82 = some (.struct (Tryz.prog.fieldsOf 82)) := by kernel_rfl
theorem head_held : Tryz.prog.stoodInHeld 82 = false := by kernel_rfl
theorem head_guard : Tryz.prog.eqGuardType Tryz.prog.depth 82 = false := by kernel_rfl

set_option maxHeartbeats 400000 in
theorem eqIn_head (x y u v : ByteArray) (w : World) : (Op.equalIn 10000 82 (.agg #[.string x, .string y]) (.agg #[.string u, .string v])).run Tryz.prog w = .ok (decide (((x, y) : Hd) = (u, v))) w := by
  have u3 := Tryz.underlying9
  rw [show (10000 : Nat) = 9999 + 1 from rfl, run_equalIn_agg w 9999 82 _ _ head_struct head_held]
  simp only [Program.fieldsOf, Tryz.underlying82]
  go_simp
  by_cases h1 : x = u
  · by_cases h2 : y = v
    · simp [h1, h2]
    · have h3 : ¬ y.toList = v.toList := fun e => h2 (strInj e)
      simp [h1, h2, h3]
  · have h3 : ¬ x.toList = u.toList := fun e => h1 (strInj e)
    simp [h1, h3]

theorem neq_head (x y u v : ByteArray) (w : World) : (binOp .neq 82 (.agg #[.string x, .string y]) (.agg #[.string u, .string v])).run Tryz.prog w = .ok (.bool (!decide (((x, y) : Hd) = (u, v)))) w := by
  rw [run_neq_struct, eqIn_head]
  rfl
end Go.Proofs.YtanebchmeaomgaaGreatDoor
namespace Go.Proofs.YtanebchmeaomgaaGreatDoor
open Go.RowKit M
set_option linter.unusedVariables false

set_option maxHeartbeats 1000000 in
theorem slicesEqualH_any (a b : Option Addr) (ss tt : List Hd) (cap cap' B C : Nat) (w : World) (h : Hds w B a ss) (h' : Hds w C b tt) (hl : ss.length ≤ maxLen) (hl' : tt.length ≤ maxLen) :
    Calls Tryz.prog 83 #[.slice a ss.length cap, .slice b tt.length cap'] w fun e w' => e = .returned (.bool (sameH ss tt)) ∧ ∀ D, Below D w w' := by
  unfold maxLen at hl hl'
  by_cases hlen : ss.length = tt.length
  · have HL : Hid (ss.length = tt.length) := hlen
    go_enter Tryz.func83, Tryz.ntmps83
    rw [← hlen]
    clear hlen
    go_wp2
    go_loopw [13] (fun i wr => ∃ k n : Nat, k ≤ ss.length ∧ i = .int .i64 k ∧ ss.take k = tt.take k ∧ wr = w.drewN n) (fun i _ => ss.length - (intOf i).toNat)
    case atStart => exact ⟨0, 0, Nat.zero_le _, rfl, rfl, rfl⟩
    case round =>
      obtain ⟨k, n, hk, rfl, ht, rfl⟩ := hrel
      have HT : Hid (ss.take k = tt.take k) := ht
      clear ht
      by_cases hlt : k < ss.length
      · have hlt' : k < tt.length := by have := HL.out; omega
        obtain ⟨b1, o1, rfl, hb1, hc1⟩ := h (by omega)
        obtain ⟨b2, o2, rfl, hb2, hc2⟩ := h' (by have := HL.out; omega)
        have hcx := (hc1 k hlt).1
        have hcx2 := (hc1 k hlt).2
        have hcy := (hc2 k hlt').1
        have hcy2 := (hc2 k hlt').2
        have hq := eqIn_head ss[k].1 ss[k].2 tt[k].1 tt[k].2
        have hg := head_guard
        clear hc1 hc2
        by_cases he : ss[k] = tt[k]
        · have hd : decide (((ss[k].1, ss[k].2) : Hd) = (tt[k].1, tt[k].2)) = true := decide_eq_true he
          rw [hd] at hq
          have HE : Hid (ss[k] = tt[k]) := he
          clear hd he
          go_wp2
          go_quiet (fail)
          go_wp2
          go_roundw
          case rel => exact ⟨k + 1, n + nq, by omega, by go_num, take_sameH k hlt hlt' HT.out HE.out, rfl⟩
          case measure => simp [intOf]; omega
        · have hd : decide (((ss[k].1, ss[k].2) : Hd) = (tt[k].1, tt[k].2)) = false := decide_eq_false he
          rw [hd] at hq
          have HE : Hid (sameH ss tt = false) := sameH_not k hlt hlt' he
          clear hd he
          go_wp2
          go_quiet (fail)
          go_wp2
          go_ret
          exact ⟨ret_bool HE.out.symm, fun D => below_drewN (below_drewN (Below.refl _ _) _) _⟩
      · go_wp2
        go_ret
        exact ⟨ret_bool (sameH_all HL.out k hlt HT.out).symm, fun D => below_drewN (Below.refl _ _) _⟩
  · have HS := sameH_len hlen
    go_enter Tryz.func83, Tryz.ntmps83
    go_wp2
    go_ret
    exact ⟨ret_bool HS.symm, fun D => Below.refl _ _⟩
end Go.Proofs.YtanebchmeaomgaaGreatDoor
namespace Go.Proofs.YtanebchmeaomgaaGreatDoor
open Go.RowKit M
set_option linter.unusedVariables false

set_option maxHeartbeats 1000000 in
theorem sameReq_any (a b : Option Addr) (r s : Rq) (cap cap' B C : Nat) (w : World) (h : Hds w B a r.hs) (h' : Hds w C b s.hs) (hB : B ≤ w.heap.size) (hC : C ≤ w.heap.size) (hl : r.hs.length ≤ maxLen) (hl' : s.hs.length ≤ maxLen) :
    Calls Tryz.prog 50 #[.agg #[.string r.m, .string r.p, .slice a r.hs.length cap, .string r.b], .agg #[.string s.m, .string s.p, .slice b s.hs.length cap', .string s.b]] w fun e w' => e = .returned (.bool (sameR r s)) ∧ Below w.heap.size w w' := by
  have HM : Hid (¬ r.m = s.m → sameR r s = false) := sameR_m
  have HP : Hid (¬ r.p = s.p → sameR r s = false) := sameR_p
  have HH : Hid (sameH r.hs s.hs = false → sameR r s = false) := sameR_h
  have HBd : Hid (¬ r.b = s.b → sameR r s = false) := sameR_b
  have HA : Hid (r.m = s.m → r.p = s.p → sameH r.hs s.hs = true → r.b = s.b → sameR r s = true) := sameR_all
  generalize sameR r s = z at *
  obtain ⟨rm, rp, hs, rb⟩ := r
  obtain ⟨sm, sp, ts, sb⟩ := s
  simp only at *
  by_cases h1 : rm = sm
  · by_cases h2 : rp = sp
    · have e1 := eqStr h1
      have e2 := eqStr h2
      have hb0 : Below w.heap.size w ((w.alloc (Obj.cells #[Value.string rm, Value.string rp, Value.slice a hs.length cap, Value.string rb] 39)).alloc (Obj.cells #[Value.string sm, Value.string sp, Value.slice b ts.length cap', Value.string sb] 39)) := ((Below.refl _ _).alloc (Nat.le_refl _) _).alloc (by simp) _
      have hE := slicesEqualH_any a b hs ts cap cap' B C _ (h.below hb0 hB) (h'.below hb0 hC) hl hl'
      have HA' : Hid (sameH hs ts = true → rb = sb → z = true) := fun h3 h4 => HA.out h1 h2 h3 h4
      clear h1 h2 HA
      cases h3 : sameH hs ts
      · have hz := HH.out h3
        rw [h3] at hE
        subst hz
        clear h3
        go_enter Tryz.func50, Tryz.ntmps50
        go_wp2_with fail
        refine hE.mono ?_
        rintro e w1 ⟨rfl, hb1'⟩
        have hb1 := hb1' ((w.alloc (Obj.cells #[Value.string rm, Value.string rp, Value.slice a hs.length cap, Value.string rb] 39)).alloc (Obj.cells #[Value.string sm, Value.string sp, Value.slice b ts.length cap', Value.string sb] 39)).heap.size
        have c1 := hb0.trans (hb1.mono hb0.size)
        go_wp2
        go_ret
        exact ⟨rfl, c1⟩
      · rw [h3] at hE
        by_cases h4 : rb = sb
        · have e4 := eqStr h4
          have hz := HA'.out h3 h4
          subst hz
          clear h3 h4
          go_enter Tryz.func50, Tryz.ntmps50
          go_wp2_with fail
          refine hE.mono ?_
          rintro e w1 ⟨rfl, hb1'⟩
          have hb1 := hb1' ((w.alloc (Obj.cells #[Value.string rm, Value.string rp, Value.slice a hs.length cap, Value.string rb] 39)).alloc (Obj.cells #[Value.string sm, Value.string sp, Value.slice b ts.length cap', Value.string sb] 39)).heap.size
          have c1 := hb0.trans (hb1.mono hb0.size)
          obtain ⟨hc, hf⟩ := bcell hb1
          go_wp2
          go_ret
          exact ⟨rfl, c1⟩
        · have e4 := neStr h4
          have hz := HBd.out h4
          subst hz
          clear h3 h4
          go_enter Tryz.func50, Tryz.ntmps50
          go_wp2_with fail
          refine hE.mono ?_
          rintro e w1 ⟨rfl, hb1'⟩
          have hb1 := hb1' ((w.alloc (Obj.cells #[Value.string rm, Value.string rp, Value.slice a hs.length cap, Value.string rb] 39)).alloc (Obj.cells #[Value.string sm, Value.string sp, Value.slice b ts.length cap', Value.string sb] 39)).heap.size
          have c1 := hb0.trans (hb1.mono hb0.size)
          obtain ⟨hc, hf⟩ := bcell hb1
          go_wp2
          go_ret
          exact ⟨rfl, c1⟩
    · have e1 := eqStr h1
      have e2 := neStr h2
      have hz := HP.out h2
      subst hz
      clear h1 h2
      go_enter Tryz.func50, Tryz.ntmps50
      go_wp2
      go_ret
      exact ⟨rfl, ((Below.refl _ _).alloc (Nat.le_refl _) _).alloc (by simp) _⟩
  · have e1 := neStr h1
    have hz := HM.out h1
    subst hz
    clear h1
    go_enter Tryz.func50, Tryz.ntmps50
    go_wp2
    go_ret
    exact ⟨rfl, ((Below.refl _ _).alloc (Nat.le_refl _) _).alloc (by simp) _⟩
end Go.Proofs.YtanebchmeaomgaaGreatDoor
