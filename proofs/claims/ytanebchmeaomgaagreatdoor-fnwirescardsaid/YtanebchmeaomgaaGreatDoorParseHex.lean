/-
  Plain facts on what GetReq answers: no program in sight.
  What the program's frameOf does.
  What the specification's and the program's HeadEnd do.
  Rows of heads that the call owns.
  What the program's sortHeads does: three rows of heads, each its own.
  What the specification's l1HexOf does.
  What the library's ParseUint and ParseInt do at base 16, of one to four digits; what the program's ParseHex does.
  What the library's ParseInt does at base 16, of one to four digits; what the program's ParseHex does.
-/
import Derived.Test.YtanebchmeaomgaaGreatDoorMathGet
import Derived.Test.YtanebchmeaomgaaGreatDoorMathCut
import Derived.Test.YtanebchmeaomgaaGreatDoorReadLines
import Derived.Test.YtanebchmeaomgaaGreatDoorMathBack
import Derived.Test.YtanebchmeaomgaaGreatDoorSpecSm
import Derived.Test.YtanebchmeaomgaaGreatDoorStepByts
import Derived.Laws.Append
import Derived.Laws.AppendOwn
import Derived.Test.YtanebchmeaomgaaGreatDoorMathCutB
import Derived.Test.YtanebchmeaomgaaGreatDoorPlain
import Derived.Test.YtanebchmeaomgaaGreatDoorShelf
import Derived.Laws.Closers25b
import Derived.BigCall
import Derived.BigGuard
namespace Go.Proofs.YtanebchmeaomgaaGreatDoor.M

def lensOf (hs : List Hd) : List Hd := hs.filter fun h => decide (h.1 = lenName)
def codsOf (hs : List Hd) : List Hd := hs.filter fun h => decide (h.1 = codName)
def othOf (hs : List Hd) : List Hd := hs.filter fun h => !decide (h.1 = lenName) && !decide (h.1 = codName)
def numOk (h : Hd) : Bool := (parseNum h.2.data.toList 9999999).2
def numOf (h : Hd) : Nat := (parseNum h.2.data.toList 9999999).1.toNat
def inPcs : List UInt8 := [99, 104, 117, 110, 107, 101, 100]
def codOk (h : Hd) : Bool := decide (lowL h.2.data.toList = inPcs)
/-- The code of what is told of a body. -/
def frameC (hs : List Hd) : Int :=
  if 1 < (lensOf hs).length + (codsOf hs).length then 400
  else if (lensOf hs).all numOk = false then 400
  else if 8 < (othOf hs).length then 431
  else if (codsOf hs).all codOk = false then 501
  else if (lensOf hs).any (fun h => decide (200 < numOf h)) = true then 413 else 0
def lenF (hs : List Hd) : Nat := match lensOf hs with | [] => 0 | h :: _ => numOf h
def chkF (hs : List Hd) : Bool := !(codsOf hs).isEmpty
def zeroR : Rq := ⟨ByteArray.empty, ByteArray.empty, [], ByteArray.empty⟩
/-- The body, from a place on. -/
def bodyL (l : List UInt8) (e : Nat) (hs : List Hd) : List UInt8 × Nat × Int :=
  if chkF hs then chunksC l e else if l.length < e + lenF hs then ([], 0, 1) else ((l.drop e).take (lenF hs), e + lenF hs, 0)
/-- What GetReq answers. -/
def getR (l : List UInt8) : Rq × Nat × Int :=
  if heL l < 0 then (zeroR, 0, if l.length ≤ 400 then 1 else 431)
  else match readI (l.take ((heL l).toNat - 2)) with
  | none => (zeroR, 0, 400)
  | some (m, p, hs) =>
    if frameC hs ≠ 0 then (zeroR, 0, frameC hs)
    else if (bodyL l (heL l).toNat hs).2.2 ≠ 0 then (zeroR, 0, (bodyL l (heL l).toNat hs).2.2)
    else (⟨m, p, othOf hs, bytesOf (bodyL l (heL l).toNat hs).1⟩, (bodyL l (heL l).toNat hs).2.1, 0)

theorem getR_no {l : List UInt8} (h : heL l < 0) : getR l = (zeroR, 0, if l.length ≤ 400 then 1 else 431) := by unfold getR; rw [if_pos h]
theorem getR_form {l : List UInt8} (h : ¬ heL l < 0) (hr : readI (l.take ((heL l).toNat - 2)) = none) : getR l = (zeroR, 0, 400) := by unfold getR; rw [if_neg h, hr]
theorem getR_frame {l : List UInt8} {m p : ByteArray} {hs : List Hd} (h : ¬ heL l < 0) (hr : readI (l.take ((heL l).toNat - 2)) = some (m, p, hs)) (hf : frameC hs ≠ 0) : getR l = (zeroR, 0, frameC hs) := by unfold getR; rw [if_neg h, hr]; simp only; rw [if_pos hf]
theorem getR_body {l : List UInt8} {m p : ByteArray} {hs : List Hd} (h : ¬ heL l < 0) (hr : readI (l.take ((heL l).toNat - 2)) = some (m, p, hs)) (hf : frameC hs = 0) (hb : (bodyL l (heL l).toNat hs).2.2 ≠ 0) : getR l = (zeroR, 0, (bodyL l (heL l).toNat hs).2.2) := by
  unfold getR; rw [if_neg h, hr]; simp only; rw [if_neg (by rw [hf]; decide), if_pos hb]
theorem getR_good {l : List UInt8} {m p : ByteArray} {hs : List Hd} (h : ¬ heL l < 0) (hr : readI (l.take ((heL l).toNat - 2)) = some (m, p, hs)) (hf : frameC hs = 0) (hb : (bodyL l (heL l).toNat hs).2.2 = 0) : getR l = (⟨m, p, othOf hs, bytesOf (bodyL l (heL l).toNat hs).1⟩, (bodyL l (heL l).toNat hs).2.1, 0) := by
  unfold getR; rw [if_neg h, hr]; simp only; rw [if_neg (by rw [hf]; decide), if_neg (by rw [hb]; decide)]
/-- Which way it goes. -/
theorem getR_ways (l : List UInt8) : (heL l < 0) ∨ (¬ heL l < 0 ∧ readI (l.take ((heL l).toNat - 2)) = none) ∨ (∃ m p hs, ¬ heL l < 0 ∧ readI (l.take ((heL l).toNat - 2)) = some (m, p, hs) ∧ (frameC hs ≠ 0 ∨ (frameC hs = 0 ∧ (bodyL l (heL l).toNat hs).2.2 ≠ 0) ∨ (frameC hs = 0 ∧ (bodyL l (heL l).toNat hs).2.2 = 0))) := by
  by_cases h : heL l < 0
  · exact .inl h
  · cases hr : readI (l.take ((heL l).toNat - 2)) with
    | none => exact .inr (.inl ⟨h, rfl⟩)
    | some q =>
      obtain ⟨m, p, hs⟩ := q
      refine .inr (.inr ⟨m, p, hs, h, rfl, ?_⟩)
      by_cases hf : frameC hs = 0
      · by_cases hb : (bodyL l (heL l).toNat hs).2.2 = 0
        · exact .inr (.inr ⟨hf, hb⟩)
        · exact .inr (.inl ⟨hf, hb⟩)
      · exact .inl hf

theorem frame_zero {hs : List Hd} (h : frameC hs = 0) : ¬ 1 < (lensOf hs).length + (codsOf hs).length ∧ (lensOf hs).all numOk = true ∧ (othOf hs).length ≤ 8 ∧ (codsOf hs).all codOk = true ∧ (∀ x ∈ lensOf hs, numOf x ≤ 200) := by
  unfold frameC at h
  split at h
  · cases h
  · split at h
    · cases h
    · split at h
      · cases h
      · split at h
        · cases h
        · split at h
          · cases h
          · rename_i h1 h2 h3 h4 h5
            refine ⟨h1, by simpa using h2, by omega, by simpa using h4, fun x hx => ?_⟩
            simp only [List.any_eq_true, decide_eq_true_eq, not_exists, not_and, Nat.not_lt] at h5
            exact h5 x hx
theorem lenF_le {hs : List Hd} (h : frameC hs = 0) : lenF hs ≤ 200 := by
  obtain ⟨_, _, _, _, h5⟩ := frame_zero h
  unfold lenF
  cases hl : lensOf hs with
  | nil => simp
  | cons x r => exact h5 x (by rw [hl]; simp)

theorem headsI_ok : ∀ (f : Nat) (t : List UInt8) (hs : List Hd), headsI f t = some hs → ∀ h ∈ hs, hdB h = true := by
  intro f
  induction f with
  | zero => intro t hs h; cases h
  | succ f ih =>
    intro t hs h
    rw [headsI] at h
    split at h
    · cases h; simp
    · split at h
      · cases h
      · split at h
        · cases h
        · rename_i n t1 _ _ v t2 _
          split at h
          · rename_i hb
            cases hq : headsI f t2 with
            | none => rw [hq] at h; cases h
            | some q =>
              rw [hq] at h
              cases h
              intro x hx
              rcases List.mem_cons.1 hx with rfl | hx
              · exact hb
              · exact ih t2 q hq x hx
          · cases h
theorem readI_ok {t : List UInt8} {m p : ByteArray} {hs : List Hd} (h : readI t = some (m, p, hs)) : methB m = true ∧ targB p = true ∧ ∀ x ∈ hs, hdB x = true := by
  unfold readI at h
  split at h
  · cases h
  · split at h
    · rename_i hm
      split at h
      · cases h
      · split at h
        · rename_i hp
          split at h
          · cases h
          · rename_i v t3 _
            split at h
            · cases hq : headsI (t3.length + 1) t3 with
              | none => rw [hq] at h; cases h
              | some q =>
                rw [hq] at h
                cases h
                exact ⟨hm, hp, headsI_ok _ _ _ hq⟩
            · cases h
        · cases h
    · cases h
theorem bodyL_ok {l : List UInt8} {e : Nat} {hs : List Hd} (hf : frameC hs = 0) (h : (bodyL l e hs).2.2 = 0) : (bodyL l e hs).1.length ≤ 200 ∧ (bodyL l e hs).2.1 ≤ l.length := by
  have hle := lenF_le hf
  unfold bodyL at *
  split at h
  · rename_i hc
    rw [if_pos hc]
    unfold chunksC at *
    split at h
    · rename_i hi
      rw [if_pos hi]
      obtain ⟨h1, h2⟩ := getC_size _ _ _ h
      exact ⟨h2 (by simp), h1⟩
    · cases h
  · rename_i hc
    rw [if_neg hc]
    split at h
    · cases h
    · rename_i hl
      rw [if_neg hl]
      refine ⟨?_, by show e + lenF hs ≤ _; omega⟩
      simp only [List.length_take]
      omega
/-- What is read is right. -/
theorem getR_ok {l : List UInt8} (h : (getR l).2.2 = 0) : reqB (getR l).1 = true ∧ (getR l).2.1 ≤ l.length := by
  rcases getR_ways l with h1 | ⟨h1, h2⟩ | ⟨m, p, hs, h1, h2, h3⟩
  · rw [getR_no h1] at h
    exfalso
    simp only at h
    split at h <;> cases h
  · rw [getR_form h1 h2] at h; cases h
  · rcases h3 with h3 | ⟨h3, h4⟩ | ⟨h3, h4⟩
    · rw [getR_frame h1 h2 h3] at h; exact absurd h h3
    · rw [getR_body h1 h2 h3 h4] at h; exact absurd h h4
    · rw [getR_good h1 h2 h3 h4]
      obtain ⟨a1, a2, a3⟩ := readI_ok h2
      obtain ⟨b1, b2⟩ := bodyL_ok h3 h4
      obtain ⟨_, _, c3, _, _⟩ := frame_zero h3
      refine ⟨?_, b2⟩
      simp only [reqB, a1, a2, Bool.true_and, Bool.and_eq_true, decide_eq_true_eq]
      refine ⟨?_, ?_⟩
      · simp only [hdsB, Bool.and_eq_true, decide_eq_true_eq]
        refine ⟨?_, c3⟩
        rw [List.all_eq_true]
        intro x hx
        obtain ⟨hx1, hx2⟩ := List.mem_filter.1 hx
        simp only [hdFree, a3 x hx1, Bool.true_and]
        exact hx2
      · have : (bytesOf (bodyL l (heL l).toNat hs).1).size = (bodyL l (heL l).toNat hs).1.length := by simp [bytesOf, ByteArray.size]
        rw [this]; exact b1
theorem getR_bad {l : List UInt8} (h : (getR l).2.2 ≠ 0) : (getR l).1 = zeroR ∧ (getR l).2.1 = 0 := by
  rcases getR_ways l with h1 | ⟨h1, h2⟩ | ⟨m, p, hs, h1, h2, h3⟩
  · rw [getR_no h1]; exact ⟨rfl, rfl⟩
  · rw [getR_form h1 h2]; exact ⟨rfl, rfl⟩
  · rcases h3 with h3 | ⟨h3, h4⟩ | ⟨h3, h4⟩
    · rw [getR_frame h1 h2 h3]; exact ⟨rfl, rfl⟩
    · rw [getR_body h1 h2 h3 h4]; exact ⟨rfl, rfl⟩
    · rw [getR_good h1 h2 h3 h4] at h; exact absurd rfl h

theorem occ_take {s : List UInt8} {j k : Nat} (h : k + 4 ≤ j) : Lib.occAt (s.take j) two4 k = Lib.occAt s two4 k := by
  unfold Lib.occAt
  rw [prefix_take, prefix_take]
  have e : ((s.take j).drop k).take two4.length = (s.drop k).take two4.length := by
    rw [List.drop_take, List.take_take]
    congr 1
    show min 4 (j - k) = 4
    omega
  rw [e]
theorem occ_room {s : List UInt8} {k : Nat} (h : Lib.occAt s two4 k = true) : k + 4 ≤ s.length := by
  rcases Lib.occAt_room h with h | h
  · exact h
  · cases h
theorem idx_stay {s : List UInt8} {j : Nat} (h : 0 ≤ Lib.index (s.take j) two4) : Lib.index s two4 = Lib.index (s.take j) two4 := by
  rcases Lib.index_spec (s.take j) two4 with ⟨h1, _⟩ | ⟨k, h1, h2, h3, h4⟩
  · omega
  · have hr := occ_room h3
    rw [List.length_take] at hr
    rw [h1]
    refine Lib.index_first (by omega) (by rw [← occ_take (j := j) (by omega)]; exact h3) (fun i hi => ?_)
    rw [← occ_take (j := j) (by omega)]
    exact h4 i hi
theorem idx_here {s : List UInt8} {j k : Nat} (h : Lib.index s two4 = (k : Int)) (hj : k + 4 ≤ j) : Lib.index (s.take j) two4 = (k : Int) := by
  rcases Lib.index_spec s two4 with ⟨h1, _⟩ | ⟨i, h1, h2, h3, h4⟩
  · omega
  · obtain rfl : i = k := by omega
    have hr := occ_room h3
    exact Lib.index_first (by rw [List.length_take]; omega) (by rw [occ_take hj]; exact h3) (fun x hx => by rw [occ_take (by omega)]; exact h4 x hx)
theorem take_comm (l : List UInt8) (i : Nat) : (l.take i).take 400 = (l.take 400).take i := by rw [List.take_take, List.take_take, Nat.min_comm]
/-- A head's end stays. -/
theorem heL_stay {l : List UInt8} {i : Nat} (h : ¬ heL (l.take i) < 0) : heL l = heL (l.take i) := by
  have h0 : 0 ≤ Lib.index ((l.take 400).take i) two4 := by
    unfold heL at h
    rw [take_comm] at h
    split at h
    · assumption
    · omega
  have e := idx_stay h0
  unfold heL
  rw [take_comm, e]
theorem heL_here {l : List UInt8} {i : Nat} (h : ¬ heL l < 0) (hi : heL l ≤ i) : heL (l.take i) = heL l := by
  have h0 : 0 ≤ Lib.index (l.take 400) two4 := by
    unfold heL at h
    split at h
    · assumption
    · omega
  obtain ⟨k, hk⟩ := Int.eq_ofNat_of_zero_le h0
  have hL : heL l = k + 4 := by unfold heL; rw [if_pos h0, hk]
  have e := idx_here (j := i) (k := k) hk (by omega)
  unfold heL
  rw [take_comm, e, if_pos (by omega), if_pos h0, hk]
theorem heL_long {l : List UInt8} {i : Nat} (hi : 400 ≤ (l.take i).length) : heL l = heL (l.take i) := by
  rw [List.length_take] at hi
  unfold heL
  rw [List.take_take, Nat.min_eq_left (by omega)]

theorem bodyL_stay {l : List UInt8} {i e : Nat} {hs : List Hd} (he : e ≤ (l.take i).length) (h : (bodyL (l.take i) e hs).2.2 ≠ 1) : bodyL l e hs = bodyL (l.take i) e hs := by
  have hl := List.length_take (i := i) (l := l)
  unfold bodyL at *
  by_cases hc : chkF hs = true
  · rw [if_pos hc] at h ⊢
    rw [if_pos hc]
    unfold chunksC at *
    rw [if_pos ⟨by omega, by omega⟩] at h ⊢
    rw [if_pos ⟨by omega, by omega⟩]
    exact getC_stay _ _ _ h
  · rw [if_neg hc] at h ⊢
    rw [if_neg hc]
    by_cases hb : (l.take i).length < e + lenF hs
    · rw [if_pos hb] at h; exact absurd rfl h
    · rw [if_neg hb, if_neg (by omega), List.drop_take, List.take_take]
      congr 2
      omega
theorem bodyL_here {l : List UInt8} {i e : Nat} {hs : List Hd} (he : e ≤ l.length) (h : (bodyL l e hs).2.2 = 0) (hi : (bodyL l e hs).2.1 ≤ i) : e ≤ i ∧ bodyL (l.take i) e hs = bodyL l e hs := by
  have hl := List.length_take (i := i) (l := l)
  unfold bodyL at *
  by_cases hc : chkF hs = true
  · rw [if_pos hc] at h hi ⊢
    rw [if_pos hc]
    unfold chunksC at *
    rw [if_pos ⟨by omega, by omega⟩] at h hi
    have hb := getC_here.getC_end _ _ _ h
    rw [Int.toNat_natCast] at *
    have hei : e ≤ i := Nat.le_trans hb hi
    rw [if_pos ⟨by omega, by omega⟩, if_pos ⟨by omega, by omega⟩]
    exact ⟨by omega, getC_here _ _ _ h hi⟩
  · rw [if_neg hc] at h hi ⊢
    rw [if_neg hc]
    by_cases hb : l.length < e + lenF hs
    · rw [if_pos hb] at h; cases h
    · rw [if_neg hb] at hi ⊢
      simp only at hi
      rw [if_neg (by omega), List.drop_take, List.take_take]
      refine ⟨by omega, ?_⟩
      congr 2
      omega

/-- What does not ask for more stays, whatever comes. -/
theorem getR_stay {l : List UInt8} {i : Nat} (h : (getR (l.take i)).2.2 ≠ 1) : getR l = getR (l.take i) := by
  have hl := List.length_take (i := i) (l := l)
  rcases getR_ways (l.take i) with h1 | ⟨h1, h2⟩ | ⟨m, p, hs, h1, h2, h3⟩
  · rw [getR_no h1] at h
    have hlen : ¬ (l.take i).length ≤ 400 := by intro e; exact h (if_pos e)
    have e := heL_long (l := l) (i := i) (by omega)
    rw [getR_no h1, getR_no (by rw [e]; exact h1), if_neg hlen, if_neg (by omega)]
  · have e := heL_stay h1
    have hbd := heL_bd (l.take i)
    have et : (l.take i).take ((heL (l.take i)).toNat - 2) = l.take ((heL (l.take i)).toNat - 2) := by rw [List.take_take, Nat.min_eq_left (by omega)]
    rw [et] at h2
    rw [getR_form h1 (by rw [et]; exact h2), getR_form (by rw [e]; exact h1) (by rw [e]; exact h2)]
  · have e := heL_stay h1
    have hbd := heL_bd (l.take i)
    have et : (l.take i).take ((heL (l.take i)).toNat - 2) = l.take ((heL (l.take i)).toNat - 2) := by rw [List.take_take, Nat.min_eq_left (by omega)]
    have h2' : readI (l.take ((heL l).toNat - 2)) = some (m, p, hs) := by rw [e, ← et]; exact h2
    have h1' : ¬ heL l < 0 := by rw [e]; exact h1
    rcases h3 with h3 | ⟨h3, h4⟩ | ⟨h3, h4⟩
    · rw [getR_frame h1 h2 h3, getR_frame h1' h2' h3]
    · rw [getR_body h1 h2 h3 h4] at h
      have eb := bodyL_stay (l := l) (i := i) (e := (heL (l.take i)).toNat) (hs := hs) (by omega) h
      rw [getR_body h1 h2 h3 h4, getR_body h1' h2' h3 (by rw [e, eb]; exact h4), e, eb]
    · have eb := bodyL_stay (l := l) (i := i) (e := (heL (l.take i)).toNat) (hs := hs) (by omega) (by rw [h4]; decide)
      rw [getR_good h1 h2 h3 h4, getR_good h1' h2' h3 (by rw [e, eb]; exact h4), e, eb]
/-- What is all there is read, whatever is cut behind. -/
theorem getR_here {l : List UInt8} {i : Nat} (h : (getR l).2.2 = 0) (hi : (getR l).2.1 ≤ i) : getR (l.take i) = getR l := by
  rcases getR_ways l with h1 | ⟨h1, h2⟩ | ⟨m, p, hs, h1, h2, h3⟩
  · rw [getR_no h1] at h
    exfalso
    simp only at h
    split at h <;> cases h
  · rw [getR_form h1 h2] at h; cases h
  · rcases h3 with h3 | ⟨h3, h4⟩ | ⟨h3, h4⟩
    · rw [getR_frame h1 h2 h3] at h; exact absurd h h3
    · rw [getR_body h1 h2 h3 h4] at h; exact absurd h h4
    · rw [getR_good h1 h2 h3 h4] at hi
      have hbd := heL_bd l
      obtain ⟨he, eb⟩ := bodyL_here (l := l) (i := i) (e := (heL l).toNat) (hs := hs) (by omega) h4 hi
      have e := heL_here (i := i) h1 (by omega)
      have et : (l.take i).take ((heL l).toNat - 2) = l.take ((heL l).toNat - 2) := by rw [List.take_take, Nat.min_eq_left (by omega)]
      rw [getR_good h1 h2 h3 h4, getR_good (by rw [e]; exact h1) (by rw [e, et]; exact h2) h3 (by rw [e, eb]; exact h4), e, eb]
end Go.Proofs.YtanebchmeaomgaaGreatDoor.M
namespace Go.Proofs.YtanebchmeaomgaaGreatDoor
open Go.RowKit M
set_option linter.unusedVariables false

/-- The code of what is told of a body, of the three lists. -/
def frC (l1 l2 : List Hd) (n3 : Nat) : Int :=
  if 1 < l1.length + l2.length then 400
  else if l1.all numOk = false then 400
  else if 8 < n3 then 431
  else if l2.all codOk = false then 501
  else if l1.any (fun h => decide (200 < numOf h)) = true then 413 else 0
theorem frameC_eq (hs : List Hd) : frameC hs = frC (lensOf hs) (codsOf hs) (othOf hs).length := rfl
/-- The number that the last of them tells. -/
def lastN (l : List Hd) : Int := match l.getLast? with | none => 0 | some h => (parseNum h.2.data.toList 9999999).1
theorem lastN_snoc (l : List Hd) (k : Nat) (hk : k < l.length) : lastN (l.take (k + 1)) = (parseNum l[k].2.data.toList 9999999).1 := by
  unfold lastN
  rw [List.take_succ_eq_append_getElem hk, List.getLast?_concat]
def MemF (w : World) (ck : Bool) (n : Int) (W : World) : Prop :=
  W.heap[w.heap.size]? = some (Obj.cells #[.bool false, .int .i64 0] 218) ∧ W.heap[w.heap.size + 1]? = some (Obj.cells #[.bool ck, .int .i64 n] 218) ∧ Below w.heap.size w W ∧ w.heap.size + 2 ≤ W.heap.size
theorem MemF.next {w W W' : World} {ck : Bool} {n : Int} (h : MemF w ck n W) (hb : Below W.heap.size W W') : MemF w ck n W' := by
  obtain ⟨h1, h2, h3, h4⟩ := h
  exact ⟨(hb.block _ (by omega)).trans h1, (hb.block _ (by omega)).trans h2, h3.trans (hb.mono h3.size), Nat.le_trans h4 hb.size⟩
theorem MemF.set_n {w W : World} {ck : Bool} {n : Int} (h : MemF w ck n W) (n' : Int) : MemF w ck n' (W.setCell ⟨w.heap.size + 1, 1, none⟩ (.int .i64 n')) := by
  obtain ⟨h1, h2, h3, h4⟩ := h
  exact ⟨set_other h1 (by omega) _, set_heap h2 1 _, h3.setCell (p := ⟨w.heap.size + 1, 1, none⟩) (by show w.heap.size ≤ w.heap.size + 1; omega) _, by simpa using h4⟩
theorem MemF.set_ck {w W : World} {ck : Bool} {n : Int} (h : MemF w ck n W) (ck' : Bool) : MemF w ck' n (W.setCell ⟨w.heap.size + 1, 0, none⟩ (.bool ck')) := by
  obtain ⟨h1, h2, h3, h4⟩ := h
  exact ⟨set_other h1 (by omega) _, set_heap h2 0 _, h3.setCell (p := ⟨w.heap.size + 1, 0, none⟩) (by show w.heap.size ≤ w.heap.size + 1; omega) _, by simpa using h4⟩
theorem MemF.cells {w W : World} {ck : Bool} {n : Int} (h : MemF w ck n W) : W.cell? ⟨w.heap.size, 0, none⟩ = some (.bool false) ∧ W.cell? ⟨w.heap.size, 1, none⟩ = some (.int .i64 0) ∧ W.frozen? ⟨w.heap.size, 0, none⟩ = false ∧ W.frozen? ⟨w.heap.size, 1, none⟩ = false ∧ W.cell? ⟨w.heap.size + 1, 0, none⟩ = some (.bool ck) ∧ W.cell? ⟨w.heap.size + 1, 1, none⟩ = some (.int .i64 n) ∧ W.frozen? ⟨w.heap.size + 1, 0, none⟩ = false ∧ W.frozen? ⟨w.heap.size + 1, 1, none⟩ = false := by
  obtain ⟨h1, h2, h3, h4⟩ := h
  refine ⟨?_, ?_, ?_, ?_, ?_, ?_, ?_, ?_⟩
  · unfold World.cell?; rw [h1]; rfl
  · unfold World.cell?; rw [h1]; rfl
  · unfold World.frozen?; rw [h1]; rfl
  · unfold World.frozen?; rw [h1]; rfl
  · unfold World.cell?; rw [h2]; rfl
  · unfold World.cell?; rw [h2]; rfl
  · unfold World.frozen?; rw [h2]; rfl
  · unfold World.frozen?; rw [h2]; rfl
theorem frame_desc : (Tryz.prog.info? 218).map (·.size) = some 2 := by kernel_rfl
theorem results_frame (tmps : Array Value) (N : Nat) (W : World) (v0 v1 : Value) (c : Int) (h6 : tmps.getD 6 undef = .pointer (some ⟨N, 0, none⟩)) (h7 : tmps.getD 7 undef = .int .i64 c) (hg : W.heap[N]? = some (Obj.cells #[v0, v1] 218)) :
    (results Tryz.f185 tmps).run Tryz.prog W = .ok (.tuple #[.agg #[v0, v1], .int .i64 c]) W := by
  rw [results_cell_tmp rfl]
  have hl := run_loadVar_row (P := Tryz.prog) W N 218 218 #[v0, v1] (0, 0) _ hg Tryz.underlying218 rfl frame_desc
  simp at h6 h7
  simp [h6, h7, asAddr, hl]
theorem set2_heap {w : World} {N : Nat} {a0 a1 : Value} {t : TypeId} (h : w.heap[N]? = some (.cells #[a0, a1] t)) (v0 v1 : Value) : ((w.setCell ⟨N, 0, none⟩ v0).setCell ⟨N, 1, none⟩ v1).heap[N]? = some (.cells #[v0, v1] t) := set_heap (set_heap h 0 v0) 1 v1
theorem set2_below {w W : World} {C N : Nat} (h : Below C W w) (hN : C ≤ N) (v0 v1 : Value) : Below C W ((w.setCell ⟨N, 0, none⟩ v0).setCell ⟨N, 1, none⟩ v1) := (h.setCell (p := ⟨N, 0, none⟩) hN _).setCell (p := ⟨N, 1, none⟩) hN _
theorem chk_bne (s : ByteArray) : (((⟨(lowL s.data.toList).toArray⟩ : ByteArray).toList) != [99, 104, 117, 110, 107, 101, 100]) = !decide (lowL s.data.toList = inPcs) := by
  rw [ByteArray.toList_eq]
  show ((lowL s.data.toList).toArray.toList != inPcs) = _
  by_cases h : lowL s.data.toList = inPcs <;> simp [h]

theorem chk_beq (s : ByteArray) : (((⟨(lowL s.data.toList).toArray⟩ : ByteArray).toList) == [99, 104, 117, 110, 107, 101, 100]) = decide (lowL s.data.toList = inPcs) := by
  rw [ByteArray.toList_eq]
  show ((lowL s.data.toList).toArray.toList == inPcs) = _
  by_cases h : lowL s.data.toList = inPcs <;> simp [h]

/-- What frameOf hands back. -/
def FrameIs (l1 l2 : List Hd) (n3 : Nat) (e : Ending) : Prop :=
  ∃ (ck : Bool) (n : Int), e = .returned (.tuple #[.agg #[.bool ck, .int .i64 n], .int .i64 (frC l1 l2 n3)]) ∧ (frC l1 l2 n3 = 0 → ck = !l2.isEmpty ∧ n = lastN l1)

set_option maxRecDepth 100000 in
set_option maxHeartbeats 4000000 in
theorem frameOf_any (a1 a2 a3 : Option Addr) (l1 l2 : List Hd) (n3 c1 c2 c3 B : Nat) (w : World) (h1 : Hds w B a1 l1) (h2 : Hds w B a2 l2) (hB : B ≤ w.heap.size) (hl1 : l1.length ≤ 1048576) (hl2 : l2.length ≤ 1048576) (hl3 : n3 ≤ 1048576) (hz1 : ∀ x ∈ l1, x.2.size ≤ 1048576) (hz2 : ∀ x ∈ l2, x.2.size ≤ 1048576) :
    Calls Tryz.prog 185 #[.slice a1 l1.length c1, .slice a2 l2.length c2, .slice a3 n3 c3] w fun e w' => FrameIs l1 l2 n3 e ∧ Below w.heap.size w w' := by
  have HH1 := hide h1
  have HH2 := hide h2
  have hM0 : MemF w false 0 ((w.alloc (Obj.cells #[.bool false, .int .i64 0] 218)).alloc (Obj.cells #[.bool false, .int .i64 0] 218)) := by
    refine ⟨?_, ?_, ((Below.refl _ w).alloc (Nat.le_refl _) _).alloc (by simp) _, by simp⟩
    all_goals
      show ((w.heap.push _).push _)[_]? = _
      first | (simp [Array.getElem_push]; done) | (simp [Array.getElem?_push]; done) | rfl
  have HM0 := hide hM0
  clear h1 h2 hM0
  by_cases hs : 1 < l1.length + l2.length
  · have HF : Hid (frC l1 l2 n3 = 400) := by show frC _ _ _ = _; unfold frC; rw [if_pos hs]
    have hs' : (1 : Int) < (l1.length : Int) + l2.length := by omega
    clear hs
    go_enter Tryz.func185, Tryz.ntmps185
    go_wp2
    refine bodyPost_ret (results_frame _ w.heap.size _ _ _ _ rfl rfl HM0.out.1) rfl ?_
    exact ⟨⟨_, _, by rw [HF.out], fun e => by rw [HF.out] at e; cases e⟩, HM0.out.2.2.1⟩
  · have hs' : ¬ ((1 : Int) < (l1.length : Int) + l2.length) := by omega
    go_enter Tryz.func185, Tryz.ntmps185
    go_wp2
    go_loopw [24] (fun i wr => ∃ k : Nat, k ≤ l1.length ∧ i = .int .i64 k ∧ (l1.take k).all numOk = true ∧ MemF w false (lastN (l1.take k)) wr) (fun i _ => l1.length - (intOf i).toNat)
    case atStart => exact ⟨0, Nat.zero_le _, rfl, rfl, HM0.out⟩
    case round =>
      obtain ⟨k, hk, rfl, hok, hM⟩ := hrel
      have HOk := hide hok
      clear hok
      by_cases hlt : k < l1.length
      · obtain ⟨b, o, rfl, hb, hc⟩ := HH1.out.below hM.2.2.1 hB (by omega)
        have hcx := (hc k hlt).1
        have hcy := (hc k hlt).2
        have hzk := hz1 _ (List.getElem_mem hlt)
        obtain ⟨x, hx⟩ : ∃ x, l1[k].1 = x := ⟨_, rfl⟩
        obtain ⟨y, hy⟩ : ∃ y, l1[k].2 = y := ⟨_, rfl⟩
        rw [hx] at hcx
        rw [hy] at hcy hzk
        have HY := hide hy
        have ba : Below wr.heap.size wr (wr.alloc (Obj.cells #[.string x, .string y] 82)) := (Below.refl _ _).alloc (Nat.le_refl _) _
        have HM1 := hide (hM.next ba)
        have HP := hide (parseNum_any y 9999999 (wr.alloc (Obj.cells #[.string x, .string y] 82)) (by unfold maxLen; omega))
        clear hc hM ba hx hy
        cases hpn : (parseNum y.data.toList 9999999).2
        · have HF : Hid (frC l1 l2 n3 = 400) := by
            show frC _ _ _ = _
            unfold frC
            rw [if_neg hs, if_pos]
            rw [List.all_eq_false]
            exact ⟨l1[k], List.getElem_mem hlt, by unfold numOk; rw [HY.out, hpn]; simp⟩
          rw [hpn] at HP
          generalize (parseNum y.data.toList 9999999).1 = z at HP
          go_wp2_with fail
          refine HP.out.mono ?_
          rintro e w1 ⟨rfl, b1⟩
          have hM2 := HM1.out.next b1
          obtain ⟨q0, q1, f0, f1, q2, q3, f2, f3⟩ := hM2.cells
          have HM2 := hide hM2
          clear HP HM1 b1 hM2
          go_wp2
          refine bodyPost_ret (results_frame _ w.heap.size _ _ _ _ rfl rfl (set2_heap HM2.out.1 _ _)) rfl ?_
          exact ⟨⟨_, _, by rw [HF.out], fun e => by rw [HF.out] at e; cases e⟩, set2_below HM2.out.2.2.1 (Nat.le_refl _) _ _⟩
        · rw [hpn] at HP
          have HL : Hid (lastN (l1.take (k + 1)) = (parseNum y.data.toList 9999999).1) := by show lastN _ = _; rw [lastN_snoc l1 k hlt, HY.out]
          have HA : Hid ((l1.take (k + 1)).all numOk = true) := by
            show (l1.take (k + 1)).all numOk = true
            rw [List.take_succ_eq_append_getElem hlt, List.all_append, HOk.out]
            simp [numOk, HY.out, hpn]
          generalize (parseNum y.data.toList 9999999).1 = z at HP HL
          go_wp2_with fail
          refine HP.out.mono ?_
          rintro e w1 ⟨rfl, b1⟩
          have hM2 := HM1.out.next b1
          obtain ⟨q0, q1, f0, f1, q2, q3, f2, f3⟩ := hM2.cells
          have HM3 := hide (hM2.set_n z)
          clear HP HM1 b1 hM2
          go_wp2
          go_roundw
          case rel => exact ⟨k + 1, by omega, by go_num, HA.out, by rw [HL.out]; exact HM3.out⟩
          case measure => simp [intOf]; omega
      · rw [List.take_of_length_le (by omega)] at hM
        have hall : l1.all numOk = true := by have := HOk.out; rwa [List.take_of_length_le (by omega)] at this
        have HAll := hide hall
        have HM := hide hM
        obtain ⟨q0, q1, f0, f1, q2, q3, f2, f3⟩ := hM.cells
        clear hM hall
        by_cases h8 : 8 < n3
        · have HF : Hid (frC l1 l2 n3 = 431) := by show frC _ _ _ = _; unfold frC; rw [if_neg hs, if_neg (by rw [HAll.out]; simp), if_pos h8]
          have h8' : (8 : Int) < n3 := by omega
          clear h8
          go_wp2
          refine bodyPost_ret (results_frame _ w.heap.size _ _ _ _ rfl rfl (set2_heap HM.out.1 _ _)) rfl ?_
          exact ⟨⟨_, _, by rw [HF.out], fun e => by rw [HF.out] at e; cases e⟩, set2_below HM.out.2.2.1 (Nat.le_refl _) _ _⟩
        · have h8' : ¬ ((8 : Int) < n3) := by omega
          go_wp2
          go_loopw [46] (fun i wr2 => ∃ k2 : Nat, k2 ≤ l2.length ∧ i = .int .i64 k2 ∧ (l2.take k2).all codOk = true ∧ MemF w (!(l2.take k2).isEmpty) (lastN l1) wr2) (fun i _ => l2.length - (intOf i).toNat)
          case atStart => exact ⟨0, Nat.zero_le _, rfl, rfl, HM.out⟩
          case round =>
            clear q0 q1 f0 f1 q2 q3 f2 f3 HM
            obtain ⟨k2, hk2, rfl, hok2, hM2⟩ := hrel
            have HOk2 := hide hok2
            clear hok2
            by_cases hlt2 : k2 < l2.length
            · obtain ⟨b, o, rfl, hb, hc⟩ := HH2.out.below hM2.2.2.1 hB (by omega)
              have hcx := (hc k2 hlt2).1
              have hcy := (hc k2 hlt2).2
              have hzk := hz2 _ (List.getElem_mem hlt2)
              obtain ⟨x, hx⟩ : ∃ x, l2[k2].1 = x := ⟨_, rfl⟩
              obtain ⟨y, hy⟩ : ∃ y, l2[k2].2 = y := ⟨_, rfl⟩
              rw [hx] at hcx
              rw [hy] at hcy hzk
              have HY := hide hy
              have ba : Below wr.heap.size wr (wr.alloc (Obj.cells #[.string x, .string y] 82)) := (Below.refl _ _).alloc (Nat.le_refl _) _
              have HM3 := hide (hM2.next ba)
              have HP := hide (lower_any y (wr.alloc (Obj.cells #[.string x, .string y] 82)) (by omega))
              clear hc hM2 ba hx hy
              by_cases hcd : lowL y.data.toList = inPcs
              · have hbn : (((⟨(lowL y.data.toList).toArray⟩ : ByteArray).toList) != [99, 104, 117, 110, 107, 101, 100]) = false := by rw [chk_bne, decide_eq_true hcd]; rfl
                have hbq : (((⟨(lowL y.data.toList).toArray⟩ : ByteArray).toList) == [99, 104, 117, 110, 107, 101, 100]) = true := by rw [chk_beq, decide_eq_true hcd]
                have HA : Hid ((l2.take (k2 + 1)).all codOk = true) := by
                  show (l2.take (k2 + 1)).all codOk = true
                  rw [List.take_succ_eq_append_getElem hlt2, List.all_append, HOk2.out]
                  simp [codOk, HY.out, hcd]
                have HEm : Hid ((l2.take (k2 + 1)).isEmpty = false) := by
                  show (l2.take (k2 + 1)).isEmpty = false
                  cases l2 with
                  | nil => simp at hlt2
                  | cons _ _ => rfl
                generalize (⟨(lowL y.data.toList).toArray⟩ : ByteArray) = ly at *
                clear hcd
                go_wp2_with fail
                refine HP.out.mono ?_
                rintro e w1 ⟨rfl, b1⟩
                have hM4 := HM3.out.next b1
                obtain ⟨q0, q1, f0, f1, q2, q3, f2, f3⟩ := hM4.cells
                have HM5 := hide (hM4.set_ck true)
                clear HP HM3 b1 hM4
                go_wp2
                go_roundw
                case rel => exact ⟨k2 + 1, by omega, by go_num, HA.out, by rw [HEm.out]; exact HM5.out⟩
                case measure => simp [intOf]; omega
              · have hbn : (((⟨(lowL y.data.toList).toArray⟩ : ByteArray).toList) != [99, 104, 117, 110, 107, 101, 100]) = true := by rw [chk_bne, decide_eq_false hcd]; rfl
                have hbq : (((⟨(lowL y.data.toList).toArray⟩ : ByteArray).toList) == [99, 104, 117, 110, 107, 101, 100]) = false := by rw [chk_beq, decide_eq_false hcd]
                have HF : Hid (frC l1 l2 n3 = 501) := by
                  show frC _ _ _ = _
                  unfold frC
                  rw [if_neg hs, if_neg (by rw [HAll.out]; simp), if_neg h8, if_pos]
                  rw [List.all_eq_false]
                  exact ⟨l2[k2], List.getElem_mem hlt2, by unfold codOk; rw [HY.out]; simp [hcd]⟩
                generalize (⟨(lowL y.data.toList).toArray⟩ : ByteArray) = ly at *
                clear hcd
                go_wp2_with fail
                refine HP.out.mono ?_
                rintro e w1 ⟨rfl, b1⟩
                have hM4 := HM3.out.next b1
                obtain ⟨q0, q1, f0, f1, q2, q3, f2, f3⟩ := hM4.cells
                have HM4 := hide hM4
                clear HP HM3 b1 hM4
                go_wp2
                refine bodyPost_ret (results_frame _ w.heap.size _ _ _ _ rfl rfl (set2_heap HM4.out.1 _ _)) rfl ?_
                exact ⟨⟨_, _, by rw [HF.out], fun e => by rw [HF.out] at e; cases e⟩, set2_below HM4.out.2.2.1 (Nat.le_refl _) _ _⟩
            · rw [List.take_of_length_le (by omega)] at hM2
              have hall2 : l2.all codOk = true := by have := HOk2.out; rwa [List.take_of_length_le (by omega)] at this
              have HM := hide hM2
              obtain ⟨q0, q1, f0, f1, q2, q3, f2, f3⟩ := hM2.cells
              obtain ⟨em, hem⟩ : ∃ em, (!l2.isEmpty) = em := ⟨_, rfl⟩
              have HEm := hide hem
              rw [hem] at q2 HM
              have hlast : lastN l1 ≤ 9999999 ∧ 0 ≤ lastN l1 ∧ (200 < lastN l1 ↔ l1.any (fun h => decide (200 < numOf h)) = true) := by
                have hp : ∀ h : Hd, 0 ≤ (parseNum h.2.data.toList 9999999).1 ∧ (parseNum h.2.data.toList 9999999).1 ≤ 9999999 := by
                  intro h
                  unfold parseNum
                  split
                  · rename_i hb
                    have := (parseB_iff _ _).1 hb
                    have h5 := this.2.2.2.2
                    exact ⟨by simp, h5⟩
                  · exact ⟨by simp, by simp⟩
                match l1, hs with
                | [], _ => simp [lastN]
                | [h], _ =>
                  have := hp h
                  simp [lastN, numOf]
                  omega
                | h :: h' :: r, hs => exact absurd hs (by simp; omega)
              obtain ⟨L, hL⟩ : ∃ L, lastN l1 = L := ⟨_, rfl⟩
              rw [hL] at hlast HM q3
              have HLs := hide hL
              obtain ⟨hl9, hl0, hliff⟩ := hlast
              clear hM2 hem hL
              by_cases h200 : 200 < L
              · have HF : Hid (frC l1 l2 n3 = 413) := by
                  show frC _ _ _ = _
                  unfold frC
                  rw [if_neg hs, if_neg (by rw [HAll.out]; simp), if_neg h8, if_neg (by rw [hall2]; simp), if_pos (hliff.1 h200)]
                clear hliff hall2
                go_wp2
                refine bodyPost_ret (results_frame _ w.heap.size _ _ _ _ rfl rfl (set2_heap HM.out.1 _ _)) rfl ?_
                exact ⟨⟨_, _, by rw [HF.out], fun e => by rw [HF.out] at e; cases e⟩, set2_below HM.out.2.2.1 (Nat.le_refl _) _ _⟩
              · have HF : Hid (frC l1 l2 n3 = 0) := by
                  show frC _ _ _ = _
                  unfold frC
                  rw [if_neg hs, if_neg (by rw [HAll.out]; simp), if_neg h8, if_neg (by rw [hall2]; simp), if_neg (fun e => h200 (hliff.2 e))]
                clear hliff hall2
                go_wp2
                refine bodyPost_ret (results_frame _ w.heap.size _ _ _ _ rfl rfl (set2_heap HM.out.1 _ _)) rfl ?_
                exact ⟨⟨_, _, by rw [HF.out], fun _ => ⟨HEm.out.symm, HLs.out.symm⟩⟩, set2_below HM.out.2.2.1 (Nat.le_refl _) _ _⟩
end Go.Proofs.YtanebchmeaomgaaGreatDoor
namespace Go.Proofs.YtanebchmeaomgaaGreatDoor
open Go.RowKit M
set_option linter.unusedVariables false

set_option maxRecDepth 100000 in
set_option maxHeartbeats 1000000 in
theorem specHeadEnd_any (a : Option Addr) (l : List UInt8) (cap B : Nat) (w : World) (h : Byt w B a l) (hl : l.length ≤ cap) (hm : cap ≤ maxLen) :
    Calls Tryz.prog 23 #[.slice a l.length cap] w fun e w' => e = .returned (.int .i64 (heL l)) ∧ ∀ D, Below D w w' := by
  unfold maxLen at hm
  go_enter Tryz.func23, Tryz.ntmps23
  go_wp2
  go_loopw [3] (fun i wr => ∃ k n : Nat, k ≤ l.length ∧ k ≤ 400 ∧ i = .int .i64 k ∧ (∀ j, j < k → Lib.occAt (l.take 400) two4 j = false) ∧ wr = w.drewN n) (fun i _ => 500 - (intOf i).toNat)
  case atStart => exact ⟨0, 0, Nat.zero_le _, Nat.zero_le _, rfl, fun j hj => absurd hj (Nat.not_lt_zero _), rfl⟩
  case round =>
    obtain ⟨k, n, hk, hk4, rfl, hn, rfl⟩ := hrel
    have HN : Hid (∀ j, j < k → Lib.occAt (l.take 400) two4 j = false) := hn
    clear hn
    by_cases h1 : k + 3 < l.length
    · by_cases h2 : k + 3 < 400
      · obtain ⟨b, o, rfl, hb, hc⟩ := h (by omega)
        have hby : Byt (w.drewN n) B (some ⟨b, o, none⟩) l := fun _ => ⟨b, o, rfl, hb, hc⟩
        have hcv := conv_byt ((hby.drop k).take 4) 4 (cap - k) (by rw [List.length_take, List.length_drop]; omega)
        have e1 := two4_beq ((l.drop k).take 4)
        have h1' : ((k : Int) + 3 < (l.length : Int)) := by omega
        have h2' : ((k : Int) + 3 < 400) := by omega
        obtain ⟨q, hq⟩ : ∃ q, (l.drop k).take 4 = q := ⟨_, rfl⟩
        rw [hq] at hcv e1
        by_cases hqq : q = two4
        · rw [decide_eq_true hqq] at e1
          have HE : Hid (heL l = k + 4) := heL_at (by omega) (by omega) HN.out (by rw [hq]; exact hqq)
          clear hby hc hq hqq
          go_wp2
          go_ret
          exact ⟨ret_intE HE.out.symm, fun D => below_drewN (Below.refl _ _) _⟩
        · rw [decide_eq_false hqq] at e1
          have HE : Hid (∀ j, j < k + 1 → Lib.occAt (l.take 400) two4 j = false) := fun j hj => by
            by_cases e : j < k
            · exact HN.out j e
            · have : j = k := by omega
              subst this
              rw [occ_at l j (by omega), hq]; simp [hqq]
          clear hby hc hq hqq
          go_wp2
          go_roundw
          case rel => exact ⟨k + 1, n, by omega, by omega, by go_num, HE.out, rfl⟩
          case measure => simp [intOf]; omega
      · have HE : Hid (heL l = -1) := heL_none (by omega) HN.out
        have h1' : ((k : Int) + 3 < (l.length : Int)) := by omega
        have h2' : ¬ ((k : Int) + 3 < 400) := by omega
        go_wp2
        go_ret
        exact ⟨ret_intE HE.out.symm, fun D => below_drewN (Below.refl _ _) _⟩
    · have HE : Hid (heL l = -1) := heL_none (by omega) HN.out
      have h1' : ¬ ((k : Int) + 3 < (l.length : Int)) := by omega
      go_wp2
      go_ret
      exact ⟨ret_intE HE.out.symm, fun D => below_drewN (Below.refl _ _) _⟩

theorem min_take (l : List UInt8) : (min (l.length : Int) 400).toNat = (l.take 400).length := by rw [List.length_take]; omega

theorem mark_cells (w : World) (T : TypeId) : ∀ i, i < 4 → (w.alloc (.cells #[.int .u8 13, .int .u8 10, .int .u8 13, .int .u8 10] T (4, 5))).cell? ((⟨w.heap.size, 0, none⟩ : Addr).add i) = some (.int .u8 (([13, 10, 13, 10] : List Int).getD i 0)) := by
  intro i hi
  have e : (⟨w.heap.size, 0, none⟩ : Addr).add i = ⟨w.heap.size, i, none⟩ := by unfold Addr.add; split <;> simp_all
  rw [e, World.cell?_alloc_mark]
  match i, hi with
  | 0, _ => rfl
  | 1, _ => rfl
  | 2, _ => rfl
  | 3, _ => rfl

/-- bytes.Index of two line's ends among the first 400 bytes. -/
theorem index_two {w : World} {b o : Nat} {l : List UInt8} (cap B : Nat) (m : Int) (h : Byt w B (some ⟨b, o, none⟩) l) (hB : B ≤ w.heap.size) (hl : l.length ≤ cap) (h0 : 0 < w.heap.size) (hmx : w.cell? ⟨0, 0, none⟩ = some (.int .i64 m)) :
    Calls Tryz.prog 59 #[.slice (some ⟨b, o, none⟩) (l.take 400).length cap, .slice (some ⟨w.heap.size, 0, none⟩) 4 4] (w.alloc (.cells #[.int .u8 13, .int .u8 10, .int .u8 13, .int .u8 10] 5 (4, 5))) fun e w' => e = .returned (.int .i64 (Lib.index (l.take 400) two4)) ∧ Below w.heap.size w w' := by
  have hb0 : Below w.heap.size w (w.alloc (.cells #[.int .u8 13, .int .u8 10, .int .u8 13, .int .u8 10] 5 (4, 5))) := (Below.refl _ _).alloc (Nat.le_refl _) _
  have ht := (h.take 400).below hb0 hB
  have hlen : (l.take 400).length ≤ 400 := by rw [List.length_take]; omega
  have hlen2 : (l.take 400).length ≤ l.length := by rw [List.length_take]; omega
  have hc := Tryz.bytes_Index_at ⟨b, o, none⟩ ⟨w.heap.size, 0, none⟩ (l.take 400).length cap 4 4 (numsOf (l.take 400)) [13, 10, 13, 10] m (w.alloc (.cells #[.int .u8 13, .int .u8 10, .int .u8 13, .int .u8 10] 5 (4, 5)))
    (numsOf_length _) rfl (numsOf_range _) (by decide) (by
      intro i hi
      obtain ⟨b', o', e, _, hcc⟩ := ht (by omega)
      cases e
      exact numsOf_cells hcc i hi) (mark_cells w _) (by omega) (by omega) (by decide) ((hb0.cell (p := ⟨0, 0, none⟩) h0).trans hmx)
  refine hc.mono ?_
  rintro e w1 ⟨rfl, q, rfl⟩
  refine ⟨ret_intE ?_, below_drewN hb0 _⟩
  rw [numsOf_bytes]
  rfl

set_option maxRecDepth 100000 in
set_option maxHeartbeats 1000000 in
theorem headEnd_any (b o : Nat) (l : List UInt8) (cap B : Nat) (m : Int) (w : World) (h : Byt w B (some ⟨b, o, none⟩) l) (hB : B ≤ w.heap.size) (hl : l.length ≤ cap) (hm : cap ≤ maxLen) (h0 : 0 < w.heap.size) (hmx : w.cell? ⟨0, 0, none⟩ = some (.int .i64 m)) :
    Calls Tryz.prog 22 #[.slice (some ⟨b, o, none⟩) l.length cap] w fun e w' => e = .returned (.int .i64 (heL l)) ∧ Below w.heap.size w w' := by
  unfold maxLen at hm
  have hI := index_two cap B m h hB hl h0 hmx
  have kc := fun (w : World) (C : Array Value) (n c : Nat) => Lib.run_convert_bytes_const w 22 5 C n c Tryz.underlying22 Tryz.underlying5
  have hmt : Hid ((min (l.length : Int) 400).toNat = (l.take 400).length) := min_take l
  have HE : Hid (heL l = if 0 ≤ Lib.index (l.take 400) two4 then Lib.index (l.take 400) two4 + 4 else -1) := rfl
  have hbd : Lib.index (l.take 400) two4 ≤ 400 := by
    have := Lib.index_le (l.take 400) two4
    rw [List.length_take] at this; omega
  have hge := Lib.index_ge (l.take 400) two4
  obtain ⟨i, hi⟩ : ∃ i, Lib.index (l.take 400) two4 = i := ⟨_, rfl⟩
  rw [hi] at hI HE hbd hge
  obtain ⟨z, hz⟩ : ∃ z, heL l = z := ⟨_, rfl⟩
  rw [hz] at HE ⊢
  obtain ⟨k, hk⟩ : ∃ k, (l.take 400).length = k := ⟨_, rfl⟩
  rw [hk] at hI hmt
  clear hi hz hmx h0 h hk
  go_enter Tryz.func22, Tryz.ntmps22
  go_wp2_with fail
  rw [hmt.out]
  refine hI.mono ?_
  rintro e w1 ⟨rfl, b1⟩
  by_cases h0 : i < 0
  · have hz := HE.out
    rw [if_neg (by omega)] at hz
    subst hz
    go_wp2
    go_ret
    exact ⟨rfl, b1⟩
  · have hz := HE.out
    rw [if_pos (by omega)] at hz
    subst hz
    go_wp2
    go_ret
    exact ⟨rfl, b1⟩
end Go.Proofs.YtanebchmeaomgaaGreatDoor
namespace Go.Proofs.YtanebchmeaomgaaGreatDoor
open Go.RowKit M
set_option linter.unusedVariables false

/-- 'l = append(l, h)', and where the row lies then. -/
theorem wp_append_head2 {w : World} {ops : Array Oper} {rest : List Oper} {o : Oper} {a : Act} {Q : Exit → Act → World → Prop} (hgd : o.guard = none) (s x : Operand)
    (ho : o.op = .call { callee := .builtin .append, args := #[s, x], argTypes := #[37, 37] })
    (B : Nat) (v : Value) (n : Nat) (l : List Hd) (hs : a.eval s = v) (hown : w.ownsRow B 82 2 v n (hdCells l))
    (N : Nat) (c : Hd) (hx : a.eval x = .slice (some ⟨N, 0, none⟩) 1 1) (hc0 : w.cell? ⟨N, 0, none⟩ = some (.string c.1)) (hc1 : w.cell? ⟨N, 1, none⟩ = some (.string c.2)) (hlen : n + 1 ≤ 1099511627776) (hB : B ≤ w.heap.size)
    (h : ∀ g cap w', w'.ownsRow B 82 2 (.slice (some ⟨g, 0, none⟩) (n + 1) cap) (n + 1) (hdCells (l ++ [c])) → w.grownBy w' v.ownBlock → (v.ownBlock = some g ∨ g = w.heap.size) → wpList Tryz.prog ops Q rest (a.put o.dst (.slice (some ⟨g, 0, none⟩) (n + 1) cap)) w') : wpList Tryz.prog ops Q (o :: rest) a w := by
  obtain ⟨i0, hi, hz0, hz1, hz2⟩ := info_parts infoHd
  have hnews : ∀ j u, [Value.string c.1, Value.string c.2][j]? = some u → w.cell? ((⟨N, 0, none⟩ : Addr).add j) = some u := by
    intro j u hj
    have e : ∀ k, (⟨N, 0, none⟩ : Addr).add k = ⟨N, k, none⟩ := fun k => by unfold Addr.add; split <;> simp_all
    rw [e]
    match j, hj with
    | 0, hj => simp at hj; subst hj; exact hc0
    | 1, hj => simp at hj; subst hj; exact hc1
  have hone : ∀ u ∈ [Value.string c.1, Value.string c.2], u.oneCell' = true := by
    intro u hu; simp at hu; rcases hu with rfl | rfl <;> rfl
  have hex := run_append_own (P := Tryz.prog) w B 37 o.type 82 i0 _ 2 32 Tryz.underlying37 hi hz0 hz1 hz2 rfl (by decide) v n _ hown ⟨N, 0, none⟩ 1 1 [.string c.1, .string c.2] rfl hnews hone (by unfold maxLen; omega) (by omega) hB
  obtain ⟨v', w', hrun, ho', hg, _⟩ := hex
  obtain ⟨g, cap, rfl⟩ : ∃ g cap, v' = .slice (some ⟨g, 0, none⟩) (n + 1) cap := by
    rcases ho'.2 with ⟨_, h0⟩ | ⟨g, cap, cur, hv, _⟩
    · omega
    · exact ⟨g, cap, hv⟩
  have hwhere : v.ownBlock = some g ∨ g = w.heap.size := by
    rcases hown.2 with ⟨rfl, h0⟩ | ⟨g1, cap1, cur1, rfl, hg1, hh1, hn1, hm1, hs1, ht1⟩
    · right
      have hr := run_append_nil (P := Tryz.prog) w 37 o.type 82 i0 _ Tryz.underlying37 hi hz0 ⟨N, 0, none⟩ 1 1 [.string c.1, .string c.2] (by rw [hz1]; rfl) hnews (by decide) (by decide) (by rw [hz2]; decide)
      rw [hr] at hrun
      have := congrArg (fun r => match r with | Result.ok (Value.slice (some a) _ _) _ => a.block | _ => 0) hrun
      exact this.symm
    · by_cases hroom : n + 1 ≤ cap1
      · left
        have hr := run_append_room (P := Tryz.prog) w 37 o.type 82 i0 Tryz.underlying37 hi g1 n cap1 cur1 hh1 ⟨N, 0, none⟩ 1 1 [.string c.1, .string c.2] (by rw [hz1]; rfl) hnews hone hroom (by rw [hz1, hs1]; simp only [List.length_cons, List.length_nil]; omega)
        rw [hr] at hrun
        have := congrArg (fun r => match r with | Result.ok (Value.slice (some a) _ _) _ => a.block | _ => 0) hrun
        have : g1 = g := this
        rw [← this]; rfl
      · right
        have hr := run_append_grow (P := Tryz.prog) w 37 o.type 82 i0 _ Tryz.underlying37 hi hz0 ⟨g1, 0, none⟩ n cap1 (hdCells l) (by rw [hz1]; exact hown.1) (fun j u hu => hown.cells (g := g1) rfl j u hu) ⟨N, 0, none⟩ 1 1 [.string c.1, .string c.2] (by rw [hz1]; rfl) hnews (by omega) (by omega) (by rw [hz2]; exact growslice_fits (by omega) (by omega))
        rw [hr] at hrun
        have := congrArg (fun r => match r with | Result.ok (Value.slice (some a) _ _) _ => a.block | _ => 0) hrun
        exact this.symm
  refine wpList_plain hgd fun K hK => ?_
  unfold Oper.wp execOp
  simp only [ho, resolve, invoke, builtin, Sem.run_bind, Sem.run_pure, Result.andThen_ok, List.map_toArray, List.map_cons, List.map_nil, hs, hx, hrun]
  exact hK _ _ (h g cap w' (by rw [hdCells_append]; exact ho') hg hwhere)
/-- Two rows that do not lie in one block. -/
def ApartV (v v' : Value) : Prop := v.ownBlock = none ∨ v.ownBlock ≠ v'.ownBlock
theorem ApartV.symm {v v' : Value} (h : ApartV v v') : ApartV v' v := by
  rcases h with h | h
  · cases hv : v'.ownBlock with
    | none => exact .inl hv
    | some k => exact .inr (by rw [hv, h]; simp)
  · cases hv : v'.ownBlock with
    | none => exact .inl hv
    | some k => exact .inr (fun e => h e.symm)
/-- A row of heads. -/
def RowsH (w : World) (B : Nat) (v : Value) (hs : List Hd) : Prop := w.ownsRow B 82 2 v hs.length (hdCells hs)
theorem ApartV.grown {w : World} {B g n cap : Nat} {v v2 : Value} {hs : List Hd} (h : ApartV v v2) (h2 : RowsH w B v2 hs) (hw : v.ownBlock = some g ∨ g = w.heap.size) : ApartV (.slice (some ⟨g, 0, none⟩) n cap) v2 := by
  right
  intro e
  have e' : v2.ownBlock = some g := e.symm
  rcases hw with hw | hw
  · rcases h with h | h
    · rw [hw] at h; cases h
    · exact h (by rw [hw, e'])
  · have := (World.ownsRow.lt h2 g e').2
    omega
theorem RowsH.kept {w w' : World} {B : Nat} {v v2 : Value} {hs : List Hd} (h : RowsH w B v2 hs) (ha : ApartV v v2) (hg : w.grownBy w' v.ownBlock) : RowsH w' B v2 hs :=
  World.ownsRow.kept h hg (by
    rcases ha.symm with h | h
    · exact .inl h
    · exact .inr h)
/-- A row of heads as a slice that is read. -/
theorem RowsH.hds {w : World} {B : Nat} {v : Value} {hs : List Hd} (h : RowsH w B v hs) : ∃ a c, v = .slice a hs.length c ∧ Hds w w.heap.size a hs := by
  rcases h.2 with ⟨e, h0⟩ | ⟨g, cap, cur, e, _⟩
  · have : hs = [] := List.length_eq_zero_iff.1 h0
    subst this
    exact ⟨none, 0, e, fun h => absurd h (Nat.lt_irrefl _)⟩
  · subst e
    exact ⟨_, _, rfl, ownsH_hds h rfl⟩
theorem RowsH.base {w : World} {B C : Nat} {v : Value} {hs : List Hd} (h : RowsH w B v hs) (hC : C ≤ B) : RowsH w C v hs := by
  refine ⟨h.1, ?_⟩
  rcases h.2 with h | ⟨g, cap, cur, e, hB, hr⟩
  · exact .inl h
  · exact .inr ⟨g, cap, cur, e, Nat.le_trans hC hB, hr⟩
end Go.Proofs.YtanebchmeaomgaaGreatDoor
namespace Go.Proofs.YtanebchmeaomgaaGreatDoor
open Go.RowKit M
set_option linter.unusedVariables false

/-- What stands in the three rows when k heads are sorted. -/
def SortI (w : World) (hs : List Hd) (k : Nat) (v1 v2 v3 : Value) (W : World) : Prop :=
  RowsH W w.heap.size v1 (lensOf (hs.take k)) ∧ RowsH W w.heap.size v2 (codsOf (hs.take k)) ∧ RowsH W w.heap.size v3 (othOf (hs.take k)) ∧ ApartV v1 v2 ∧ ApartV v1 v3 ∧ ApartV v2 v3 ∧ Below w.heap.size w W
theorem SortI.next {w W W' : World} {hs : List Hd} {k : Nat} {v1 v2 v3 : Value} (h : SortI w hs k v1 v2 v3 W) (hb : Below W.heap.size W W') : SortI w hs k v1 v2 v3 W' := by
  obtain ⟨h1, h2, h3, h4, h5, h6, h7⟩ := h
  exact ⟨ownsH_below h1 hb, ownsH_below h2 hb, ownsH_below h3 hb, h4, h5, h6, h7.trans (hb.mono h7.size)⟩
theorem lens_le (hs : List Hd) : (lensOf hs).length ≤ hs.length := List.length_filter_le _ _
theorem cods_le (hs : List Hd) : (codsOf hs).length ≤ hs.length := List.length_filter_le _ _
theorem oth_le (hs : List Hd) : (othOf hs).length ≤ hs.length := List.length_filter_le _ _
theorem sort_len {hs : List Hd} {k : Nat} (hk : k < hs.length) (h : hs[k].1 = lenName) : lensOf (hs.take (k + 1)) = lensOf (hs.take k) ++ [hs[k]] ∧ codsOf (hs.take (k + 1)) = codsOf (hs.take k) ∧ othOf (hs.take (k + 1)) = othOf (hs.take k) := by
  rw [List.take_succ_eq_append_getElem hk]
  have hne : ¬ lenName = codName := by decide
  simp only [lensOf, codsOf, othOf, List.filter_append]
  simp [h, hne]
theorem sort_cod {hs : List Hd} {k : Nat} (hk : k < hs.length) (h0 : ¬ hs[k].1 = lenName) (h : hs[k].1 = codName) : lensOf (hs.take (k + 1)) = lensOf (hs.take k) ∧ codsOf (hs.take (k + 1)) = codsOf (hs.take k) ++ [hs[k]] ∧ othOf (hs.take (k + 1)) = othOf (hs.take k) := by
  rw [List.take_succ_eq_append_getElem hk]
  simp only [lensOf, codsOf, othOf, List.filter_append]
  simp [h]
  rw [h] at h0
  exact h0
theorem sort_oth {hs : List Hd} {k : Nat} (hk : k < hs.length) (h0 : ¬ hs[k].1 = lenName) (h : ¬ hs[k].1 = codName) : lensOf (hs.take (k + 1)) = lensOf (hs.take k) ∧ codsOf (hs.take (k + 1)) = codsOf (hs.take k) ∧ othOf (hs.take (k + 1)) = othOf (hs.take k) ++ [hs[k]] := by
  rw [List.take_succ_eq_append_getElem hk]
  simp only [lensOf, codsOf, othOf, List.filter_append]
  simp [h0, h]

set_option maxRecDepth 100000 in
set_option maxHeartbeats 4000000 in
theorem sortHeads_any (a : Option Addr) (hs : List Hd) (cap B : Nat) (w : World) (h : Hds w B a hs) (hB : B ≤ w.heap.size) (hl : hs.length ≤ 1048576) :
    Calls Tryz.prog 184 #[.slice a hs.length cap] w fun e w' => (∃ v1 v2 v3, e = .returned (.tuple #[v1, v2, v3]) ∧ RowsH w' w.heap.size v1 (lensOf hs) ∧ RowsH w' w.heap.size v2 (codsOf hs) ∧ RowsH w' w.heap.size v3 (othOf hs)) ∧ Below w.heap.size w w' := by
  have HH := hide h
  clear h
  go_enter Tryz.func184, Tryz.ntmps184
  go_wp2
  go_loopw [2, 3, 4, 9] (fun v1 v2 v3 i wr => ∃ k : Nat, k ≤ hs.length ∧ i = .int .i64 k ∧ SortI w hs k v1 v2 v3 wr) (fun _ _ _ i _ => hs.length - (intOf i).toNat)
  case atStart => exact ⟨0, Nat.zero_le _, rfl, World.ownsRow_nil _ _ _ _, World.ownsRow_nil _ _ _ _, World.ownsRow_nil _ _ _ _, .inl rfl, .inl rfl, .inl rfl, Below.refl _ _⟩
  case round =>
    obtain ⟨k, hk, rfl, hS⟩ := hrel
    by_cases hlt : k < hs.length
    · obtain ⟨b, o, rfl, hb, hc⟩ := HH.out.below hS.2.2.2.2.2.2 hB (by omega)
      have hcx := (hc k hlt).1
      have hcy := (hc k hlt).2
      obtain ⟨x, hx⟩ : ∃ x, hs[k].1 = x := ⟨_, rfl⟩
      obtain ⟨y, hy⟩ : ∃ y, hs[k].2 = y := ⟨_, rfl⟩
      rw [hx] at hcx
      rw [hy] at hcy
      have HE : Hid (hs[k] = (x, y)) := by show hs[k] = (x, y); rw [← hx, ← hy]
      have ba : Below wr.heap.size wr (wr.alloc (Obj.cells #[.string x, .string y] 82)) := (Below.refl _ _).alloc (Nat.le_refl _) _
      have HS1 := hide (hS.next ba)
      have HT1 := hide (tellsLength_any x y (wr.alloc (Obj.cells #[.string x, .string y] 82)))
      have BH1 := hide (BoxH.made wr x y 82)
      clear hc hS ba
      by_cases hlen : x = lenName
      · have HSt := hide (sort_len hlt (by rw [hx]; exact hlen))
        rw [decide_eq_true hlen] at HT1
        clear hx hy hlen
        go_wp2_with fail
        refine HT1.out.mono ?_
        rintro e w1 ⟨rfl, b1⟩
        have hS2 := HS1.out.next b1
        have BH2 := hide (BH1.out.next b1)
        obtain ⟨hl2, q0, q1⟩ := BH2.out
        clear HT1 HS1 BH1 b1
        have ba := (Below.refl w1.heap.size w1).alloc (Nat.le_refl _) (Obj.cells #[Value.string x, Value.string y] 82)
        obtain ⟨r1, r2, r3, a12, a13, a23, hbe⟩ := hS2.next ba
        have BN := BoxH.made w1 x y 82
        have hle := lens_le (hs.take k)
        rw [List.length_take] at hle
        go_wp2_with (at_builtin; refine wp_append_head2 rfl _ _ rfl w.heap.size u2 _ (lensOf (hs.take k)) rfl r1 w1.heap.size (x, y) rfl BN.2.1 BN.2.2 ?c1 ?c2 ?_)
        case c1 => omega
        case c2 => exact hbe.size
        intro g cp w3 ho3 hg3 hw3'
        have hw3 : _ ∨ g = _ := hw3'.imp id (fun e => e.trans (World.size_alloc _ (Obj.cells #[Value.string x, Value.string y] 82)).symm)
        have R2 := r2.kept a12 hg3
        have R3 := r3.kept a13 hg3
        have R1 : RowsH w3 w.heap.size (.slice (some ⟨g, 0, none⟩) ((lensOf (hs.take k)).length + 1) cp) (lensOf (hs.take (k + 1))) := by
          unfold RowsH
          rw [HSt.out.1, HE.out, List.length_append]
          exact ho3
        have B3 := hbe.trans (belowH_grown r1 hbe.size hg3)
        have HF : Hid (SortI w hs (k + 1) (.slice (some ⟨g, 0, none⟩) ((lensOf (hs.take k)).length + 1) cp) u3 u4 w3) := ⟨R1, by rw [HSt.out.2.1]; exact R2, by rw [HSt.out.2.2]; exact R3, a12.grown r2 hw3, a13.grown r3 hw3, a23, B3⟩
        clear R1 R2 R3 B3 r1 r2 r3 ho3 hg3 hw3 hbe ba hS2 BN q0 q1
        go_wp2
        go_roundw
        case rel => exact ⟨k + 1, by omega, by go_num, HF.out⟩
        case measure => simp [intOf]; omega
      · rw [decide_eq_false hlen] at HT1
        go_wp2_with fail
        refine HT1.out.mono ?_
        rintro e w1 ⟨rfl, b1⟩
        have HS2 := hide (HS1.out.next b1)
        have BH2 := hide (BH1.out.next b1)
        obtain ⟨hl2, q0, q1⟩ := BH2.out
        have HT2 := hide (tellsCoding_any x y w1)
        clear HT1 HS1 BH1 b1
        by_cases hcod : x = codName
        · have HSt := hide (sort_cod hlt (by rw [hx]; exact hlen) (by rw [hx]; exact hcod))
          rw [decide_eq_true hcod] at HT2
          clear hx hy hlen hcod
          go_wp2_with fail
          refine HT2.out.mono ?_
          rintro e w2 ⟨rfl, b2⟩
          have hS3 := HS2.out.next b2
          have BH3 := hide (BH2.out.next b2)
          obtain ⟨hl3, p0, p1⟩ := BH3.out
          clear HT2 HS2 BH2 b2 q0 q1
          have ba := (Below.refl w2.heap.size w2).alloc (Nat.le_refl _) (Obj.cells #[Value.string x, Value.string y] 82)
          obtain ⟨r1, r2, r3, a12, a13, a23, hbe⟩ := hS3.next ba
          have BN := BoxH.made w2 x y 82
          have hle := cods_le (hs.take k)
          rw [List.length_take] at hle
          go_wp2_with (at_builtin; refine wp_append_head2 rfl _ _ rfl w.heap.size u3 _ (codsOf (hs.take k)) rfl r2 w2.heap.size (x, y) rfl BN.2.1 BN.2.2 ?c1 ?c2 ?_)
          case c1 => omega
          case c2 => exact hbe.size
          intro g cp w3 ho3 hg3 hw3'
          have hw3 : _ ∨ g = _ := hw3'.imp id (fun e => e.trans (World.size_alloc _ (Obj.cells #[Value.string x, Value.string y] 82)).symm)
          have R1 := r1.kept a12.symm hg3
          have R3 := r3.kept a23 hg3
          have R2 : RowsH w3 w.heap.size (.slice (some ⟨g, 0, none⟩) ((codsOf (hs.take k)).length + 1) cp) (codsOf (hs.take (k + 1))) := by
            unfold RowsH
            rw [HSt.out.2.1, HE.out, List.length_append]
            exact ho3
          have B3 := hbe.trans (belowH_grown r2 hbe.size hg3)
          have HF : Hid (SortI w hs (k + 1) u2 (.slice (some ⟨g, 0, none⟩) ((codsOf (hs.take k)).length + 1) cp) u4 w3) := ⟨by rw [HSt.out.1]; exact R1, R2, by rw [HSt.out.2.2]; exact R3, (a12.symm.grown r1 hw3).symm, a13, a23.grown r3 hw3, B3⟩
          clear R1 R2 R3 B3 r1 r2 r3 ho3 hg3 hw3 hbe ba hS3 BN p0 p1
          go_wp2
          go_roundw
          case rel => exact ⟨k + 1, by omega, by go_num, HF.out⟩
          case measure => simp [intOf]; omega
        · have HSt := hide (sort_oth hlt (by rw [hx]; exact hlen) (by rw [hx]; exact hcod))
          rw [decide_eq_false hcod] at HT2
          clear hx hy hlen hcod
          go_wp2_with fail
          refine HT2.out.mono ?_
          rintro e w2 ⟨rfl, b2⟩
          have hS3 := HS2.out.next b2
          have BH3 := hide (BH2.out.next b2)
          obtain ⟨hl3, p0, p1⟩ := BH3.out
          clear HT2 HS2 BH2 b2 q0 q1
          have ba := (Below.refl w2.heap.size w2).alloc (Nat.le_refl _) (Obj.cells #[Value.string x, Value.string y] 82)
          obtain ⟨r1, r2, r3, a12, a13, a23, hbe⟩ := hS3.next ba
          have BN := BoxH.made w2 x y 82
          have hle := oth_le (hs.take k)
          rw [List.length_take] at hle
          go_wp2_with (at_builtin; refine wp_append_head2 rfl _ _ rfl w.heap.size u4 _ (othOf (hs.take k)) rfl r3 w2.heap.size (x, y) rfl BN.2.1 BN.2.2 ?c1 ?c2 ?_)
          case c1 => omega
          case c2 => exact hbe.size
          intro g cp w3 ho3 hg3 hw3'
          have hw3 : _ ∨ g = _ := hw3'.imp id (fun e => e.trans (World.size_alloc _ (Obj.cells #[Value.string x, Value.string y] 82)).symm)
          have R1 := r1.kept a13.symm hg3
          have R2 := r2.kept a23.symm hg3
          have R3 : RowsH w3 w.heap.size (.slice (some ⟨g, 0, none⟩) ((othOf (hs.take k)).length + 1) cp) (othOf (hs.take (k + 1))) := by
            unfold RowsH
            rw [HSt.out.2.2, HE.out, List.length_append]
            exact ho3
          have B3 := hbe.trans (belowH_grown r3 hbe.size hg3)
          have HF : Hid (SortI w hs (k + 1) u2 u3 (.slice (some ⟨g, 0, none⟩) ((othOf (hs.take k)).length + 1) cp) w3) := ⟨by rw [HSt.out.1]; exact R1, by rw [HSt.out.2.1]; exact R2, R3, a12, (a13.symm.grown r1 hw3).symm, (a23.symm.grown r2 hw3).symm, B3⟩
          clear R1 R2 R3 B3 r1 r2 r3 ho3 hg3 hw3 hbe ba hS3 BN p0 p1
          go_wp2
          go_roundw
          case rel => exact ⟨k + 1, by omega, by go_num, HF.out⟩
          case measure => simp [intOf]; omega
    · obtain ⟨r1, r2, r3, _, _, _, hbe⟩ := hS
      rw [List.take_of_length_le (by omega)] at r1 r2 r3
      go_wp2
      refine bodyPost_ret (v := .tuple #[u2, u3, u4]) (by simp [results, Tryz.results184, go_sem]) rfl ?_
      exact ⟨⟨_, _, _, rfl, r1, r2, r3⟩, hbe⟩
end Go.Proofs.YtanebchmeaomgaaGreatDoor
namespace Go.Proofs.YtanebchmeaomgaaGreatDoor
open Go.RowKit M

set_option maxHeartbeats 400000 in
theorem l1HexOf_any (c : UInt8) (w : World) :
    Calls Tryz.prog 187 #[.int .u8 c.toNat] w fun e w' => e = .returned (.int .i64 (hexOf c)) ∧ w' = w := by
  cases h4 : isB (c.toNat : Int) 4
  · cases h5 : isB (c.toNat : Int) 5
    · cases h6 : isB (c.toNat : Int) 6
      · have HO : Hid (hexOf c = -1) := hexOf_no (by simp [isHex, anyB, h4, h5, h6])
        go_enter Tryz.func187, Tryz.ntmps187
        go_wp2_with (first | (go_at_call 159; refine (l1Digit_any _ _).mono ?_; rintro e w' ⟨rfl, rfl⟩; rw [h4]) | (go_at_call 123; refine (l1In_any _ _ _ _).mono ?_; rintro e w' ⟨rfl, rfl⟩; (try rw [wrap64_u8]); first | rw [inB_hexs, h5] | rw [inB_hexl, h6]))
        go_ret
        exact ⟨ret_int HO.out.symm, rfl⟩
      · have hh : isHex c = true := by simp [isHex, anyB, h4, h5, h6]
        have HO : Hid (hexOf c = (c.toNat : Int) - 65 + 10) := by
          show _ = _
          rw [hexOf_yes hh, hexW_6 h4 h5]
          have := isB6 h6
          omega
        have hb := isB6 h6
        go_enter Tryz.func187, Tryz.ntmps187
        go_wp2_with (first | (go_at_call 159; refine (l1Digit_any _ _).mono ?_; rintro e w' ⟨rfl, rfl⟩; rw [h4]) | (go_at_call 123; refine (l1In_any _ _ _ _).mono ?_; rintro e w' ⟨rfl, rfl⟩; (try rw [wrap64_u8]); first | rw [inB_hexs, h5] | rw [inB_hexl, h6]))
        go_ret
        exact ⟨ret_int HO.out.symm, rfl⟩
    · have hh : isHex c = true := by simp [isHex, anyB, h4, h5]
      have HO : Hid (hexOf c = (c.toNat : Int) - 97 + 10) := by
        show _ = _
        rw [hexOf_yes hh, hexW_5 h4 h5]
        have := isB5 h5
        omega
      have hb := isB5 h5
      go_enter Tryz.func187, Tryz.ntmps187
      go_wp2_with (first | (go_at_call 159; refine (l1Digit_any _ _).mono ?_; rintro e w' ⟨rfl, rfl⟩; rw [h4]) | (go_at_call 123; refine (l1In_any _ _ _ _).mono ?_; rintro e w' ⟨rfl, rfl⟩; (try rw [wrap64_u8]); rw [inB_hexs, h5]))
      go_ret
      exact ⟨ret_int HO.out.symm, rfl⟩
  · have hh : isHex c = true := by simp [isHex, anyB, h4]
    have HO : Hid (hexOf c = (c.toNat : Int) - 48) := by
      show _ = _
      rw [hexOf_yes hh, hexW_4 h4]
      have := isB4 h4
      omega
    have hb := isB4 h4
    go_enter Tryz.func187, Tryz.ntmps187
    go_wp2_with (go_at_call 159; refine (l1Digit_any _ _).mono ?_; rintro e w' ⟨rfl, rfl⟩; rw [h4])
    go_ret
    exact ⟨ret_int HO.out.symm, rfl⟩

end Go.Proofs.YtanebchmeaomgaaGreatDoor
namespace Go.Proofs.YtanebchmeaomgaaGreatDoor
open Go.RowKit M

theorem low_small : ∀ d : Fin 256, 97 ≤ d.val → d.val ≤ 102 → bits .or .u8 (d.val : Int) 32 = (d.val : Int) := by decide +kernel
theorem low_large : ∀ d : Fin 256, 65 ≤ d.val → d.val ≤ 70 → bits .or .u8 (d.val : Int) 32 = (d.val : Int) + 32 := by decide +kernel

set_option maxHeartbeats 4000000 in
set_option maxRecDepth 100000 in
theorem parseUint_16 (t : ByteArray) (w : World) (h0 : 0 < t.size) (h4 : t.size ≤ 4) (hh : hexs t.data.toList = true) :
    Calls Tryz.prog 234 #[.string t, .int .i64 16, .int .i64 64] w fun e w' => e = .returned (.tuple #[.int .u64 (hexVal t.data.toList), .nilIface]) ∧ Below w.heap.size w w' := by
  have hemp : t.toList.isEmpty = false := by
    rw [← decide_eq_emptyBytes]
    exact decide_eq_false (fun h => by rw [h] at h0; exact absurd h0 (by decide))
  have hcv := Lib.run_convert_string_bytes (P := Tryz.prog) w 9 22 5 t Tryz.underlying9 Tryz.underlying22 Tryz.underlying5
  have hB : ∀ j (hj : j < t.size), (Lib.bytesWorld w 5 t).cell? ⟨w.heap.size, j, none⟩ = some (.int .u8 (t[j]).toNat) := fun j hj => by
    rw [Lib.bytesWorld_cell w 5 t j hj]
    have e := len_list t
    have : t.data.toList.getD j 0 = t[j] := by
      simp only [List.getD, List.getElem?_eq_getElem (show j < t.data.toList.length by omega), Option.getD_some]; rfl
    rw [this]
  have hbel := below_bytes w 5 t
  obtain ⟨W1, hW1⟩ : ∃ W1, W1 = Lib.bytesWorld w 5 t := ⟨_, rfl⟩
  rw [← hW1] at hcv hB hbel
  clear hW1
  have HB : Hid (∀ j (hj : j < t.size), W1.cell? ⟨w.heap.size, j, none⟩ = some (.int .u8 (t[j]).toNat)) := hB
  have HBE : Hid (Below w.heap.size w W1) := hbel
  have HH : Hid (hexs t.data.toList = true) := hh
  clear hB hbel hh
  have hmv : IntKind.u64.wrap (IntKind.u64.wrap 18446744073709551616 - 1) = 18446744073709551615 := by
    rw [IntKind.wrap_u64, IntKind.wrap_u64]
    decide
  go_enter Tryz.func234, Tryz.ntmps234
  go_wp2
  go_loop [12, 13, 101] (fun vu vn vi => ∃ (k : Nat) (a : Int), vu = .bool false ∧ vn = .int .u64 a ∧ vi = .int .i64 k ∧ k ≤ t.size ∧ Hid (a = (hexVal (t.data.toList.take k) : Int) ∧ hexs (t.data.toList.take k) = true))
    (fun _ _ vi => t.size - (intOf vi).toNat)
  case atStart => exact ⟨0, 0, rfl, rfl, rfl, by omega, rfl, rfl⟩
  case round =>
    obtain ⟨k, a, rfl, rfl, rfl, hk, hx⟩ := hrel
    obtain ⟨ha, hhx⟩ := hx.out
    clear hx
    have hlt16 := hexVal_lt t k hk hhx
    have hp16 := pow16_le (show k ≤ 5 by omega)
    have a0 : 0 ≤ a := by omega
    have a1 : a < 1048576 := by omega
    have HA : Hid (a = (hexVal (t.data.toList.take k) : Int)) := ha
    have HX : Hid (hexs (t.data.toList.take k) = true) := hhx
    clear ha hhx hlt16 hp16
    by_cases hkn : k < t.size
    · have hc := HB.out k hkn
      have hhex := hexs_get t HH.out k hkn
      have HS : Hid (hexVal (t.data.toList.take (k + 1)) = hexVal (t.data.toList.take k) * 16 + hexW t[k]) := hexVal_step t k hkn
      have HX2 : Hid (hexs (t.data.toList.take (k + 1)) = true) := hexs_snoc t k hkn HX.out hhex
      generalize t[k] = c at hc hhex HS
      have hc256 : c.toNat < 256 := c.toNat_lt
      have hfin : ∀ d : Int, d = (hexW c : Int) → Hid (a * 16 + d = (hexVal (t.data.toList.take (k + 1)) : Int) ∧ hexs (t.data.toList.take (k + 1)) = true) := by
        intro d hd
        refine ⟨?_, HX2.out⟩
        rw [hd, HA.out, HS.out]
        simp
      have HFIN : Hid (∀ d : Int, d = (hexW c : Int) → Hid (a * 16 + d = (hexVal (t.data.toList.take (k + 1)) : Int) ∧ hexs (t.data.toList.take (k + 1)) = true)) := hfin
      clear hfin HS HX2
      have HC : Hid (isHex c = true) := hhex
      clear hhex
      rcases isHex_cases HC.out with e4 | ⟨e4, e5⟩ | ⟨e4, e5, e6⟩
      · have hd := isB4 e4
        have HD : Hid ((c.toNat : Int) - 48 = (hexW c : Int)) := by
          show _ = _
          rw [hexW_4 e4]; omega
        clear e4
        go_wp2
        refine ⟨⟨k + 1, a * 16 + ((c.toNat : Int) - 48), rfl, rfl, by go_num, by omega, HFIN.out _ HD.out⟩, by simp [intOf]; omega⟩
      · have hd := isB5 e5
        have hlow := low_small ⟨c.toNat, hc256⟩ (by simp; omega) (by simp; omega)
        have hlow' : bits .or .u8 (c.toNat : Int) 32 = (c.toNat : Int) := hlow
        have HD : Hid ((c.toNat : Int) - 97 + 10 = (hexW c : Int)) := by
          show _ = _
          rw [hexW_5 e4 e5]; omega
        clear e4 e5 hlow
        go_wp2_with (go_at_call 237; refine (Tryz.internal_strconv_lower _ _).mono ?_; rintro e w' ⟨rfl, rfl⟩; rw [hlow'])
        refine ⟨⟨k + 1, a * 16 + ((c.toNat : Int) - 97 + 10), rfl, rfl, by go_num, by omega, HFIN.out _ HD.out⟩, by simp [intOf]; omega⟩
      · have hd := isB6 e6
        have hlow := low_large ⟨c.toNat, hc256⟩ (by simp; omega) (by simp; omega)
        have hlow' : bits .or .u8 (c.toNat : Int) 32 = (c.toNat : Int) + 32 := hlow
        have HD : Hid ((c.toNat : Int) + 32 - 97 + 10 = (hexW c : Int)) := by
          show _ = _
          rw [hexW_6 e4 e5]; omega
        clear e4 e5 e6 hlow
        go_wp2_with (go_at_call 237; refine (Tryz.internal_strconv_lower _ _).mono ?_; rintro e w' ⟨rfl, rfl⟩; rw [hlow'])
        refine ⟨⟨k + 1, a * 16 + ((c.toNat : Int) + 32 - 97 + 10), rfl, rfl, by go_num, by omega, HFIN.out _ HD.out⟩, by simp [intOf]; omega⟩
    · go_wp2
      go_ret2
      refine ⟨?_, HBE.out⟩
      rw [HA.out, take_all t k hkn]; rfl
end Go.Proofs.YtanebchmeaomgaaGreatDoor
namespace Go.Proofs.YtanebchmeaomgaaGreatDoor
open Go.RowKit M

set_option maxHeartbeats 2000000 in
set_option maxRecDepth 100000 in
theorem parseIntIn_16 (t : ByteArray) (w : World) (h0 : 0 < t.size) (h4 : t.size ≤ 4) (hh : hexs t.data.toList = true) :
    Calls Tryz.prog 227 #[.string t, .int .i64 16, .int .i64 64] w fun e w' => e = .returned (.tuple #[.int .i64 (hexVal t.data.toList), .nilIface]) ∧ Below w.heap.size w w' := by
  have hemp : t.toList.isEmpty = false := by
    rw [← decide_eq_emptyBytes]
    exact decide_eq_false (fun h => by rw [h] at h0; exact absurd h0 (by decide))
  have HP : Hid (∀ W, Calls Tryz.prog 234 #[.string t, .int .i64 16, .int .i64 64] W fun e w' => e = .returned (.tuple #[.int .u64 (hexVal t.data.toList), .nilIface]) ∧ Below W.heap.size W w') := fun W => parseUint_16 t W h0 h4 hh
  have hg := hexs_get t hh 0 h0
  have hne : (((t[0]).toNat : Int) == 43) = false ∧ (((t[0]).toNat : Int) == 45) = false := by
    rw [beq_eq_false_iff_ne, beq_eq_false_iff_ne]
    rcases isHex_cases hg with e4 | ⟨_, e5⟩ | ⟨_, _, e6⟩
    · have := isB4 e4; omega
    · have := isB5 e5; omega
    · have := isB6 e6; omega
  obtain ⟨hn1, hn2⟩ := hne
  have hv : hexVal t.data.toList < 1048576 := by
    have h1 := hexVal_lt t t.size (Nat.le_refl _) (by rw [take_all t t.size (by omega)]; exact hh)
    rw [take_all t t.size (by omega)] at h1
    have := pow16_le (show t.size ≤ 5 by omega)
    omega
  clear hg hh
  obtain ⟨a, ha⟩ : ∃ a : Int, a = (hexVal t.data.toList : Int) := ⟨_, rfl⟩
  rw [← ha] at HP ⊢
  have a0 : 0 ≤ a := by omega
  have a1 : a < 1048576 := by omega
  clear ha hv
  go_enter Tryz.func227, Tryz.ntmps227
  go_wp2_with (go_at_call 234; refine (HP.out _).mono ?_; rintro e w1 ⟨rfl, hb1⟩)
  go_ret2
  exact ⟨rfl, hb1⟩

set_option maxHeartbeats 1000000 in
theorem parseInt_16 (t : ByteArray) (w : World) (h0 : 0 < t.size) (h4 : t.size ≤ 4) (hh : hexs t.data.toList = true) :
    Calls Tryz.prog 239 #[.string t, .int .i64 16, .int .i64 64] w fun e w' => e = .returned (.tuple #[.int .i64 (hexVal t.data.toList), .nilIface]) ∧ Below w.heap.size w w' := by
  have HP : Hid (∀ W, Calls Tryz.prog 227 #[.string t, .int .i64 16, .int .i64 64] W fun e w' => e = .returned (.tuple #[.int .i64 (hexVal t.data.toList), .nilIface]) ∧ Below W.heap.size W w') := fun W => parseIntIn_16 t W h0 h4 hh
  clear hh
  generalize (hexVal t.data.toList : Int) = a at *
  go_enter Tryz.func239, Tryz.ntmps239
  go_wp2_with (go_at_call 227; refine (HP.out _).mono ?_; rintro e w1 ⟨rfl, hb1⟩)
  go_ret2
  exact ⟨rfl, hb1⟩

set_option maxHeartbeats 1000000 in
theorem parseHex_any (s : ByteArray) (w : World) (hs : s.size ≤ maxLen) :
    Calls Tryz.prog 236 #[.string s] w fun e w' => e = .returned (.tuple #[.int .i64 (parseHex s.data.toList).1, .bool (parseHex s.data.toList).2]) ∧ Below w.heap.size w w' := by
  have hs' := hs
  unfold maxLen at hs'
  cases hin : inB (s.size : Int) 1 4
  · have HQ : Hid (parseHex s.data.toList = (0, false)) := parseHex_size hin
    have h : s.size < 1 ∨ 4 < s.size := by simp [inB] at hin; omega
    clear hin
    rcases h with h | h
    · go_enter Tryz.func236, Tryz.ntmps236
      go_wp2
      go_ret2
      exact ⟨ret_two (by rw [HQ.out]), Below.refl _ _⟩
    · have h' : ¬ s.size < 1 := by omega
      go_enter Tryz.func236, Tryz.ntmps236
      go_wp2
      go_ret2
      exact ⟨ret_two (by rw [HQ.out]), Below.refl _ _⟩
  · have h0 : 0 < s.size := by simp [inB] at hin; omega
    have h4 : ¬ 4 < s.size := by simp [inB] at hin; omega
    have h1n : ¬ s.size < 1 := by omega
    have HIN : Hid (inB (s.size : Int) 1 4 = true) := hin
    clear hin
    cases hd : allB s.data.toList [4, 5, 6]
    · have HQ : Hid (parseHex s.data.toList = (0, false)) := parseHex_no hd
      go_enter Tryz.func236, Tryz.ntmps236
      go_wp2_with (go_at_call 167; refine (allOf_any s [4, 5, 6] 3 _ 0 3 _ rfl hs (by decide) (cells3 w _ 4 5 6 205 rfl)).mono ?_; rintro e w' ⟨rfl, rfl⟩; rw [hd])
      go_ret2
      exact ⟨ret_two (by rw [HQ.out]), (Below.refl _ _).alloc (Nat.le_refl _) _⟩
    · have HP : Hid (∀ W, Calls Tryz.prog 239 #[.string s, .int .i64 16, .int .i64 64] W fun e w' => e = .returned (.tuple #[.int .i64 (hexVal s.data.toList), .nilIface]) ∧ Below W.heap.size W w') := fun W => parseInt_16 s W h0 (by omega) hd
      have HQ : Hid (parseHex s.data.toList = ((hexVal s.data.toList : Int), true)) := parseHex_yes HIN.out hd
      have hv : hexVal s.data.toList < 1048576 := by
        have h1 := hexVal_lt s s.size (Nat.le_refl _) (by rw [take_all s s.size (by omega)]; exact hd)
        rw [take_all s s.size (by omega)] at h1
        have := pow16_le (show s.size ≤ 5 by omega)
        omega
      go_enter Tryz.func236, Tryz.ntmps236
      go_wp2_with (first | (go_at_call 167; refine (allOf_any s [4, 5, 6] 3 _ 0 3 _ rfl hs (by decide) (cells3 w _ 4 5 6 205 rfl)).mono ?_; rintro e w' ⟨rfl, rfl⟩; rw [hd]) | (go_at_call 239; refine (HP.out _).mono ?_; rintro e w1 ⟨rfl, hb1⟩))
      go_ret2
      exact ⟨ret_two (by rw [HQ.out]), ((Below.refl _ _).alloc (Nat.le_refl _) _).trans (hb1.mono (by simp))⟩
end Go.Proofs.YtanebchmeaomgaaGreatDoor
