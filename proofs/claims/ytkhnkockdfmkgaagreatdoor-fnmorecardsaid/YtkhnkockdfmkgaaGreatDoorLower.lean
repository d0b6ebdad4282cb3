/-
  Plain facts on what GetReq answers: no program in sight.
  What the program's sortHeads does: three rows of heads, each its own.
  Slices of bytes: what they hold, and that it stays; parts of them; texts of them.
  Bytes as numbers.
  Plain facts on where a text is cut: no program in sight.
  What the program's wordAhead does.
  A store into a row, as the memory has it then.
  What the program's headOk does.
  What the program's Lower does.
-/
import Derived.Test.YtkhnkockdfmkgaaGreatDoorMathGet
import Derived.Test.YtkhnkockdfmkgaaGreatDoorMathCut
import Derived.Test.YtkhnkockdfmkgaaGreatDoorAllOf
import Derived.Test.YtkhnkockdfmkgaaGreatDoorMathBack
import Derived.Laws.Append
import Derived.Laws.AppendOwn
import Derived.Test.YtkhnkockdfmkgaaGreatDoorRows
import Derived.WalkKit
import Derived.WalkSpells
import Derived.WalkLawsBesides
import Derived.Deep.Light
import Derived.Deep.QuietTactic
import Derived.Deep.OwnRows
import Derived.Laws.IdiomStrings
import Derived.Laws.BytesArg
import Derived.Test.YtkhnkockdfmkgaaGreatDoorShelf
import Derived.Lib.ConvBytes
import Derived.Lib.SlBytesConst
import Derived.Lib.IndexBytes
import Derived.Test.YtkhnkockdfmkgaaGreatDoorSpecPl
import Derived.Scope
import Derived.WalkMore
import Derived.Laws.Rows
import Derived.Laws.ResultCell
import Derived.Test.YtkhnkockdfmkgaaGreatDoorPlain
import Derived.Deep.RegionWith
namespace Go.Proofs.YtkhnkockdfmkgaaGreatDoor.M

def lensOf (hs : List Hd) : List Hd := hs.filter fun h => decide (h.1 = lenName)
def codsOf (hs : List Hd) : List Hd := hs.filter fun h => decide (h.1 = codName)
def othOf (hs : List Hd) : List Hd := hs.filter fun h => !decide (h.1 = lenName) && !decide (h.1 = codName)
def numOk (h : Hd) : Bool := (parseNum h.2.data.toList 9999999).2
def numOf (h : Hd) : Nat := (parseNum h.2.data.toList 9999999).1.toNat
def inPcs : List UInt8 := [99, 104, 117, 110, 107, 101, 100]
def codOk (h : Hd) : Bool := decide (lowL h.2.data.toList = inPcs)
/-- The code of what is told of a body. -/
def frameC (hs : List Hd) : Int :=
  if 1 < (lensOf hs).length + (codsOf hs).length then 400
  else if (lensOf hs).all numOk = false then 400
  else if 8 < (othOf hs).length then 431
  else if (codsOf hs).all codOk = false then 501
  else if (lensOf hs).any (fun h => decide (200 < numOf h)) = true then 413 else 0
def lenF (hs : List Hd) : Nat := match lensOf hs with | [] => 0 | h :: _ => numOf h
def chkF (hs : List Hd) : Bool := !(codsOf hs).isEmpty
def zeroR : Rq := ⟨ByteArray.empty, ByteArray.empty, [], ByteArray.empty⟩
/-- The body, from a place on. -/
def bodyL (l : List UInt8) (e : Nat) (hs : List Hd) : List UInt8 × Nat × Int :=
  if chkF hs then chunksC l e else if l.length < e + lenF hs then ([], 0, 1) else ((l.drop e).take (lenF hs), e + lenF hs, 0)
/-- What GetReq answers. -/
def getR (l : List UInt8) : Rq × Nat × Int :=
  if heL l < 0 then (zeroR, 0, if l.length ≤ 400 then 1 else 431)
  else match readI (l.take ((heL l).toNat - 2)) with
  | none => (zeroR, 0, 400)
  | some (m, p, hs) =>
    if frameC hs ≠ 0 then (zeroR, 0, frameC hs)
    else if (bodyL l (heL l).toNat hs).2.2 ≠ 0 then (zeroR, 0, (bodyL l (heL l).toNat hs).2.2)
    else (⟨m, p, othOf hs, bytesOf (bodyL l (heL l).toNat hs).1⟩, (bodyL l (heL l).toNat hs).2.1, 0)

theorem getR_no {l : List UInt8} (h : heL l < 0) : getR l = (zeroR, 0, if l.length ≤ 400 then 1 else 431) := by unfold getR; rw [if_pos h]
theorem getR_form {l : List UInt8} (h : ¬ heL l < 0) (hr : readI (l.take ((heL l).toNat - 2)) = none) : getR l = (zeroR, 0, 400) := by unfold getR; rw [if_neg h, hr]
theorem getR_frame {l : List UInt8} {m p : ByteArray} {hs : List Hd} (h : ¬ heL l < 0) (hr : readI (l.take ((heL l).toNat - 2)) = some (m, p, hs)) (hf : frameC hs ≠ 0) : getR l = (zeroR, 0, frameC hs) := by unfold getR; rw [if_neg h, hr]; simp only; rw [if_pos hf]
theorem getR_body {l : List UInt8} {m p : ByteArray} {hs : List Hd} (h : ¬ heL l < 0) (hr : readI (l.take ((heL l).toNat - 2)) = some (m, p, hs)) (hf : frameC hs = 0) (hb : (bodyL l (heL l).toNat hs).2.2 ≠ 0) : getR l = (zeroR, 0, (bodyL l (heL l).toNat hs).2.2) := by
  unfold getR; rw [if_neg h, hr]; simp only; rw [if_neg (by rw [hf]; decide), if_pos hb]
theorem getR_good {l : List UInt8} {m p : ByteArray} {hs : List Hd} (h : ¬ heL l < 0) (hr : readI (l.take ((heL l).toNat - 2)) = some (m, p, hs)) (hf : frameC hs = 0) (hb : (bodyL l (heL l).toNat hs).2.2 = 0) : getR l = (⟨m, p, othOf hs, bytesOf (bodyL l (heL l).toNat hs).1⟩, (bodyL l (heL l).toNat hs).2.1, 0) := by
  unfold getR; rw [if_neg h, hr]; simp only; rw [if_neg (by rw [hf]; decide), if_neg (by rw [hb]; decide)]
/-- Which way it goes. -/
theorem getR_ways (l : List UInt8) : (heL l < 0) ∨ (¬ heL l < 0 ∧ readI (l.take ((heL l).toNat - 2)) = none) ∨ (∃ m p hs, ¬ heL l < 0 ∧ readI (l.take ((heL l).toNat - 2)) = some (m, p, hs) ∧ (frameC hs ≠ 0 ∨ (frameC hs = 0 ∧ (bodyL l (heL l).toNat hs).2.2 ≠ 0) ∨ (frameC hs = 0 ∧ (bodyL l (heL l).toNat hs).2.2 = 0))) := by
  by_cases h : heL l < 0
  · exact .inl h
  · cases hr : readI (l.take ((heL l).toNat - 2)) with
    | none => exact .inr (.inl ⟨h, rfl⟩)
    | some q =>
      obtain ⟨m, p, hs⟩ := q
      refine .inr (.inr ⟨m, p, hs, h, rfl, ?_⟩)
      by_cases hf : frameC hs = 0
      · by_cases hb : (bodyL l (heL l).toNat hs).2.2 = 0
        · exact .inr (.inr ⟨hf, hb⟩)
        · exact .inr (.inl ⟨hf, hb⟩)
      · exact .inl hf

theorem frame_zero {hs : List Hd} (h : frameC hs = 0) : ¬ 1 < (lensOf hs).length + (codsOf hs).length ∧ (lensOf hs).all numOk = true ∧ (othOf hs).length ≤ 8 ∧ (codsOf hs).all codOk = true ∧ (∀ x ∈ lensOf hs, numOf x ≤ 200) := by
  unfold frameC at h
  split at h
  · cases h
  · split at h
    · cases h
    · split at h
      · cases h
      · split at h
        · cases h
        · split at h
          · cases h
          · rename_i h1 h2 h3 h4 h5
            refine ⟨h1, by simpa using h2, by omega, by simpa using h4, fun x hx => ?_⟩
            simp only [List.any_eq_true, decide_eq_true_eq, not_exists, not_and, Nat.not_lt] at h5
            exact h5 x hx
theorem lenF_le {hs : List Hd} (h : frameC hs = 0) : lenF hs ≤ 200 := by
  obtain ⟨_, _, _, _, h5⟩ := frame_zero h
  unfold lenF
  cases hl : lensOf hs with
  | nil => simp
  | cons x r => exact h5 x (by rw [hl]; simp)

theorem headsI_ok : ∀ (f : Nat) (t : List UInt8) (hs : List Hd), headsI f t = some hs → ∀ h ∈ hs, hdB h = true := by
  intro f
  induction f with
  | zero => intro t hs h; cases h
  | succ f ih =>
    intro t hs h
    rw [headsI] at h
    split at h
    · cases h; simp
    · split at h
      · cases h
      · split at h
        · cases h
        · rename_i n t1 _ _ v t2 _
          split at h
          · rename_i hb
            cases hq : headsI f t2 with
            | none => rw [hq] at h; cases h
            | some q =>
              rw [hq] at h
              cases h
              intro x hx
              rcases List.mem_cons.1 hx with rfl | hx
              · exact hb
              · exact ih t2 q hq x hx
          · cases h
theorem readI_ok {t : List UInt8} {m p : ByteArray} {hs : List Hd} (h : readI t = some (m, p, hs)) : methB m = true ∧ targB p = true ∧ ∀ x ∈ hs, hdB x = true := by
  unfold readI at h
  split at h
  · cases h
  · split at h
    · rename_i hm
      split at h
      · cases h
      · split at h
        · rename_i hp
          split at h
          · cases h
          · rename_i v t3 _
            split at h
            · cases hq : headsI (t3.length + 1) t3 with
              | none => rw [hq] at h; cases h
              | some q =>
                rw [hq] at h
                cases h
                exact ⟨hm, hp, headsI_ok _ _ _ hq⟩
            · cases h
        · cases h
    · cases h
theorem bodyL_ok {l : List UInt8} {e : Nat} {hs : List Hd} (hf : frameC hs = 0) (h : (bodyL l e hs).2.2 = 0) : (bodyL l e hs).1.length ≤ 200 ∧ (bodyL l e hs).2.1 ≤ l.length := by
  have hle := lenF_le hf
  unfold bodyL at *
  split at h
  · rename_i hc
    rw [if_pos hc]
    unfold chunksC at *
    split at h
    · rename_i hi
      rw [if_pos hi]
      obtain ⟨h1, h2⟩ := getC_size _ _ _ h
      exact ⟨h2 (by simp), h1⟩
    · cases h
  · rename_i hc
    rw [if_neg hc]
    split at h
    · cases h
    · rename_i hl
      rw [if_neg hl]
      refine ⟨?_, by show e + lenF hs ≤ _; omega⟩
      simp only [List.length_take]
      omega
/-- What is read is right. -/
theorem getR_ok {l : List UInt8} (h : (getR l).2.2 = 0) : reqB (getR l).1 = true ∧ (getR l).2.1 ≤ l.length := by
  rcases getR_ways l with h1 | ⟨h1, h2⟩ | ⟨m, p, hs, h1, h2, h3⟩
  · rw [getR_no h1] at h
    exfalso
    simp only at h
    split at h <;> cases h
  · rw [getR_form h1 h2] at h; cases h
  · rcases h3 with h3 | ⟨h3, h4⟩ | ⟨h3, h4⟩
    · rw [getR_frame h1 h2 h3] at h; exact absurd h h3
    · rw [getR_body h1 h2 h3 h4] at h; exact absurd h h4
    · rw [getR_good h1 h2 h3 h4]
      obtain ⟨a1, a2, a3⟩ := readI_ok h2
      obtain ⟨b1, b2⟩ := bodyL_ok h3 h4
      obtain ⟨_, _, c3, _, _⟩ := frame_zero h3
      refine ⟨?_, b2⟩
      simp only [reqB, a1, a2, Bool.true_and, Bool.and_eq_true, decide_eq_true_eq]
      refine ⟨?_, ?_⟩
      · simp only [hdsB, Bool.and_eq_true, decide_eq_true_eq]
        refine ⟨?_, c3⟩
        rw [List.all_eq_true]
        intro x hx
        obtain ⟨hx1, hx2⟩ := List.mem_filter.1 hx
        simp only [hdFree, a3 x hx1, Bool.true_and]
        exact hx2
      · have : (bytesOf (bodyL l (heL l).toNat hs).1).size = (bodyL l (heL l).toNat hs).1.length := by simp [bytesOf, ByteArray.size]
        rw [this]; exact b1
theorem getR_bad {l : List UInt8} (h : (getR l).2.2 ≠ 0) : (getR l).1 = zeroR ∧ (getR l).2.1 = 0 := by
  rcases getR_ways l with h1 | ⟨h1, h2⟩ | ⟨m, p, hs, h1, h2, h3⟩
  · rw [getR_no h1]; exact ⟨rfl, rfl⟩
  · rw [getR_form h1 h2]; exact ⟨rfl, rfl⟩
  · rcases h3 with h3 | ⟨h3, h4⟩ | ⟨h3, h4⟩
    · rw [getR_frame h1 h2 h3]; exact ⟨rfl, rfl⟩
    · rw [getR_body h1 h2 h3 h4]; exact ⟨rfl, rfl⟩
    · rw [getR_good h1 h2 h3 h4] at h; exact absurd rfl h

theorem occ_take {s : List UInt8} {j k : Nat} (h : k + 4 ≤ j) : Lib.occAt (s.take j) two4 k = Lib.occAt s two4 k := by
  unfold Lib.occAt
  rw [prefix_take, prefix_take]
  have e : ((s.take j).drop k).take two4.length = (s.drop k).take two4.length := by
    rw [List.drop_take, List.take_take]
    congr 1
    show min 4 (j - k) = 4
    omega
  rw [e]
theorem occ_room {s : List UInt8} {k : Nat} (h : Lib.occAt s two4 k = true) : k + 4 ≤ s.length := by
  rcases Lib.occAt_room h with h | h
  · exact h
  · cases h
theorem idx_stay {s : List UInt8} {j : Nat} (h : 0 ≤ Lib.index (s.take j) two4) : Lib.index s two4 = Lib.index (s.take j) two4 := by
  rcases Lib.index_spec (s.take j) two4 with ⟨h1, _⟩ | ⟨k, h1, h2, h3, h4⟩
  · omega
  · have hr := occ_room h3
    rw [List.length_take] at hr
    rw [h1]
    refine Lib.index_first (by omega) (by rw [← occ_take (j := j) (by omega)]; exact h3) (fun i hi => ?_)
    rw [← occ_take (j := j) (by omega)]
    exact h4 i hi
theorem idx_here {s : List UInt8} {j k : Nat} (h : Lib.index s two4 = (k : Int)) (hj : k + 4 ≤ j) : Lib.index (s.take j) two4 = (k : Int) := by
  rcases Lib.index_spec s two4 with ⟨h1, _⟩ | ⟨i, h1, h2, h3, h4⟩
  · omega
  · obtain rfl : i = k := by omega
    have hr := occ_room h3
    exact Lib.index_first (by rw [List.length_take]; omega) (by rw [occ_take hj]; exact h3) (fun x hx => by rw [occ_take (by omega)]; exact h4 x hx)
theorem take_comm (l : List UInt8) (i : Nat) : (l.take i).take 400 = (l.take 400).take i := by rw [List.take_take, List.take_take, Nat.min_comm]
/-- A head's end stays. -/
theorem heL_stay {l : List UInt8} {i : Nat} (h : ¬ heL (l.take i) < 0) : heL l = heL (l.take i) := by
  have h0 : 0 ≤ Lib.index ((l.take 400).take i) two4 := by
    unfold heL at h
    rw [take_comm] at h
    split at h
    · assumption
    · omega
  have e := idx_stay h0
  unfold heL
  rw [take_comm, e]
theorem heL_here {l : List UInt8} {i : Nat} (h : ¬ heL l < 0) (hi : heL l ≤ i) : heL (l.take i) = heL l := by
  have h0 : 0 ≤ Lib.index (l.take 400) two4 := by
    unfold heL at h
    split at h
    · assumption
    · omega
  obtain ⟨k, hk⟩ := Int.eq_ofNat_of_zero_le h0
  have hL : heL l = k + 4 := by unfold heL; rw [if_pos h0, hk]
  have e := idx_here (j := i) (k := k) hk (by omega)
  unfold heL
  rw [take_comm, e, if_pos (by omega), if_pos h0, hk]
theorem heL_long {l : List UInt8} {i : Nat} (hi : 400 ≤ (l.take i).length) : heL l = heL (l.take i) := by
  rw [List.length_take] at hi
  unfold heL
  rw [List.take_take, Nat.min_eq_left (by omega)]

theorem bodyL_stay {l : List UInt8} {i e : Nat} {hs : List Hd} (he : e ≤ (l.take i).length) (h : (bodyL (l.take i) e hs).2.2 ≠ 1) : bodyL l e hs = bodyL (l.take i) e hs := by
  have hl := List.length_take (i := i) (l := l)
  unfold bodyL at *
  by_cases hc : chkF hs = true
  · rw [if_pos hc] at h ⊢
    rw [if_pos hc]
    unfold chunksC at *
    rw [if_pos ⟨by omega, by omega⟩] at h ⊢
    rw [if_pos ⟨by omega, by omega⟩]
    exact getC_stay _ _ _ h
  · rw [if_neg hc] at h ⊢
    rw [if_neg hc]
    by_cases hb : (l.take i).length < e + lenF hs
    · rw [if_pos hb] at h; exact absurd rfl h
    · rw [if_neg hb, if_neg (by omega), List.drop_take, List.take_take]
      congr 2
      omega
theorem bodyL_here {l : List UInt8} {i e : Nat} {hs : List Hd} (he : e ≤ l.length) (h : (bodyL l e hs).2.2 = 0) (hi : (bodyL l e hs).2.1 ≤ i) : e ≤ i ∧ bodyL (l.take i) e hs = bodyL l e hs := by
  have hl := List.length_take (i := i) (l := l)
  unfold bodyL at *
  by_cases hc : chkF hs = true
  · rw [if_pos hc] at h hi ⊢
    rw [if_pos hc]
    unfold chunksC at *
    rw [if_pos ⟨by omega, by omega⟩] at h hi
    have hb := getC_here.getC_end _ _ _ h
    rw [Int.toNat_natCast] at *
    have hei : e ≤ i := Nat.le_trans hb hi
    rw [if_pos ⟨by omega, by omega⟩, if_pos ⟨by omega, by omega⟩]
    exact ⟨by omega, getC_here _ _ _ h hi⟩
  · rw [if_neg hc] at h hi ⊢
    rw [if_neg hc]
    by_cases hb : l.length < e + lenF hs
    · rw [if_pos hb] at h; cases h
    · rw [if_neg hb] at hi ⊢
      simp only at hi
      rw [if_neg (by omega), List.drop_take, List.take_take]
      refine ⟨by omega, ?_⟩
      congr 2
      omega

/-- What does not ask for more stays, whatever comes. -/
theorem getR_stay {l : List UInt8} {i : Nat} (h : (getR (l.take i)).2.2 ≠ 1) : getR l = getR (l.take i) := by
  have hl := List.length_take (i := i) (l := l)
  rcases getR_ways (l.take i) with h1 | ⟨h1, h2⟩ | ⟨m, p, hs, h1, h2, h3⟩
  · rw [getR_no h1] at h
    have hlen : ¬ (l.take i).length ≤ 400 := by intro e; exact h (if_pos e)
    have e := heL_long (l := l) (i := i) (by omega)
    rw [getR_no h1, getR_no (by rw [e]; exact h1), if_neg hlen, if_neg (by omega)]
  · have e := heL_stay h1
    have hbd := heL_bd (l.take i)
    have et : (l.take i).take ((heL (l.take i)).toNat - 2) = l.take ((heL (l.take i)).toNat - 2) := by rw [List.take_take, Nat.min_eq_left (by omega)]
    rw [et] at h2
    rw [getR_form h1 (by rw [et]; exact h2), getR_form (by rw [e]; exact h1) (by rw [e]; exact h2)]
  · have e := heL_stay h1
    have hbd := heL_bd (l.take i)
    have et : (l.take i).take ((heL (l.take i)).toNat - 2) = l.take ((heL (l.take i)).toNat - 2) := by rw [List.take_take, Nat.min_eq_left (by omega)]
    have h2' : readI (l.take ((heL l).toNat - 2)) = some (m, p, hs) := by rw [e, ← et]; exact h2
    have h1' : ¬ heL l < 0 := by rw [e]; exact h1
    rcases h3 with h3 | ⟨h3, h4⟩ | ⟨h3, h4⟩
    · rw [getR_frame h1 h2 h3, getR_frame h1' h2' h3]
    · rw [getR_body h1 h2 h3 h4] at h
      have eb := bodyL_stay (l := l) (i := i) (e := (heL (l.take i)).toNat) (hs := hs) (by omega) h
      rw [getR_body h1 h2 h3 h4, getR_body h1' h2' h3 (by rw [e, eb]; exact h4), e, eb]
    · have eb := bodyL_stay (l := l) (i := i) (e := (heL (l.take i)).toNat) (hs := hs) (by omega) (by rw [h4]; decide)
      rw [getR_good h1 h2 h3 h4, getR_good h1' h2' h3 (by rw [e, eb]; exact h4), e, eb]
/-- What is all there is read, whatever is cut behind. -/
theorem getR_here {l : List UInt8} {i : Nat} (h : (getR l).2.2 = 0) (hi : (getR l).2.1 ≤ i) : getR (l.take i) = getR l := by
  rcases getR_ways l with h1 | ⟨h1, h2⟩ | ⟨m, p, hs, h1, h2, h3⟩
  · rw [getR_no h1] at h
    exfalso
    simp only at h
    split at h <;> cases h
  · rw [getR_form h1 h2] at h; cases h
  · rcases h3 with h3 | ⟨h3, h4⟩ | ⟨h3, h4⟩
    · rw [getR_frame h1 h2 h3] at h; exact absurd h h3
    · rw [getR_body h1 h2 h3 h4] at h; exact absurd h h4
    · rw [getR_good h1 h2 h3 h4] at hi
      have hbd := heL_bd l
      obtain ⟨he, eb⟩ := bodyL_here (l := l) (i := i) (e := (heL l).toNat) (hs := hs) (by omega) h4 hi
      have e := heL_here (i := i) h1 (by omega)
      have et : (l.take i).take ((heL l).toNat - 2) = l.take ((heL l).toNat - 2) := by rw [List.take_take, Nat.min_eq_left (by omega)]
      rw [getR_good h1 h2 h3 h4, getR_good (by rw [e]; exact h1) (by rw [e, et]; exact h2) h3 (by rw [e, eb]; exact h4), e, eb]
end Go.Proofs.YtkhnkockdfmkgaaGreatDoor.M
namespace Go.Proofs.YtkhnkockdfmkgaaGreatDoor
open Go.RowKit M
set_option linter.unusedVariables false

/-- What stands in the three rows when k heads are sorted. -/
def SortI (w : World) (hs : List Hd) (k : Nat) (v1 v2 v3 : Value) (W : World) : Prop :=
  RowsH W w.heap.size v1 (lensOf (hs.take k)) ∧ RowsH W w.heap.size v2 (codsOf (hs.take k)) ∧ RowsH W w.heap.size v3 (othOf (hs.take k)) ∧ ApartV v1 v2 ∧ ApartV v1 v3 ∧ ApartV v2 v3 ∧ Below w.heap.size w W
theorem SortI.next {w W W' : World} {hs : List Hd} {k : Nat} {v1 v2 v3 : Value} (h : SortI w hs k v1 v2 v3 W) (hb : Below W.heap.size W W') : SortI w hs k v1 v2 v3 W' := by
  obtain ⟨h1, h2, h3, h4, h5, h6, h7⟩ := h
  exact ⟨ownsH_below h1 hb, ownsH_below h2 hb, ownsH_below h3 hb, h4, h5, h6, h7.trans (hb.mono h7.size)⟩
theorem lens_le (hs : List Hd) : (lensOf hs).length ≤ hs.length := List.length_filter_le _ _
theorem cods_le (hs : List Hd) : (codsOf hs).length ≤ hs.length := List.length_filter_le _ _
theorem oth_le (hs : List Hd) : (othOf hs).length ≤ hs.length := List.length_filter_le _ _
theorem sort_len {hs : List Hd} {k : Nat} (hk : k < hs.length) (h : hs[k].1 = lenName) : lensOf (hs.take (k + 1)) = lensOf (hs.take k) ++ [hs[k]] ∧ codsOf (hs.take (k + 1)) = codsOf (hs.take k) ∧ othOf (hs.take (k + 1)) = othOf (hs.take k) := by
  rw [List.take_succ_eq_append_getElem hk]
  have hne : ¬ lenName = codName := by decide
  simp only [lensOf, codsOf, othOf, List.filter_append]
  simp [h, hne]
theorem sort_cod {hs : List Hd} {k : Nat} (hk : k < hs.length) (h0 : ¬ hs[k].1 = lenName) (h : hs[k].1 = codName) : lensOf (hs.take (k + 1)) = lensOf (hs.take k) ∧ codsOf (hs.take (k + 1)) = codsOf (hs.take k) ++ [hs[k]] ∧ othOf (hs.take (k + 1)) = othOf (hs.take k) := by
  rw [List.take_succ_eq_append_getElem hk]
  simp only [lensOf, codsOf, othOf, List.filter_append]
  simp [h]
  rw [h] at h0
  exact h0
theorem sort_oth {hs : List Hd} {k : Nat} (hk : k < hs.length) (h0 : ¬ hs[k].1 = lenName) (h : ¬ hs[k].1 = codName) : lensOf (hs.take (k + 1)) = lensOf (hs.take k) ∧ codsOf (hs.take (k + 1)) = codsOf (hs.take k) ∧ othOf (hs.take (k + 1)) = othOf (hs.take k) ++ [hs[k]] := by
  rw [List.take_succ_eq_append_getElem hk]
  simp only [lensOf, codsOf, othOf, List.filter_append]
  simp [h0, h]

set_option maxRecDepth 100000 in
set_option maxHeartbeats 4000000 in
theorem sortHeads_any (a : Option Addr) (hs : List Hd) (cap B : Nat) (w : World) (h : Hds w B a hs) (hB : B ≤ w.heap.size) (hl : hs.length ≤ 1048576) :
    Calls Tryz.prog 45 #[.slice a hs.length cap] w fun e w' => (∃ v1 v2 v3, e = .returned (.tuple #[v1, v2, v3]) ∧ RowsH w' w.heap.size v1 (lensOf hs) ∧ RowsH w' w.heap.size v2 (codsOf hs) ∧ RowsH w' w.heap.size v3 (othOf hs)) ∧ Below w.heap.size w w' := by
  have HH := hide h
  clear h
  go_enter Tryz.func45, Tryz.ntmps45
  go_wp2
  go_loopw [2, 3, 4, 9] (fun v1 v2 v3 i wr => ∃ k : Nat, k ≤ hs.length ∧ i = .int .i64 k ∧ SortI w hs k v1 v2 v3 wr) (fun _ _ _ i _ => hs.length - (intOf i).toNat)
  case atStart => exact ⟨0, Nat.zero_le _, rfl, World.ownsRow_nil _ _ _ _, World.ownsRow_nil _ _ _ _, World.ownsRow_nil _ _ _ _, .inl rfl, .inl rfl, .inl rfl, Below.refl _ _⟩
  case round =>
    obtain ⟨k, hk, rfl, hS⟩ := hrel
    by_cases hlt : k < hs.length
    · obtain ⟨b, o, rfl, hb, hc⟩ := HH.out.below hS.2.2.2.2.2.2 hB (by omega)
      have hcx := (hc k hlt).1
      have hcy := (hc k hlt).2
      obtain ⟨x, hx⟩ : ∃ x, hs[k].1 = x := ⟨_, rfl⟩
      obtain ⟨y, hy⟩ : ∃ y, hs[k].2 = y := ⟨_, rfl⟩
      rw [hx] at hcx
      rw [hy] at hcy
      have HE : Hid (hs[k] = (x, y)) := by show hs[k] = (x, y); rw [← hx, ← hy]
      have ba : Below wr.heap.size wr (wr.alloc (Obj.cells #[.string x, .string y] 65)) := (Below.refl _ _).alloc (Nat.le_refl _) _
      have HS1 := hide (hS.next ba)
      have HT1 := hide (tellsLength_any x y (wr.alloc (Obj.cells #[.string x, .string y] 65)))
      have BH1 := hide (BoxH.made wr x y 65)
      clear hc hS ba
      by_cases hlen : x = lenName
      · have HSt := hide (sort_len hlt (by rw [hx]; exact hlen))
        rw [decide_eq_true hlen] at HT1
        clear hx hy hlen
        go_wp2_with fail
        refine HT1.out.mono ?_
        rintro e w1 ⟨rfl, b1⟩
        have hS2 := HS1.out.next b1
        have BH2 := hide (BH1.out.next b1)
        obtain ⟨hl2, q0, q1⟩ := BH2.out
        clear HT1 HS1 BH1 b1
        have ba := (Below.refl w1.heap.size w1).alloc (Nat.le_refl _) (Obj.cells #[Value.string x, Value.string y] 65)
        obtain ⟨r1, r2, r3, a12, a13, a23, hbe⟩ := hS2.next ba
        have BN := BoxH.made w1 x y 65
        have hle := lens_le (hs.take k)
        rw [List.length_take] at hle
        go_wp2_with (at_builtin; refine wp_append_head2 rfl _ _ rfl w.heap.size u2 _ (lensOf (hs.take k)) rfl r1 w1.heap.size (x, y) rfl BN.2.1 BN.2.2 ?c1 ?c2 ?_)
        case c1 => omega
        case c2 => exact hbe.size
        intro g cp w3 ho3 hg3 hw3'
        have hw3 : _ ∨ g = _ := hw3'.imp id (fun e => e.trans (World.size_alloc _ (Obj.cells #[Value.string x, Value.string y] 65)).symm)
        have R2 := r2.kept a12 hg3
        have R3 := r3.kept a13 hg3
        have R1 : RowsH w3 w.heap.size (.slice (some ⟨g, 0, none⟩) ((lensOf (hs.take k)).length + 1) cp) (lensOf (hs.take (k + 1))) := by
          unfold RowsH
          rw [HSt.out.1, HE.out, List.length_append]
          exact ho3
        have B3 := hbe.trans (belowH_grown r1 hbe.size hg3)
        have HF : Hid (SortI w hs (k + 1) (.slice (some ⟨g, 0, none⟩) ((lensOf (hs.take k)).length + 1) cp) u3 u4 w3) := ⟨R1, by rw [HSt.out.2.1]; exact R2, by rw [HSt.out.2.2]; exact R3, a12.grown r2 hw3, a13.grown r3 hw3, a23, B3⟩
        clear R1 R2 R3 B3 r1 r2 r3 ho3 hg3 hw3 hbe ba hS2 BN q0 q1
        go_wp2
        go_roundw
        case rel => exact ⟨k + 1, by omega, by go_num, HF.out⟩
        case measure => simp [intOf]; omega
      · rw [decide_eq_false hlen] at HT1
        go_wp2_with fail
        refine HT1.out.mono ?_
        rintro e w1 ⟨rfl, b1⟩
        have HS2 := hide (HS1.out.next b1)
        have BH2 := hide (BH1.out.next b1)
        obtain ⟨hl2, q0, q1⟩ := BH2.out
        have HT2 := hide (tellsCoding_any x y w1)
        clear HT1 HS1 BH1 b1
        by_cases hcod : x = codName
        · have HSt := hide (sort_cod hlt (by rw [hx]; exact hlen) (by rw [hx]; exact hcod))
          rw [decide_eq_true hcod] at HT2
          clear hx hy hlen hcod
          go_wp2_with fail
          refine HT2.out.mono ?_
          rintro e w2 ⟨rfl, b2⟩
          have hS3 := HS2.out.next b2
          have BH3 := hide (BH2.out.next b2)
          obtain ⟨hl3, p0, p1⟩ := BH3.out
          clear HT2 HS2 BH2 b2 q0 q1
          have ba := (Below.refl w2.heap.size w2).alloc (Nat.le_refl _) (Obj.cells #[Value.string x, Value.string y] 65)
          obtain ⟨r1, r2, r3, a12, a13, a23, hbe⟩ := hS3.next ba
          have BN := BoxH.made w2 x y 65
          have hle := cods_le (hs.take k)
          rw [List.length_take] at hle
          go_wp2_with (at_builtin; refine wp_append_head2 rfl _ _ rfl w.heap.size u3 _ (codsOf (hs.take k)) rfl r2 w2.heap.size (x, y) rfl BN.2.1 BN.2.2 ?c1 ?c2 ?_)
          case c1 => omega
          case c2 => exact hbe.size
          intro g cp w3 ho3 hg3 hw3'
          have hw3 : _ ∨ g = _ := hw3'.imp id (fun e => e.trans (World.size_alloc _ (Obj.cells #[Value.string x, Value.string y] 65)).symm)
          have R1 := r1.kept a12.symm hg3
          have R3 := r3.kept a23 hg3
          have R2 : RowsH w3 w.heap.size (.slice (some ⟨g, 0, none⟩) ((codsOf (hs.take k)).length + 1) cp) (codsOf (hs.take (k + 1))) := by
            unfold RowsH
            rw [HSt.out.2.1, HE.out, List.length_append]
            exact ho3
          have B3 := hbe.trans (belowH_grown r2 hbe.size hg3)
          have HF : Hid (SortI w hs (k + 1) u2 (.slice (some ⟨g, 0, none⟩) ((codsOf (hs.take k)).length + 1) cp) u4 w3) := ⟨by rw [HSt.out.1]; exact R1, R2, by rw [HSt.out.2.2]; exact R3, (a12.symm.grown r1 hw3).symm, a13, a23.grown r3 hw3, B3⟩
          clear R1 R2 R3 B3 r1 r2 r3 ho3 hg3 hw3 hbe ba hS3 BN p0 p1
          go_wp2
          go_roundw
          case rel => exact ⟨k + 1, by omega, by go_num, HF.out⟩
          case measure => simp [intOf]; omega
        · have HSt := hide (sort_oth hlt (by rw [hx]; exact hlen) (by rw [hx]; exact hcod))
          rw [decide_eq_false hcod] at HT2
          clear hx hy hlen hcod
          go_wp2_with fail
          refine HT2.out.mono ?_
          rintro e w2 ⟨rfl, b2⟩
          have hS3 := HS2.out.next b2
          have BH3 := hide (BH2.out.next b2)
          obtain ⟨hl3, p0, p1⟩ := BH3.out
          clear HT2 HS2 BH2 b2 q0 q1
          have ba := (Below.refl w2.heap.size w2).alloc (Nat.le_refl _) (Obj.cells #[Value.string x, Value.string y] 65)
          obtain ⟨r1, r2, r3, a12, a13, a23, hbe⟩ := hS3.next ba
          have BN := BoxH.made w2 x y 65
          have hle := oth_le (hs.take k)
          rw [List.length_take] at hle
          go_wp2_with (at_builtin; refine wp_append_head2 rfl _ _ rfl w.heap.size u4 _ (othOf (hs.take k)) rfl r3 w2.heap.size (x, y) rfl BN.2.1 BN.2.2 ?c1 ?c2 ?_)
          case c1 => omega
          case c2 => exact hbe.size
          intro g cp w3 ho3 hg3 hw3'
          have hw3 : _ ∨ g = _ := hw3'.imp id (fun e => e.trans (World.size_alloc _ (Obj.cells #[Value.string x, Value.string y] 65)).symm)
          have R1 := r1.kept a13.symm hg3
          have R2 := r2.kept a23.symm hg3
          have R3 : RowsH w3 w.heap.size (.slice (some ⟨g, 0, none⟩) ((othOf (hs.take k)).length + 1) cp) (othOf (hs.take (k + 1))) := by
            unfold RowsH
            rw [HSt.out.2.2, HE.out, List.length_append]
            exact ho3
          have B3 := hbe.trans (belowH_grown r3 hbe.size hg3)
          have HF : Hid (SortI w hs (k + 1) u2 u3 (.slice (some ⟨g, 0, none⟩) ((othOf (hs.take k)).length + 1) cp) w3) := ⟨by rw [HSt.out.1]; exact R1, by rw [HSt.out.2.1]; exact R2, R3, a12, (a13.symm.grown r1 hw3).symm, (a23.symm.grown r2 hw3).symm, B3⟩
          clear R1 R2 R3 B3 r1 r2 r3 ho3 hg3 hw3 hbe ba hS3 BN p0 p1
          go_wp2
          go_roundw
          case rel => exact ⟨k + 1, by omega, by go_num, HF.out⟩
          case measure => simp [intOf]; omega
    · obtain ⟨r1, r2, r3, _, _, _, hbe⟩ := hS
      rw [List.take_of_length_le (by omega)] at r1 r2 r3
      go_wp2
      refine bodyPost_ret (v := .tuple #[u2, u3, u4]) (by simp [results, Tryz.results45, go_sem]) rfl ?_
      exact ⟨⟨_, _, _, rfl, r1, r2, r3⟩, hbe⟩
end Go.Proofs.YtkhnkockdfmkgaaGreatDoor
namespace Go.Proofs.YtkhnkockdfmkgaaGreatDoor
open Go.RowKit

/-- The bytes that a slice holds, in a block below B. -/
def Byt (w : World) (B : Nat) (a : Option Addr) (l : List UInt8) : Prop :=
  0 < l.length → ∃ b o, a = some ⟨b, o, none⟩ ∧ b < B ∧ ∀ j (hj : j < l.length), w.cell? ⟨b, o + j, none⟩ = some (.int .u8 l[j].toNat)

theorem Byt.below {w w' : World} {B C : Nat} {a : Option Addr} {l : List UInt8} (h : Byt w B a l) (hb : Below C w w') (hB : B ≤ C) : Byt w' B a l := fun h0 => by
  obtain ⟨b, o, e, hbB, hc⟩ := h h0
  exact ⟨b, o, e, hbB, fun j hj => (hb.cell (p := ⟨b, o + j, none⟩) (Nat.lt_of_lt_of_le hbB hB)).trans (hc j hj)⟩
theorem Byt.mono {w : World} {B C : Nat} {a : Option Addr} {l : List UInt8} (h : Byt w B a l) (hB : B ≤ C) : Byt w C a l := fun h0 => by
  obtain ⟨b, o, e, hbB, hc⟩ := h h0
  exact ⟨b, o, e, Nat.lt_of_lt_of_le hbB hB, hc⟩
theorem Byt.take {w : World} {B : Nat} {a : Option Addr} {l : List UInt8} (h : Byt w B a l) (k : Nat) : Byt w B a (l.take k) := fun h0 => by
  have hl : (l.take k).length ≤ l.length := by rw [List.length_take]; omega
  obtain ⟨b, o, e, hbB, hc⟩ := h (by omega)
  exact ⟨b, o, e, hbB, fun j hj => by rw [hc j (by omega), List.getElem_take]⟩
theorem Byt.drop {w : World} {B b o : Nat} {l : List UInt8} (h : Byt w B (some ⟨b, o, none⟩) l) (k : Nat) : Byt w B (some ⟨b, o + k, none⟩) (l.drop k) := fun h0 => by
  have hl : (l.drop k).length = l.length - k := List.length_drop
  obtain ⟨b', o', e, hbB, hc⟩ := h (by omega)
  cases e
  exact ⟨b, o + k, rfl, hbB, fun j hj => by rw [Nat.add_assoc, hc (k + j) (by omega), List.getElem_drop]⟩
theorem Byt.nil (w : World) (B : Nat) (a : Option Addr) : Byt w B a [] := fun h => absurd h (Nat.lt_irrefl _)
theorem Byt.drew {w : World} {B : Nat} {a : Option Addr} {l : List UInt8} (h : Byt w B a l) : Byt w.drew B a l := h

/-- 'string(b)' of such a slice. -/
theorem conv_byt {w : World} {B : Nat} {a : Option Addr} {l : List UInt8} (h : Byt w B a l) (n cap : Nat) (hn : l.length = n) :
    (convert 22 9 (.slice a n cap)).run Tryz.prog w = .ok (.string ⟨l.toArray⟩) w := by
  subst hn
  by_cases h0 : 0 < l.length
  · obtain ⟨b, o, rfl, _, hc⟩ := h h0
    refine run_convert_bytes_back w 22 9 5 _ cap l Tryz.underlying22 Tryz.underlying5 Tryz.underlying9 ?_
    intro j hj
    have : (⟨b, o, none⟩ : Addr).add j = ⟨b, o + j, none⟩ := by unfold Addr.add; split <;> simp_all
    rw [this]; exact hc j hj
  · have : l = [] := List.length_eq_zero_iff.1 (by omega)
    subst this
    cases a with
    | none => exact run_convert_bytes_nil w 22 5 Tryz.underlying22 Tryz.underlying5 0 cap 9 Tryz.underlying9
    | some x => exact run_convert_bytes_back w 22 9 5 x cap [] Tryz.underlying22 Tryz.underlying5 Tryz.underlying9 (fun j hj => absurd hj (Nat.not_lt_zero _))
end Go.Proofs.YtkhnkockdfmkgaaGreatDoor
namespace Go.Proofs.YtkhnkockdfmkgaaGreatDoor
open Go.RowKit M
set_option linter.unusedVariables false

theorem ret_intE {a b : Int} (h : a = b) : Ending.returned (.int .i64 a) = .returned (.int .i64 b) := by rw [h]
/-- The bytes as numbers. -/
def numsOf (l : List UInt8) : List Int := l.map fun c => (c.toNat : Int)
theorem numsOf_length (l : List UInt8) : (numsOf l).length = l.length := by simp [numsOf]
theorem numsOf_bytes (l : List UInt8) : Lib.bytesOf (numsOf l) = l := by
  unfold Lib.bytesOf numsOf
  rw [List.map_map]
  have e : ∀ c : UInt8, ((fun x : Int => UInt8.ofNat x.toNat) ∘ fun c : UInt8 => (c.toNat : Int)) c = c := fun c => by simp
  conv => rhs; rw [← List.map_id l]
  exact List.map_congr_left fun c _ => by simp
theorem numsOf_range (l : List UInt8) : ∀ x ∈ numsOf l, 0 ≤ x ∧ x < 256 := by
  intro x hx
  obtain ⟨c, _, rfl⟩ := List.mem_map.1 hx
  have := c.toNat_lt
  omega
theorem numsOf_cells {w : World} {b o : Nat} {l : List UInt8} (h : ∀ j (hj : j < l.length), w.cell? ⟨b, o + j, none⟩ = some (.int .u8 l[j].toNat)) : ∀ i, i < l.length → w.cell? ((⟨b, o, none⟩ : Addr).add i) = some (.int .u8 ((numsOf l).getD i 0)) := by
  intro i hi
  have e : (⟨b, o, none⟩ : Addr).add i = ⟨b, o + i, none⟩ := by unfold Addr.add; split <;> simp_all
  rw [e, h i hi]
  simp [numsOf, List.getD, List.getElem?_eq_getElem hi]
end Go.Proofs.YtkhnkockdfmkgaaGreatDoor
namespace Go.Proofs.YtkhnkockdfmkgaaGreatDoor.M

theorem cut1_idx (c : UInt8) : ∀ t : List UInt8, (Lib.index t [c] = -1 ∧ cut1 c t = none) ∨ ∃ i : Nat, Lib.index t [c] = i ∧ i + 1 ≤ t.length ∧ cut1 c t = some (t.take i, t.drop (i + 1)) := by
  intro t
  induction t with
  | nil => left; exact ⟨rfl, rfl⟩
  | cons x r ih =>
    unfold Lib.index
    rw [cut1]
    by_cases hx : x = c
    · right
      refine ⟨0, ?_, by simp, ?_⟩
      · subst hx; simp [List.isPrefixOf]
      · rw [if_pos hx]; simp
    · have hp : List.isPrefixOf [c] (x :: r) = false := by simp [List.isPrefixOf]; exact fun e => hx e.symm
      rw [hp, if_neg hx]
      rcases ih with ⟨h1, h2⟩ | ⟨i, h1, h2, h3⟩
      · left
        rw [h1, h2]
        exact ⟨rfl, rfl⟩
      · right
        refine ⟨i + 1, ?_, by simp; omega, ?_⟩
        · rw [h1]
          have : ((i : Int) == -1) = false := by rw [beq_eq_false_iff_ne]; omega
          simp [this]
        · rw [h3]; simp
theorem cut2_idx : ∀ t : List UInt8, (Lib.index t [13, 10] = -1 ∧ cut2 t = none) ∨ ∃ i : Nat, Lib.index t [13, 10] = i ∧ i + 2 ≤ t.length ∧ cut2 t = some (t.take i, t.drop (i + 2)) := by
  intro t
  induction t with
  | nil => left; exact ⟨rfl, rfl⟩
  | cons x r ih =>
    unfold Lib.index
    rw [cut2]
    by_cases hx : x = 13 ∧ r.head? = some 10
    · right
      obtain ⟨h1, h2⟩ := hx
      cases r with
      | nil => simp at h2
      | cons y q =>
        simp at h2
        subst h1 h2
        exact ⟨0, by simp [List.isPrefixOf], by simp, by simp⟩
    · have hp : List.isPrefixOf [13, 10] (x :: r) = false := by
        cases r with
        | nil => simp [List.isPrefixOf]
        | cons y q =>
          simp only [List.head?_cons, Option.some.injEq] at hx
          rw [Bool.eq_false_iff]
          intro e
          simp [List.isPrefixOf] at e
          exact hx ⟨e.1.symm, e.2.symm⟩
      rw [hp, if_neg hx]
      rcases ih with ⟨h1, h2⟩ | ⟨i, h1, h2, h3⟩
      · left
        rw [h1, h2]
        exact ⟨rfl, rfl⟩
      · right
        refine ⟨i + 1, ?_, by simp; omega, ?_⟩
        · rw [h1]
          have : ((i : Int) == -1) = false := by rw [beq_eq_false_iff_ne]; omega
          simp [this]
        · rw [h3]; simp
/-- What stands ahead of a stop, and behind it. -/
def cutS (sep t : List UInt8) : Option (List UInt8 × List UInt8) := if 0 ≤ Lib.index t sep then some (t.take (Lib.index t sep).toNat, t.drop ((Lib.index t sep).toNat + sep.length)) else none
theorem cutS_one (c : UInt8) (t : List UInt8) : cutS [c] t = cut1 c t := by
  unfold cutS
  rcases cut1_idx c t with ⟨h1, h2⟩ | ⟨i, h1, _, h3⟩
  · rw [h1, h2]; rfl
  · rw [h1, h3, if_pos (by omega), Int.toNat_natCast]; rfl
theorem cutS_two (t : List UInt8) : cutS [13, 10] t = cut2 t := by
  unfold cutS
  rcases cut2_idx t with ⟨h1, h2⟩ | ⟨i, h1, _, h3⟩
  · rw [h1, h2]; rfl
  · rw [h1, h3, if_pos (by omega), Int.toNat_natCast]; rfl
theorem cutS_len {sep t a b : List UInt8} (h : cutS sep t = some (a, b)) : a.length + sep.length + b.length = t.length := by
  unfold cutS at h
  split at h
  · rename_i h0
    have hr := Lib.index_room t sep h0
    cases h
    rw [List.length_take, List.length_drop]
    omega
  · cases h
end Go.Proofs.YtkhnkockdfmkgaaGreatDoor.M
namespace Go.Proofs.YtkhnkockdfmkgaaGreatDoor
open Go.RowKit M
set_option linter.unusedVariables false

/-- A part of the bytes that came in: its address, its length, its room. -/
def Rst (w : World) (B : Nat) (v : Value) (t : List UInt8) : Prop := ∃ (a : Option Addr) (c : Nat), v = .slice a t.length c ∧ Byt w B a t ∧ t.length ≤ c ∧ c ≤ maxLen ∧ (a = none → c = 0) ∧ (∀ x, a = some x → x.spot = none)
theorem Rst.below {w w' : World} {B C : Nat} {v : Value} {t : List UInt8} (h : Rst w B v t) (hb : Below C w w') (hB : B ≤ C) : Rst w' B v t := by
  obtain ⟨a, c, rfl, h1, h2⟩ := h
  exact ⟨a, c, rfl, h1.below hb hB, h2⟩

theorem bytesIn_of {w : World} {B : Nat} {a : Option Addr} {t : List UInt8} (h : Byt w B a t) : Lib.BytesIn w a t.length (numsOf t) := fun h0 => by
  obtain ⟨b, o, e, _, hc⟩ := h h0
  exact ⟨b, o, e, fun i hi => by rw [hc i hi]; simp [numsOf, List.getD, List.getElem?_eq_getElem hi]⟩
/-- What wordAhead hands back, of a text that is cut so. -/
def WordIs (w : World) (B : Nat) (r : Option (List UInt8 × List UInt8)) (word : ByteArray) (v : Value) (ok : Bool) : Prop :=
  match r with
  | none => ok = false ∧ v = .slice none 0 0
  | some (a, b) => ok = true ∧ word = bytesOf a ∧ Rst w B v b

set_option maxRecDepth 100000 in
set_option maxHeartbeats 2000000 in
theorem wordAhead_any (v : Value) (t : List UInt8) (sep : ByteArray) (B : Nat) (m : Int) (w : World) (h : Rst w B v t) (hB : B ≤ w.heap.size) (ht : t.length ≤ 1073741824) (hs : sep.size ≤ 16) (hs0 : 0 < sep.size) (h0 : 0 < w.heap.size) (hmx : w.cell? ⟨0, 0, none⟩ = some (.int .i64 m)) :
    Calls Tryz.prog 78 #[v, .string sep] w fun e w' => (∃ (word : ByteArray) (v' : Value) (ok : Bool), e = .returned (.tuple #[.string word, v', .bool ok]) ∧ WordIs w' B (cutS sep.data.toList t) word v' ok ∧ word.size ≤ t.length) ∧ Below w.heap.size w w' := by
  obtain ⟨a, c, rfl, hy, hc1, hc2, hc3, hc4⟩ := h
  have hcv := Lib.run_convert_string_bytes (P := Tryz.prog) w 9 22 5 sep Tryz.underlying9 Tryz.underlying22 Tryz.underlying5
  have hbw : Below w.heap.size w (Lib.bytesWorld w 5 sep) := ⟨rfl, rfl, rfl, by rw [Lib.bytesWorld_size]; omega, fun k hk => Lib.bytesWorld_at_old w 5 sep k hk⟩
  have hys : Byt (Lib.bytesWorld w 5 sep) (w.heap.size + 1) (some ⟨w.heap.size, 0, none⟩) sep.data.toList := fun _ =>
    ⟨w.heap.size, 0, rfl, Nat.lt_succ_self _, fun j hj => by
      have e : sep.data.toList.length = sep.size := Array.length_toList
      rw [Nat.zero_add, Lib.bytesWorld_cell w 5 sep j (by omega)]
      simp [List.getD, List.getElem?_eq_getElem hj]⟩
  have hy1 := hy.below hbw hB
  have es : sep.data.toList.length = sep.size := Array.length_toList
  have hin2 := bytesIn_of hys
  rw [es] at hin2
  have hC := Tryz.bytes_Cut_all a (some ⟨w.heap.size, 0, none⟩) t.length c sep.size (grownCap w sep.size 0 5) (numsOf t) (numsOf sep.data.toList) m (Lib.bytesWorld w 5 sep) (numsOf_length _) (by rw [numsOf_length, es]) (numsOf_range _) (numsOf_range _) (bytesIn_of hy1) hin2 hc3 hc1 (by omega) (by omega) ((hbw.cell (p := ⟨0, 0, none⟩) h0).trans hmx)
  rw [numsOf_bytes, numsOf_bytes] at hC
  have HC := hide hC
  have HY1 := hide hy1
  have HBW := hide hbw
  clear hC hmx h0 hy hys hin2 hy1 hbw
  unfold maxLen at hc2
  unfold Lib.cutV at HC
  by_cases hi : 0 ≤ Lib.index t sep.data.toList
  · have hr := Lib.index_room t sep.data.toList hi
    obtain ⟨i, hie⟩ := Int.eq_ofNat_of_zero_le hi
    have hcut : Hid (cutS sep.data.toList t = some (t.take i, t.drop (i + sep.size))) := by
      show cutS _ t = _
      unfold cutS
      rw [if_pos hi, hie, es]
      rfl
    rw [if_pos hi, hie] at HC
    rw [hie, es] at hr
    have hil : i + sep.size ≤ t.length := by omega
    obtain ⟨b, o, ha, hb, hcc⟩ := HY1.out (by omega)
    subst ha
    clear hcc hi hie hr
    rw [show ((i : Int).toNat) = i from Int.toNat_natCast i] at HC
    have hfrom : Lib.fromV (some ⟨b, o, none⟩) t.length c (i + sep.size) = .slice (if c = i + sep.size then some ⟨b, o, none⟩ else some ⟨b, o + (i + sep.size), none⟩) (t.length - (i + sep.size)) (c - (i + sep.size)) := by
      unfold Lib.fromV
      have hadd : (⟨b, o, none⟩ : Addr).add (i + sep.size) = ⟨b, o + (i + sep.size), none⟩ := by unfold Addr.add; split <;> simp_all
      simp [hadd]
    rw [hfrom] at HC
    obtain ⟨v', hv'⟩ : ∃ v', Value.slice (if c = i + sep.size then some (⟨b, o, none⟩ : Addr) else some ⟨b, o + (i + sep.size), none⟩) (t.length - (i + sep.size)) (c - (i + sep.size)) = v' := ⟨_, rfl⟩
    have HR : Hid (∀ W, Below w.heap.size w W → Byt W B (some ⟨b, o, none⟩) t → Rst W B v' (t.drop (i + sep.size))) := fun W _ hyW => by
      refine ⟨_, c - (i + sep.size), by rw [List.length_drop]; exact hv'.symm, ?_, by rw [List.length_drop]; omega, by unfold maxLen; omega, fun e => ?_, fun x e => ?_⟩
      · by_cases hce : c = i + sep.size
        · have : t.drop (i + sep.size) = [] := List.drop_of_length_le (by omega)
          rw [this]; exact Byt.nil _ _ _
        · rw [if_neg hce]; exact hyW.drop (i + sep.size)
      · split at e <;> cases e
      · split at e <;> (cases e; rfl)
    rw [hv'] at HC
    have hshape : ∃ a2 n2 c2, v' = .slice a2 n2 c2 := ⟨_, _, _, hv'.symm⟩
    obtain ⟨a2, n2, c2, rfl⟩ := hshape
    clear hv' hfrom
    go_enter Tryz.func78, Tryz.ntmps78
    go_wp2_with fail
    refine HC.out.mono ?_
    rintro e w1 ⟨rfl, q, rfl⟩
    have B1 : Hid (Below w.heap.size w ((Lib.bytesWorld w 5 sep).drewN q)) := below_drewN HBW.out q
    have Y1 : Hid (Byt ((Lib.bytesWorld w 5 sep).drewN q) B (some ⟨b, o, none⟩) t) := HY1.out
    clear HC hcv HY1 HBW
    generalize (Lib.bytesWorld w 5 sep).drewN q = w1 at *
    have hcw := conv_byt (Y1.out.take i) i c (by rw [List.length_take]; omega)
    go_wp2
    refine bodyPost_ret (v := .tuple #[.string ⟨(t.take i).toArray⟩, .slice a2 n2 c2, .bool true]) (by simp [results, Tryz.results78, go_sem]) rfl ?_
    rw [hcut.out]
    exact ⟨⟨_, _, _, rfl, ⟨rfl, rfl, HR.out w1 B1.out Y1.out⟩, by show (t.take i).toArray.size ≤ _; rw [List.size_toArray, List.length_take]; omega⟩, B1.out⟩
  · have hcut : Hid (cutS sep.data.toList t = none) := by
      show cutS _ t = _
      unfold cutS
      rw [if_neg hi]
    rw [if_neg hi] at HC
    clear hi
    go_enter Tryz.func78, Tryz.ntmps78
    go_wp2_with fail
    refine HC.out.mono ?_
    rintro e w1 ⟨rfl, q, rfl⟩
    have B1 : Hid (Below w.heap.size w ((Lib.bytesWorld w 5 sep).drewN q)) := below_drewN HBW.out q
    have Y1 : Hid (Byt ((Lib.bytesWorld w 5 sep).drewN q) B a t) := HY1.out
    clear HC hcv HY1 HBW
    generalize (Lib.bytesWorld w 5 sep).drewN q = w1 at *
    have hcw := conv_byt Y1.out t.length c rfl
    go_wp2
    refine bodyPost_ret (v := .tuple #[.string ⟨t.toArray⟩, .slice none 0 0, .bool false]) (by simp [results, Tryz.results78, go_sem]) rfl ?_
    rw [hcut.out]
    exact ⟨⟨_, _, _, rfl, ⟨rfl, rfl⟩, by show t.toArray.size ≤ _; rw [List.size_toArray]; omega⟩, B1.out⟩
end Go.Proofs.YtkhnkockdfmkgaaGreatDoor
namespace Go.Proofs.YtkhnkockdfmkgaaGreatDoor
open Go.RowKit M
set_option linter.unusedVariables false

theorem set_heap {w : World} {N : Nat} {cs : Array Value} {t : TypeId} (h : w.heap[N]? = some (.cells cs t)) (k : Nat) (v : Value) : (w.setCell ⟨N, k, none⟩ v).heap[N]? = some (.cells (cs.setIfInBounds k v) t) := by
  rw [setCell_eq_setRow w N k cs t _ v h]
  exact setRow_heap w N cs _ t _ h
theorem set_other {w : World} {N M k : Nat} {o : Obj} (h : w.heap[M]? = some o) (hne : M ≠ N) (v : Value) : (w.setCell ⟨N, k, none⟩ v).heap[M]? = some o := by
  have hb : ((Below.refl (M + 1) w).block M (Nat.lt_succ_self _)) = rfl := rfl
  rcases Nat.lt_or_gt_of_ne hne with hlt | hgt
  · exact (((Below.refl (M + 1) w).setCell (p := ⟨N, k, none⟩) hlt v).block M (Nat.lt_succ_self _)).trans h
  · show (w.heap.modify N _)[M]? = _
    rw [Array.getElem?_modify]
    simp [hne.symm, h]
end Go.Proofs.YtkhnkockdfmkgaaGreatDoor
namespace Go.Proofs.YtkhnkockdfmkgaaGreatDoor
open Go.RowKit M
set_option linter.unusedVariables false

theorem below_drew0 {w w' : World} {C : Nat} (h : Below C w w') : Below C w w'.drew := ⟨h.os, h.tape, h.output, h.size, h.block⟩
theorem box1 {w w1 : World} {x y : ByteArray} {T : TypeId} (b1 : Below (w.alloc (Obj.cells #[Value.string x, Value.string y] T)).drew.heap.size (w.alloc (Obj.cells #[Value.string x, Value.string y] T)).drew w1) : w1.cell? ⟨w.heap.size, 1, none⟩ = some (.string y) := by
  have h : (w.alloc (Obj.cells #[Value.string x, Value.string y] T)).drew.cell? ⟨w.heap.size, 1, none⟩ = some (.string y) := by
    show (w.alloc (Obj.cells #[Value.string x, Value.string y] T)).cell? ⟨w.heap.size, 1, none⟩ = some (.string y)
    simp
  exact (b1.cell (p := ⟨w.heap.size, 1, none⟩) (by show w.heap.size < (w.alloc (Obj.cells #[Value.string x, Value.string y] T)).heap.size; simp)).trans h
theorem lt1 {w w1 : World} {x y : ByteArray} {T : TypeId} (b1 : Below (w.alloc (Obj.cells #[Value.string x, Value.string y] T)).drew.heap.size (w.alloc (Obj.cells #[Value.string x, Value.string y] T)).drew w1) : w.heap.size < w1.heap.size :=
  Nat.lt_of_lt_of_le (by show w.heap.size < (w.alloc (Obj.cells #[Value.string x, Value.string y] T)).heap.size; simp) b1.size

set_option maxHeartbeats 4000000 in
theorem headOk_any (x y : ByteArray) (w : World) (hx : x.size ≤ maxLen) (hy : y.size ≤ maxLen) (hy4 : y.size ≤ 281474976710656) :
    Calls Tryz.prog 81 #[.agg #[.string x, .string y]] w fun e w' => e = .returned (.bool (hdB (x, y))) ∧ Below w.heap.size w w' := by
  have hb0 : Below w.heap.size w (w.alloc (Obj.cells #[Value.string x, Value.string y] 65)).drew := below_drew0 ((Below.refl w.heap.size w).alloc (Nat.le_refl _) (Obj.cells #[Value.string x, Value.string y] 65))
  cases h1 : smB x.data.toList
  · have hz : hdB (x, y) = false := by simp [hdB, h1]
    rw [hz]
    clear hz
    go_enter Tryz.func81, Tryz.ntmps81
    go_wp2
    first | go_region_with ((go_at_call 116; refine (smallName_any x _ hx).mono ?_; rintro e w1 ⟨rfl, b1⟩; rw [h1]; have c1 := hb0.trans (Below.mono (w := (w.alloc (Obj.cells #[Value.string x, Value.string y] 65)).drew) b1 hb0.size); have k1 := box1 b1; have l1 := lt1 b1)) | fail
    all_goals
      go_wp2
      go_ret
      exact ⟨rfl, c1⟩
  · by_cases h2 : (y.size : Int) ≤ 60
    · cases h3 : allB y.data.toList [0]
      · have hz : hdB (x, y) = false := by simp [hdB, valB, h3]
        rw [hz]
        clear hz
        go_enter Tryz.func81, Tryz.ntmps81
        go_wp2
        first | go_region_with (first | (go_at_call 116; refine (smallName_any x _ hx).mono ?_; rintro e w1 ⟨rfl, b1⟩; rw [h1]; have c1 := hb0.trans (Below.mono (w := (w.alloc (Obj.cells #[Value.string x, Value.string y] 65)).drew) b1 hb0.size); have k1 := box1 b1; have l1 := lt1 b1) | (go_at_call 90; refine (plain_any y _ hy).mono ?_; rintro e w2 ⟨rfl, b2⟩; rw [h3]; have c2 := c1.trans (b2.mono c1.size); have k2 := (b2.cell (p := ⟨w.heap.size, 1, none⟩) l1).trans k1; have l2 := Nat.lt_of_lt_of_le l1 b2.size)) | fail
        all_goals
          go_wp2
          go_ret
          exact ⟨rfl, c2⟩
      · have h2' : y.size ≤ 60 := by omega
        have hz : hdB (x, y) = decide (trimL y.data.toList = y.data.toList) := by simp [hdB, valB, h1, h2', h3]
        rw [hz]
        clear hz h2'
        go_enter Tryz.func81, Tryz.ntmps81
        go_wp2
        first | go_region_with (first | (go_at_call 116; refine (smallName_any x _ hx).mono ?_; rintro e w1 ⟨rfl, b1⟩; rw [h1]; have c1 := hb0.trans (Below.mono (w := (w.alloc (Obj.cells #[Value.string x, Value.string y] 65)).drew) b1 hb0.size); have k1 := box1 b1; have l1 := lt1 b1) | (go_at_call 90; refine (plain_any y _ hy).mono ?_; rintro e w2 ⟨rfl, b2⟩; rw [h3]; have c2 := c1.trans (b2.mono c1.size); have k2 := (b2.cell (p := ⟨w.heap.size, 1, none⟩) l1).trans k1; have l2 := Nat.lt_of_lt_of_le l1 b2.size) | (go_at_call 80; refine (trim_any y _ hy4).mono ?_; rintro e w3 ⟨⟨t, rfl, ht⟩, b3⟩; have HT := hide ht; clear ht; have c3 := c2.trans (b3.mono c2.size); have k3 := (b3.cell (p := ⟨w.heap.size, 1, none⟩) l2).trans k2)) | fail
        all_goals
          go_wp2
          go_ret
          exact ⟨ret_bool (by rw [← trim_same HT.out]), c3⟩
    · have h2' : ¬ y.size ≤ 60 := by omega
      have hz : hdB (x, y) = false := by simp [hdB, valB, h2']
      rw [hz]
      clear h2' hz
      go_enter Tryz.func81, Tryz.ntmps81
      go_wp2
      first | go_region_with ((go_at_call 116; refine (smallName_any x _ hx).mono ?_; rintro e w1 ⟨rfl, b1⟩; rw [h1]; have c1 := hb0.trans (Below.mono (w := (w.alloc (Obj.cells #[Value.string x, Value.string y] 65)).drew) b1 hb0.size); have k1 := box1 b1; have l1 := lt1 b1)) | fail
      all_goals
        go_wp2
        go_ret
        exact ⟨rfl, c1⟩
end Go.Proofs.YtkhnkockdfmkgaaGreatDoor
namespace Go.Proofs.YtkhnkockdfmkgaaGreatDoor
open Go.RowKit M

theorem bytes_row (w : World) (s : ByteArray) : RowAt (Lib.bytesWorld w 5 s) w.heap.size s.data.toList := by
  intro j hj
  have e : s.data.toList.length = s.size := Array.length_toList
  refine ⟨?_, ?_⟩
  · rw [Lib.bytesWorld_cell w 5 s j (by omega)]
    simp [List.getD, List.getElem?_eq_getElem hj]
  · have hsz : j < (Lib.bytesCells w 5 s).size := by
      simp only [Lib.bytesCells, Array.size_append, Array.size_map]
      have : s.data.size = s.size := rfl
      omega
    simp [World.frozen?, Lib.bytesWorld_at_new]
    omega

set_option maxHeartbeats 1000000 in
theorem lower_any (s : ByteArray) (w : World) (hs : s.size ≤ 140737488355328) :
    Calls Tryz.prog 79 #[.string s] w fun e w' => e = .returned (.string ⟨(lowL s.data.toList).toArray⟩) ∧ Below w.heap.size w w' := by
  have hcv := Lib.run_convert_string_bytes (P := Tryz.prog) w 9 22 5 s Tryz.underlying9 Tryz.underlying22 Tryz.underlying5
  have el : s.data.toList.length = s.size := Array.length_toList
  have EL : Hid (s.data.toList.length = s.size) := el
  clear el
  go_enter Tryz.func79, Tryz.ntmps79
  go_wp2
  clear hcv
  go_loopw [10] (fun i wr => ∃ k : Nat, k ≤ s.size ∧ i = .int .i64 k ∧ RowAt wr w.heap.size (mixL s.data.toList k) ∧ Below w.heap.size w wr ∧ w.heap.size < wr.heap.size) (fun i _ => s.size - (intOf i).toNat)
  case atStart =>
    refine ⟨0, Nat.zero_le _, rfl, by rw [mixL_zero]; exact bytes_row w s, ⟨rfl, rfl, rfl, ?_, fun k hk => Lib.bytesWorld_at_old w _ s k hk⟩, ?_⟩
    · rw [Lib.bytesWorld_size]; omega
    · rw [Lib.bytesWorld_size]; omega
  case round =>
    obtain ⟨k, hk, rfl, hrow, hbe, hN⟩ := hrel
    by_cases hlt : k < s.size
    · have hl := mixL_length s.data.toList k
      have hkl : k < (mixL s.data.toList k).length := by rw [hl]; have := EL.out; omega
      have hkl' : k < s.data.toList.length := by have := EL.out; omega
      obtain ⟨hc0, hf0⟩ := hrow k hkl
      rw [mixL_get _ _ hkl' hkl] at hc0
      have hc : wr.cell? ⟨w.heap.size, k, none⟩ = some (.int .u8 (s[k]).toNat) := hc0
      clear hc0 hl
      cases hb : isB ((s[k]).toNat : Int) 3
      · go_wp2_with (go_at_call 114; refine (isOneOf_any _ [3] 1 _ 0 1 _ rfl (by decide) (cells1 _ 3 126)).mono ?_; rintro e w' ⟨rfl, rfl⟩; rw [anyB_one, hb])
        go_roundw
        case rel =>
          refine ⟨k + 1, by omega, by go_num, ?_, hbe.alloc hbe.size _, by simp; omega⟩
          have e : mixL s.data.toList (k + 1) = mixL s.data.toList k := by
            rw [mixL_succ _ _ hkl']
            have e2 : lowB s.data.toList[k] = (mixL s.data.toList k)[k] := by
              rw [mixL_get _ _ hkl' hkl]; exact lowB_no _ hb
            rw [e2, List.set_getElem_self]
          rw [e]; exact hrow.alloc hN _
        case measure => simp [intOf]; omega
      · have h65 := isB3 hb
        go_wp2_with (go_at_call 114; refine (isOneOf_any _ [3] 1 _ 0 1 _ rfl (by decide) (cells1 _ 3 126)).mono ?_; rintro e w' ⟨rfl, rfl⟩; rw [anyB_one, hb])
        have hv : (Value.int IntKind.u8 (((s[k]).toNat : Int) - 65 + 97)) = Value.int IntKind.u8 ((lowB s[k]).toNat : Int) := by
          rw [lowB_yes _ hb]
          congr 1
          simp
          omega
        rw [hv]
        go_roundw
        case rel =>
          refine ⟨k + 1, by omega, by go_num, ?_, (hbe.setCell (Nat.le_refl _) _).alloc (by simp; exact hbe.size) _, by simp; omega⟩
          rw [mixL_succ _ _ hkl']
          exact (hrow.set k hkl _).alloc (by simpa using hN) _
        case measure => simp [intOf]; omega
    · have hcw := conv_row (cap := grownCap w s.size 0 5) hrow (show (mixL s.data.toList k).length = s.size by rw [mixL_length]; exact EL.out)
      rw [mixL_all _ _ (by have := EL.out; omega)] at hcw
      go_wp2
      go_ret
      exact ⟨rfl, hbe⟩
end Go.Proofs.YtkhnkockdfmkgaaGreatDoor
