/-
  What is asked: its methods, its depth, what may turn: no program in sight.
-/
import Derived.Test.YtckhjemojopekaaMathReq
import Derived.Test.YtckhjemojopekaaMathAsk
import Derived.Test.YtckhjemojopekaaSliceEq
import Derived.Test.YtckhjemojopekaaIsThere
import Derived.Test.YtckhjemojopekaaMathHas
namespace Go.Proofs.Ytckhjemojopekaa
open Go.RowKit M
set_option linter.unusedVariables false

def mGET : ByteArray := ⟨#[71, 69, 84]⟩
def mHEAD : ByteArray := ⟨#[72, 69, 65, 68]⟩
def mOPTIONS : ByteArray := ⟨#[79, 80, 84, 73, 79, 78, 83]⟩
def mPROPFIND : ByteArray := ⟨#[80, 82, 79, 80, 70, 73, 78, 68]⟩
def mPUT : ByteArray := ⟨#[80, 85, 84]⟩
def mMKCOL : ByteArray := ⟨#[77, 75, 67, 79, 76]⟩
def mDELETE : ByteArray := ⟨#[68, 69, 76, 69, 84, 69]⟩
def mCOPY : ByteArray := ⟨#[67, 79, 80, 89]⟩
def mMOVE : ByteArray := ⟨#[77, 79, 86, 69]⟩
def mPROPPATCH : ByteArray := ⟨#[80, 82, 79, 80, 80, 65, 84, 67, 72]⟩
def depN : ByteArray := ⟨#[100, 101, 112, 116, 104]⟩
def destN : ByteArray := ⟨#[100, 101, 115, 116, 105, 110, 97, 116, 105, 111, 110]⟩
def overN : ByteArray := ⟨#[111, 118, 101, 114, 119, 114, 105, 116, 101]⟩
def ifN : ByteArray := ⟨#[105, 102]⟩
def matchN : ByteArray := ⟨#[105, 102, 45, 109, 97, 116, 99, 104]⟩
def noneN : ByteArray := ⟨#[105, 102, 45, 110, 111, 110, 101, 45, 109, 97, 116, 99, 104]⟩
theorem eq_GET (s : ByteArray) : (s.toList == [71, 69, 84]) = decide (s = mGET) := by
  have h := str_eq s mGET
  rwa [show (mGET : ByteArray).toList = [71, 69, 84] by kernel_rfl] at h
theorem ne_GET (s : ByteArray) : (s.toList != [71, 69, 84]) = !decide (s = mGET) := by rw [bne, eq_GET]
theorem eq_HEAD (s : ByteArray) : (s.toList == [72, 69, 65, 68]) = decide (s = mHEAD) := by
  have h := str_eq s mHEAD
  rwa [show (mHEAD : ByteArray).toList = [72, 69, 65, 68] by kernel_rfl] at h
theorem ne_HEAD (s : ByteArray) : (s.toList != [72, 69, 65, 68]) = !decide (s = mHEAD) := by rw [bne, eq_HEAD]
theorem eq_OPTIONS (s : ByteArray) : (s.toList == [79, 80, 84, 73, 79, 78, 83]) = decide (s = mOPTIONS) := by
  have h := str_eq s mOPTIONS
  rwa [show (mOPTIONS : ByteArray).toList = [79, 80, 84, 73, 79, 78, 83] by kernel_rfl] at h
theorem ne_OPTIONS (s : ByteArray) : (s.toList != [79, 80, 84, 73, 79, 78, 83]) = !decide (s = mOPTIONS) := by rw [bne, eq_OPTIONS]
theorem eq_PROPFIND (s : ByteArray) : (s.toList == [80, 82, 79, 80, 70, 73, 78, 68]) = decide (s = mPROPFIND) := by
  have h := str_eq s mPROPFIND
  rwa [show (mPROPFIND : ByteArray).toList = [80, 82, 79, 80, 70, 73, 78, 68] by kernel_rfl] at h
theorem ne_PROPFIND (s : ByteArray) : (s.toList != [80, 82, 79, 80, 70, 73, 78, 68]) = !decide (s = mPROPFIND) := by rw [bne, eq_PROPFIND]
theorem eq_PUT (s : ByteArray) : (s.toList == [80, 85, 84]) = decide (s = mPUT) := by
  have h := str_eq s mPUT
  rwa [show (mPUT : ByteArray).toList = [80, 85, 84] by kernel_rfl] at h
theorem ne_PUT (s : ByteArray) : (s.toList != [80, 85, 84]) = !decide (s = mPUT) := by rw [bne, eq_PUT]
theorem eq_MKCOL (s : ByteArray) : (s.toList == [77, 75, 67, 79, 76]) = decide (s = mMKCOL) := by
  have h := str_eq s mMKCOL
  rwa [show (mMKCOL : ByteArray).toList = [77, 75, 67, 79, 76] by kernel_rfl] at h
theorem ne_MKCOL (s : ByteArray) : (s.toList != [77, 75, 67, 79, 76]) = !decide (s = mMKCOL) := by rw [bne, eq_MKCOL]
theorem eq_DELETE (s : ByteArray) : (s.toList == [68, 69, 76, 69, 84, 69]) = decide (s = mDELETE) := by
  have h := str_eq s mDELETE
  rwa [show (mDELETE : ByteArray).toList = [68, 69, 76, 69, 84, 69] by kernel_rfl] at h
theorem ne_DELETE (s : ByteArray) : (s.toList != [68, 69, 76, 69, 84, 69]) = !decide (s = mDELETE) := by rw [bne, eq_DELETE]
theorem eq_COPY (s : ByteArray) : (s.toList == [67, 79, 80, 89]) = decide (s = mCOPY) := by
  have h := str_eq s mCOPY
  rwa [show (mCOPY : ByteArray).toList = [67, 79, 80, 89] by kernel_rfl] at h
theorem ne_COPY (s : ByteArray) : (s.toList != [67, 79, 80, 89]) = !decide (s = mCOPY) := by rw [bne, eq_COPY]
theorem eq_MOVE (s : ByteArray) : (s.toList == [77, 79, 86, 69]) = decide (s = mMOVE) := by
  have h := str_eq s mMOVE
  rwa [show (mMOVE : ByteArray).toList = [77, 79, 86, 69] by kernel_rfl] at h
theorem ne_MOVE (s : ByteArray) : (s.toList != [77, 79, 86, 69]) = !decide (s = mMOVE) := by rw [bne, eq_MOVE]
theorem eq_PROPPATCH (s : ByteArray) : (s.toList == [80, 82, 79, 80, 80, 65, 84, 67, 72]) = decide (s = mPROPPATCH) := by
  have h := str_eq s mPROPPATCH
  rwa [show (mPROPPATCH : ByteArray).toList = [80, 82, 79, 80, 80, 65, 84, 67, 72] by kernel_rfl] at h
theorem ne_PROPPATCH (s : ByteArray) : (s.toList != [80, 82, 79, 80, 80, 65, 84, 67, 72]) = !decide (s = mPROPPATCH) := by rw [bne, eq_PROPPATCH]
def t0 : ByteArray := ⟨#[48]⟩
theorem eq_t0 (s : ByteArray) : (s.toList == [48]) = decide (s = t0) := by
  have h := str_eq s t0
  rwa [show (t0 : ByteArray).toList = [48] by kernel_rfl] at h
def t1 : ByteArray := ⟨#[49]⟩
theorem eq_t1 (s : ByteArray) : (s.toList == [49]) = decide (s = t1) := by
  have h := str_eq s t1
  rwa [show (t1 : ByteArray).toList = [49] by kernel_rfl] at h
def tInf : ByteArray := ⟨#[105, 110, 102, 105, 110, 105, 116, 121]⟩
theorem eq_tInf (s : ByteArray) : (s.toList == [105, 110, 102, 105, 110, 105, 116, 121]) = decide (s = tInf) := by
  have h := str_eq s tInf
  rwa [show (tInf : ByteArray).toList = [105, 110, 102, 105, 110, 105, 116, 121] by kernel_rfl] at h
def tF : ByteArray := ⟨#[70]⟩
theorem eq_tF (s : ByteArray) : (s.toList == [70]) = decide (s = tF) := by
  have h := str_eq s tF
  rwa [show (tF : ByteArray).toList = [70] by kernel_rfl] at h

/-- A text in small letters. -/
def lowA (s : ByteArray) : ByteArray := ⟨(lowL s.data.toList).toArray⟩
theorem lowA_data (s : ByteArray) : (lowA s).data.toList = lowL s.data.toList := by simp [lowA]
theorem low_digit (c d : UInt8) (h : d = 48 ∨ d = 49) : lowB c = d ↔ c = d := by
  unfold lowB
  constructor
  · intro e
    split at e
    · rename_i hc
      have h' : 65 ≤ c.toNat ∧ c.toNat ≤ 90 := by simp [isB] at hc; omega
      have e2 := congrArg UInt8.toNat e
      rw [UInt8.toNat_add] at e2
      have : (32 : UInt8).toNat = 32 := rfl
      rcases h with rfl | rfl
      · have : (48 : UInt8).toNat = 48 := rfl
        omega
      · have : (49 : UInt8).toNat = 49 := rfl
        omega
    · exact e
  · rintro rfl
    rcases h with rfl | rfl <;> decide
theorem low_one (s : ByteArray) (d : UInt8) (h : d = 48 ∨ d = 49) : lowL s.data.toList = [d] ↔ s.data.toList = [d] := by
  match hs : s.data.toList with
  | [] => simp [lowL]
  | [c] => simp [lowL, low_digit c d h]
  | a :: b :: r => simp [lowL]
theorem byt_iff (a : ByteArray) (l : List UInt8) : a = ⟨l.toArray⟩ ↔ a.data.toList = l := by
  constructor
  · rintro rfl; simp
  · intro h
    apply ByteArray.ext
    apply Array.ext'
    simp [h]
theorem low_t0 (s : ByteArray) : lowA s = t0 ↔ s = t0 := by
  rw [show (t0 : ByteArray) = ⟨([48] : List UInt8).toArray⟩ from rfl, byt_iff, byt_iff, lowA_data]
  exact low_one s 48 (.inl rfl)
theorem low_t1 (s : ByteArray) : lowA s = t1 ↔ s = t1 := by
  rw [show (t1 : ByteArray) = ⟨([49] : List UInt8).toArray⟩ from rfl, byt_iff, byt_iff, lowA_data]
  exact low_one s 49 (.inr rfl)

/-- The depth that a text tells. -/
def depV (s : ByteArray) : Int := if s = t0 then 0 else if s = t1 then 1 else if lowA s = tInf then 2 else -1
/-- The depth of a request, where the most is meant if nothing is told. -/
def depI (hs : List Hd) (most : Int) : Int := if (hdOf hs depN).2 = true then depV (hdOf hs depN).1 else most

/-- A path, and what it is on. -/
def bothB (l : List Lk) (p : List ByteArray) (deep : Bool) (tk : List Int) : Bool := mayB l p deep tk && mayB l (aboveL p) false tk
/-- Whether what is asked may turn what it turns. -/
def chgB (x : Sv) (m : ByteArray) (pa to : List ByteArray) (tk : List Int) : Bool :=
  if m = mPUT then (if thereB x.t pa = true then mayB x.l pa false tk else bothB x.l pa false tk)
  else if m = mMKCOL then bothB x.l pa false tk
  else if m = mPROPPATCH then mayB x.l pa false tk
  else if m = mDELETE then bothB x.l pa true tk
  else if m = mMOVE then bothB x.l pa true tk && bothB x.l to true tk
  else if m = mCOPY then bothB x.l to true tk
  else true
/-- What is turned: paths, and whether all under them is. -/
abbrev Rc := List ByteArray × Bool
def wholeP (p : List ByteArray) : List Rc := [(p, true), (aboveL p, false)]
def reachP (x : Sv) (m : ByteArray) (pa to : List ByteArray) : List Rc :=
  if m = mPUT then (if thereB x.t pa = true then [(pa, false)] else [(pa, false), (aboveL pa, false)])
  else if m = mMKCOL then [(pa, false), (aboveL pa, false)]
  else if m = mPROPPATCH then [(pa, false)]
  else if m = mDELETE then wholeP pa
  else if m = mMOVE then wholeP pa ++ wholeP to
  else if m = mCOPY then wholeP to
  else []
theorem reach_all (x : Sv) (m : ByteArray) (pa to : List ByteArray) (tk : List Int) : ((reachP x m pa to).all fun r => mayB x.l r.1 r.2 tk) = chgB x m pa to tk := by
  unfold reachP chgB wholeP bothB
  split
  · split <;> simp
  · split
    · simp
    · split
      · simp
      · split
        · simp
        · split
          · simp [Bool.and_assoc]
          · split <;> simp
end Go.Proofs.Ytckhjemojopekaa
