/-
  What the program's SamePath does.
  What impl.FindRes does.
  What impl.isThere does.
  Whether a text is one of a list, and two texts held against each other: no program in sight.
  What is asked: its methods, its depth, what may turn: no program in sight.
  Plain facts on numbers' digits: no program in sight.
  Plain facts on numbers read of their digits: no program in sight.
  Plain facts on marked texts: escaped, and back: no program in sight.
  Plain facts on lists of marks: no program in sight.
  Rows of bytes that the call itself made: what string(b) gives of one; where the walk wants it.
  What the specification's NumText does.
  Plain facts on numbers read of their digits to the base 16: no program in sight.
-/
import Derived.Test.YtfhcniifennfbaaGreatDoorSliceEq
import Derived.Test.YtfhcniifennfbaaGreatDoorMathLock
import Derived.Lib.Bytealg
import Derived.WalkKit
import Derived.Lib.ItoaNum
import Derived.Lib.Atoi
import Derived.Lib.IndexMore
import Derived.Test.YtfhcniifennfbaaGreatDoorRows
import Derived.WalkSpells
import Derived.WalkLawsBesides
import Derived.Deep.Light
import Derived.Lib.BufferWrite
import Derived.Laws.IdiomStrings
import Derived.Laws.BytesArg
namespace Go.Proofs.YtfhcniifennfbaaGreatDoor
open Go.RowKit
set_option linter.unusedVariables false

set_option maxHeartbeats 400000 in
theorem samePath_any (a b : Option Addr) (ss tt : List ByteArray) (cap cap' B C : Nat) (w : World) (h : Strs w B a ss) (h' : Strs w C b tt) (hl : ss.length ≤ maxLen) (hl' : tt.length ≤ maxLen) :
    Calls Tryz.prog 187 #[.slice a ss.length cap, .slice b tt.length cap'] w fun e w' => e = .returned (.bool (sameL ss tt)) ∧ ∀ D, Below D w w' := by
  go_enter Tryz.func187, Tryz.ntmps187
  go_wp2_with fail
  refine (slicesEqual_any a b ss tt cap cap' B C w h h' hl hl').mono ?_
  rintro e w1 ⟨rfl, hb⟩
  go_wp2
  go_ret
  exact ⟨rfl, hb⟩
end Go.Proofs.YtfhcniifennfbaaGreatDoor
namespace Go.Proofs.YtfhcniifennfbaaGreatDoor
open Go.RowKit M
set_option linter.unusedVariables false

theorem ret_int10 {a b : Int} (h : a = b) : Ending.returned (.int .i64 a) = .returned (.int .i64 b) := by rw [h]

set_option maxHeartbeats 1000000 in
theorem findRes1_any (r : Rs) (pa : Option Addr) (pc : Nat) (qa : Option Addr) (qc B : Nat) (a' : Option Addr) (p : List ByteArray) (cap' C c : Nat) (w : World) (h : RsIn w B r pa pc qa qc) (h' : Strs w C a' p) (hl' : p.length ≤ maxLen) (hc : w.cell? ⟨c, 0, none⟩ = some (.slice a' p.length cap')) (hB : B ≤ w.heap.size) (hC : C ≤ w.heap.size) (hcl : c < w.heap.size) :
    Calls Tryz.prog 186 #[.agg #[.slice pa r.pa.length pc, .bool r.co, .string r.bo, .int .i64 r.ve, .slice qa r.ps.length qc], .pointer (some ⟨c, 0, none⟩)] w fun e w' => e = .returned (.bool (sameL r.pa p)) ∧ Below w.heap.size w w' := by
  have l1 : r.pa.length ≤ maxLen := Nat.le_trans h.pl h.pm
  have p1 := h.ph
  clear h
  obtain ⟨ss, co, bo, ve, ps⟩ := r
  simp only at *
  have hb0 : Below w.heap.size w (w.alloc (Obj.cells #[.slice pa ss.length pc, .bool co, .string bo, .int .i64 ve, .slice qa ps.length qc] 108)) := (Below.refl _ _).alloc (Nat.le_refl _) _
  have HE := hide (samePath_any pa a' ss p pc cap' B C _ (p1.below hb0 hB) (h'.below hb0 hC) l1 hl')
  have HB0 := hide hb0
  have hc0 := (hb0.cell (p := ⟨c, 0, none⟩) hcl).trans hc
  clear p1 h' hb0 hc
  go_enter Tryz.func186, Tryz.ntmps186
  go_wp2_with fail
  refine HE.out.mono ?_
  rintro e w1 ⟨rfl, hb1⟩
  have HC1 := hide (HB0.out.trans (hb1 _))
  clear hb1
  go_wp2
  go_ret
  exact ⟨rfl, HC1.out⟩

set_option maxHeartbeats 1000000 in
theorem indexFunc_any (a : Option Addr) (rs : List Rs) (cap B : Nat) (a' : Option Addr) (p : List ByteArray) (cap' C c : Nat) (w : World) (h : Rss w B a rs) (h' : Strs w C a' p) (hl : rs.length ≤ maxLen) (hl' : p.length ≤ maxLen) (hc : w.cell? ⟨c, 0, none⟩ = some (.slice a' p.length cap')) (hB : B ≤ w.heap.size) (hC : C ≤ w.heap.size) (hcl : c < w.heap.size) :
    Calls Tryz.prog 185 #[.slice a rs.length cap, .func (.func 186) #[] #[.pointer (some ⟨c, 0, none⟩)]] w fun e w' => e = .returned (.int .i64 (findI rs p)) ∧ Below w.heap.size w w' := by
  unfold maxLen at hl
  go_enter Tryz.func185, Tryz.ntmps185
  go_wp2
  go_loopw [8] (fun i wr => ∃ k : Nat, k ≤ rs.length ∧ i = .int .i64 k ∧ (∀ j (hj : j < rs.length), j < k → sameL rs[j].pa p = false) ∧ Below w.heap.size w wr) (fun i _ => rs.length - (intOf i).toNat)
  case atStart => exact ⟨0, Nat.zero_le _, rfl, fun j _ hj => absurd hj (Nat.not_lt_zero _), Below.refl _ _⟩
  case round =>
    obtain ⟨k, hk, rfl, ht, hbe⟩ := hrel
    have HT := hide ht
    clear ht
    by_cases hlt : k < rs.length
    · obtain ⟨b, o, rfl, hb, hcc⟩ := (h.below hbe hB) (by omega)
      obtain ⟨pa, pc, qa, qc, ⟨hc0, hc1, hc2, hc3, hc4⟩, hin⟩ := hcc k hlt
      clear hcc
      have HC := hide (findRes1_any rs[k] pa pc qa qc B a' p cap' C c wr hin (h'.below hbe hC) hl' ((hbe.cell (p := ⟨c, 0, none⟩) hcl).trans hc) (Nat.le_trans hB hbe.size) (Nat.le_trans hC hbe.size) (Nat.lt_of_lt_of_le hcl hbe.size))
      obtain ⟨z, hz⟩ : ∃ z, sameL rs[k].pa p = z := ⟨_, rfl⟩
      rw [hz] at HC
      have HZ := hide hz
      clear hz hin
      go_wp2_with fail
      refine HC.out.mono ?_
      rintro e w1 ⟨rfl, hb1⟩
      have c1 := hbe.trans (hb1.mono hbe.size)
      clear HC
      cases z
      · go_wp2
        go_roundw
        case rel => exact ⟨k + 1, by omega, by go_num, fun j hj hjk => by
                      by_cases e : j = k
                      · subst e; exact HZ.out
                      · exact HT.out j hj (by omega), c1⟩
        case measure => simp [intOf]; omega
      · go_wp2
        go_ret
        exact ⟨ret_int10 (findI_at k hlt HT.out HZ.out).symm, c1⟩
    · have HE := hide (findI_none (rs := rs) (p := p) (fun j hj => HT.out j hj (by omega)))
      go_wp2
      go_ret
      exact ⟨ret_int10 HE.out.symm, hbe⟩

set_option maxHeartbeats 1000000 in
theorem findRes_any (a : Option Addr) (rs : List Rs) (cap B : Nat) (a' : Option Addr) (p : List ByteArray) (cap' C : Nat) (w : World) (h : Rss w B a rs) (h' : Strs w C a' p) (hl : rs.length ≤ maxLen) (hl' : p.length ≤ maxLen) (hB : B ≤ w.heap.size) (hC : C ≤ w.heap.size) :
    Calls Tryz.prog 161 #[.slice a rs.length cap, .slice a' p.length cap'] w fun e w' => e = .returned (.int .i64 (findI rs p)) ∧ Below w.heap.size w w' := by
  have hb0 : Below w.heap.size w (w.alloc (Obj.cells #[.slice a' p.length cap'] 32)) := (Below.refl _ _).alloc (Nat.le_refl _) _
  have HE := hide (indexFunc_any a rs cap B a' p cap' C w.heap.size _ (h.below hb0 hB) (h'.below hb0 hC) hl hl' (by simp) (Nat.le_trans hB hb0.size) (Nat.le_trans hC hb0.size) (by simp))
  have HB0 := hide hb0
  clear h h' hb0
  go_enter Tryz.func161, Tryz.ntmps161
  go_wp2_with fail
  refine HE.out.mono ?_
  rintro e w1 ⟨rfl, hb1⟩
  have c1 := HB0.out.trans (hb1.mono HB0.out.size)
  go_wp2
  go_ret
  exact ⟨rfl, c1⟩
end Go.Proofs.YtfhcniifennfbaaGreatDoor
namespace Go.Proofs.YtfhcniifennfbaaGreatDoor
open Go.RowKit M
set_option linter.unusedVariables false

/-- Whether it is the root, or there. -/
def thereB (rs : List Rs) (p : List ByteArray) : Bool := decide (p.length = 0) || decide (0 ≤ findI rs p)
theorem there_iff {rs : List Rs} {p : List ByteArray} : thereB rs p = true ↔ p.length = 0 ∨ 0 ≤ findI rs p := by unfold thereB; simp

set_option maxHeartbeats 1000000 in
theorem isThere_any (a : Option Addr) (rs : List Rs) (cap B : Nat) (a' : Option Addr) (p : List ByteArray) (cap' C : Nat) (w : World) (h : Rss w B a rs) (h' : Strs w C a' p) (hl : rs.length ≤ maxLen) (hl' : p.length ≤ maxLen) (hB : B ≤ w.heap.size) (hC : C ≤ w.heap.size) :
    Calls Tryz.prog 197 #[.slice a rs.length cap, .slice a' p.length cap'] w fun e w' => e = .returned (.bool (thereB rs p)) ∧ Below w.heap.size w w' := by
  have HF := hide (findRes_any a rs cap B a' p cap' C w h h' hl hl' hB hC)
  by_cases h0 : p.length = 0
  · have HZ := hide (show thereB rs p = true from there_iff.2 (.inl h0))
    clear HF
    go_enter Tryz.func197, Tryz.ntmps197
    go_wp2
    go_ret
    exact ⟨by rw [HZ.out]; rfl, Below.refl _ _⟩
  · have HZ := hide (show thereB rs p = decide (0 ≤ findI rs p) by unfold thereB; simp [h0])
    have e0 : ((p.length : Int) == 0) = false := by rw [beq_eq_false_iff_ne]; omega
    generalize thereB rs p = z at *
    generalize findI rs p = F at *
    go_enter Tryz.func197, Tryz.ntmps197
    go_wp2_with fail
    refine HF.out.mono ?_
    rintro e w1 ⟨rfl, b1⟩
    go_wp2
    go_ret
    exact ⟨by rw [HZ.out]; rfl, b1⟩
end Go.Proofs.YtfhcniifennfbaaGreatDoor
namespace Go.Proofs.YtfhcniifennfbaaGreatDoor
open Go.RowKit M
set_option linter.unusedVariables false

/-- Whether a mark is among these. -/
def hasB (ns : List ByteArray) (t : ByteArray) : Bool := ns.any fun x => decide (x = t)
theorem hasB_iff (ns : List ByteArray) (t : ByteArray) : hasB ns t = true ↔ t ∈ ns := by
  unfold hasB
  rw [List.any_eq_true]
  constructor
  · rintro ⟨x, hx, he⟩
    rw [← of_decide_eq_true he]; exact hx
  · intro h
    exact ⟨t, h, decide_eq_true rfl⟩
theorem hasB_no {ns : List ByteArray} {t : ByteArray} (h : t ∉ ns) : hasB ns t = false := by
  cases hb : hasB ns t
  · rfl
  · exact absurd ((hasB_iff ns t).1 hb) h
theorem has_at {ns : List ByteArray} {t : ByteArray} (k : Nat) (hk : k < ns.length) (h : ns[k] = t) : hasB ns t = true := (hasB_iff ns t).2 (by rw [← h]; exact List.getElem_mem hk)
theorem str_eq (a b : ByteArray) : (a.toList == b.toList) = decide (a = b) := by
  by_cases h : a = b
  · subst h; simp
  · rw [decide_eq_false h]
    cases hb : (a.toList == b.toList)
    · rfl
    · exfalso
      have := beq_iff_eq.1 hb
      rw [ByteArray.toList_eq, ByteArray.toList_eq] at this
      exact h (by apply ByteArray.ext; exact Array.ext' this)
end Go.Proofs.YtfhcniifennfbaaGreatDoor
namespace Go.Proofs.YtfhcniifennfbaaGreatDoor
open Go.RowKit M
set_option linter.unusedVariables false

def mGET : ByteArray := ⟨#[71, 69, 84]⟩
def mHEAD : ByteArray := ⟨#[72, 69, 65, 68]⟩
def mOPTIONS : ByteArray := ⟨#[79, 80, 84, 73, 79, 78, 83]⟩
def mPROPFIND : ByteArray := ⟨#[80, 82, 79, 80, 70, 73, 78, 68]⟩
def mPUT : ByteArray := ⟨#[80, 85, 84]⟩
def mMKCOL : ByteArray := ⟨#[77, 75, 67, 79, 76]⟩
def mDELETE : ByteArray := ⟨#[68, 69, 76, 69, 84, 69]⟩
def mCOPY : ByteArray := ⟨#[67, 79, 80, 89]⟩
def mMOVE : ByteArray := ⟨#[77, 79, 86, 69]⟩
def mPROPPATCH : ByteArray := ⟨#[80, 82, 79, 80, 80, 65, 84, 67, 72]⟩
def depN : ByteArray := ⟨#[100, 101, 112, 116, 104]⟩
def destN : ByteArray := ⟨#[100, 101, 115, 116, 105, 110, 97, 116, 105, 111, 110]⟩
def overN : ByteArray := ⟨#[111, 118, 101, 114, 119, 114, 105, 116, 101]⟩
def ifN : ByteArray := ⟨#[105, 102]⟩
def matchN : ByteArray := ⟨#[105, 102, 45, 109, 97, 116, 99, 104]⟩
def noneN : ByteArray := ⟨#[105, 102, 45, 110, 111, 110, 101, 45, 109, 97, 116, 99, 104]⟩
theorem eq_GET (s : ByteArray) : (s.toList == [71, 69, 84]) = decide (s = mGET) := by
  have h := str_eq s mGET
  rwa [show (mGET : ByteArray).toList = [71, 69, 84] by kernel_rfl] at h
theorem ne_GET (s : ByteArray) : (s.toList != [71, 69, 84]) = !decide (s = mGET) := by rw [bne, eq_GET]
theorem eq_HEAD (s : ByteArray) : (s.toList == [72, 69, 65, 68]) = decide (s = mHEAD) := by
  have h := str_eq s mHEAD
  rwa [show (mHEAD : ByteArray).toList = [72, 69, 65, 68] by kernel_rfl] at h
theorem ne_HEAD (s : ByteArray) : (s.toList != [72, 69, 65, 68]) = !decide (s = mHEAD) := by rw [bne, eq_HEAD]
theorem eq_OPTIONS (s : ByteArray) : (s.toList == [79, 80, 84, 73, 79, 78, 83]) = decide (s = mOPTIONS) := by
  have h := str_eq s mOPTIONS
  rwa [show (mOPTIONS : ByteArray).toList = [79, 80, 84, 73, 79, 78, 83] by kernel_rfl] at h
theorem ne_OPTIONS (s : ByteArray) : (s.toList != [79, 80, 84, 73, 79, 78, 83]) = !decide (s = mOPTIONS) := by rw [bne, eq_OPTIONS]
theorem eq_PROPFIND (s : ByteArray) : (s.toList == [80, 82, 79, 80, 70, 73, 78, 68]) = decide (s = mPROPFIND) := by
  have h := str_eq s mPROPFIND
  rwa [show (mPROPFIND : ByteArray).toList = [80, 82, 79, 80, 70, 73, 78, 68] by kernel_rfl] at h
theorem ne_PROPFIND (s : ByteArray) : (s.toList != [80, 82, 79, 80, 70, 73, 78, 68]) = !decide (s = mPROPFIND) := by rw [bne, eq_PROPFIND]
theorem eq_PUT (s : ByteArray) : (s.toList == [80, 85, 84]) = decide (s = mPUT) := by
  have h := str_eq s mPUT
  rwa [show (mPUT : ByteArray).toList = [80, 85, 84] by kernel_rfl] at h
theorem ne_PUT (s : ByteArray) : (s.toList != [80, 85, 84]) = !decide (s = mPUT) := by rw [bne, eq_PUT]
theorem eq_MKCOL (s : ByteArray) : (s.toList == [77, 75, 67, 79, 76]) = decide (s = mMKCOL) := by
  have h := str_eq s mMKCOL
  rwa [show (mMKCOL : ByteArray).toList = [77, 75, 67, 79, 76] by kernel_rfl] at h
theorem ne_MKCOL (s : ByteArray) : (s.toList != [77, 75, 67, 79, 76]) = !decide (s = mMKCOL) := by rw [bne, eq_MKCOL]
theorem eq_DELETE (s : ByteArray) : (s.toList == [68, 69, 76, 69, 84, 69]) = decide (s = mDELETE) := by
  have h := str_eq s mDELETE
  rwa [show (mDELETE : ByteArray).toList = [68, 69, 76, 69, 84, 69] by kernel_rfl] at h
theorem ne_DELETE (s : ByteArray) : (s.toList != [68, 69, 76, 69, 84, 69]) = !decide (s = mDELETE) := by rw [bne, eq_DELETE]
theorem eq_COPY (s : ByteArray) : (s.toList == [67, 79, 80, 89]) = decide (s = mCOPY) := by
  have h := str_eq s mCOPY
  rwa [show (mCOPY : ByteArray).toList = [67, 79, 80, 89] by kernel_rfl] at h
theorem ne_COPY (s : ByteArray) : (s.toList != [67, 79, 80, 89]) = !decide (s = mCOPY) := by rw [bne, eq_COPY]
theorem eq_MOVE (s : ByteArray) : (s.toList == [77, 79, 86, 69]) = decide (s = mMOVE) := by
  have h := str_eq s mMOVE
  rwa [show (mMOVE : ByteArray).toList = [77, 79, 86, 69] by kernel_rfl] at h
theorem ne_MOVE (s : ByteArray) : (s.toList != [77, 79, 86, 69]) = !decide (s = mMOVE) := by rw [bne, eq_MOVE]
theorem eq_PROPPATCH (s : ByteArray) : (s.toList == [80, 82, 79, 80, 80, 65, 84, 67, 72]) = decide (s = mPROPPATCH) := by
  have h := str_eq s mPROPPATCH
  rwa [show (mPROPPATCH : ByteArray).toList = [80, 82, 79, 80, 80, 65, 84, 67, 72] by kernel_rfl] at h
theorem ne_PROPPATCH (s : ByteArray) : (s.toList != [80, 82, 79, 80, 80, 65, 84, 67, 72]) = !decide (s = mPROPPATCH) := by rw [bne, eq_PROPPATCH]
def t0 : ByteArray := ⟨#[48]⟩
theorem eq_t0 (s : ByteArray) : (s.toList == [48]) = decide (s = t0) := by
  have h := str_eq s t0
  rwa [show (t0 : ByteArray).toList = [48] by kernel_rfl] at h
def t1 : ByteArray := ⟨#[49]⟩
theorem eq_t1 (s : ByteArray) : (s.toList == [49]) = decide (s = t1) := by
  have h := str_eq s t1
  rwa [show (t1 : ByteArray).toList = [49] by kernel_rfl] at h
def tInf : ByteArray := ⟨#[105, 110, 102, 105, 110, 105, 116, 121]⟩
theorem eq_tInf (s : ByteArray) : (s.toList == [105, 110, 102, 105, 110, 105, 116, 121]) = decide (s = tInf) := by
  have h := str_eq s tInf
  rwa [show (tInf : ByteArray).toList = [105, 110, 102, 105, 110, 105, 116, 121] by kernel_rfl] at h
def tF : ByteArray := ⟨#[70]⟩
theorem eq_tF (s : ByteArray) : (s.toList == [70]) = decide (s = tF) := by
  have h := str_eq s tF
  rwa [show (tF : ByteArray).toList = [70] by kernel_rfl] at h

/-- A text in small letters. -/
def lowA (s : ByteArray) : ByteArray := ⟨(lowL s.data.toList).toArray⟩
theorem lowA_data (s : ByteArray) : (lowA s).data.toList = lowL s.data.toList := by simp [lowA]
theorem low_digit (c d : UInt8) (h : d = 48 ∨ d = 49) : lowB c = d ↔ c = d := by
  unfold lowB
  constructor
  · intro e
    split at e
    · rename_i hc
      have h' : 65 ≤ c.toNat ∧ c.toNat ≤ 90 := by simp [isB] at hc; omega
      have e2 := congrArg UInt8.toNat e
      rw [UInt8.toNat_add] at e2
      have : (32 : UInt8).toNat = 32 := rfl
      rcases h with rfl | rfl
      · have : (48 : UInt8).toNat = 48 := rfl
        omega
      · have : (49 : UInt8).toNat = 49 := rfl
        omega
    · exact e
  · rintro rfl
    rcases h with rfl | rfl <;> decide
theorem low_one (s : ByteArray) (d : UInt8) (h : d = 48 ∨ d = 49) : lowL s.data.toList = [d] ↔ s.data.toList = [d] := by
  match hs : s.data.toList with
  | [] => simp [lowL]
  | [c] => simp [lowL, low_digit c d h]
  | a :: b :: r => simp [lowL]
theorem byt_iff (a : ByteArray) (l : List UInt8) : a = ⟨l.toArray⟩ ↔ a.data.toList = l := by
  constructor
  · rintro rfl; simp
  · intro h
    apply ByteArray.ext
    apply Array.ext'
    simp [h]
theorem low_t0 (s : ByteArray) : lowA s = t0 ↔ s = t0 := by
  rw [show (t0 : ByteArray) = ⟨([48] : List UInt8).toArray⟩ from rfl, byt_iff, byt_iff, lowA_data]
  exact low_one s 48 (.inl rfl)
theorem low_t1 (s : ByteArray) : lowA s = t1 ↔ s = t1 := by
  rw [show (t1 : ByteArray) = ⟨([49] : List UInt8).toArray⟩ from rfl, byt_iff, byt_iff, lowA_data]
  exact low_one s 49 (.inr rfl)

/-- The depth that a text tells. -/
def depV (s : ByteArray) : Int := if s = t0 then 0 else if s = t1 then 1 else if lowA s = tInf then 2 else -1
/-- The depth of a request, where the most is meant if nothing is told. -/
def depI (hs : List Hd) (most : Int) : Int := if (hdOf hs depN).2 = true then depV (hdOf hs depN).1 else most

/-- A path, and what it is on. -/
def bothB (l : List Lk) (p : List ByteArray) (deep : Bool) (tk : List Int) : Bool := mayB l p deep tk && mayB l (aboveL p) false tk
/-- Whether what is asked may turn what it turns. -/
def chgB (x : Sv) (m : ByteArray) (pa to : List ByteArray) (tk : List Int) : Bool :=
  if m = mPUT then (if thereB x.t pa = true then mayB x.l pa false tk else bothB x.l pa false tk)
  else if m = mMKCOL then bothB x.l pa false tk
  else if m = mPROPPATCH then mayB x.l pa false tk
  else if m = mDELETE then bothB x.l pa true tk
  else if m = mMOVE then bothB x.l pa true tk && bothB x.l to true tk
  else if m = mCOPY then bothB x.l to true tk
  else true
/-- What is turned: paths, and whether all under them is. -/
abbrev Rc := List ByteArray × Bool
def wholeP (p : List ByteArray) : List Rc := [(p, true), (aboveL p, false)]
def reachP (x : Sv) (m : ByteArray) (pa to : List ByteArray) : List Rc :=
  if m = mPUT then (if thereB x.t pa = true then [(pa, false)] else [(pa, false), (aboveL pa, false)])
  else if m = mMKCOL then [(pa, false), (aboveL pa, false)]
  else if m = mPROPPATCH then [(pa, false)]
  else if m = mDELETE then wholeP pa
  else if m = mMOVE then wholeP pa ++ wholeP to
  else if m = mCOPY then wholeP to
  else []
theorem reach_all (x : Sv) (m : ByteArray) (pa to : List ByteArray) (tk : List Int) : ((reachP x m pa to).all fun r => mayB x.l r.1 r.2 tk) = chgB x m pa to tk := by
  unfold reachP chgB wholeP bothB
  split
  · split <;> simp
  · split
    · simp
    · split
      · simp
      · split
        · simp
        · split
          · simp [Bool.and_assoc]
          · split <;> simp
end Go.Proofs.YtfhcniifennfbaaGreatDoor
namespace Go.Proofs.YtfhcniifennfbaaGreatDoor.M

/-- The digits ahead of the last one. -/
def decAhead (m : Nat) : List UInt8 := if m < 10 then [] else Lib.decDigits (m / 10)
def decLow (m : Nat) : UInt8 := UInt8.ofNat (48 + m % 10)

theorem decDigits_ahead (m : Nat) : Lib.decDigits m = decAhead m ++ [decLow m] := by
  rw [Lib.decDigits]
  unfold decAhead decLow
  by_cases h : m < 10
  · rw [dif_pos h, if_pos h, Nat.mod_eq_of_lt h]; rfl
  · rw [dif_neg h, if_neg h]

theorem decAhead_step (m : Nat) (h : 9 < m) : decAhead m = decAhead (m / 10) ++ [decLow (m / 10)] := by
  rw [← decDigits_ahead]
  unfold decAhead
  rw [if_neg (by omega)]

theorem decAhead_end (m : Nat) (h : ¬ 9 < m) : decAhead m = [] := by
  unfold decAhead
  rw [if_pos (by omega)]

theorem decLow_toNat (m : Nat) : (decLow m).toNat = 48 + m % 10 := by
  unfold decLow
  rw [UInt8.toNat_ofNat']
  omega

/-- A digit to the base 16. -/
def hexCh (d : Nat) : UInt8 := if d < 10 then UInt8.ofNat (48 + d) else UInt8.ofNat (87 + d)
/-- The digits to the base 16, f of them at most. -/
def hexDig : Nat → Nat → List UInt8
  | 0, _ => []
  | f + 1, m => if m < 16 then [hexCh m] else hexDig f (m / 16) ++ [hexCh (m % 16)]
def hexDigits (m : Nat) : List UInt8 := hexDig 16 m
/-- The digits ahead of the last one. -/
def hexAhead (f m : Nat) : List UInt8 := if m < 16 then [] else hexDig f (m / 16)

theorem hexDig_ahead (f m : Nat) : hexDig (f + 1) m = hexAhead f m ++ [hexCh (m % 16)] := by
  unfold hexAhead
  simp only [hexDig]
  by_cases h : m < 16
  · rw [if_pos h, if_pos h, Nat.mod_eq_of_lt h]; rfl
  · rw [if_neg h, if_neg h]

theorem hexAhead_step (f m : Nat) (h : 15 < m) : hexAhead (f + 1) m = hexAhead f (m / 16) ++ [hexCh (m / 16 % 16)] := by
  rw [← hexDig_ahead]
  unfold hexAhead
  rw [if_neg (by omega)]

theorem hexAhead_end (f m : Nat) (h : ¬ 15 < m) : hexAhead f m = [] := by
  unfold hexAhead
  rw [if_pos (by omega)]

theorem hexCh_toNat (d : Nat) (h : d < 16) : (hexCh d).toNat = if d < 10 then 48 + d else 87 + d := by
  unfold hexCh
  split
  · rw [UInt8.toNat_ofNat']; omega
  · rw [UInt8.toNat_ofNat']; omega

end Go.Proofs.YtfhcniifennfbaaGreatDoor.M
namespace Go.Proofs.YtfhcniifennfbaaGreatDoor.M

/-- The worth of decimal digits, the first one the greatest, behind a number. -/
def decValF (n : Nat) (l : List UInt8) : Nat := l.foldl (fun n c => n * 10 + (c.toNat - 48)) n
def decVal (l : List UInt8) : Nat := decValF 0 l

theorem decVal_snoc (l : List UInt8) (c : UInt8) : decVal (l ++ [c]) = decVal l * 10 + (c.toNat - 48) := by
  simp [decVal, decValF]

def digs (l : List UInt8) : Bool := allB l [4]

theorem digs_cons (c : UInt8) (r : List UInt8) : digs (c :: r) = true → (48 ≤ c.toNat ∧ c.toNat ≤ 57) ∧ digs r = true := by
  intro h
  have h1 : isB (c.toNat : Int) 4 = true ∧ digs r = true := by simpa [digs, allB, anyB] using h
  refine ⟨?_, h1.2⟩
  have := h1.1; simp [isB] at this; omega

theorem decFrom_val (l : List UInt8) : ∀ n, digs l = true → Lib.decFrom n l = some (decValF n l) := by
  induction l with
  | nil => intro n _; rfl
  | cons c r ih =>
    intro n h
    obtain ⟨h1, h2⟩ := digs_cons c r h
    have hd : Lib.digitVal c = some (c.toNat - 48) := by unfold Lib.digitVal; rw [if_pos h1]
    simp only [Lib.decFrom, hd]
    exact ih _ h2

theorem atoi_val (l : List UInt8) (h : digs l = true) (h0 : 1 ≤ l.length) : Lib.atoi l = some (decVal l : Int) := by
  match l, h, h0 with
  | c :: r, h, _ =>
    obtain ⟨h1, _⟩ := digs_cons c r h
    have e45 : (c == 45) = false := by
      rw [beq_eq_false_iff_ne]; intro e; subst e; exact absurd h1.1 (by decide)
    have e43 : (c == 43) = false := by
      rw [beq_eq_false_iff_ne]; intro e; subst e; exact absurd h1.1 (by decide)
    simp only [Lib.atoi, e45, e43]
    simp [Lib.decNat, decFrom_val _ _ h, decVal]

theorem decVal_lt (l : List UInt8) (h : digs l = true) : decVal l < 10 ^ l.length := by
  have := Lib.decFrom_lt l 0 _ (decFrom_val l 0 h)
  simpa [decVal] using this

theorem pow_le8 {k : Nat} (h : k ≤ 8) : 10 ^ k ≤ 100000000 := by
  have := Nat.pow_le_pow_right (show 0 < 10 by decide) h
  exact this

/-- What ParseNum answers. -/
def parseOk (l : List UInt8) (most : Int) : Prop := 1 ≤ l.length ∧ l.length ≤ 7 ∧ digs l = true ∧ ¬ (1 < l.length ∧ l.head? = some 48) ∧ (decVal l : Int) ≤ most
def parseB (l : List UInt8) (most : Int) : Bool := decide (1 ≤ l.length) && (decide (l.length ≤ 7) && (digs l && (!(decide (1 < l.length) && l.head? == some 48) && decide ((decVal l : Int) ≤ most))))
theorem parseB_iff (l : List UInt8) (most : Int) : parseB l most = true ↔ parseOk l most := by
  simp only [parseB, parseOk, Bool.and_eq_true, decide_eq_true_eq, Bool.not_eq_true', Bool.and_eq_false_iff, decide_eq_false_iff_not]
  constructor
  · rintro ⟨a, b, c, d, e⟩
    refine ⟨a, b, c, ?_, e⟩
    rintro ⟨x, y⟩
    rcases d with d | d
    · exact d x
    · simp [y] at d
  · rintro ⟨a, b, c, d, e⟩
    refine ⟨a, b, c, ?_, e⟩
    by_cases x : 1 < l.length
    · right
      rw [beq_eq_false_iff_ne]
      exact fun y => d ⟨x, y⟩
    · exact .inl x
def parseNum (l : List UInt8) (most : Int) : Int × Bool := if parseB l most then ((decVal l : Int), true) else (0, false)
theorem parseNum_no {l : List UInt8} {most : Int} (h : ¬ parseOk l most) : parseNum l most = (0, false) := if_neg (fun e => h ((parseB_iff l most).1 e))
theorem parseNum_yes {l : List UInt8} {most : Int} (h : parseOk l most) : parseNum l most = ((decVal l : Int), true) := if_pos ((parseB_iff l most).2 h)

theorem digs_snoc (s : ByteArray) (k : Nat) (h : k < s.size) (h0 : digs (s.data.toList.take k) = true) (h2 : isB (s[k].toNat : Int) 4 = true) : digs (s.data.toList.take (k + 1)) = true :=
  allB_snoc s [4] k h h0 (by rw [anyB_one, h2]; rfl)
theorem digs_not (s : ByteArray) (k : Nat) (h : k < s.size) (h2 : isB (s[k].toNat : Int) 4 = false) : digs s.data.toList = false :=
  allB_not s [4] k h (by rw [anyB_one, h2]; rfl)
theorem decVal_step (s : ByteArray) (k : Nat) (h : k < s.size) : decVal (s.data.toList.take (k + 1)) = decVal (s.data.toList.take k) * 10 + (s[k].toNat - 48) := by
  rw [take_snoc s k h, decVal_snoc]
theorem isB4 {c : Int} (h : isB c 4 = true) : 48 ≤ c ∧ c ≤ 57 := by simp [isB] at h; omega
theorem head_get (s : ByteArray) (h : 0 < s.size) : s.data.toList.head? = some s[0] := by
  have e : s.data.toList.length = s.size := Array.length_toList
  rw [List.head?_eq_getElem?, List.getElem?_eq_getElem (by omega)]; rfl
theorem len_list (s : ByteArray) : s.data.toList.length = s.size := Array.length_toList

theorem not_size {s : ByteArray} {most : Int} (h : inB (s.size : Int) 1 7 = false) : ¬ parseOk s.data.toList most := by
  intro hp
  have e := len_list s
  have h1 : 1 ≤ s.size ∧ s.size ≤ 7 := by have := hp.1; have := hp.2.1; omega
  simp [inB] at h
  omega
theorem not_nought {s : ByteArray} {most : Int} (h0 : 0 < s.size) (h1 : 1 < s.size) (hz : (((s[0]).toNat : Int) == 48) = true) : ¬ parseOk s.data.toList most := by
  intro hp
  refine hp.2.2.2.1 ⟨by rw [len_list]; exact h1, ?_⟩
  rw [head_get s h0]
  have : (s[0]).toNat = 48 := by simp at hz; omega
  congr 1
  exact UInt8.toNat_inj.1 this
theorem not_most {l : List UInt8} {most : Int} (h : most < (decVal l : Int)) : ¬ parseOk l most := fun hp => by have := hp.2.2.2.2; omega
theorem not_digs {l : List UInt8} {most : Int} (h : digs l = false) : ¬ parseOk l most := fun hp => by have := hp.2.2.1; rw [h] at this; cases this
theorem is_ok {s : ByteArray} {most : Int} (h0 : 0 < s.size) (h : inB (s.size : Int) 1 7 = true) (hd : digs s.data.toList = true) (hz : 1 < s.size → (((s[0]).toNat : Int) == 48) = false) (hm : ¬ most < (decVal s.data.toList : Int)) : parseOk s.data.toList most := by
  have e := len_list s
  have h1 : 1 ≤ s.size ∧ s.size ≤ 7 := by simp [inB] at h; omega
  refine ⟨by omega, by omega, hd, ?_, by omega⟩
  rintro ⟨h2, h3⟩
  rw [head_get s h0] at h3
  have h4 := hz (by omega)
  have h5 : s[0] = 48 := Option.some.inj h3
  rw [h5] at h4
  simp at h4

end Go.Proofs.YtfhcniifennfbaaGreatDoor.M
namespace Go.Proofs.YtfhcniifennfbaaGreatDoor.M

/-- A byte, escaped. -/
def escB (c : UInt8) : List UInt8 :=
  if c = 38 then [38, 97, 109, 112, 59] else if c = 60 then [38, 108, 116, 59] else if c = 62 then [38, 103, 116, 59] else if c = 34 then [38, 113, 117, 111, 116, 59] else [c]
def escL (l : List UInt8) : List UInt8 := l.flatMap escB

theorem escL_snoc (s : ByteArray) (k : Nat) (h : k < s.size) : escL (s.data.toList.take (k + 1)) = escL (s.data.toList.take k) ++ escB s[k] := by
  rw [take_snoc s k h]; simp [escL]
theorem escB_length (c : UInt8) : (escB c).length ≤ 6 := by
  unfold escB; split; · simp
  split; · simp
  split; · simp
  split <;> simp
theorem escL_le (l : List UInt8) : (escL l).length ≤ 6 * l.length := by
  induction l with
  | nil => simp [escL]
  | cons c l ih =>
    have := escB_length c
    simp only [escL, List.flatMap_cons, List.length_append, List.length_cons] at *
    omega
theorem escL_cons (c : UInt8) (l : List UInt8) : escL (c :: l) = escB c ++ escL l := by simp [escL]

/-- What stands ahead of the first such byte; and from it on. -/
def upTo (c : UInt8) (l : List UInt8) : List UInt8 := l.takeWhile (· != c)
def fromB (c : UInt8) (l : List UInt8) : List UInt8 := l.dropWhile (· != c)
theorem fromB_le (c : UInt8) (l : List UInt8) : (fromB c l).length ≤ l.length := by
  induction l with
  | nil => simp [fromB]
  | cons b l ih =>
    simp only [fromB, List.dropWhile_cons] at *
    split
    · simp; omega
    · simp
theorem upTo_from (c : UInt8) (l : List UInt8) : upTo c l ++ fromB c l = l := List.takeWhile_append_dropWhile
theorem upTo_cons_eq (c : UInt8) (l : List UInt8) : upTo c (c :: l) = [] := by simp [upTo]
theorem fromB_cons_eq (c : UInt8) (l : List UInt8) : fromB c (c :: l) = c :: l := by simp [fromB]
theorem upTo_cons_ne {b c : UInt8} (l : List UInt8) (h : b ≠ c) : upTo c (b :: l) = b :: upTo c l := by simp [upTo, h]
theorem fromB_cons_ne {b c : UInt8} (l : List UInt8) (h : b ≠ c) : fromB c (b :: l) = fromB c l := by simp [fromB, h]
theorem fromB_head {c x : UInt8} {l q : List UInt8} (h : fromB c l = x :: q) : x = c := by
  induction l with
  | nil => simp [fromB] at h
  | cons b l ih =>
    by_cases e : b = c
    · subst e; rw [fromB_cons_eq] at h; exact (List.cons.inj h).1.symm
    · rw [fromB_cons_ne l e] at h; exact ih h

/-- The byte that a name stands for. -/
def entL (l : List UInt8) : Option UInt8 :=
  if l = [97, 109, 112] then some 38 else if l = [108, 116] then some 60 else if l = [103, 116] then some 62 else if l = [113, 117, 111, 116] then some 34 else if l = [97, 112, 111, 115] then some 39
  else if l.head? = some 35 then (if (parseNum l.tail 126).2 && decide (32 ≤ (parseNum l.tail 126).1) then some (UInt8.ofNat (decVal l.tail)) else none)
  else none

/-- What these bytes are, not escaped. -/
def unesc : List UInt8 → Option (List UInt8)
  | [] => some []
  | c :: r => if c = 60 then none else if c = 38 then
      (if fromB 59 r = [] then none else
       match entL (upTo 59 r) with
       | some b => (unesc (fromB 59 r).tail).map (b :: ·)
       | none => none)
    else (unesc r).map (c :: ·)
termination_by l => l.length
decreasing_by
  · have := fromB_le 59 r
    simp only [List.length_tail, List.length_cons]
    omega
  · simp

/-- .. as the two answers. -/
def unescR (l : List UInt8) : List UInt8 × Bool := match unesc l with | some x => (x, true) | none => ([], false)

theorem unesc_nil : unesc [] = some [] := by rw [unesc]
theorem unesc_plain {c : UInt8} (r : List UInt8) (h : c ≠ 60) (h2 : c ≠ 38) : unesc (c :: r) = (unesc r).map (c :: ·) := by
  rw [unesc]; simp [h, h2]
theorem unesc_open (r : List UInt8) : unesc (60 :: r) = none := by
  rw [unesc]; simp
theorem unesc_short (r : List UInt8) (h : fromB 59 r = []) : unesc (38 :: r) = none := by
  rw [unesc]; simp [h]
theorem unesc_bad (r : List UInt8) (h : entL (upTo 59 r) = none) : unesc (38 :: r) = none := by
  rw [unesc]; simp [h]
theorem unesc_ent (r q : List UInt8) (x b : UInt8) (h : fromB 59 r = x :: q) (hb : entL (upTo 59 r) = some b) : unesc (38 :: r) = (unesc q).map (b :: ·) := by
  rw [unesc]; simp [h, hb]

/-- What is read so far, and what is left: together all. -/
def UeAt (l rest acc : List UInt8) : Prop := acc.length + rest.length ≤ l.length ∧ unesc l = (unesc rest).map (acc ++ ·)

theorem UeAt.start (l : List UInt8) : UeAt l l [] := ⟨by simp, by simp⟩
theorem UeAt.plain {l r acc : List UInt8} {c : UInt8} (h : UeAt l (c :: r) acc) (h1 : c ≠ 60) (h2 : c ≠ 38) : UeAt l r (acc ++ [c]) := by
  obtain ⟨a, b⟩ := h
  refine ⟨by simp at a ⊢; omega, ?_⟩
  rw [b, unesc_plain r h1 h2, Option.map_map]
  congr 1
  funext x
  simp [Function.comp]
theorem UeAt.ent {l r q acc : List UInt8} {x b : UInt8} (h : UeAt l (38 :: r) acc) (hq : fromB 59 r = x :: q) (hb : entL (upTo 59 r) = some b) : UeAt l q (acc ++ [b]) := by
  obtain ⟨a, e⟩ := h
  have := fromB_le 59 r
  rw [hq] at this
  refine ⟨by simp at a this ⊢; omega, ?_⟩
  rw [e, unesc_ent r q x b hq hb, Option.map_map]
  congr 1
  funext x
  simp [Function.comp]
theorem UeAt.no {l rest acc : List UInt8} (h : UeAt l rest acc) (hn : unesc rest = none) : unescR l = ([], false) := by
  unfold unescR; rw [h.2, hn]; rfl
theorem UeAt.done {l acc : List UInt8} (h : UeAt l [] acc) : unescR l = (acc, true) := by
  unfold unescR; rw [h.2, unesc_nil]; simp

theorem unesc_le (l : List UInt8) : ∀ x, unesc l = some x → x.length ≤ l.length := by
  induction hn : l.length using Nat.strongRecOn generalizing l with
  | _ n ih =>
    subst hn
    intro x hx
    match l, ih, hx with
    | [], _, hx => rw [unesc_nil] at hx; simp at hx; simp [← hx]
    | c :: r, ih, hx =>
      by_cases h60 : c = 60
      · subst h60; rw [unesc_open] at hx; cases hx
      by_cases h38 : c = 38
      · subst h38
        match hf : fromB 59 r with
        | [] => rw [unesc_short r hf] at hx; cases hx
        | y :: q =>
          match he : entL (upTo 59 r) with
          | none => rw [unesc_bad r he] at hx; cases hx
          | some b =>
            rw [unesc_ent r q y b hf he] at hx
            obtain ⟨z, hz, rfl⟩ := Option.map_eq_some_iff.1 hx
            have h1 := fromB_le 59 r
            rw [hf] at h1
            have := ih q.length (by simp at h1 ⊢; omega) q rfl z hz
            simp at h1 ⊢; omega
      · rw [unesc_plain r h60 h38] at hx
        obtain ⟨z, hz, rfl⟩ := Option.map_eq_some_iff.1 hx
        have := ih r.length (by simp) r rfl z hz
        simp; omega

theorem unescR_le (l : List UInt8) : (unescR l).1.length ≤ l.length := by
  unfold unescR
  cases h : unesc l with
  | none => simp
  | some x => exact unesc_le l x h

/-- What is escaped comes back. -/
theorem unesc_escB (c : UInt8) (r : List UInt8) : unesc (escB c ++ r) = (unesc r).map (c :: ·) := by
  unfold escB
  split
  · rename_i h; subst h
    exact unesc_ent _ r 59 38 (by simp [fromB]) (by simp [upTo, entL])
  split
  · rename_i h; subst h
    exact unesc_ent _ r 59 60 (by simp [fromB]) (by simp [upTo, entL])
  split
  · rename_i h; subst h
    exact unesc_ent _ r 59 62 (by simp [fromB]) (by simp [upTo, entL])
  split
  · rename_i h; subst h
    exact unesc_ent _ r 59 34 (by simp [fromB]) (by simp [upTo, entL])
  · exact unesc_plain r (by assumption) (by assumption)

theorem unesc_escL (l : List UInt8) : unesc (escL l) = some l := by
  induction l with
  | nil => exact unesc_nil
  | cons c r ih => rw [escL_cons, unesc_escB, ih]; rfl
theorem unescR_escL (l : List UInt8) : unescR (escL l) = (l, true) := by unfold unescR; rw [unesc_escL]

theorem escB_none (c : UInt8) : ∀ x ∈ escB c, x ≠ 60 ∧ x ≠ 34 ∧ x ≠ 62 := by
  intro x hx
  unfold escB at hx
  split at hx
  · simp at hx; rcases hx with h | h | h | h | h <;> (subst h; decide)
  split at hx
  · simp at hx; rcases hx with h | h | h | h <;> (subst h; decide)
  split at hx
  · simp at hx; rcases hx with h | h | h | h <;> (subst h; decide)
  split at hx
  · simp at hx; rcases hx with h | h | h | h | h | h <;> (subst h; decide)
  · simp at hx; subst hx; exact ⟨by assumption, by assumption, by assumption⟩
theorem escL_none (l : List UInt8) : ∀ x ∈ escL l, x ≠ 60 ∧ x ≠ 34 ∧ x ≠ 62 := by
  intro x hx
  obtain ⟨c, _, hc⟩ := List.mem_flatMap.1 hx
  exact escB_none c x hc

theorem upTo_all {c : UInt8} {l : List UInt8} (h : ∀ x ∈ l, x ≠ c) (r : List UInt8) : upTo c (l ++ c :: r) = l ∧ fromB c (l ++ c :: r) = c :: r := by
  induction l with
  | nil => exact ⟨upTo_cons_eq c r, fromB_cons_eq c r⟩
  | cons b l ih =>
    obtain ⟨i1, i2⟩ := ih (fun x hx => h x (List.mem_cons_of_mem _ hx))
    have hb := h b (List.mem_cons_self ..)
    rw [List.cons_append, upTo_cons_ne _ hb, fromB_cons_ne _ hb, i1, i2]
    exact ⟨rfl, rfl⟩
theorem upTo_none {c : UInt8} {l : List UInt8} (h : ∀ x ∈ l, x ≠ c) : upTo c l = l ∧ fromB c l = [] := by
  induction l with
  | nil => exact ⟨rfl, rfl⟩
  | cons b l ih =>
    obtain ⟨i1, i2⟩ := ih (fun x hx => h x (List.mem_cons_of_mem _ hx))
    have hb := h b (List.mem_cons_self ..)
    rw [upTo_cons_ne _ hb, fromB_cons_ne _ hb, i1, i2]
    exact ⟨rfl, rfl⟩

/-- What the library's Cut and Index at one byte are. -/
theorem indexByte_upTo (l : List UInt8) (c : UInt8) : Lib.indexByte l c = if fromB c l = [] then -1 else ((upTo c l).length : Int) := by
  induction l with
  | nil => rfl
  | cons b l ih =>
    by_cases h : b = c
    · subst h
      rw [fromB_cons_eq, upTo_cons_eq]
      simp [Lib.indexByte]
    · rw [fromB_cons_ne l h, upTo_cons_ne l h]
      have hb : (b == c) = false := by simp [h]
      show (if b == c then 0 else if Lib.indexByte l c == -1 then -1 else Lib.indexByte l c + 1) = _
      rw [hb, ih]
      by_cases h2 : fromB c l = []
      · simp [h2]
      · simp only [h2, if_false]
        rw [if_neg (by simp)]
        simp
theorem cut_one (l : List UInt8) (c : UInt8) : Lib.cut l [c] = (upTo c l, (fromB c l).tail, !(fromB c l).isEmpty) := by
  have hi : Lib.index l [c] = Lib.indexByte l c := Lib.index_one l c
  have e := upTo_from c l
  unfold Lib.cut
  rw [hi, indexByte_upTo]
  cases hf : fromB c l with
  | nil =>
    rw [hf, List.append_nil] at e
    simp [e]
  | cons x q =>
    rw [hf] at e
    clear hf
    generalize upTo c l = p at e ⊢
    subst e
    simp

/-- The numeric ones, as the program asks. -/
theorem parse_more (d : List UInt8) : ((parseNum d 255).2 && decide (32 ≤ (parseNum d 255).1 ∧ (parseNum d 255).1 ≤ 126)) = ((parseNum d 126).2 && decide (32 ≤ (parseNum d 126).1)) := by
  by_cases h : parseOk d 126
  · have h' : parseOk d 255 := ⟨h.1, h.2.1, h.2.2.1, h.2.2.2.1, by have := h.2.2.2.2; omega⟩
    rw [parseNum_yes h, parseNum_yes h']
    have := h.2.2.2.2
    simp; omega
  · by_cases h' : parseOk d 255
    · rw [parseNum_no h, parseNum_yes h']
      have : ¬ (decVal d : Int) ≤ 126 := fun e => h ⟨h'.1, h'.2.1, h'.2.2.1, h'.2.2.2.1, e⟩
      simp; omega
    · rw [parseNum_no h, parseNum_no h']
      rfl
end Go.Proofs.YtfhcniifennfbaaGreatDoor.M
namespace Go.Proofs.YtfhcniifennfbaaGreatDoor.M

/-- A mark of what stands within it. -/
def tagL (m : List UInt8) : List UInt8 := 34 :: (m ++ [34])
def innB (m : List UInt8) : Bool := decide (m.length ≤ 10) && allB m [0]
/-- The mark ahead: what stands within it, and what stands behind. -/
def cutT : List UInt8 → Option (List UInt8 × List UInt8)
  | [] => none
  | c :: t => if c = 34 then (if fromB 34 t = [] then none else if innB (upTo 34 t) = true then some (upTo 34 t, (fromB 34 t).tail) else none) else none
/-- Marks, one behind the other, as they are read. -/
def tgs : Nat → List UInt8 → List (List UInt8) → Option (List (List UInt8))
  | 0, _, _ => none
  | f + 1, l, acc =>
    match cutT (trimL l) with
    | none => none
    | some (m, rest) =>
      if acc.length = 5 then none
      else if trimL rest = [] then some (acc ++ [tagL m])
      else if (trimL rest).head? = some 44 then tgs f (trimL rest).tail (acc ++ [tagL m])
      else none
/-- A text cut at commas that stand in no mark. -/
def addH (p : List UInt8) : List (List UInt8) → List (List UInt8)
  | [] => [p]
  | x :: q => (p ++ x) :: q
def spq : Bool → List UInt8 → List (List UInt8)
  | _, [] => [[]]
  | b, c :: r => if c = 44 ∧ b = false then [] :: spq false r else addH [c] (spq (if c = 34 then !b else b) r)
def tagB (x : List UInt8) : Bool := match cutT x with | some (_, []) => true | _ => false

theorem addH_add (a b : List UInt8) (L : List (List UInt8)) : addH a (addH b L) = addH (a ++ b) L := by
  cases L <;> simp [addH]
theorem addH_nil (L : List (List UInt8)) (h : L ≠ []) : addH [] L = L := by
  cases L with
  | nil => exact absurd rfl h
  | cons x q => simp [addH]
theorem addH_ne (a : List UInt8) (L : List (List UInt8)) : addH a L ≠ [] := by cases L <;> simp [addH]
theorem spq_ne (b : Bool) (l : List UInt8) : spq b l ≠ [] := by
  cases l with
  | nil => simp [spq]
  | cons c r => rw [spq]; split; simp; exact addH_ne _ _
theorem spq_in (m r : List UInt8) (h : 34 ∉ m) : spq true (m ++ r) = addH m (spq true r) := by
  induction m with
  | nil => exact (addH_nil _ (spq_ne _ _)).symm
  | cons c q ih =>
    have h1 : ¬ c = 34 := fun e => h (by simp [e])
    rw [List.cons_append, spq, if_neg (by simp), if_neg h1, ih (fun e => h (List.mem_cons_of_mem _ e)), addH_add]
    rfl
theorem spq_out (m r : List UInt8) (h : 34 ∉ m) (h4 : 44 ∉ m) : spq false (m ++ r) = addH m (spq false r) := by
  induction m with
  | nil => exact (addH_nil _ (spq_ne _ _)).symm
  | cons c q ih =>
    have h1 : ¬ c = 34 := fun e => h (by simp [e])
    have h2 : ¬ c = 44 := fun e => h4 (by simp [e])
    rw [List.cons_append, spq, if_neg (by simp [h2]), if_neg h1, ih (fun e => h (List.mem_cons_of_mem _ e)) (fun e => h4 (List.mem_cons_of_mem _ e)), addH_add]
    rfl
theorem spq_tag (m r : List UInt8) (h : 34 ∉ m) : spq false (tagL m ++ r) = addH (tagL m) (spq false r) := by
  have e : tagL m ++ r = 34 :: (m ++ 34 :: r) := by simp [tagL]
  rw [e, spq, if_neg (by simp), if_pos rfl, Bool.not_false, spq_in m _ h, spq, if_neg (by simp), if_pos rfl, Bool.not_true, addH_add, addH_add]
  simp [tagL]
theorem spq_comma (b r : List UInt8) (h : 34 ∉ b) (h4 : 44 ∉ b) : spq false (b ++ 44 :: r) = b :: spq false r := by
  rw [spq_out b _ h h4, spq, if_pos ⟨rfl, rfl⟩]
  simp [addH]

/-! Blanks. -/
def bls (l : List UInt8) : Prop := ∀ x ∈ l, bl x = true
theorem bl_not34 {x : UInt8} (h : bl x = true) : ¬ x = 34 := fun e => by rw [e] at h; exact absurd h (by decide)
theorem bl_not44 {x : UInt8} (h : bl x = true) : ¬ x = 44 := fun e => by rw [e] at h; exact absurd h (by decide)
theorem bls_34 {l : List UInt8} (h : bls l) : 34 ∉ l := fun e => bl_not34 (h _ e) rfl
theorem bls_44 {l : List UInt8} (h : bls l) : 44 ∉ l := fun e => bl_not44 (h _ e) rfl
theorem bls_app {a b : List UInt8} (ha : bls a) (hb : bls b) : bls (a ++ b) := fun x hx => (List.mem_append.1 hx).elim (ha x) (hb x)
def rtr (l : List UInt8) : List UInt8 := (l.reverse.dropWhile bl).reverse
theorem trim_rtr (l : List UInt8) : trimL l = rtr (l.dropWhile bl) := rfl
theorem dropw_bls (b r : List UInt8) (h : bls b) : (b ++ r).dropWhile bl = r.dropWhile bl := by
  induction b with
  | nil => rfl
  | cons c q ih => rw [List.cons_append, List.dropWhile_cons, if_pos (h c (by simp)), ih (fun x hx => h x (List.mem_cons_of_mem _ hx))]
theorem rtr_bls (r b : List UInt8) (h : bls b) : rtr (r ++ b) = rtr r := by
  unfold rtr
  rw [List.reverse_append, dropw_bls _ _ (fun x hx => h x (by simpa using hx))]
theorem trim_front (b r : List UInt8) (h : bls b) : trimL (b ++ r) = trimL r := by rw [trim_rtr, dropw_bls b r h, trim_rtr]
theorem trim_end (r b : List UInt8) (h : bls b) : trimL (r ++ b) = trimL r := by
  rw [trim_rtr, trim_rtr]
  induction r with
  | nil =>
    have e : b.dropWhile bl = [] := by
      have := dropw_bls b [] h
      simpa using this
    rw [List.nil_append, e]; rfl
  | cons c q ih =>
    rw [List.cons_append, List.dropWhile_cons, List.dropWhile_cons]
    split
    · exact ih
    · rw [← List.cons_append, rtr_bls _ _ h]
theorem trim_bls {l : List UInt8} (h : bls l) : trimL l = [] := by
  have := trim_front l [] h
  rw [List.append_nil] at this
  rw [this]; rfl
theorem dropw_parts (l : List UInt8) : ∃ b, bls b ∧ l = b ++ l.dropWhile bl := by
  induction l with
  | nil => exact ⟨[], (fun x hx => by cases hx), rfl⟩
  | cons c q ih =>
    obtain ⟨b, hb, e⟩ := ih
    rw [List.dropWhile_cons]
    split
    · rename_i hc
      refine ⟨c :: b, fun x hx => ?_, by rw [List.cons_append, ← e]⟩
      rcases List.mem_cons.1 hx with rfl | hx
      · exact hc
      · exact hb x hx
    · exact ⟨[], (fun x hx => by cases hx), rfl⟩
theorem rtr_parts (l : List UInt8) : ∃ b, bls b ∧ l = rtr l ++ b := by
  obtain ⟨b, hb, e⟩ := dropw_parts l.reverse
  refine ⟨b.reverse, fun x hx => hb x (by simpa using hx), ?_⟩
  have := congrArg List.reverse e
  rw [List.reverse_reverse, List.reverse_append] at this
  exact this
theorem trim_parts (l : List UInt8) : ∃ b1 b2, bls b1 ∧ bls b2 ∧ l = b1 ++ (trimL l ++ b2) := by
  obtain ⟨b1, h1, e1⟩ := dropw_parts l
  obtain ⟨b2, h2, e2⟩ := rtr_parts (l.dropWhile bl)
  refine ⟨b1, b2, h1, h2, ?_⟩
  rw [trim_rtr, ← e2]
  exact e1
theorem dropw_head (l : List UInt8) (a : UInt8) (r : List UInt8) (h : l.dropWhile bl = a :: r) : bl a = false := by
  induction l with
  | nil => cases h
  | cons c q ih =>
    rw [List.dropWhile_cons] at h
    split at h
    · exact ih h
    · rename_i hc
      cases h
      simpa using hc
theorem rtr_app (v : List UInt8) (c : UInt8) (y : List UInt8) (h : bl c = false) : rtr (v ++ c :: y) = v ++ c :: rtr y := by
  unfold rtr
  have e : (v ++ c :: y).reverse = y.reverse ++ c :: v.reverse := by simp
  rw [e]
  have : ∀ z : List UInt8, (z ++ c :: v.reverse).dropWhile bl = z.dropWhile bl ++ c :: v.reverse := by
    intro z
    induction z with
    | nil => simp [h]
    | cons a q ih =>
      rw [List.cons_append, List.dropWhile_cons, List.dropWhile_cons]
      split
      · exact ih
      · rfl
  rw [this]
  simp
theorem rtr_ne (b : List UInt8) (c : UInt8) (y : List UInt8) (h : bl c = false) : rtr (b ++ c :: y) ≠ [] := by rw [rtr_app _ _ _ h]; simp
theorem trim_head {l : List UInt8} {a : UInt8} {r : List UInt8} (h : trimL l = a :: r) : bl a = false := by
  rw [trim_rtr] at h
  cases hd : l.dropWhile bl with
  | nil => rw [hd] at h; cases h
  | cons c q =>
    have hc := dropw_head l c q hd
    rw [hd] at h
    have := rtr_app [] c q hc
    rw [List.nil_append, List.nil_append] at this
    rw [this] at h
    cases h
    exact hc
theorem trim_cons (c : UInt8) (y : List UInt8) (h : bl c = false) : trimL (c :: y) = c :: rtr y := by
  rw [trim_rtr, dropWhile_head bl c y h]
  exact rtr_app [] c y h
theorem trim_none {l : List UInt8} (h : trimL l = []) : bls l := by
  obtain ⟨b1, b2, h1, h2, e⟩ := trim_parts l
  rw [h, List.nil_append] at e
  rw [e]; exact bls_app h1 h2
theorem trim_trim (l : List UInt8) : trimL (trimL l) = trimL l := by
  obtain ⟨b1, b2, h1, h2, e⟩ := trim_parts l
  conv => rhs; rw [e]
  rw [trim_front _ _ h1, trim_end _ _ h2]

/-! A mark ahead. -/
theorem upTo_not (c : UInt8) (l : List UInt8) : c ∉ upTo c l := by
  induction l with
  | nil => simp [upTo]
  | cons b l ih =>
    by_cases e : b = c
    · subst e; rw [upTo_cons_eq]; simp
    · rw [upTo_cons_ne l e]
      intro h
      rcases List.mem_cons.1 h with rfl | h
      · exact e rfl
      · exact ih h
theorem fromB_nil {c : UInt8} {l : List UInt8} (h : fromB c l = []) : c ∉ l := by
  have e := upTo_from c l
  rw [h, List.append_nil] at e
  rw [← e]; exact upTo_not c l
theorem upTo_app (c : UInt8) (m r : List UInt8) (h : c ∉ m) : upTo c (m ++ c :: r) = m ∧ fromB c (m ++ c :: r) = c :: r := by
  induction m with
  | nil => exact ⟨upTo_cons_eq c r, fromB_cons_eq c r⟩
  | cons b q ih =>
    have h1 : b ≠ c := fun e => h (by simp [e])
    obtain ⟨i1, i2⟩ := ih (fun e => h (List.mem_cons_of_mem _ e))
    rw [List.cons_append, upTo_cons_ne _ h1, fromB_cons_ne _ h1, i1, i2]
    exact ⟨rfl, rfl⟩
theorem fromB_part {c : UInt8} {l : List UInt8} (h : fromB c l ≠ []) : l = upTo c l ++ c :: (fromB c l).tail := by
  have e := upTo_from c l
  cases hf : fromB c l with
  | nil => exact absurd hf h
  | cons x q =>
    have := fromB_head hf
    subst this
    rw [hf] at e
    exact e.symm
theorem cutT_of (m y : List UInt8) (h : 34 ∉ m) : cutT (tagL m ++ y) = if innB m = true then some (m, y) else none := by
  have e : tagL m ++ y = 34 :: (m ++ 34 :: y) := by simp [tagL]
  obtain ⟨e1, e2⟩ := upTo_app 34 m y h
  rw [e, cutT, if_pos rfl, e1, e2, if_neg (by simp)]
  rfl
theorem cutT_some {x m y : List UInt8} (h : cutT x = some (m, y)) : x = tagL m ++ y ∧ 34 ∉ m ∧ innB m = true := by
  cases x with
  | nil => cases h
  | cons c t =>
    rw [cutT] at h
    split at h
    · rename_i hc
      subst hc
      split at h
      · cases h
      · rename_i hf
        split at h
        · rename_i hi
          cases h
          refine ⟨?_, upTo_not _ _, hi⟩
          have := fromB_part hf
          simp [tagL]
          exact this
        · cases h
    · cases h
theorem tagB_more (m y : List UInt8) (h : 34 ∉ m) (hy : y ≠ []) : tagB (tagL m ++ y) = false := by
  unfold tagB
  rw [cutT_of m y h]
  split
  · rename_i e
    split at e
    · cases e; exact absurd rfl hy
    · cases e
  · rfl
theorem tagB_one (m : List UInt8) (h : 34 ∉ m) (hi : innB m = true) : tagB (tagL m) = true := by
  unfold tagB
  have := cutT_of m [] h
  rw [List.append_nil, if_pos hi] at this
  rw [this]
theorem tagB_none {x : List UInt8} (h : cutT x = none) : tagB x = false := by unfold tagB; rw [h]
theorem trim_tag (m y : List UInt8) : trimL (tagL m ++ y) = tagL m ++ rtr y := by
  have e : tagL m ++ y = 34 :: (m ++ 34 :: y) := by simp [tagL]
  rw [e, trim_cons _ _ (by decide), rtr_app m 34 y (by decide)]
  simp [tagL]

theorem tgs_trim (f : Nat) (a b : List UInt8) (acc : List (List UInt8)) (h : trimL a = trimL b) : tgs f a acc = tgs f b acc := by
  cases f with
  | zero => rw [tgs, tgs]
  | succ f => rw [tgs, tgs, h]

/-- The first part of a text, where no mark is ahead. -/
theorem first_bad {l : List UInt8} (h : cutT (trimL l) = none) : ∃ x q, spq false l = x :: q ∧ tagB (trimL x) = false := by
  obtain ⟨b1, b2, h1, h2, e⟩ := trim_parts l
  cases ht : trimL l with
  | nil =>
    have hb := trim_none ht
    refine ⟨l, [], ?_, by rw [ht]; rfl⟩
    have := spq_out l [] (bls_34 hb) (bls_44 hb)
    rw [List.append_nil] at this
    rw [this]; simp [spq, addH]
  | cons c t =>
    have hc := trim_head ht
    rw [ht] at e h
    by_cases hq : c = 34
    · subst hq
      by_cases hf : fromB 34 t = []
      · have hn := fromB_nil hf
        refine ⟨l, [], ?_, by rw [ht]; exact tagB_none h⟩
        have hn2 : 34 ∉ t ++ b2 := fun hm => (List.mem_append.1 hm).elim hn (bls_34 h2)
        have e2 := spq_in (t ++ b2) [] hn2
        rw [List.append_nil] at e2
        rw [e, spq_out b1 _ (bls_34 h1) (bls_44 h1), List.cons_append, spq, if_neg (by simp), if_pos rfl, Bool.not_false, e2, spq, addH_add, addH_add]
        simp [addH]
      · have e3 := fromB_part hf
        have hn := upTo_not 34 t
        obtain ⟨m, hm⟩ : ∃ m, upTo 34 t = m := ⟨_, rfl⟩
        obtain ⟨y, hy⟩ : ∃ y, (fromB 34 t).tail = y := ⟨_, rfl⟩
        rw [hm, hy] at e3
        rw [hm] at hn
        have e4 : (34 : UInt8) :: t = tagL m ++ y := by rw [e3]; simp [tagL]
        rw [e4] at e h
        rw [cutT_of m y hn] at h
        have hi : ¬ innB m = true := fun e => by rw [if_pos e] at h; cases h
        have e5 : spq false l = addH (b1 ++ tagL m) (spq false (y ++ b2)) := by
          rw [e, spq_out b1 _ (bls_34 h1) (bls_44 h1), List.append_assoc, spq_tag m _ hn, addH_add]
        cases hs : spq false (y ++ b2) with
        | nil => exact absurd hs (spq_ne _ _)
        | cons x q =>
          rw [hs] at e5
          refine ⟨_, _, e5, ?_⟩
          rw [List.append_assoc, trim_front _ _ h1, trim_tag]
          apply tagB_none
          rw [cutT_of m _ hn, if_neg hi]
    · by_cases h44 : c = 44
      · subst h44
        refine ⟨b1, spq false (t ++ b2), ?_, by rw [trim_bls h1]; rfl⟩
        rw [e, List.cons_append, spq_comma b1 _ (bls_34 h1) (bls_44 h1)]
      · have e5 : spq false l = addH (b1 ++ [c]) (spq false (t ++ b2)) := by
          rw [e, spq_out b1 _ (bls_34 h1) (bls_44 h1), List.cons_append, spq, if_neg (by simp [h44]), if_neg hq, addH_add]
        cases hs : spq false (t ++ b2) with
        | nil => exact absurd hs (spq_ne _ _)
        | cons x q =>
          rw [hs] at e5
          refine ⟨_, _, e5, ?_⟩
          rw [List.append_assoc, trim_front _ _ h1, List.singleton_append, trim_cons _ _ hc]
          apply tagB_none
          rw [cutT, if_neg hq]

/-- Both readings are one. -/
theorem tgs_spq : ∀ (f : Nat) (l : List UInt8) (acc : List (List UInt8)), l.length < f → acc.length ≤ 5 →
    tgs f l acc = if ((spq false l).map trimL).all tagB = true ∧ acc.length + (spq false l).length ≤ 5 then some (acc ++ (spq false l).map trimL) else none := by
  intro f
  induction f with
  | zero => intro l acc h; omega
  | succ f ih =>
    intro l acc hl ha
    rw [tgs]
    cases hc : cutT (trimL l) with
    | none =>
      obtain ⟨x, q, e, hb⟩ := first_bad hc
      rw [e, if_neg (by simp [hb])]
    | some p =>
      obtain ⟨m, rest⟩ := p
      obtain ⟨e1, hn, hi⟩ := cutT_some hc
      obtain ⟨b1, b2, h1, h2, e⟩ := trim_parts l
      rw [e1] at e
      have e5 : spq false l = addH (b1 ++ tagL m) (spq false (rest ++ b2)) := by
        rw [e, spq_out b1 _ (bls_34 h1) (bls_44 h1), List.append_assoc, spq_tag m _ hn, addH_add]
      have htr : trimL (rest ++ b2) = trimL rest := trim_end _ _ h2
      have hpos : 0 < (spq false l).length := List.length_pos_iff.2 (spq_ne _ _)
      by_cases h5 : acc.length = 5
      · rw [if_neg (by omega)]; simp only [h5, if_true]
      · simp only [h5, if_false]
        by_cases hr0 : trimL rest = []
        · have hb : bls (rest ++ b2) := trim_none (by rw [htr, hr0])
          have e6 := spq_out (rest ++ b2) [] (bls_34 hb) (bls_44 hb)
          rw [List.append_nil] at e6
          rw [e6, spq] at e5
          have e7 : spq false l = [b1 ++ (tagL m ++ (rest ++ b2))] := by rw [e5]; simp [addH]
          have e8 : trimL (b1 ++ (tagL m ++ (rest ++ b2))) = tagL m := by
            rw [trim_front _ _ h1, trim_end _ _ hb]
            have := trim_tag m []
            rw [List.append_nil] at this
            rw [this]; simp [rtr]
          rw [e7, if_pos hr0, if_pos]
          · simp [e8]
          · simp [e8, tagB_one m hn hi]; omega
        · simp only [hr0, if_false]
          cases ht : trimL rest with
          | nil => exact absurd ht hr0
          | cons c r1 =>
            have hcb := trim_head ht
            obtain ⟨b3, b4, h3, h4, e9⟩ := trim_parts rest
            rw [ht] at e9
            by_cases h44 : c = 44
            · subst h44
              have e10 : rest ++ b2 = b3 ++ 44 :: (r1 ++ (b4 ++ b2)) := by rw [e9]; simp
              have e11 : spq false l = (b1 ++ (tagL m ++ b3)) :: spq false (r1 ++ (b4 ++ b2)) := by
                rw [e5, e10, spq_comma b3 _ (bls_34 h3) (bls_44 h3)]; simp [addH]
              have e12 : trimL (b1 ++ (tagL m ++ b3)) = tagL m := by
                rw [trim_front _ _ h1, trim_end _ _ h3]
                have := trim_tag m []
                rw [List.append_nil] at this
                rw [this]; simp [rtr]
              have hlen : (r1 ++ (b4 ++ b2)).length < l.length := by
                rw [e, e9]; simp [tagL]; omega
              simp only [List.head?_cons, if_true, List.tail_cons]
              rw [tgs_trim f r1 (r1 ++ (b4 ++ b2)) _ (trim_end _ _ (bls_app h4 h2)).symm, ih _ _ (by omega) (by simp; omega), e11]
              have ea : (acc ++ [tagL m]).length + (spq false (r1 ++ (b4 ++ b2))).length = acc.length + ((b1 ++ (tagL m ++ b3)) :: spq false (r1 ++ (b4 ++ b2))).length := by simp; omega
              rw [ea]
              simp only [List.map_cons, List.all_cons, e12, tagB_one m hn hi, Bool.true_and, List.append_assoc, List.singleton_append]
            · have e10 : rest ++ b2 = b3 ++ c :: (r1 ++ (b4 ++ b2)) := by rw [e9]; simp
              have : ¬ (c :: r1).head? = some 44 := by simp [h44]
              simp only [this, if_false]
              obtain ⟨b', hb'⟩ : ∃ b' : Bool, (if c = 34 then !false else false) = b' := ⟨_, rfl⟩
              have e11 : spq false (rest ++ b2) = addH (b3 ++ [c]) (spq b' (r1 ++ (b4 ++ b2))) := by
                rw [e10, spq_out b3 _ (bls_34 h3) (bls_44 h3), spq, if_neg (by simp [h44]), hb', addH_add]
              rw [e11, addH_add] at e5
              cases hs : spq b' (r1 ++ (b4 ++ b2)) with
              | nil => exact absurd hs (spq_ne _ _)
              | cons x q =>
                rw [hs] at e5
                have e12 : tagB (trimL ((b1 ++ tagL m ++ (b3 ++ [c])) ++ x)) = false := by
                  have e13 : (b1 ++ tagL m ++ (b3 ++ [c])) ++ x = b1 ++ (tagL m ++ (b3 ++ c :: x)) := by simp
                  rw [e13, trim_front _ _ h1, trim_tag]
                  exact tagB_more m _ hn (rtr_ne _ _ _ hcb)
                rw [e5, addH, if_neg]
                intro hh
                have := hh.1
                rw [List.map_cons, List.all_cons, e12] at this
                cases this
/-- What ParseTags tells, as the document has it. -/
def tagsR (l : List UInt8) : List (List UInt8) × Bool :=
  if l = [42] then ([[42]], true) else match tgs (l.length + 1) l [] with | some x => (x, true) | none => ([], false)
theorem tagsR_star : tagsR [42] = ([[42]], true) := rfl
theorem tagsR_some {l : List UInt8} {x : List (List UInt8)} (h : ¬ l = [42]) (h1 : tgs (l.length + 1) l [] = some x) : tagsR l = (x, true) := by unfold tagsR; rw [if_neg h, h1]
theorem tagsR_none {l : List UInt8} (h : ¬ l = [42]) (h1 : tgs (l.length + 1) l [] = none) : tagsR l = ([], false) := by unfold tagsR; rw [if_neg h, h1]
theorem tagsR_spec {l : List UInt8} (h : ¬ l = [42]) : tagsR l = if ((spq false l).map trimL).all tagB = true ∧ (spq false l).length ≤ 5 then ((spq false l).map trimL, true) else ([], false) := by
  have e := tgs_spq (l.length + 1) l [] (by omega) (by simp)
  rw [List.length_nil, Nat.zero_add, List.nil_append] at e
  by_cases hh : ((spq false l).map trimL).all tagB = true ∧ (spq false l).length ≤ 5
  · rw [if_pos hh] at e ⊢; exact tagsR_some h e
  · rw [if_neg hh] at e ⊢; exact tagsR_none h e
end Go.Proofs.YtfhcniifennfbaaGreatDoor.M
namespace Go.Proofs.YtfhcniifennfbaaGreatDoor
open Go.RowKit

theorem ret_str {l m : List UInt8} (h : l = m) : Ending.returned (.string ⟨l.toArray⟩) = .returned (.string ⟨m.toArray⟩) := by rw [h]

/-- 'string(b)' of a row of bytes that the call owns: its bytes; the world is as it was. -/
theorem conv_own {w : World} {B n : Nat} {v : Value} {l : List UInt8} (h : w.ownsRow B 5 1 v n (Lib.byteCells l)) :
    (convert 124 9 v).run Tryz.prog w = .ok (.string ⟨l.toArray⟩) w := by
  have hn : n = l.length := by have := h.1; rw [Lib.byteCells_length] at this; omega
  subst hn
  rcases h.2 with ⟨rfl, h0⟩ | ⟨g, cap, cur, rfl, _, hg, _, _, _, htk⟩
  · have : l = [] := List.length_eq_zero_iff.1 h0
    subst this
    exact run_convert_bytes_nil w 124 5 Tryz.underlying124 Tryz.underlying5 0 0 9 Tryz.underlying9
  · refine run_convert_bytes_back w 124 9 5 _ cap l Tryz.underlying124 Tryz.underlying5 Tryz.underlying9 ?_
    intro j hj
    exact h.cells (g := g) rfl j _ (by simp [Lib.byteCells, List.getElem?_eq_getElem hj])

/-- What grew by writes to a row that the call owns is as it was below. -/
theorem below_grown {w w' : World} {B n : Nat} {e : TypeId} {v : Value} {xs : List Value} (h : w.ownsRow B e 1 v n xs) (hB : B ≤ w.heap.size) (hg : w.grownBy w' v.ownBlock) : Below B w w' :=
  ⟨hg.os, hg.tape, hg.output, hg.size, fun k hk => hg.block k (Nat.lt_of_lt_of_le hk hB) (fun e => by have := h.lt k e.symm; omega)⟩

theorem info_byte : (Tryz.prog.info? 5).map (fun i => (i.zero, i.size, i.bytes)) = some (some (.int .u8 0), 1, 1) := by kernel_rfl

/-- 'b = append(b, c)' on a row of bytes that the call owns. -/
theorem wp_append_byte {w : World} {ops : Array Oper} {rest : List Oper} {o : Oper} {a : Act} {Q : Exit → Act → World → Prop} (hgd : o.guard = none) (s x : Operand)
    (ho : o.op = .call { callee := .builtin .append, args := #[s, x], argTypes := #[124, 124] })
    (B : Nat) (v : Value) (n : Nat) (l : List UInt8) (hs : a.eval s = v) (hown : w.ownsRow B 5 1 v n (Lib.byteCells l))
    (ad : Addr) (c : UInt8) (hx : a.eval x = .slice (some ad) 1 1) (hcell : w.cell? ad = some (.int .u8 c.toNat)) (hlen : n + 1 ≤ 140737488355328) (hB : B ≤ w.heap.size)
    (h : ∀ v' w', w'.ownsRow B 5 1 v' (n + 1) (Lib.byteCells (l ++ [c])) → Below B w w' → wpList Tryz.prog ops Q rest (a.put o.dst v') w') : wpList Tryz.prog ops Q (o :: rest) a w := by
  obtain ⟨i0, hi, hz0, hz1, hz2⟩ := info_parts info_byte
  refine wpList_append_own w hgd s x 124 ho B 5 i0 (.int .u8 0) 1 1 Tryz.underlying124 hi hz0 hz1 hz2 rfl (by decide) v n _ hs hown ad 1 1 [.int .u8 c.toNat] hx rfl ?_ ?_ ?_ ?_ hB ?_
  · intro j u hj
    match j, hj with
    | 0, hj =>
      simp at hj; subst hj
      have : ad.add 0 = ad := by unfold Addr.add; split <;> simp_all
      rw [this]; exact hcell
  · intro u hu; simp at hu; subst hu; rfl
  · unfold maxLen; omega
  · omega
  · intro v' w' ho' hg _
    refine h v' w' ?_ (below_grown hown hB hg)
    rw [Lib.byteCells_append]
    exact ho'

/-- A row of bytes in block N, none of them frozen. -/
def RowAt (w : World) (N : Nat) (l : List UInt8) : Prop := ∀ j (hj : j < l.length), w.cell? ⟨N, j, none⟩ = some (.int .u8 l[j].toNat) ∧ w.frozen? ⟨N, j, none⟩ = false

theorem RowAt.alloc {w : World} {N : Nat} {l : List UInt8} (h : RowAt w N l) (hN : N < w.heap.size) (o : Obj) : RowAt (w.alloc o) N l := fun j hj =>
  ⟨(World.cell?_alloc_past o N j hN).trans (h j hj).1, (World.frozen?_alloc_past o N j hN).trans (h j hj).2⟩

theorem RowAt.set {w : World} {N : Nat} {l : List UInt8} (h : RowAt w N l) (k : Nat) (hk : k < l.length) (c : UInt8) : RowAt (w.setCell ⟨N, k, none⟩ (.int .u8 c.toNat)) N (l.set k c) := by
  intro j hj
  have hj' : j < l.length := by simpa using hj
  refine ⟨?_, by rw [World.frozen?_setCell]; exact (h j hj').2⟩
  by_cases e : k = j
  · subst e
    rw [World.cell?_setCell_same _ _ _ (h k hk).1]
    simp
  · have hne : (⟨N, k, none⟩ : Addr) ≠ ⟨N, j, none⟩ := fun e' => e (congrArg Addr.off e')
    rw [World.cell?_setCell_other _ _ _ _ hne, (h j hj').1]
    simp [e]

/-- 'string(b)' of such a row. -/
theorem conv_row {w : World} {N n cap : Nat} {l : List UInt8} (h : RowAt w N l) (hn : l.length = n) :
    (convert 124 9 (.slice (some ⟨N, 0, none⟩) n cap)).run Tryz.prog w = .ok (.string ⟨l.toArray⟩) w := by
  subst hn
  refine run_convert_bytes_back w 124 9 5 _ cap l Tryz.underlying124 Tryz.underlying5 Tryz.underlying9 ?_
  intro j hj
  have : (⟨N, 0, none⟩ : Addr).add j = ⟨N, j, none⟩ := by
    unfold Addr.add; split <;> simp_all
  rw [this]; exact (h j hj).1

/-- 'string(b)' of the end of such a row. -/
theorem conv_at {w : World} {N o n cap : Nat} {pre l : List UInt8} (h : RowAt w N (pre ++ l)) (ho : pre.length = o) (hn : l.length = n) :
    (convert 124 9 (.slice (some ⟨N, o, none⟩) n cap)).run Tryz.prog w = .ok (.string ⟨l.toArray⟩) w := by
  subst hn ho
  refine run_convert_bytes_back w 124 9 5 _ cap l Tryz.underlying124 Tryz.underlying5 Tryz.underlying9 ?_
  intro j hj
  have e : (⟨N, pre.length, none⟩ : Addr).add j = ⟨N, pre.length + j, none⟩ := by
    unfold Addr.add; split <;> simp_all
  rw [e, (h (pre.length + j) (by simp; omega)).1]
  simp

end Go.Proofs.YtfhcniifennfbaaGreatDoor
namespace Go.Proofs.YtfhcniifennfbaaGreatDoor
open Go.RowKit M

/-- string([]byte of one byte). -/
theorem conv_one (W : World) (x : Int) : (convert 124 9 (.slice (some ⟨W.heap.size, 0, none⟩) 1 1)).run Tryz.prog (W.alloc (.cells #[.int .u8 x] 5)) = .ok (.string ⟨#[UInt8.ofNat x.toNat]⟩) (W.alloc (.cells #[.int .u8 x] 5)) := by
  have h := run_convert_bytes_arg (P := Tryz.prog) (W.alloc (.cells #[.int .u8 x] 5)) 124 5 Tryz.underlying124 Tryz.underlying5 W.heap.size 0 1 1 [x] rfl (by
    intro i hi
    obtain rfl : i = 0 := by omega
    simp) 9 Tryz.underlying9
  exact h

theorem cat_one (c : UInt8) (t : List UInt8) : (⟨#[c]⟩ : ByteArray) ++ ⟨t.toArray⟩ = ⟨(c :: t).toArray⟩ := by
  apply ByteArray.ext
  simp

theorem low_form (m : Nat) : UInt8.ofNat (48 + m % 10) = decLow m := rfl
theorem low_form' (m : Nat) : 48 + UInt8.ofNat (m % 10) = decLow m := by
  unfold decLow
  rw [UInt8.ofNat_add]; rfl

set_option maxHeartbeats 1000000 in
theorem specNumText_pos (N : Nat) (w : World) (hN : N ≤ 9223372036854775807) :
    Calls Tryz.prog 119 #[.int .i64 N] w fun e w' => e = .returned (.string ⟨(Lib.decDigits N).toArray⟩) ∧ Below w.heap.size w w' := by
  have hcv := conv_one
  go_enter Tryz.func119, Tryz.ntmps119
  go_wp2
  go_loopw [0, 3] (fun n v wr => ∃ (m : Nat) (t : List UInt8), n = .int .i64 m ∧ v = .string ⟨t.toArray⟩ ∧ m ≤ 9223372036854775807 ∧ t.length + m ≤ N + 1 ∧ Lib.decDigits N = decAhead m ++ t ∧ Below w.heap.size w wr) (fun n _ _ => (intOf n).toNat)
  case atStart => exact ⟨N, [decLow N], rfl, by rw [low_form], hN, by simp; omega, decDigits_ahead N, (Below.refl _ _).alloc (Nat.le_refl _) _⟩
  case round =>
    obtain ⟨m, t, rfl, rfl, hm, ht, hd, hbe⟩ := hrel
    have HD : Hid (Lib.decDigits N = decAhead m ++ t) := hd; clear hd
    by_cases h9 : 9 < m
    · have h9' : (9 : Int) < (m : Int) := by omega
      go_wp2
      go_roundw
      case rel =>
        refine ⟨m / 10, decLow (m / 10) :: t, by go_num, by rw [low_form', cat_one], by omega, by simp; omega, ?_, hbe.alloc hbe.size _⟩
        rw [HD.out, decAhead_step m h9, List.append_assoc]; rfl
      case measure => simp [intOf]; omega
    · go_wp2
      go_ret
      exact ⟨ret_str (by rw [HD.out, decAhead_end m h9]; rfl), hbe⟩

set_option maxHeartbeats 400000 in
theorem specNumText_neg (n : Int) (w : World) (hn : n < 0) :
    Calls Tryz.prog 119 #[.int .i64 n] w fun e w' => e = .returned (.string ⟨(Lib.decDigits 0).toArray⟩) ∧ Below w.heap.size w w' := by
  have hcv := conv_one
  go_enter Tryz.func119, Tryz.ntmps119
  go_wp2
  go_loopw [0, 3] (fun n v wr => n = .int .i64 0 ∧ v = .string ⟨#[48]⟩ ∧ Below w.heap.size w wr) (fun n _ _ => (intOf n).toNat)
  case atStart => exact ⟨rfl, rfl, (Below.refl _ _).alloc (Nat.le_refl _) _⟩
  case round =>
    obtain ⟨rfl, rfl, hbe⟩ := hrel
    go_wp2
    go_ret
    exact ⟨ret_str (l := [48]) (by rw [decDigits_ahead]; rfl), hbe⟩

theorem specNumText_any (n : Int) (w : World) (hn : n ≤ 9223372036854775807) :
    Calls Tryz.prog 119 #[.int .i64 n] w fun e w' => e = .returned (.string ⟨(Lib.decDigits n.toNat).toArray⟩) ∧ Below w.heap.size w w' := by
  by_cases h : n < 0
  · have e : n.toNat = 0 := by omega
    rw [e]; exact specNumText_neg n w h
  · obtain ⟨m, rfl⟩ := Int.eq_ofNat_of_zero_le (by omega : 0 ≤ n)
    rw [Int.toNat_natCast]
    exact specNumText_pos m w (by omega)
end Go.Proofs.YtfhcniifennfbaaGreatDoor
namespace Go.Proofs.YtfhcniifennfbaaGreatDoor.M

/-- The worth of a digit to the base 16. -/
def hexW (c : UInt8) : Nat := if isB (c.toNat : Int) 4 then c.toNat - 48 else if isB (c.toNat : Int) 5 then c.toNat - 87 else c.toNat - 55
def isHex (c : UInt8) : Bool := anyB (c.toNat : Int) [4, 5, 6]
def hexVal (l : List UInt8) : Nat := l.foldl (fun n c => n * 16 + hexW c) 0
def hexs (l : List UInt8) : Bool := allB l [4, 5, 6]

theorem hexVal_snoc (l : List UInt8) (c : UInt8) : hexVal (l ++ [c]) = hexVal l * 16 + hexW c := by
  simp [hexVal]

theorem isHex_cases {c : UInt8} (h : isHex c = true) : isB (c.toNat : Int) 4 = true ∨ (isB (c.toNat : Int) 4 = false ∧ isB (c.toNat : Int) 5 = true) ∨ (isB (c.toNat : Int) 4 = false ∧ isB (c.toNat : Int) 5 = false ∧ isB (c.toNat : Int) 6 = true) := by
  unfold isHex anyB at h
  cases h4 : isB (c.toNat : Int) 4 <;> cases h5 : isB (c.toNat : Int) 5 <;> cases h6 : isB (c.toNat : Int) 6 <;> simp_all

theorem isB5 {c : Int} (h : isB c 5 = true) : 97 ≤ c ∧ c ≤ 102 := by simp [isB] at h; omega
theorem isB6 {c : Int} (h : isB c 6 = true) : 65 ≤ c ∧ c ≤ 70 := by simp [isB] at h; omega

theorem hexW_4 {c : UInt8} (h : isB (c.toNat : Int) 4 = true) : hexW c = c.toNat - 48 := by simp [hexW, h]
theorem hexW_5 {c : UInt8} (h4 : isB (c.toNat : Int) 4 = false) (h : isB (c.toNat : Int) 5 = true) : hexW c = c.toNat - 87 := by simp [hexW, h4, h]
theorem hexW_6 {c : UInt8} (h4 : isB (c.toNat : Int) 4 = false) (h5 : isB (c.toNat : Int) 5 = false) : hexW c = c.toNat - 55 := by simp [hexW, h4, h5]

theorem hexW_lt {c : UInt8} (h : isHex c = true) : hexW c < 16 := by
  rcases isHex_cases h with h4 | ⟨h4, h5⟩ | ⟨h4, h5, h6⟩
  · have := isB4 h4; rw [hexW_4 h4]; omega
  · have := isB5 h5; rw [hexW_5 h4 h5]; omega
  · have := isB6 h6; rw [hexW_6 h4 h5]; omega

theorem hexs_get (s : ByteArray) (h : hexs s.data.toList = true) (k : Nat) (hk : k < s.size) : isHex s[k] = true := by
  have h1 := (List.all_eq_true.1 h) s[k] (by
    have e := len_list s
    have h' : k < s.data.toList.length := by omega
    exact List.getElem_mem h')
  exact h1

theorem hexs_snoc (s : ByteArray) (k : Nat) (h : k < s.size) (h0 : hexs (s.data.toList.take k) = true) (h2 : isHex s[k] = true) : hexs (s.data.toList.take (k + 1)) = true :=
  allB_snoc s [4, 5, 6] k h h0 (by rw [show anyB (s[k].toNat : Int) [4, 5, 6] = true from h2]; rfl)
theorem hexs_not (s : ByteArray) (k : Nat) (h : k < s.size) (h2 : isHex s[k] = false) : hexs s.data.toList = false :=
  allB_not s [4, 5, 6] k h (by rw [show anyB (s[k].toNat : Int) [4, 5, 6] = false from h2]; rfl)
theorem hexVal_step (s : ByteArray) (k : Nat) (h : k < s.size) : hexVal (s.data.toList.take (k + 1)) = hexVal (s.data.toList.take k) * 16 + hexW s[k] := by
  rw [take_snoc s k h, hexVal_snoc]

theorem hexVal_lt (s : ByteArray) (k : Nat) (hk : k ≤ s.size) (h : hexs (s.data.toList.take k) = true) : hexVal (s.data.toList.take k) < 16 ^ k := by
  induction k with
  | zero => simp [hexVal]
  | succ k ih =>
    have hk' : k < s.size := by omega
    have h1 : hexs (s.data.toList.take k) = true ∧ isHex s[k] = true := by
      rw [take_snoc s k hk'] at h
      simpa [hexs, allB, isHex] using h
    have := ih (by omega) h1.1
    have := hexW_lt h1.2
    rw [hexVal_step s k hk', Nat.pow_succ]
    omega

theorem pow16_le {k : Nat} (h : k ≤ 5) : 16 ^ k ≤ 1048576 := Nat.pow_le_pow_right (show 0 < 16 by decide) h

/-- What ParseHex answers. -/
def hexB (l : List UInt8) : Bool := decide (1 ≤ l.length) && (decide (l.length ≤ 4) && hexs l)
def parseHex (l : List UInt8) : Int × Bool := if hexB l then ((hexVal l : Int), true) else (0, false)
theorem parseHex_yes {s : ByteArray} (h : inB (s.size : Int) 1 4 = true) (hd : hexs s.data.toList = true) : parseHex s.data.toList = ((hexVal s.data.toList : Int), true) := by
  have e := len_list s
  have h1 : 1 ≤ s.size ∧ s.size ≤ 4 := by simp [inB] at h; omega
  apply if_pos
  simp only [hexB, hd, Bool.and_true, Bool.and_eq_true, decide_eq_true_eq]
  omega
theorem parseHex_size {s : ByteArray} (h : inB (s.size : Int) 1 4 = false) : parseHex s.data.toList = (0, false) := by
  have e := len_list s
  have h1 : ¬ (1 ≤ s.size ∧ s.size ≤ 4) := by simp [inB] at h; omega
  apply if_neg
  intro hp
  simp only [hexB, Bool.and_eq_true, decide_eq_true_eq] at hp
  omega
theorem parseHex_no {l : List UInt8} (h : hexs l = false) : parseHex l = (0, false) := by
  apply if_neg
  simp [hexB, h]

/-- The specification's digit: below 0 where it is none. -/
def hexOf (c : UInt8) : Int := if isHex c then (hexW c : Int) else -1
theorem hexOf_yes {c : UInt8} (h : isHex c = true) : hexOf c = (hexW c : Int) := if_pos h
theorem hexOf_no {c : UInt8} (h : isHex c = false) : hexOf c = -1 := if_neg (by simp [h])

end Go.Proofs.YtfhcniifennfbaaGreatDoor.M
