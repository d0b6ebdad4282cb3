/-
  What the program's SamePath does.
  What impl.FindRes does.
  What impl.isThere does.
  Whether a text is one of a list, and two texts held against each other: no program in sight.
  What is asked: its methods, its depth, what may turn: no program in sight.
  Slices of numbers: what they hold, and that it stays.
  A view of numbers.
  A lock in a box.
  Out of many choices a list.
  copy and append of elements of several cells.
  Rows of locks whose paths lie elsewhere.
  The first place where it holds: no program in sight.
-/
import Derived.Test.YtckhjemojopekaaSliceEq
import Derived.Test.YtckhjemojopekaaGenMath
import Derived.Lib.Bytealg
import Derived.WalkKit
import Derived.Test.YtckhjemojopekaaRows
import Derived.Deep.OwnRows
import Derived.Test.YtckhjemojopekaaMathSmall
import Derived.Below
import Derived.Test.YtckhjemojopekaaRowT
import Derived.Laws.CopyRow
import Derived.Laws.CopyOwn
import Derived.Lib.AppendZerosOnto
import Derived.Lib.Overlaps
import Derived.Laws.Externs
import Derived.Shelf.Spec.SlicesInsert
import Derived.Deep.RegionLaw
import Derived.Maps.AppendAt
import Derived.Laws.OwnMore
namespace Go.Proofs.Ytckhjemojopekaa
open Go.RowKit
set_option linter.unusedVariables false

set_option maxHeartbeats 400000 in
theorem samePath_any (a b : Option Addr) (ss tt : List ByteArray) (cap cap' B C : Nat) (w : World) (h : Strs w B a ss) (h' : Strs w C b tt) (hl : ss.length ≤ maxLen) (hl' : tt.length ≤ maxLen) :
    Calls Try.prog 91 #[.slice a ss.length cap, .slice b tt.length cap'] w fun e w' => e = .returned (.bool (sameL ss tt)) ∧ ∀ D, Below D w w' := by
  go_enter Try.func91, Try.ntmps91
  go_wp2_with fail
  refine (slicesEqual_any a b ss tt cap cap' B C w h h' hl hl').mono ?_
  rintro e w1 ⟨rfl, hb⟩
  go_wp2
  go_ret
  exact ⟨rfl, hb⟩
end Go.Proofs.Ytckhjemojopekaa
namespace Go.Proofs.Ytckhjemojopekaa
open Go.RowKit M
set_option linter.unusedVariables false

theorem ret_int10 {a b : Int} (h : a = b) : Ending.returned (.int .i64 a) = .returned (.int .i64 b) := by rw [h]

set_option maxHeartbeats 1000000 in
theorem findRes1_any (r : Rs) (pa : Option Addr) (pc : Nat) (qa : Option Addr) (qc B : Nat) (a' : Option Addr) (p : List ByteArray) (cap' C c : Nat) (w : World) (h : RsIn w B r pa pc qa qc) (h' : Strs w C a' p) (hl' : p.length ≤ maxLen) (hc : w.cell? ⟨c, 0, none⟩ = some (.slice a' p.length cap')) (hB : B ≤ w.heap.size) (hC : C ≤ w.heap.size) (hcl : c < w.heap.size) :
    Calls Try.prog 90 #[.agg #[.slice pa r.pa.length pc, .bool r.co, .string r.bo, .int .i64 r.ve, .slice qa r.ps.length qc], .pointer (some ⟨c, 0, none⟩)] w fun e w' => e = .returned (.bool (sameL r.pa p)) ∧ Below w.heap.size w w' := by
  have l1 : r.pa.length ≤ maxLen := Nat.le_trans h.pl h.pm
  have p1 := h.ph
  clear h
  obtain ⟨ss, co, bo, ve, ps⟩ := r
  simp only at *
  have hb0 : Below w.heap.size w (w.alloc (Obj.cells #[.slice pa ss.length pc, .bool co, .string bo, .int .i64 ve, .slice qa ps.length qc] 100)) := (Below.refl _ _).alloc (Nat.le_refl _) _
  have HE := hide (samePath_any pa a' ss p pc cap' B C _ (p1.below hb0 hB) (h'.below hb0 hC) l1 hl')
  have HB0 := hide hb0
  have hc0 := (hb0.cell (p := ⟨c, 0, none⟩) hcl).trans hc
  clear p1 h' hb0 hc
  go_enter Try.func90, Try.ntmps90
  go_wp2_with fail
  refine HE.out.mono ?_
  rintro e w1 ⟨rfl, hb1⟩
  have HC1 := hide (HB0.out.trans (hb1 _))
  clear hb1
  go_wp2
  go_ret
  exact ⟨rfl, HC1.out⟩

set_option maxHeartbeats 1000000 in
theorem indexFunc_any (a : Option Addr) (rs : List Rs) (cap B : Nat) (a' : Option Addr) (p : List ByteArray) (cap' C c : Nat) (w : World) (h : Rss w B a rs) (h' : Strs w C a' p) (hl : rs.length ≤ maxLen) (hl' : p.length ≤ maxLen) (hc : w.cell? ⟨c, 0, none⟩ = some (.slice a' p.length cap')) (hB : B ≤ w.heap.size) (hC : C ≤ w.heap.size) (hcl : c < w.heap.size) :
    Calls Try.prog 89 #[.slice a rs.length cap, .func (.func 90) #[] #[.pointer (some ⟨c, 0, none⟩)]] w fun e w' => e = .returned (.int .i64 (findI rs p)) ∧ Below w.heap.size w w' := by
  unfold maxLen at hl
  go_enter Try.func89, Try.ntmps89
  go_wp2
  go_loopw [8] (fun i wr => ∃ k : Nat, k ≤ rs.length ∧ i = .int .i64 k ∧ (∀ j (hj : j < rs.length), j < k → sameL rs[j].pa p = false) ∧ Below w.heap.size w wr) (fun i _ => rs.length - (intOf i).toNat)
  case atStart => exact ⟨0, Nat.zero_le _, rfl, fun j _ hj => absurd hj (Nat.not_lt_zero _), Below.refl _ _⟩
  case round =>
    obtain ⟨k, hk, rfl, ht, hbe⟩ := hrel
    have HT := hide ht
    clear ht
    by_cases hlt : k < rs.length
    · obtain ⟨b, o, rfl, hb, hcc⟩ := (h.below hbe hB) (by omega)
      obtain ⟨pa, pc, qa, qc, ⟨hc0, hc1, hc2, hc3, hc4⟩, hin⟩ := hcc k hlt
      clear hcc
      have HC := hide (findRes1_any rs[k] pa pc qa qc B a' p cap' C c wr hin (h'.below hbe hC) hl' ((hbe.cell (p := ⟨c, 0, none⟩) hcl).trans hc) (Nat.le_trans hB hbe.size) (Nat.le_trans hC hbe.size) (Nat.lt_of_lt_of_le hcl hbe.size))
      obtain ⟨z, hz⟩ : ∃ z, sameL rs[k].pa p = z := ⟨_, rfl⟩
      rw [hz] at HC
      have HZ := hide hz
      clear hz hin
      go_wp2_with fail
      refine HC.out.mono ?_
      rintro e w1 ⟨rfl, hb1⟩
      have c1 := hbe.trans (hb1.mono hbe.size)
      clear HC
      cases z
      · go_wp2
        go_roundw
        case rel => exact ⟨k + 1, by omega, by go_num, fun j hj hjk => by
                      by_cases e : j = k
                      · subst e; exact HZ.out
                      · exact HT.out j hj (by omega), c1⟩
        case measure => simp [intOf]; omega
      · go_wp2
        go_ret
        exact ⟨ret_int10 (findI_at k hlt HT.out HZ.out).symm, c1⟩
    · have HE := hide (findI_none (rs := rs) (p := p) (fun j hj => HT.out j hj (by omega)))
      go_wp2
      go_ret
      exact ⟨ret_int10 HE.out.symm, hbe⟩

set_option maxHeartbeats 1000000 in
theorem findRes_any (a : Option Addr) (rs : List Rs) (cap B : Nat) (a' : Option Addr) (p : List ByteArray) (cap' C : Nat) (w : World) (h : Rss w B a rs) (h' : Strs w C a' p) (hl : rs.length ≤ maxLen) (hl' : p.length ≤ maxLen) (hB : B ≤ w.heap.size) (hC : C ≤ w.heap.size) :
    Calls Try.prog 79 #[.slice a rs.length cap, .slice a' p.length cap'] w fun e w' => e = .returned (.int .i64 (findI rs p)) ∧ Below w.heap.size w w' := by
  have hb0 : Below w.heap.size w (w.alloc (Obj.cells #[.slice a' p.length cap'] 38)) := (Below.refl _ _).alloc (Nat.le_refl _) _
  have HE := hide (indexFunc_any a rs cap B a' p cap' C w.heap.size _ (h.below hb0 hB) (h'.below hb0 hC) hl hl' (by simp) (Nat.le_trans hB hb0.size) (Nat.le_trans hC hb0.size) (by simp))
  have HB0 := hide hb0
  clear h h' hb0
  go_enter Try.func79, Try.ntmps79
  go_wp2_with fail
  refine HE.out.mono ?_
  rintro e w1 ⟨rfl, hb1⟩
  have c1 := HB0.out.trans (hb1.mono HB0.out.size)
  go_wp2
  go_ret
  exact ⟨rfl, c1⟩
end Go.Proofs.Ytckhjemojopekaa
namespace Go.Proofs.Ytckhjemojopekaa
open Go.RowKit M
set_option linter.unusedVariables false

/-- Whether it is the root, or there. -/
def thereB (rs : List Rs) (p : List ByteArray) : Bool := decide (p.length = 0) || decide (0 ≤ findI rs p)
theorem there_iff {rs : List Rs} {p : List ByteArray} : thereB rs p = true ↔ p.length = 0 ∨ 0 ≤ findI rs p := by unfold thereB; simp

set_option maxHeartbeats 1000000 in
theorem isThere_any (a : Option Addr) (rs : List Rs) (cap B : Nat) (a' : Option Addr) (p : List ByteArray) (cap' C : Nat) (w : World) (h : Rss w B a rs) (h' : Strs w C a' p) (hl : rs.length ≤ maxLen) (hl' : p.length ≤ maxLen) (hB : B ≤ w.heap.size) (hC : C ≤ w.heap.size) :
    Calls Try.prog 59 #[.slice a rs.length cap, .slice a' p.length cap'] w fun e w' => e = .returned (.bool (thereB rs p)) ∧ Below w.heap.size w w' := by
  have HF := hide (findRes_any a rs cap B a' p cap' C w h h' hl hl' hB hC)
  by_cases h0 : p.length = 0
  · have HZ := hide (show thereB rs p = true from there_iff.2 (.inl h0))
    clear HF
    go_enter Try.func59, Try.ntmps59
    go_wp2
    go_ret
    exact ⟨by rw [HZ.out]; rfl, Below.refl _ _⟩
  · have HZ := hide (show thereB rs p = decide (0 ≤ findI rs p) by unfold thereB; simp [h0])
    have e0 : ((p.length : Int) == 0) = false := by rw [beq_eq_false_iff_ne]; omega
    generalize thereB rs p = z at *
    generalize findI rs p = F at *
    go_enter Try.func59, Try.ntmps59
    go_wp2_with fail
    refine HF.out.mono ?_
    rintro e w1 ⟨rfl, b1⟩
    go_wp2
    go_ret
    exact ⟨by rw [HZ.out]; rfl, b1⟩
end Go.Proofs.Ytckhjemojopekaa
namespace Go.Proofs.Ytckhjemojopekaa
open Go.RowKit M
set_option linter.unusedVariables false

/-- Whether a mark is among these. -/
def hasB (ns : List ByteArray) (t : ByteArray) : Bool := ns.any fun x => decide (x = t)
theorem hasB_iff (ns : List ByteArray) (t : ByteArray) : hasB ns t = true ↔ t ∈ ns := by
  unfold hasB
  rw [List.any_eq_true]
  constructor
  · rintro ⟨x, hx, he⟩
    rw [← of_decide_eq_true he]; exact hx
  · intro h
    exact ⟨t, h, decide_eq_true rfl⟩
theorem hasB_no {ns : List ByteArray} {t : ByteArray} (h : t ∉ ns) : hasB ns t = false := by
  cases hb : hasB ns t
  · rfl
  · exact absurd ((hasB_iff ns t).1 hb) h
theorem has_at {ns : List ByteArray} {t : ByteArray} (k : Nat) (hk : k < ns.length) (h : ns[k] = t) : hasB ns t = true := (hasB_iff ns t).2 (by rw [← h]; exact List.getElem_mem hk)
theorem str_eq (a b : ByteArray) : (a.toList == b.toList) = decide (a = b) := by
  by_cases h : a = b
  · subst h; simp
  · rw [decide_eq_false h]
    cases hb : (a.toList == b.toList)
    · rfl
    · exfalso
      have := beq_iff_eq.1 hb
      rw [ByteArray.toList_eq, ByteArray.toList_eq] at this
      exact h (by apply ByteArray.ext; exact Array.ext' this)
end Go.Proofs.Ytckhjemojopekaa
namespace Go.Proofs.Ytckhjemojopekaa
open Go.RowKit M
set_option linter.unusedVariables false

def mGET : ByteArray := ⟨#[71, 69, 84]⟩
def mHEAD : ByteArray := ⟨#[72, 69, 65, 68]⟩
def mOPTIONS : ByteArray := ⟨#[79, 80, 84, 73, 79, 78, 83]⟩
def mPROPFIND : ByteArray := ⟨#[80, 82, 79, 80, 70, 73, 78, 68]⟩
def mPUT : ByteArray := ⟨#[80, 85, 84]⟩
def mMKCOL : ByteArray := ⟨#[77, 75, 67, 79, 76]⟩
def mDELETE : ByteArray := ⟨#[68, 69, 76, 69, 84, 69]⟩
def mCOPY : ByteArray := ⟨#[67, 79, 80, 89]⟩
def mMOVE : ByteArray := ⟨#[77, 79, 86, 69]⟩
def mPROPPATCH : ByteArray := ⟨#[80, 82, 79, 80, 80, 65, 84, 67, 72]⟩
def depN : ByteArray := ⟨#[100, 101, 112, 116, 104]⟩
def destN : ByteArray := ⟨#[100, 101, 115, 116, 105, 110, 97, 116, 105, 111, 110]⟩
def overN : ByteArray := ⟨#[111, 118, 101, 114, 119, 114, 105, 116, 101]⟩
def ifN : ByteArray := ⟨#[105, 102]⟩
def matchN : ByteArray := ⟨#[105, 102, 45, 109, 97, 116, 99, 104]⟩
def noneN : ByteArray := ⟨#[105, 102, 45, 110, 111, 110, 101, 45, 109, 97, 116, 99, 104]⟩
theorem eq_GET (s : ByteArray) : (s.toList == [71, 69, 84]) = decide (s = mGET) := by
  have h := str_eq s mGET
  rwa [show (mGET : ByteArray).toList = [71, 69, 84] by kernel_rfl] at h
theorem ne_GET (s : ByteArray) : (s.toList != [71, 69, 84]) = !decide (s = mGET) := by rw [bne, eq_GET]
theorem eq_HEAD (s : ByteArray) : (s.toList == [72, 69, 65, 68]) = decide (s = mHEAD) := by
  have h := str_eq s mHEAD
  rwa [show (mHEAD : ByteArray).toList = [72, 69, 65, 68] by kernel_rfl] at h
theorem ne_HEAD (s : ByteArray) : (s.toList != [72, 69, 65, 68]) = !decide (s = mHEAD) := by rw [bne, eq_HEAD]
theorem eq_OPTIONS (s : ByteArray) : (s.toList == [79, 80, 84, 73, 79, 78, 83]) = decide (s = mOPTIONS) := by
  have h := str_eq s mOPTIONS
  rwa [show (mOPTIONS : ByteArray).toList = [79, 80, 84, 73, 79, 78, 83] by kernel_rfl] at h
theorem ne_OPTIONS (s : ByteArray) : (s.toList != [79, 80, 84, 73, 79, 78, 83]) = !decide (s = mOPTIONS) := by rw [bne, eq_OPTIONS]
theorem eq_PROPFIND (s : ByteArray) : (s.toList == [80, 82, 79, 80, 70, 73, 78, 68]) = decide (s = mPROPFIND) := by
  have h := str_eq s mPROPFIND
  rwa [show (mPROPFIND : ByteArray).toList = [80, 82, 79, 80, 70, 73, 78, 68] by kernel_rfl] at h
theorem ne_PROPFIND (s : ByteArray) : (s.toList != [80, 82, 79, 80, 70, 73, 78, 68]) = !decide (s = mPROPFIND) := by rw [bne, eq_PROPFIND]
theorem eq_PUT (s : ByteArray) : (s.toList == [80, 85, 84]) = decide (s = mPUT) := by
  have h := str_eq s mPUT
  rwa [show (mPUT : ByteArray).toList = [80, 85, 84] by kernel_rfl] at h
theorem ne_PUT (s : ByteArray) : (s.toList != [80, 85, 84]) = !decide (s = mPUT) := by rw [bne, eq_PUT]
theorem eq_MKCOL (s : ByteArray) : (s.toList == [77, 75, 67, 79, 76]) = decide (s = mMKCOL) := by
  have h := str_eq s mMKCOL
  rwa [show (mMKCOL : ByteArray).toList = [77, 75, 67, 79, 76] by kernel_rfl] at h
theorem ne_MKCOL (s : ByteArray) : (s.toList != [77, 75, 67, 79, 76]) = !decide (s = mMKCOL) := by rw [bne, eq_MKCOL]
theorem eq_DELETE (s : ByteArray) : (s.toList == [68, 69, 76, 69, 84, 69]) = decide (s = mDELETE) := by
  have h := str_eq s mDELETE
  rwa [show (mDELETE : ByteArray).toList = [68, 69, 76, 69, 84, 69] by kernel_rfl] at h
theorem ne_DELETE (s : ByteArray) : (s.toList != [68, 69, 76, 69, 84, 69]) = !decide (s = mDELETE) := by rw [bne, eq_DELETE]
theorem eq_COPY (s : ByteArray) : (s.toList == [67, 79, 80, 89]) = decide (s = mCOPY) := by
  have h := str_eq s mCOPY
  rwa [show (mCOPY : ByteArray).toList = [67, 79, 80, 89] by kernel_rfl] at h
theorem ne_COPY (s : ByteArray) : (s.toList != [67, 79, 80, 89]) = !decide (s = mCOPY) := by rw [bne, eq_COPY]
theorem eq_MOVE (s : ByteArray) : (s.toList == [77, 79, 86, 69]) = decide (s = mMOVE) := by
  have h := str_eq s mMOVE
  rwa [show (mMOVE : ByteArray).toList = [77, 79, 86, 69] by kernel_rfl] at h
theorem ne_MOVE (s : ByteArray) : (s.toList != [77, 79, 86, 69]) = !decide (s = mMOVE) := by rw [bne, eq_MOVE]
theorem eq_PROPPATCH (s : ByteArray) : (s.toList == [80, 82, 79, 80, 80, 65, 84, 67, 72]) = decide (s = mPROPPATCH) := by
  have h := str_eq s mPROPPATCH
  rwa [show (mPROPPATCH : ByteArray).toList = [80, 82, 79, 80, 80, 65, 84, 67, 72] by kernel_rfl] at h
theorem ne_PROPPATCH (s : ByteArray) : (s.toList != [80, 82, 79, 80, 80, 65, 84, 67, 72]) = !decide (s = mPROPPATCH) := by rw [bne, eq_PROPPATCH]
def t0 : ByteArray := ⟨#[48]⟩
theorem eq_t0 (s : ByteArray) : (s.toList == [48]) = decide (s = t0) := by
  have h := str_eq s t0
  rwa [show (t0 : ByteArray).toList = [48] by kernel_rfl] at h
def t1 : ByteArray := ⟨#[49]⟩
theorem eq_t1 (s : ByteArray) : (s.toList == [49]) = decide (s = t1) := by
  have h := str_eq s t1
  rwa [show (t1 : ByteArray).toList = [49] by kernel_rfl] at h
def tInf : ByteArray := ⟨#[105, 110, 102, 105, 110, 105, 116, 121]⟩
theorem eq_tInf (s : ByteArray) : (s.toList == [105, 110, 102, 105, 110, 105, 116, 121]) = decide (s = tInf) := by
  have h := str_eq s tInf
  rwa [show (tInf : ByteArray).toList = [105, 110, 102, 105, 110, 105, 116, 121] by kernel_rfl] at h
def tF : ByteArray := ⟨#[70]⟩
theorem eq_tF (s : ByteArray) : (s.toList == [70]) = decide (s = tF) := by
  have h := str_eq s tF
  rwa [show (tF : ByteArray).toList = [70] by kernel_rfl] at h

/-- A text in small letters. -/
def lowA (s : ByteArray) : ByteArray := ⟨(lowL s.data.toList).toArray⟩
theorem lowA_data (s : ByteArray) : (lowA s).data.toList = lowL s.data.toList := by simp [lowA]
theorem low_digit (c d : UInt8) (h : d = 48 ∨ d = 49) : lowB c = d ↔ c = d := by
  unfold lowB
  constructor
  · intro e
    split at e
    · rename_i hc
      have h' : 65 ≤ c.toNat ∧ c.toNat ≤ 90 := by simp [isB] at hc; omega
      have e2 := congrArg UInt8.toNat e
      rw [UInt8.toNat_add] at e2
      have : (32 : UInt8).toNat = 32 := rfl
      rcases h with rfl | rfl
      · have : (48 : UInt8).toNat = 48 := rfl
        omega
      · have : (49 : UInt8).toNat = 49 := rfl
        omega
    · exact e
  · rintro rfl
    rcases h with rfl | rfl <;> decide
theorem low_one (s : ByteArray) (d : UInt8) (h : d = 48 ∨ d = 49) : lowL s.data.toList = [d] ↔ s.data.toList = [d] := by
  match hs : s.data.toList with
  | [] => simp [lowL]
  | [c] => simp [lowL, low_digit c d h]
  | a :: b :: r => simp [lowL]
theorem byt_iff (a : ByteArray) (l : List UInt8) : a = ⟨l.toArray⟩ ↔ a.data.toList = l := by
  constructor
  · rintro rfl; simp
  · intro h
    apply ByteArray.ext
    apply Array.ext'
    simp [h]
theorem low_t0 (s : ByteArray) : lowA s = t0 ↔ s = t0 := by
  rw [show (t0 : ByteArray) = ⟨([48] : List UInt8).toArray⟩ from rfl, byt_iff, byt_iff, lowA_data]
  exact low_one s 48 (.inl rfl)
theorem low_t1 (s : ByteArray) : lowA s = t1 ↔ s = t1 := by
  rw [show (t1 : ByteArray) = ⟨([49] : List UInt8).toArray⟩ from rfl, byt_iff, byt_iff, lowA_data]
  exact low_one s 49 (.inr rfl)

/-- The depth that a text tells. -/
def depV (s : ByteArray) : Int := if s = t0 then 0 else if s = t1 then 1 else if lowA s = tInf then 2 else -1
/-- The depth of a request, where the most is meant if nothing is told. -/
def depI (hs : List Hd) (most : Int) : Int := if (hdOf hs depN).2 = true then depV (hdOf hs depN).1 else most

/-- A path, and what it is on. -/
def bothB (l : List Lk) (p : List ByteArray) (deep : Bool) (tk : List Int) : Bool := mayB l p deep tk && mayB l (aboveL p) false tk
/-- Whether what is asked may turn what it turns. -/
def chgB (x : Sv) (m : ByteArray) (pa to : List ByteArray) (tk : List Int) : Bool :=
  if m = mPUT then (if thereB x.t pa = true then mayB x.l pa false tk else bothB x.l pa false tk)
  else if m = mMKCOL then bothB x.l pa false tk
  else if m = mPROPPATCH then mayB x.l pa false tk
  else if m = mDELETE then bothB x.l pa true tk
  else if m = mMOVE then bothB x.l pa true tk && bothB x.l to true tk
  else if m = mCOPY then bothB x.l to true tk
  else true
/-- What is turned: paths, and whether all under them is. -/
abbrev Rc := List ByteArray × Bool
def wholeP (p : List ByteArray) : List Rc := [(p, true), (aboveL p, false)]
def reachP (x : Sv) (m : ByteArray) (pa to : List ByteArray) : List Rc :=
  if m = mPUT then (if thereB x.t pa = true then [(pa, false)] else [(pa, false), (aboveL pa, false)])
  else if m = mMKCOL then [(pa, false), (aboveL pa, false)]
  else if m = mPROPPATCH then [(pa, false)]
  else if m = mDELETE then wholeP pa
  else if m = mMOVE then wholeP pa ++ wholeP to
  else if m = mCOPY then wholeP to
  else []
theorem reach_all (x : Sv) (m : ByteArray) (pa to : List ByteArray) (tk : List Int) : ((reachP x m pa to).all fun r => mayB x.l r.1 r.2 tk) = chgB x m pa to tk := by
  unfold reachP chgB wholeP bothB
  split
  · split <;> simp
  · split
    · simp
    · split
      · simp
      · split
        · simp
        · split
          · simp [Bool.and_assoc]
          · split <;> simp
end Go.Proofs.Ytckhjemojopekaa
namespace Go.Proofs.Ytckhjemojopekaa
open Go.RowKit

/-- The numbers that a slice holds, in a block below B. -/
def Ints (w : World) (B : Nat) (a : Option Addr) (l : List Int) : Prop :=
  0 < l.length → ∃ b o, a = some ⟨b, o, none⟩ ∧ b < B ∧ ∀ j (hj : j < l.length), w.cell? ⟨b, o + j, none⟩ = some (.int .i64 l[j])

theorem Ints.below {w w' : World} {B C : Nat} {a : Option Addr} {l : List Int} (h : Ints w B a l) (hb : Below C w w') (hB : B ≤ C) : Ints w' B a l := fun h0 => by
  obtain ⟨b, o, e, hbB, hc⟩ := h h0
  exact ⟨b, o, e, hbB, fun j hj => (hb.cell (p := ⟨b, o + j, none⟩) (Nat.lt_of_lt_of_le hbB hB)).trans (hc j hj)⟩
theorem Ints.mono {w : World} {B C : Nat} {a : Option Addr} {l : List Int} (h : Ints w B a l) (hB : B ≤ C) : Ints w C a l := fun h0 => by
  obtain ⟨b, o, e, hbB, hc⟩ := h h0
  exact ⟨b, o, e, Nat.lt_of_lt_of_le hbB hB, hc⟩
end Go.Proofs.Ytckhjemojopekaa
namespace Go.Proofs.Ytckhjemojopekaa
open Go.RowKit M
set_option linter.unusedVariables false

theorem ints_of_view {w : World} {B : Nat} {v : Value} {l : List Int} (h : View w B v (.l (l.map dI))) : ∃ a cap, v = .slice a l.length cap ∧ l.length ≤ cap ∧ cap ≤ maxLen ∧ (a = none → cap = 0) ∧ Ints w B a l := by
  obtain ⟨a, cap, h1, h2, h3, h4, h5⟩ := h.rows 1 (fun _ => rfl)
  refine ⟨a, cap, h1, h2, h3, h4, fun h0 => ?_⟩
  obtain ⟨b, o, C, e, hb, hc⟩ := h5 h0
  refine ⟨b, o, e, hb, fun j hj => ?_⟩
  obtain ⟨c, v⟩ := hc j hj 0 (.c (.int .i64 l[j])) rfl
  rw [v.inv] at c
  simpa using c
end Go.Proofs.Ytckhjemojopekaa
namespace Go.Proofs.Ytckhjemojopekaa
open Go.RowKit M
set_option linter.unusedVariables false

def BoxL (w : World) (N : Nat) (r : Lk) (pa : Option Addr) (pc : Nat) : Prop :=
  N < w.heap.size ∧ w.cell? ⟨N, 0, none⟩ = some (.int .i64 r.tk) ∧ w.cell? ⟨N, 1, none⟩ = some (.slice pa r.pa.length pc) ∧ w.cell? ⟨N, 2, none⟩ = some (.bool r.de) ∧ w.cell? ⟨N, 3, none⟩ = some (.bool r.sh) ∧ w.cell? ⟨N, 4, none⟩ = some (.int .i64 r.un)
theorem BoxL.made (w : World) (r : Lk) (pa : Option Addr) (pc : Nat) (t : TypeId) : BoxL (w.alloc (Obj.cells #[.int .i64 r.tk, .slice pa r.pa.length pc, .bool r.de, .bool r.sh, .int .i64 r.un] t)) w.heap.size r pa pc := by
  refine ⟨by simp, ?_, ?_, ?_, ?_, ?_⟩ <;> simp [go_sem]
theorem BoxL.next {w w' : World} {N : Nat} {r : Lk} {pa : Option Addr} {pc : Nat} (h : BoxL w N r pa pc) (hb : Below w.heap.size w w') : BoxL w' N r pa pc := by
  obtain ⟨h0, h1⟩ := h
  refine ⟨Nat.lt_of_lt_of_le h0 hb.size, ?_⟩
  simp only [(bcellL hb).1 N _ h0]
  exact h1
theorem BoxL.alloc {w : World} {N : Nat} {r : Lk} {pa : Option Addr} {pc : Nat} (h : BoxL w N r pa pc) (o : Obj) : BoxL (w.alloc o) N r pa pc := h.next ((Below.refl _ _).alloc (Nat.le_refl _) o)
theorem BoxL.drew {w : World} {N : Nat} {r : Lk} {pa : Option Addr} {pc : Nat} (h : BoxL w N r pa pc) : BoxL w.drew N r pa pc := h.next (below_drewL (Below.refl _ _))
theorem keepL2 {w : World} {N M : Nat} {r s : Lk} {pa qa : Option Addr} {pc qc : Nat} (h : BoxL w N r pa pc) (k : BoxL w M s qa qc) :
    w.cell? ⟨N, 0, none⟩ = some (.int .i64 r.tk) ∧ w.cell? ⟨N, 1, none⟩ = some (.slice pa r.pa.length pc) ∧ w.cell? ⟨N, 2, none⟩ = some (.bool r.de) ∧ w.cell? ⟨N, 3, none⟩ = some (.bool r.sh) ∧ w.cell? ⟨N, 4, none⟩ = some (.int .i64 r.un) ∧ w.cell? ⟨M, 0, none⟩ = some (.int .i64 s.tk) ∧ w.cell? ⟨M, 1, none⟩ = some (.slice qa s.pa.length qc) ∧ w.cell? ⟨M, 2, none⟩ = some (.bool s.de) ∧ w.cell? ⟨M, 3, none⟩ = some (.bool s.sh) ∧ w.cell? ⟨M, 4, none⟩ = some (.int .i64 s.un) :=
  ⟨h.2.1, h.2.2.1, h.2.2.2.1, h.2.2.2.2.1, h.2.2.2.2.2, k.2.1, k.2.2.1, k.2.2.2.1, k.2.2.2.2.1, k.2.2.2.2.2⟩
theorem lkIn_row {w : World} {p C : Nat} {r : Lk} (h : RowS w p r.pa) (hC : p < C) (hl : r.pa.length ≤ maxLen) : LkIn w C r (some ⟨p, 0, none⟩) r.pa.length :=
  ⟨h.strs' hC, Nat.le_refl _, hl, fun e => by cases e⟩
end Go.Proofs.Ytckhjemojopekaa
namespace Go.Proofs.Ytckhjemojopekaa
open Go.RowKit

theorem pick_gen {α : Type} {p : Nat → α → Prop} : ∀ {len : Nat}, (∀ i, i < len → ∃ q, p i q) → ∃ hs : List α, hs.length = len ∧ ∀ j (hj : j < hs.length), p j hs[j] := by
  intro len
  induction len with
  | zero => intro _; exact ⟨[], rfl, fun j hj => absurd hj (Nat.not_lt_zero _)⟩
  | succ k ih =>
    intro each
    obtain ⟨hs, hlen, hq⟩ := ih (fun i hi => each i (by omega))
    obtain ⟨q, hqk⟩ := each k (by omega)
    refine ⟨hs ++ [q], by simp [hlen], fun j hj => ?_⟩
    by_cases e : j < hs.length
    · rw [List.getElem_append_left e]; exact hq j e
    · have : j = k := by simp [hlen] at hj; omega
      subst this
      rw [List.getElem_append_right (by omega)]
      simp only [hlen, Nat.sub_self, List.getElem_cons_zero]
      exact hqk
theorem add_pick (b o j : Nat) : (⟨b, o, none⟩ : Addr).add j = ⟨b, o + j, none⟩ := by unfold Addr.add; split <;> simp_all
end Go.Proofs.Ytckhjemojopekaa
namespace Go.Proofs.Ytckhjemojopekaa
open Go.RowKit
set_option linter.unusedVariables false

theorem run_copy_rowK {P : Program} (w : World) (k : Nat) (dT sT ty elem : TypeId) (g o dLen dCap : Nat) (a : Addr) (sLen sCap : Nat) (cur : Array Value) (t : TypeId) (cs : List Value)
    (hu : P.underlying dT = some (.slice elem)) (hs : (P.info? elem).map (·.size) = some k)
    (hg : w.heap[g]? = some (.cells cur t (0, 0))) (hn : cs.length = Nat.min sLen dLen * k)
    (hsrc : ∀ j v, cs[j]? = some v → w.cell? (a.add j) = some v) (hfit : o + cs.length ≤ cur.size) (h1 : ∀ v ∈ cs, v.oneCell' = true) :
    (Builtin.copy_ #[dT, sT] ty #[.slice (some ⟨g, o, none⟩) dLen dCap, .slice (some a) sLen sCap]).run P w =
      .ok (goInt (Nat.min sLen dLen)) (w.setRow g (cur.toList.take o ++ cs ++ cur.toList.drop (o + cs.length)).toArray) := by
  have hl := run_loadCells_list (P := P) w a cs hsrc
  have hst := run_storeCells_at P g o t cs 0 cur w hg (by simpa using hfit) h1
  cases hq : P.info? elem with
  | none => simp [hq] at hs
  | some i =>
    have hi : i.size = k := by simpa [hq] using hs
    have hn' : Nat.min sLen dLen * k = cs.length := hn.symm
    simp only [Nat.min_def] at hn'
    simp [Builtin.copy_, run_underlying hu, Builtin.lenOf, Builtin.firstCells, sizeOf, typeInfo, hq, hi, Nat.min_def, hn', hl, hst]

theorem run_copy_noneK {P : Program} (w : World) (k : Nat) (dT sT ty elem : TypeId) (d a : Option Addr) (dLen dCap sLen sCap : Nat) (hu : P.underlying dT = some (.slice elem)) (hs : (P.info? elem).map (·.size) = some k) (hn : Nat.min sLen dLen = 0) :
    (Builtin.copy_ #[dT, sT] ty #[.slice d dLen dCap, .slice a sLen sCap]).run P w = .ok (goInt 0) w := by
  cases hq : P.info? elem with
  | none => simp [hq] at hs
  | some i =>
    have hl : ∀ (x : Addr), (loadCells x 0).run P w = .ok #[] w := fun x => by simpa using run_loadCells_list (P := P) w x [] (by simp)
    cases d <;> cases a <;> simp [Builtin.copy_, run_underlying hu, Builtin.lenOf, Builtin.firstCells, sizeOf, typeInfo, hq, hn, storeCells, hl]
theorem wpList_copy_nothingK {P : Program} {w : World} {ops : Array Oper} {rest : List Oper} {o : Oper} {a : Act} {Q : Exit → Act → World → Prop} (hgd : o.guard = none) (d s : Operand) (dT sT : TypeId)
    (ho : o.op = .call { callee := .builtin .copy, args := #[d, s], argTypes := #[dT, sT] }) (k : Nat) (elem : TypeId) (hu : P.underlying dT = some (.slice elem)) (hsz : (P.info? elem).map (·.size) = some k)
    (dp sp : Option Addr) (dLen dCap sLen sCap : Nat) (hd : a.eval d = .slice dp dLen dCap) (hs : a.eval s = .slice sp sLen sCap) (hn : Nat.min sLen dLen = 0)
    (h : wpList P ops Q rest (a.put o.dst (goInt 0)) w) : wpList P ops Q (o :: rest) a w := by
  refine wpList_plain hgd fun K hK => ?_
  have hrun := run_copy_noneK (P := P) w k dT sT o.type elem dp sp dLen dCap sLen sCap hu hsz hn
  unfold Oper.wp execOp
  simp only [ho, resolve, invoke, builtin, Sem.run_bind, Sem.run_pure, Result.andThen_ok, List.map_toArray, List.map_cons, List.map_nil, hd, hs, hrun]
  exact hK _ _ h

theorem zero_size (zc : Array Value) (k : Nat) : (Builtin.zeroCells zc k).size = k * zc.size := by
  unfold Builtin.zeroCells
  simp
theorem grown_setRow (w : World) (g : Nat) (cs : Array Value) : w.grownBy (w.setRow g cs) (some g) :=
  ⟨rfl, rfl, rfl, by simp [World.setRow], fun k hk hne => setRow_other w g k cs (fun e => hne (by rw [e]))⟩

/-- 'copy(d, s)' into a row of one's own; the world behind it is a new name. -/
theorem wpList_copyK {P : Program} {w : World} {ops : Array Oper} {rest : List Oper} {o : Oper} {a : Act} {Q : Exit → Act → World → Prop} (hgd : o.guard = none) (d s : Operand) (dT sT : TypeId)
    (ho : o.op = .call { callee := .builtin .copy, args := #[d, s], argTypes := #[dT, sT] }) (k : Nat) (elem : TypeId) (hu : P.underlying dT = some (.slice elem)) (hsz : (P.info? elem).map (·.size) = some k)
    (g off dLen dCap : Nat) (ad : Addr) (sLen sCap : Nat) (hd : a.eval d = .slice (some ⟨g, off, none⟩) dLen dCap) (hs : a.eval s = .slice (some ad) sLen sCap)
    (cur : Array Value) (t : TypeId) (hg : w.heap[g]? = some (.cells cur t (0, 0))) (cs : List Value) (hn : cs.length = Nat.min sLen dLen * k)
    (hsrc : ∀ j v, cs[j]? = some v → w.cell? (ad.add j) = some v) (hfit : off + cs.length ≤ cur.size) (h1 : ∀ v ∈ cs, v.oneCell' = true)
    (h : ∀ w', Hid (w'.heap[g]? = some (.cells (splice cur.toList off cs).toArray t (0, 0))) → w.grownBy w' (some g) → wpList P ops Q rest (a.put o.dst (goInt (Nat.min sLen dLen))) w') : wpList P ops Q (o :: rest) a w := by
  refine wpList_plain hgd fun K hK => ?_
  have hrun := run_copy_rowK (P := P) w k dT sT o.type elem g off dLen dCap ad sLen sCap cur t cs hu hsz hg hn hsrc hfit h1
  unfold Oper.wp execOp
  simp only [ho, resolve, invoke, builtin, Sem.run_bind, Sem.run_pure, Result.andThen_ok, List.map_toArray, List.map_cons, List.map_nil, hd, hs, hrun]
  exact hK _ _ (h _ (show _ = _ by rw [splice, ← List.append_assoc]; exact setRow_heap w g cur _ t _ hg) (grown_setRow w g _))

/-- .. and as one step of a region that draws. -/
theorem step_copyK {P : Program} {ops : Array Oper} {o : Oper} {a : Act} {w : World} {K : Act → World → Prop} {Q : Exit → Act → World → Prop} {E : Prop} (hgd : o.guard = none) (d s : Operand) (dT sT : TypeId)
    (ho : o.op = .call { callee := .builtin .copy, args := #[d, s], argTypes := #[dT, sT] }) (k : Nat) (elem : TypeId) (hu : P.underlying dT = some (.slice elem)) (hsz : (P.info? elem).map (·.size) = some k)
    (g off dLen dCap : Nat) (ad : Addr) (sLen sCap : Nat) (hd : a.eval d = .slice (some ⟨g, off, none⟩) dLen dCap) (hs : a.eval s = .slice (some ad) sLen sCap)
    (cur : Array Value) (t : TypeId) (hg : w.heap[g]? = some (.cells cur t (0, 0))) (cs : List Value) (hn : cs.length = Nat.min sLen dLen * k)
    (hsrc : ∀ j v, cs[j]? = some v → w.cell? (ad.add j) = some v) (hfit : off + cs.length ≤ cur.size) (h1 : ∀ v ∈ cs, v.oneCell' = true)
    (h : ∀ w', Hid (w'.heap[g]? = some (.cells (splice cur.toList off cs).toArray t (0, 0))) → w.grownBy w' (some g) → K (a.put o.dst (goInt (Nat.min sLen dLen))) w') :
    if Region.wanted o (yielded ops a.tmps) = true then Oper.wp P o a w K Q else E := by
  have hw : Region.wanted o (yielded ops a.tmps) = true := by simp [Region.wanted, hgd]
  rw [if_pos hw]
  have hrun := run_copy_rowK (P := P) w k dT sT o.type elem g off dLen dCap ad sLen sCap cur t cs hu hsz hg hn hsrc hfit h1
  unfold Oper.wp execOp
  simp only [ho, resolve, invoke, builtin, Sem.run_bind, Sem.run_pure, Result.andThen_ok, List.map_toArray, List.map_cons, List.map_nil, hd, hs, hrun]
  exact h _ (show _ = _ by rw [splice, ← List.append_assoc]; exact setRow_heap w g cur _ t _ hg) (grown_setRow w g _)

/-- 'append(s, make(S, k)...)' where there is no room: a new row. -/
theorem wpList_appendZ {P : Program} {w : World} {ops : Array Oper} {rest : List Oper} {o : Oper} {a : Act} {Q : Exit → Act → World → Prop} (hgd : o.guard = none) (s x : Operand) (t tn e : TypeId)
    (ho : o.op = .call { callee := .builtin .append, args := #[s, x], argTypes := #[t, tn] }) (i : TypeInfo) (z : Value) (kq kn : IntKind) (ht : P.underlying t = some (.slice e)) (htn : P.underlying tn = some (.int kn)) (hi : P.info? e = some i) (hz : i.zero = some z)
    (base : Option Addr) (sLen sCap : Nat) (olds : List Value) (hold : (Builtin.firstCells i.size sLen (.slice base sLen sCap)).run P w.drew = .ok olds.toArray w.drew)
    (k : Nat) (h0 : 0 < k) (hs : 0 < i.size) (hg : sCap < sLen + k) (h63 : ((sLen + k : Nat) : Int) ≤ 9223372036854775807) (h48 : k * i.bytes ≤ 281474976710656) (hfit : Builtin.nextslicecap (sLen + k) sCap * i.bytes ≤ 281474976710656)
    (hes : a.eval s = .slice base sLen sCap) (x' : Int) (hex : a.eval x = .int kq x') (hxk : x' = k)
    (h : ∀ w' (ROW : Array Value), Hid (w'.heap[w.heap.size]? = some (.cells ROW e (0, 0))) → Hid (ROW.size = olds.length + k * z.cells.size + (grownCap w (sLen + k) sCap e - (sLen + k)) * z.cells.size) → Hid (ROW.toList.take olds.length = olds) → w.grownBy w' none → w.heap.size < w'.heap.size → wpList P ops Q rest (a.put o.dst (.slice (some ⟨w.heap.size, 0, none⟩) (sLen + k) (grownCap w (sLen + k) sCap e))) w') : wpList P ops Q (o :: rest) a w := by
  refine wpList_plain hgd fun K hK => ?_
  subst hxk
  have hrun := Lib.run_append_grow_zeros w t tn o.type e i z kq kn ht htn hi hz base sLen sCap olds hold k h0 hs hg h63 h48 hfit
  unfold Oper.wp execOp
  simp only [ho, resolve, invoke, builtin, Sem.run_bind, Sem.run_pure, Result.andThen_ok, List.map_toArray, List.map_cons, List.map_nil, hes, hex, hrun]
  refine hK _ _ (h _ (olds.toArray ++ Builtin.zeroCells z.cells k ++ Builtin.zeroCells z.cells (grownCap w (sLen + k) sCap e - (sLen + k))) ?_ ?_ ?_ ?_ ?_)
  · exact heap_alloc_new w.drew _
  · show _ = _
    rw [Array.size_append, Array.size_append, zero_size, zero_size]
    simp
  · show _ = _
    rw [Array.toList_append, Array.toList_append, List.append_assoc, List.take_append_of_le_length (by simp), List.take_of_length_le (by simp)]
  · exact ⟨rfl, rfl, rfl, by simp, fun b hb hn => (World.grownBy_alloc w.drew _ none).block b hb hn⟩
  · simp
end Go.Proofs.Ytckhjemojopekaa
namespace Go.Proofs.Ytckhjemojopekaa
open Go.RowKit M
set_option linter.unusedVariables false

/-- A lock in a row: where its path lies, and that slice's room. -/
structure LkT where
  r : Lk
  pa : Option Addr
  pc : Nat
def lkC1 (t : LkT) : List Value := [.int .i64 t.r.tk, .slice t.pa t.r.pa.length t.pc, .bool t.r.de, .bool t.r.sh, .int .i64 t.r.un]
def lkCells (ts : List LkT) : List Value := ts.flatMap lkC1
theorem lkCells_length (ts : List LkT) : (lkCells ts).length = ts.length * 5 := by
  induction ts with
  | nil => rfl
  | cons t l ih => simp only [lkCells, List.flatMap_cons, List.length_append, List.length_cons] at *; rw [ih]; simp only [lkC1, List.length_cons, List.length_nil]; omega
theorem lkCells_append (a b : List LkT) : lkCells (a ++ b) = lkCells a ++ lkCells b := by simp [lkCells]
theorem lkCells_at (ts : List LkT) : ∀ j (hj : j < ts.length) i, i < 5 → (lkCells ts)[j * 5 + i]? = (lkC1 ts[j])[i]? := by
  induction ts with
  | nil => intro j hj; exact absurd hj (Nat.not_lt_zero _)
  | cons t l ih =>
    intro j hj i hi
    have e : lkCells (t :: l) = lkC1 t ++ lkCells l := by simp [lkCells]
    rw [e]
    have hl : (lkC1 t).length = 5 := rfl
    match j, hj with
    | 0, _ => rw [Nat.zero_mul, Nat.zero_add, List.getElem?_append_left (by omega)]; rfl
    | j + 1, hj =>
      rw [List.getElem?_append_right (by rw [hl]; omega), hl, show (j + 1) * 5 + i - 5 = j * 5 + i by omega]
      simpa using ih j (by simpa using hj) i hi
theorem lkCells_one (ts : List LkT) : ∀ v ∈ lkCells ts, v.oneCell' = true := fun v hv => by
  obtain ⟨t, _, ht⟩ := List.mem_flatMap.1 hv
  simp only [lkC1, List.mem_cons, List.not_mem_nil, or_false] at ht
  rcases ht with rfl | rfl | rfl | rfl | rfl <;> rfl

/-- What a row of them holds. -/
def RowV (w : World) (g : Nat) (ts : List LkT) : Prop := g < w.heap.size ∧ (∀ j (hj : j < ts.length), LkAt w g (j * 5) ts[j].r ts[j].pa ts[j].pc) ∧ ∀ i, w.frozen? ⟨g, i, none⟩ = false
theorem RowV.of {w w' : World} {g : Nat} {ts : List LkT} (h : RowV w g ts) (hz : g < w'.heap.size) (e : ∀ o, w'.cell? ⟨g, o, none⟩ = w.cell? ⟨g, o, none⟩) (f : ∀ o, w'.frozen? ⟨g, o, none⟩ = w.frozen? ⟨g, o, none⟩) : RowV w' g ts :=
  ⟨hz, fun j hj => (h.2.1 j hj).of e, fun i => by rw [f]; exact h.2.2 i⟩
theorem RowV.below {w w' : World} {g : Nat} {ts : List LkT} (h : RowV w g ts) (hb : Below w.heap.size w w') : RowV w' g ts :=
  h.of (Nat.lt_of_lt_of_le h.1 hb.size) (fun o => hb.cell (p := ⟨g, o, none⟩) h.1) (fun o => hb.frozen (p := ⟨g, o, none⟩) h.1)
theorem RowV.heap {w : World} {g : Nat} {ts : List LkT} {cs : Array Value} {T : TypeId} (h : w.heap[g]? = some (.cells cs T (0, 0))) (e : ∀ i, i < ts.length * 5 → cs[i]? = (lkCells ts)[i]?) : RowV w g ts := by
  have hc : ∀ o, w.cell? ⟨g, o, none⟩ = cs[o]? := fun o => by simp [World.cell?, h]
  have hf : ∀ o, w.frozen? ⟨g, o, none⟩ = false := fun o => by
    simp only [World.frozen?, h, Bool.and_eq_false_iff, decide_eq_false_iff_not]
    right; omega
  refine ⟨(Array.getElem?_eq_some_iff.1 h).1, fun j hj => ?_, hf⟩
  have h5 : ∀ i, i < 5 → w.cell? ⟨g, j * 5 + i, none⟩ = (lkC1 ts[j])[i]? := fun i hi => by
    rw [hc, e _ (by omega), lkCells_at ts j hj i hi]
  exact ⟨h5 0 (by omega), h5 1 (by omega), h5 2 (by omega), h5 3 (by omega), h5 4 (by omega)⟩
/-- Its paths lie below B. -/
def InV (w : World) (B : Nat) (ts : List LkT) : Prop := ∀ t ∈ ts, LkIn w B t.r t.pa t.pc
theorem InV.below {w w' : World} {B C : Nat} {ts : List LkT} (h : InV w B ts) (hb : Below C w w') (hB : B ≤ C) : InV w' B ts := fun t ht => (h t ht).below hb hB
theorem RowV.lks {w : World} {g B C : Nat} {ts : List LkT} (h : RowV w g ts) (hi : InV w B ts) (hC : g < C) (hB : B ≤ C) : Lks w C (some ⟨g, 0, none⟩) (ts.map (·.r)) := fun _ => by
  refine ⟨g, 0, rfl, hC, fun j hj => ?_⟩
  have hj' : j < ts.length := by simpa using hj
  simp only [List.getElem_map]
  exact ⟨_, _, by rw [Nat.zero_add]; exact h.2.1 j hj', (hi _ (List.getElem_mem hj')).mono hB⟩
/-- A slice of locks as such. -/
theorem Lks.ts {w : World} {B : Nat} {a : Option Addr} {l : List Lk} (h : Lks w B a l) : ∃ ts : List LkT, ts.map (·.r) = l ∧ InV w B ts ∧ (0 < l.length → ∃ b o, a = some ⟨b, o, none⟩ ∧ b < B ∧ ∀ j (hj : j < ts.length), LkAt w b (o + j * 5) ts[j].r ts[j].pa ts[j].pc) := by
  by_cases h0 : 0 < l.length
  · obtain ⟨b, o, ea, hb, hc⟩ := h h0
    have each : ∀ j, j < l.length → ∃ t : LkT, (∀ hj : j < l.length, t.r = l[j]) ∧ LkAt w b (o + j * 5) t.r t.pa t.pc ∧ LkIn w B t.r t.pa t.pc := fun j hj => by
      obtain ⟨pa, pc, h1, h2⟩ := hc j hj
      exact ⟨⟨l[j], pa, pc⟩, fun _ => rfl, h1, h2⟩
    obtain ⟨ts, hl, ht⟩ := pick_gen each
    refine ⟨ts, ?_, fun t hm => ?_, fun _ => ⟨b, o, ea, hb, fun j hj => (ht j hj).2.1⟩⟩
    · apply List.ext_getElem
      · rw [List.length_map, hl]
      · intro j h1 h2
        rw [List.getElem_map]
        exact (ht j (by omega)).1 h2
    · obtain ⟨j, hj, rfl⟩ := List.mem_iff_getElem.1 hm
      exact (ht j hj).2.2
  · have : l = [] := List.eq_nil_of_length_eq_zero (by omega)
    subst this
    exact ⟨[], rfl, fun t h => (by cases h), fun h => absurd h (Nat.lt_irrefl _)⟩
/-- The cells of a part of it, as copy reads them. -/
theorem lks_src {w : World} {b o : Nat} {ts : List LkT} (h : ∀ j (hj : j < ts.length), LkAt w b (o + j * 5) ts[j].r ts[j].pa ts[j].pc) : ∀ i v, (lkCells ts)[i]? = some v → w.cell? ((⟨b, o, none⟩ : Addr).add i) = some v := fun i v hv => by
  have hi := (List.getElem?_eq_some_iff.1 hv).1
  rw [lkCells_length] at hi
  have hj : i / 5 < ts.length := by omega
  have ei : i = i / 5 * 5 + i % 5 := by omega
  have h5 := lkCells_at ts (i / 5) hj (i % 5) (by omega)
  rw [← ei, hv] at h5
  rw [add_pick]
  obtain ⟨c0, c1, c2, c3, c4⟩ := h (i / 5) hj
  have hm : i % 5 = 0 ∨ i % 5 = 1 ∨ i % 5 = 2 ∨ i % 5 = 3 ∨ i % 5 = 4 := by omega
  rcases hm with e | e | e | e | e <;> rw [e] at h5 ei <;> rw [ei] <;> simp only [lkC1, List.getElem?_cons_zero, List.getElem?_cons_succ] at h5
  · rw [Nat.add_zero, h5]; exact c0
  · rw [← Nat.add_assoc, h5]; exact c1
  · rw [← Nat.add_assoc, h5]; exact c2
  · rw [← Nat.add_assoc, h5]; exact c3
  · rw [← Nat.add_assoc, h5]; exact c4

/-- A growing row of them that the call owns. -/
def OwnT (w : World) (B : Nat) (v : Value) (ts : List LkT) : Prop := w.ownsRow B 102 5 v ts.length (lkCells ts)
theorem OwnT.made (w : World) (B : Nat) (hB : B ≤ w.heap.size) : OwnT (w.alloc (Obj.cells #[] 102)) B (.slice (some ⟨w.heap.size, 0, none⟩) 0 0) [] :=
  ⟨rfl, .inr ⟨w.heap.size, 0, #[], rfl, hB, heap_alloc_new w _, Nat.le_refl _, Nat.zero_le _, rfl, rfl⟩⟩
theorem OwnT.next {w w' : World} {B : Nat} {v : Value} {ts : List LkT} (h : OwnT w B v ts) (hb : Below w.heap.size w w') : OwnT w' B v ts :=
  World.ownsRow.kept (row := none) h ⟨hb.os, hb.tape, hb.output, hb.size, fun k hk _ => hb.block k hk⟩ (Classical.em _)
theorem OwnT.keepB {w w' : World} {B g n c : Nat} {ts : List LkT} (h : OwnT w B (.slice (some ⟨g, 0, none⟩) n c) ts) (e : w'.heap[g]? = w.heap[g]?) : OwnT w' B (.slice (some ⟨g, 0, none⟩) n c) ts := by
  refine ⟨h.1, ?_⟩
  rcases h.2 with ⟨h0, _⟩ | ⟨g', c', cur, hv, hB, hh, hr⟩
  · cases h0
  · cases hv
    exact .inr ⟨g, c, cur, rfl, hB, e.trans hh, hr⟩
theorem RowS.hp {w w' : World} {b : Nat} {l : List ByteArray} (h : RowS w b l) (hz : w.heap.size ≤ w'.heap.size) (e : w'.heap[b]? = w.heap[b]?) : RowS w' b l :=
  ⟨Nat.lt_of_lt_of_le h.1 hz, fun j hj => by simp only [World.cell?, World.frozen?, e]; exact h.2 j hj⟩
theorem OwnT.row {w : World} {B g n c : Nat} {ts : List LkT} (h : OwnT w B (.slice (some ⟨g, 0, none⟩) n c) ts) : n = ts.length ∧ RowV w g ts ∧ n ≤ c ∧ c ≤ maxLen ∧ B ≤ g := by
  have hlt := World.ownsRow.lt h g rfl
  rcases h.2 with ⟨e, _⟩ | ⟨g', c', cur, e, hB, hh, h1, h2, _⟩
  · cases e
  · cases e
    have hl := lkCells_length ts
    have hcc : ∀ j (hj : j < ts.length) i, i < 5 → w.cell? ⟨g, j * 5 + i, none⟩ = (lkC1 ts[j])[i]? := fun j hj i hi => by
      rw [World.ownsRow.cellAt h (j * 5 + i) (by omega)]
      exact lkCells_at ts j hj i hi
    refine ⟨rfl, ⟨hlt.2, fun j hj => ⟨hcc j hj 0 (by omega), hcc j hj 1 (by omega), hcc j hj 2 (by omega), hcc j hj 3 (by omega), hcc j hj 4 (by omega)⟩, fun i => ?_⟩, h1, h2, hB⟩
    simp only [World.frozen?, hh, Bool.and_eq_false_iff, decide_eq_false_iff_not]
    right; omega
theorem below_grownT {w w' : World} {B n : Nat} {v : Value} {xs : List Value} (hown : w.ownsRow B 102 5 v n xs) (hB : B ≤ w.heap.size) (hg : w.grownBy w' v.ownBlock) : Below B w w' :=
  ⟨hg.os, hg.tape, hg.output, hg.size, fun k hk => hg.block k (by omega) (fun e => by have := (hown.lt k e.symm).1; omega)⟩

/-- 'l = append(l, x)' on a row that the call owns. -/
theorem wp_append_lkT {w : World} {ops : Array Oper} {rest : List Oper} {o : Oper} {a : Act} {Q : Exit → Act → World → Prop} (T : TypeId) (hu : Try.prog.underlying T = some (.slice 102)) (hgd : o.guard = none) (s x : Operand)
    (ho : o.op = .call { callee := .builtin .append, args := #[s, x], argTypes := #[T, T] })
    (B : Nat) (v : Value) (l : List LkT) (hs : a.eval s = v) (hown : OwnT w B v l)
    (N : Nat) (t : LkT) (hx : a.eval x = .slice (some ⟨N, 0, none⟩) 1 1) (hc0 : LkAt w N 0 t.r t.pa t.pc) (hlen : l.length + 1 ≤ 1099511627776) (hB : B ≤ w.heap.size)
    (h : ∀ g n cap w', n = (l ++ [t]).length → OwnT w' B (.slice (some ⟨g, 0, none⟩) n cap) (l ++ [t]) → Below B w w' → w.grownBy w' v.ownBlock → ((Value.slice (some ⟨g, 0, none⟩) n cap).ownBlock = v.ownBlock ∨ (Value.slice (some ⟨g, 0, none⟩) n cap).ownBlock = some w.heap.size) → wpList Try.prog ops Q rest (a.put o.dst (.slice (some ⟨g, 0, none⟩) n cap)) w') : wpList Try.prog ops Q (o :: rest) a w := by
  obtain ⟨i0, hi, hz0, hz1, hz2⟩ := info_parts info_lock
  refine wpList_append_own_at w hgd s x T ho B 102 i0 _ 5 48 hu hi hz0 hz1 hz2 rfl (by decide) v l.length _ hs hown ⟨N, 0, none⟩ 1 1 (lkC1 t) hx rfl ?_ ?_ ?_ ?_ hB ?_
  · intro j u hj
    rw [add_pick]
    obtain ⟨c0, c1, c2, c3, c4⟩ := hc0
    simp only [Nat.zero_add] at c0 c1 c2 c3 c4 ⊢
    unfold lkC1 at hj
    match j, hj with
    | 0, hj => simp at hj; subst hj; exact c0
    | 1, hj => simp at hj; subst hj; exact c1
    | 2, hj => simp at hj; subst hj; exact c2
    | 3, hj => simp at hj; subst hj; exact c3
    | 4, hj => simp at hj; subst hj; exact c4
  · intro u hu; simp [lkC1] at hu; rcases hu with rfl | rfl | rfl | rfl | rfl <;> rfl
  · unfold maxLen; omega
  · omega
  · intro v' w' ho' hg _ hat
    obtain ⟨g, cap, rfl⟩ : ∃ g cap, v' = .slice (some ⟨g, 0, none⟩) (l.length + 1) cap := by
      rcases ho'.2 with ⟨_, h0⟩ | ⟨g, cap, cur, hv, _⟩
      · omega
      · exact ⟨g, cap, hv⟩
    refine h g (l.length + 1) cap w' (by simp) ?_ (below_grownT hown hB hg) hg hat
    unfold OwnT
    rw [lkCells_append, show lkCells [t] = lkC1 t by simp [lkCells], show (l ++ [t]).length = l.length + 1 by simp]
    exact ho'
/-- 'append(l, x)' or 'append(l, more...)' as one step of a region that draws. -/
theorem step_append_lkT {ops : Array Oper} {o : Oper} {a : Act} {w : World} {K : Act → World → Prop} {Q : Exit → Act → World → Prop} {E : Prop} (T : TypeId) (hu : Try.prog.underlying T = some (.slice 102)) (hgd : o.guard = none) (s x : Operand)
    (ho : o.op = .call { callee := .builtin .append, args := #[s, x], argTypes := #[T, T] })
    (B : Nat) (v : Value) (l : List LkT) (hs : a.eval s = v) (hown : OwnT w B v l)
    (b off n c : Nat) (us : List LkT) (hx : a.eval x = .slice (some ⟨b, off, none⟩) n c) (hn : n = us.length) (hc : ∀ j (hj : j < us.length), LkAt w b (off + j * 5) us[j].r us[j].pa us[j].pc) (hlen : l.length + us.length ≤ 1099511627776) (hB : B ≤ w.heap.size) (h0 : 0 < us.length)
    (h : ∀ g n cap w', n = (l ++ us).length → OwnT w' B (.slice (some ⟨g, 0, none⟩) n cap) (l ++ us) → Below B w w' → w.grownBy w' v.ownBlock → ((Value.slice (some ⟨g, 0, none⟩) n cap).ownBlock = v.ownBlock ∨ (Value.slice (some ⟨g, 0, none⟩) n cap).ownBlock = some w.heap.size) → K (a.put o.dst (.slice (some ⟨g, 0, none⟩) n cap)) w') :
    if Region.wanted o (yielded ops a.tmps) = true then Oper.wp Try.prog o a w K Q else E := by
  have hw : Region.wanted o (yielded ops a.tmps) = true := by simp [Region.wanted, hgd]
  rw [if_pos hw]
  obtain ⟨i0, hi, hz0, hz1, hz2⟩ := info_parts info_lock
  obtain ⟨v', w', hr, ho', hg, _, hat⟩ := run_append_own_at (P := Try.prog) (w := w) B T o.type 102 i0 _ 5 48 hu hi hz0 hz1 hz2 rfl (by decide) v l.length _ hown ⟨b, off, none⟩ n c (lkCells us) (by rw [lkCells_length, hn]) (fun j u hj => lks_src hc j u hj) (lkCells_one us) (by unfold maxLen; omega) (by omega) hB
  unfold Oper.wp execOp
  simp only [ho, resolve, invoke, builtin, Sem.run_bind, Sem.run_pure, Result.andThen_ok, List.map_toArray, List.map_cons, List.map_nil, hs, hx, hr]
  obtain ⟨g, cap, rfl⟩ : ∃ g cap, v' = .slice (some ⟨g, 0, none⟩) (l.length + n) cap := by
    rcases ho'.2 with ⟨_, h1⟩ | ⟨g, cap, cur, hv, _⟩
    · omega
    · exact ⟨g, cap, hv⟩
  refine h g (l.length + n) cap w' (by rw [List.length_append, hn]) ?_ (below_grownT hown hB hg) hg hat
  unfold OwnT
  rw [lkCells_append, List.length_append, ← hn]
  exact ho'
theorem step_append_lkNil {ops : Array Oper} {o : Oper} {a : Act} {w : World} {K : Act → World → Prop} {Q : Exit → Act → World → Prop} {E : Prop} (T : TypeId) (hu : Try.prog.underlying T = some (.slice 102)) (hgd : o.guard = none) (s x : Operand)
    (ho : o.op = .call { callee := .builtin .append, args := #[s, x], argTypes := #[T, T] })
    (B : Nat) (v : Value) (l : List LkT) (hs : a.eval s = v) (hown : OwnT w B v l)
    (ad : Option Addr) (c : Nat) (hx : a.eval x = .slice ad 0 c) (hc : ad = none → c = 0) (hB : B ≤ w.heap.size) (hv0 : v ≠ .slice none 0 0) (hlen : l.length ≤ 1099511627776)
    (h : ∀ g n cap w', n = l.length → OwnT w' B (.slice (some ⟨g, 0, none⟩) n cap) l → Below B w w' → w.grownBy w' v.ownBlock → ((Value.slice (some ⟨g, 0, none⟩) n cap).ownBlock = v.ownBlock ∨ (Value.slice (some ⟨g, 0, none⟩) n cap).ownBlock = some w.heap.size) → K (a.put o.dst (.slice (some ⟨g, 0, none⟩) n cap)) w') :
    if Region.wanted o (yielded ops a.tmps) = true then Oper.wp Try.prog o a w K Q else E := by
  have hw : Region.wanted o (yielded ops a.tmps) = true := by simp [Region.wanted, hgd]
  rw [if_pos hw]
  obtain ⟨i0, hi, hz0, hz1, hz2⟩ := info_parts info_lock
  cases ad with
  | none =>
    obtain rfl := hc rfl
    have hr := run_append_owned_none (P := Try.prog) (w := w) B T o.type 102 i0 5 hu hi _ _ _ hown
    obtain ⟨g, cap, rfl⟩ : ∃ g cap, v = .slice (some ⟨g, 0, none⟩) l.length cap := by
      rcases hown.2 with ⟨h1, _⟩ | ⟨g, cap, cur, hv, _⟩
      · exact absurd h1 hv0
      · exact ⟨g, cap, hv⟩
    unfold Oper.wp execOp
    simp only [ho, resolve, invoke, builtin, Sem.run_bind, Sem.run_pure, Result.andThen_ok, List.map_toArray, List.map_cons, List.map_nil, hs, hx, hr]
    exact h g l.length cap w rfl hown (Below.refl _ _) ⟨rfl, rfl, rfl, Nat.le_refl _, fun _ _ _ => rfl⟩ (.inl rfl)
  | some ad =>
    obtain ⟨v', w', hr, ho', hg, hnn, hat⟩ := run_append_own_at (P := Try.prog) (w := w) B T o.type 102 i0 _ 5 48 hu hi hz0 hz1 hz2 rfl (by decide) v l.length _ hown ad 0 c [] (by simp) (fun j u hj => by simp at hj) (fun u hu => by cases hu) (by unfold maxLen; omega) (by omega) hB
    unfold Oper.wp execOp
    simp only [ho, resolve, invoke, builtin, Sem.run_bind, Sem.run_pure, Result.andThen_ok, List.map_toArray, List.map_cons, List.map_nil, hs, hx, hr]
    obtain ⟨g, cap, rfl⟩ : ∃ g cap, v' = .slice (some ⟨g, 0, none⟩) (l.length + 0) cap := by
      rcases ho'.2 with ⟨h1, _⟩ | ⟨g, cap, cur, hv, _⟩
      · exact absurd (hnn.1 h1).1 hv0
      · exact ⟨g, cap, hv⟩
    refine h g _ cap w' rfl ?_ (below_grownT hown hB hg) hg hat
    unfold OwnT
    rw [List.append_nil] at ho'
    exact ho'
end Go.Proofs.Ytckhjemojopekaa
namespace Go.Proofs.Ytckhjemojopekaa
open Go.RowKit
set_option linter.unusedVariables false

/-- The first place, or -1. -/
def placeB {α : Type} (P : α → Bool) (l : List α) (z : Int) : Prop := (z = -1 ∧ l.any P = false) ∨ ∃ k : Nat, z = k ∧ ∃ hk : k < l.length, P l[k] = true ∧ ∀ j (hj : j < l.length), j < k → P l[j] = false
theorem any_none {α : Type} {P : α → Bool} {l : List α} (h : ∀ j (hj : j < l.length), P l[j] = false) : l.any P = false := by
  rw [Bool.eq_false_iff]
  intro e
  obtain ⟨x, hx, hp⟩ := List.any_eq_true.1 e
  obtain ⟨j, hj, rfl⟩ := List.mem_iff_getElem.1 hx
  rw [h j hj] at hp
  cases hp

theorem placeB_any {α : Type} {P : α → Bool} {l : List α} {z : Int} (h : placeB P l z) : decide (0 ≤ z) = l.any P := by
  rcases h with ⟨rfl, h⟩ | ⟨k, rfl, hk, h, _⟩
  · rw [h]; rfl
  · rw [decide_eq_true (by omega)]
    exact (List.any_eq_true.2 ⟨_, List.getElem_mem hk, h⟩).symm
theorem enter_fn {P : Program} {f : FuncId} {fn : Func} {c : Code} (hf : P.funcs[f]? = some fn) (hname : (fn.name == "runtime.NumGoroutine") = false) (hb : fn.body = some c) (args : Array Value) (w : World) : (callFunc f args).run P w = .ok (.enter f args) w := by
  have h1 : fn.name ≠ "runtime.NumGoroutine" := by simpa using hname
  simp [callFunc, hf, h1, hb]
end Go.Proofs.Ytckhjemojopekaa
