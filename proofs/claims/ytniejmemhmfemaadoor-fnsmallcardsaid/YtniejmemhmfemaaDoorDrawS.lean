/-
  The draws of the law FnSmall: texts and numbers, of the bytes alone.
-/
import Derived.Test.YtniejmemhmfemaaDoorDrawK
import Derived.Test.YtniejmemhmfemaaDoorSpecHex
import Derived.Lib.ItoaLen
namespace Go.Proofs.YtniejmemhmfemaaDoor
open Go.RowKit M

theorem decDigits_le (n : Nat) (h : n ≤ 9223372036854775807) : (Lib.decDigits n).length ≤ 20 := by
  rw [Lib.decDigits_length]
  exact Lib.nDigits_le20 n (by omega)
theorem hexDig_le (f m : Nat) : (hexDig f m).length ≤ f := by
  induction f generalizing m with
  | zero => simp [hexDig]
  | succ f ih =>
    simp only [hexDig]
    split
    · simp
    · have := ih (m / 16)
      simp; omega
theorem size_arr (l : List UInt8) : (⟨l.toArray⟩ : ByteArray).size = l.length := by
  show l.toArray.size = l.length
  simp

/-- The blanks that are drawn about a text. -/
def bl3 : List ByteArray := [⟨#[]⟩, ⟨#[32]⟩, ⟨#[9, 32]⟩]
def bl3' : List ByteArray := [⟨#[]⟩, ⟨#[32]⟩, ⟨#[32, 9]⟩]
def low3 : List ByteArray := [⟨#[]⟩, ⟨#[65, 66, 67, 90]⟩, ⟨#[91, 64]⟩]
def pn8 : List ByteArray := [⟨#[]⟩, ⟨#[48, 48]⟩, ⟨#[48, 49]⟩, ⟨#[120]⟩, ⟨#[49, 120]⟩, ⟨#[45, 49]⟩, ⟨#[49, 50, 51, 52, 53, 54, 55, 56]⟩, ⟨#[57, 57, 57, 57, 57, 57, 57]⟩]
def ph8 : List ByteArray := [⟨#[]⟩, ⟨#[48]⟩, ⟨#[48, 48, 102, 102]⟩, ⟨#[70, 70]⟩, ⟨#[103]⟩, ⟨#[49, 50, 51, 52, 53]⟩, ⟨#[97, 32, 98]⟩, ⟨#[45, 49]⟩]
def mostL : List Int := [100, 9999999, 0, -1, 9223372036854775807]

def tr1 (zs : List Int) (len : Nat) : St := belowS len (newS zs len) 3
def tr2 (zs : List Int) (len : Nat) : St := belowS len (tr1 zs len) 16
def dTrim (zs : List Int) (len : Nat) : ByteArray := bl3.getD (pick zs len (newS zs len) 3) ByteArray.empty ++ textV zs len (tr1 zs len) ++ bl3'.getD (pick zs len (tr2 zs len) 3) ByteArray.empty
def dLow (zs : List Int) (len : Nat) : ByteArray := dText zs len ++ low3.getD (pick zs len (belowS len (newS zs len) 16) 3) ByteArray.empty

theorem size_append (a b : ByteArray) : (a ++ b).size = a.size + b.size := ByteArray.size_append

theorem dTrim_le (zs : List Int) (len : Nat) : (dTrim zs len).size ≤ 300 := by
  have h1 : (bl3.getD (pick zs len (newS zs len) 3) ByteArray.empty).size ≤ 100 := getD_mem bl3 _ _ (fun s => s.size ≤ 100) (by decide) (by decide)
  have h2 := textV_le zs len (tr1 zs len)
  have h3 : (bl3'.getD (pick zs len (tr2 zs len) 3) ByteArray.empty).size ≤ 100 := getD_mem bl3' _ _ (fun s => s.size ≤ 100) (by decide) (by decide)
  unfold dTrim
  rw [size_append, size_append]
  omega
theorem dLow_le (zs : List Int) (len : Nat) : (dLow zs len).size ≤ 300 := by
  have h1 := dText_le zs len
  have h3 : (low3.getD (pick zs len (belowS len (newS zs len) 16) 3) ByteArray.empty).size ≤ 100 := getD_mem low3 _ _ (fun s => s.size ≤ 100) (by decide) (by decide)
  unfold dLow
  rw [size_append]
  omega

set_option maxHeartbeats 400000 in
theorem drawTrim_any {w : World} {B : Nat} {a : Option Addr} {len : Nat} {zs : List Int} (h : CodeIn w B a len zs) (cap : Nat) :
    Calls Tryd.prog 16 #[.slice a len cap] w fun e w' => e = .returned (.string (dTrim zs len)) ∧ Below w.heap.size w w' := by
  have H : Hid (CodeIn w B a len zs) := h
  clear h
  have k1 : (bl3.getD (pick zs len (newS zs len) 3) ByteArray.empty).size ≤ 100 := getD_mem bl3 _ _ (fun s => s.size ≤ 100) (by decide) (by decide)
  have k2 := textV_le zs len (tr1 zs len)
  have k3 : (bl3'.getD (pick zs len (tr2 zs len) 3) ByteArray.empty).size ≤ 100 := getD_mem bl3' _ _ (fun s => s.size ≤ 100) (by decide) (by decide)
  have HV : Hid (dTrim zs len = bl3.getD (pick zs len (newS zs len) 3) ByteArray.empty ++ textV zs len (tr1 zs len) ++ bl3'.getD (pick zs len (tr2 zs len) 3) ByteArray.empty) := rfl
  have HS1 : Hid (∀ (w1 : World), DC w1 w.heap.size a len cap zs (newS zs len) → ∀ C T M, M = w1.heap.size → C = (bl3.map Value.string).toArray → Calls Tryd.prog 39 #[.pointer (some ⟨w.heap.size, 0, none⟩), .slice (some ⟨M, 0, none⟩) 3 3] (w1.alloc (.cells C T)) fun e w' => e = .returned (.string (bl3.getD (pick zs len (newS zs len) 3) ByteArray.empty)) ∧ DC w' w.heap.size a len cap zs (tr1 zs len) ∧ w1.grownBy w' (some w.heap.size)) := fun w1 h C T M hM hC => strNew h bl3 C T 3 M hM hC rfl (by decide) (by decide)
  have HS2 : Hid (∀ (w1 : World), DC w1 w.heap.size a len cap zs (tr1 zs len) → Calls Tryd.prog 46 #[.pointer (some ⟨w.heap.size, 0, none⟩)] w1 fun e w' => e = .returned (.string (textV zs len (tr1 zs len))) ∧ DC w' w.heap.size a len cap zs (tr2 zs len) ∧ w1.grownBy w' (some w.heap.size)) := fun w1 h => l1Text_any h
  have HS3 : Hid (∀ (w1 : World), DC w1 w.heap.size a len cap zs (tr2 zs len) → ∀ C T M, M = w1.heap.size → C = (bl3'.map Value.string).toArray → Calls Tryd.prog 39 #[.pointer (some ⟨w.heap.size, 0, none⟩), .slice (some ⟨M, 0, none⟩) 3 3] (w1.alloc (.cells C T)) fun e w' => e = .returned (.string (bl3'.getD (pick zs len (tr2 zs len) 3) ByteArray.empty)) ∧ DC w' w.heap.size a len cap zs (belowS len (tr2 zs len) 3) ∧ w1.grownBy w' (some w.heap.size)) := fun w1 h C T M hM hC => strNew h bl3' C T 3 M hM hC rfl (by decide) (by decide)
  generalize bl3.getD (pick zs len (newS zs len) 3) ByteArray.empty = s1 at k1 HV HS1
  generalize textV zs len (tr1 zs len) = s2 at k2 HV HS2
  generalize bl3'.getD (pick zs len (tr2 zs len) 3) ByteArray.empty = s3 at k3 HV HS3
  go_enter Tryd.func16, Tryd.ntmps16
  go_wp2_with fail
  refine (newDC H.out cap).mono ?_
  rintro e w1 ⟨rfl, hd1, hb1⟩
  have H1 : Hid (DC w1 w.heap.size a len cap zs (newS zs len)) := hd1
  clear hd1
  go_wp2_with fail
  refine (HS1.out _ H1.out _ _ _ rfl rfl).mono ?_
  rintro e w2 ⟨rfl, hd2, hg2⟩
  have H2 : Hid (DC w2 w.heap.size a len cap zs (tr1 zs len)) := hd2
  clear hd2
  go_wp2_with fail
  refine (HS2.out _ H2.out).mono ?_
  rintro e w3 ⟨rfl, hd3, hg3⟩
  have H3 : Hid (DC w3 w.heap.size a len cap zs (tr2 zs len)) := hd3
  clear hd3
  go_wp2_with fail
  refine (HS3.out _ H3.out _ _ _ rfl rfl).mono ?_
  rintro e w4 ⟨rfl, _, hg4⟩
  go_wp2
  go_ret
  exact ⟨by rw [HV.out]; rfl, dc_below hb1 (grown_trans (grown_trans hg2 hg3) hg4)⟩

set_option maxHeartbeats 400000 in
theorem drawLower_any {w : World} {B : Nat} {a : Option Addr} {len : Nat} {zs : List Int} (h : CodeIn w B a len zs) (cap : Nat) :
    Calls Tryd.prog 18 #[.slice a len cap] w fun e w' => e = .returned (.string (dLow zs len)) ∧ Below w.heap.size w w' := by
  have H : Hid (CodeIn w B a len zs) := h
  clear h
  have k2 := dText_le zs len
  have k3 : (low3.getD (pick zs len (belowS len (newS zs len) 16) 3) ByteArray.empty).size ≤ 100 := getD_mem low3 _ _ (fun s => s.size ≤ 100) (by decide) (by decide)
  have HV : Hid (dLow zs len = dText zs len ++ low3.getD (pick zs len (belowS len (newS zs len) 16) 3) ByteArray.empty) := rfl
  have HS2 : Hid (∀ (w1 : World), DC w1 w.heap.size a len cap zs (newS zs len) → Calls Tryd.prog 46 #[.pointer (some ⟨w.heap.size, 0, none⟩)] w1 fun e w' => e = .returned (.string (dText zs len)) ∧ DC w' w.heap.size a len cap zs (belowS len (newS zs len) 16) ∧ w1.grownBy w' (some w.heap.size)) := fun w1 h => l1Text_any h
  have HS3 : Hid (∀ (w1 : World), DC w1 w.heap.size a len cap zs (belowS len (newS zs len) 16) → ∀ C T M, M = w1.heap.size → C = (low3.map Value.string).toArray → Calls Tryd.prog 39 #[.pointer (some ⟨w.heap.size, 0, none⟩), .slice (some ⟨M, 0, none⟩) 3 3] (w1.alloc (.cells C T)) fun e w' => e = .returned (.string (low3.getD (pick zs len (belowS len (newS zs len) 16) 3) ByteArray.empty)) ∧ DC w' w.heap.size a len cap zs (belowS len (belowS len (newS zs len) 16) 3) ∧ w1.grownBy w' (some w.heap.size)) := fun w1 h C T M hM hC => strNew h low3 C T 3 M hM hC rfl (by decide) (by decide)
  generalize dText zs len = s2 at k2 HV HS2
  generalize low3.getD (pick zs len (belowS len (newS zs len) 16) 3) ByteArray.empty = s3 at k3 HV HS3
  go_enter Tryd.func18, Tryd.ntmps18
  go_wp2_with fail
  refine (newDC H.out cap).mono ?_
  rintro e w1 ⟨rfl, hd1, hb1⟩
  have H1 : Hid (DC w1 w.heap.size a len cap zs (newS zs len)) := hd1
  clear hd1
  go_wp2_with fail
  refine (HS2.out _ H1.out).mono ?_
  rintro e w3 ⟨rfl, hd3, hg3⟩
  have H3 : Hid (DC w3 w.heap.size a len cap zs (belowS len (newS zs len) 16)) := hd3
  clear hd3
  go_wp2_with fail
  refine (HS3.out _ H3.out _ _ _ rfl rfl).mono ?_
  rintro e w4 ⟨rfl, _, hg4⟩
  go_wp2
  go_ret
  exact ⟨by rw [HV.out]; rfl, dc_below hb1 (grown_trans hg3 hg4)⟩
end Go.Proofs.YtniejmemhmfemaaDoor
