/-
  The draws of the law FnKinds: texts and numbers, of the bytes alone.
-/
import Derived.Test.YtniejmemhmfemaaDoorDraw3
namespace Go.Proofs.YtniejmemhmfemaaDoor
open Go.RowKit M

/-- The bytes of a draw, in old memory. -/
structure CodeIn (w : World) (B : Nat) (a : Option Addr) (len : Nat) (zs : List Int) : Prop where
  code : CodeAt w a len zs
  bB : 0 < len → ∀ b off, a = some ⟨b, off, none⟩ → b < B
  hlen : len ≤ 1048576
  hB : B ≤ w.heap.size

theorem CodeIn.below {w w' : World} {B : Nat} {a : Option Addr} {len : Nat} {zs : List Int} (h : CodeIn w B a len zs) (hb : Below B w w') : CodeIn w' B a len zs := by
  refine ⟨⟨h.code.le, h.code.bd, fun h0 => ?_⟩, h.bB, h.hlen, Nat.le_trans h.hB hb.size⟩
  obtain ⟨b, off, rfl, hc⟩ := h.code.at0 h0
  refine ⟨b, off, rfl, fun j hj => ?_⟩
  exact (hb.cell (p := ⟨b, off + j, none⟩) (h.bB h0 b off rfl)).trans (hc j hj)

/-- A new cursor over them. -/
theorem newDC {w : World} {B : Nat} {a : Option Addr} {len : Nat} {zs : List Int} (h : CodeIn w B a len zs) (cap : Nat) :
    Calls Tryd.prog 36 #[.slice a len cap] w fun e w' => e = .returned (.pointer (some ⟨w.heap.size, 0, none⟩)) ∧ DC w' w.heap.size a len cap zs (newS zs len) ∧ Below w.heap.size w w' := by
  refine (l1New_any a len cap zs w h.code h.hlen).mono ?_
  rintro e w1 ⟨rfl, hc, hb, hs⟩
  have h1 := h.below (hb.mono h.hB)
  exact ⟨rfl, ⟨hc, h1.code, fun h0 b off e => Nat.lt_of_lt_of_le (h.bB h0 b off e) h.hB, h.hlen, by omega⟩, hb⟩

theorem dc_below {w w1 w2 : World} (hb : Below w.heap.size w w1) (hg : w1.grownBy w2 (some w.heap.size)) : Below w.heap.size w w2 :=
  hb.trans (grown_below hg (Nat.le_refl _) hb.size)

def dText (zs : List Int) (len : Nat) : ByteArray := textV zs len (newS zs len)
def dNum (zs : List Int) (len : Nat) : Int := numV zs len (newS zs len)

theorem getD_mem {α : Type} (l : List α) (i : Nat) (d : α) (p : α → Prop) (h : ∀ x ∈ l, p x) (hd : p d) : p (l.getD i d) := by
  rw [List.getD_eq_getElem?_getD]
  cases e : l[i]? with
  | none => exact hd
  | some x => exact h x (List.mem_of_getElem? e)

theorem textV_le (zs : List Int) (len : Nat) (c : St) : (textV zs len c).size ≤ 100 :=
  getD_mem textL _ _ (fun s => s.size ≤ 100) (by decide) (by decide)
theorem dText_le (zs : List Int) (len : Nat) : (dText zs len).size ≤ 100 := textV_le _ _ _
theorem numV_le (zs : List Int) (len : Nat) (c : St) : numV zs len c ≤ 9223372036854775807 := by
  have hb := belowV_bd zs len c 1000 (by decide)
  refine getD_mem (numL (belowV zs len c 1000)) _ _ (fun x => x ≤ 9223372036854775807) ?_ (by decide)
  intro x hx
  simp only [numL, List.mem_cons, List.not_mem_nil, or_false] at hx
  omega
theorem dNum_le (zs : List Int) (len : Nat) : dNum zs len ≤ 9223372036854775807 := numV_le _ _ _

set_option maxHeartbeats 400000 in
theorem drawPlain_any {w : World} {B : Nat} {a : Option Addr} {len : Nat} {zs : List Int} (h : CodeIn w B a len zs) (cap : Nat) :
    Calls Tryd.prog 21 #[.slice a len cap] w fun e w' => e = .returned (.string (dText zs len)) ∧ Below w.heap.size w w' := by
  have H : Hid (CodeIn w B a len zs) := h
  clear h
  go_enter Tryd.func21, Tryd.ntmps21
  go_wp2_with fail
  refine (newDC H.out cap).mono ?_
  rintro e w1 ⟨rfl, hd1, hb1⟩
  have H1 : Hid (DC w1 w.heap.size a len cap zs (newS zs len)) := hd1
  clear hd1
  go_wp2_with fail
  refine (l1Text_any H1.out).mono ?_
  rintro e w2 ⟨rfl, _, hg2⟩
  go_wp2
  go_ret
  exact ⟨rfl, dc_below hb1 hg2⟩

set_option maxHeartbeats 400000 in
theorem drawSmallName_any {w : World} {B : Nat} {a : Option Addr} {len : Nat} {zs : List Int} (h : CodeIn w B a len zs) (cap : Nat) :
    Calls Tryd.prog 22 #[.slice a len cap] w fun e w' => e = .returned (.string (dText zs len)) ∧ Below w.heap.size w w' := by
  have H : Hid (CodeIn w B a len zs) := h
  clear h
  go_enter Tryd.func22, Tryd.ntmps22
  go_wp2_with fail
  refine (newDC H.out cap).mono ?_
  rintro e w1 ⟨rfl, hd1, hb1⟩
  have H1 : Hid (DC w1 w.heap.size a len cap zs (newS zs len)) := hd1
  clear hd1
  go_wp2_with fail
  refine (l1Text_any H1.out).mono ?_
  rintro e w2 ⟨rfl, _, hg2⟩
  go_wp2
  go_ret
  exact ⟨rfl, dc_below hb1 hg2⟩

set_option maxHeartbeats 400000 in
theorem drawNumText_any {w : World} {B : Nat} {a : Option Addr} {len : Nat} {zs : List Int} (h : CodeIn w B a len zs) (cap : Nat) :
    Calls Tryd.prog 23 #[.slice a len cap] w fun e w' => e = .returned (.int .i64 (dNum zs len)) ∧ Below w.heap.size w w' := by
  have H : Hid (CodeIn w B a len zs) := h
  clear h
  go_enter Tryd.func23, Tryd.ntmps23
  go_wp2_with fail
  refine (newDC H.out cap).mono ?_
  rintro e w1 ⟨rfl, hd1, hb1⟩
  have H1 : Hid (DC w1 w.heap.size a len cap zs (newS zs len)) := hd1
  clear hd1
  go_wp2_with fail
  refine (l1Num_any H1.out).mono ?_
  rintro e w2 ⟨rfl, _, hg2⟩
  go_wp2
  go_ret
  exact ⟨rfl, dc_below hb1 hg2⟩

set_option maxHeartbeats 400000 in
theorem drawHex_any {w : World} {B : Nat} {a : Option Addr} {len : Nat} {zs : List Int} (h : CodeIn w B a len zs) (cap : Nat) :
    Calls Tryd.prog 24 #[.slice a len cap] w fun e w' => e = .returned (.int .i64 (dNum zs len)) ∧ Below w.heap.size w w' := by
  have H : Hid (CodeIn w B a len zs) := h
  clear h
  go_enter Tryd.func24, Tryd.ntmps24
  go_wp2_with fail
  refine (newDC H.out cap).mono ?_
  rintro e w1 ⟨rfl, hd1, hb1⟩
  have H1 : Hid (DC w1 w.heap.size a len cap zs (newS zs len)) := hd1
  clear hd1
  go_wp2_with fail
  refine (l1Num_any H1.out).mono ?_
  rintro e w2 ⟨rfl, _, hg2⟩
  go_wp2
  go_ret
  exact ⟨rfl, dc_below hb1 hg2⟩
end Go.Proofs.YtniejmemhmfemaaDoor
