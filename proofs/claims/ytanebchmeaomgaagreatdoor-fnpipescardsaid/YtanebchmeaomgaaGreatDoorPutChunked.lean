/-
  What the specification's and the program's PutChunked do.
-/
import Derived.Test.YtanebchmeaomgaaGreatDoorNumText
import Derived.Test.YtanebchmeaomgaaGreatDoorMathCutB
import Derived.Test.YtanebchmeaomgaaGreatDoorPutChunks
import Derived.Test.YtanebchmeaomgaaGreatDoorSpecPutC
import Derived.Test.YtanebchmeaomgaaGreatDoorMathResp
namespace Go.Proofs.YtanebchmeaomgaaGreatDoor
open Go.RowKit M
set_option linter.unusedVariables false

def chkW : ByteArray := ⟨#[99, 104, 117, 110, 107, 101, 100]⟩
def codLine : List UInt8 := hdsTxt [(codName, chkW)]
theorem codLine_eq : codLine = (⟨#[116, 114, 97, 110, 115, 102, 101, 114, 45, 101, 110, 99, 111, 100, 105, 110, 103, 58, 32, 99, 104, 117, 110, 107, 101, 100, 13, 10]⟩ : ByteArray).data.toList := by decide
/-- The bytes of a request in pieces. -/
def putKL (r : Rq) (ns : List Int) : List UInt8 := put0 r codLine (putCs ns r.b.data.toList)
theorem putCs_le (ns : List Int) (b : ByteArray) (h : b.size ≤ 1048576) : (putCs ns b.data.toList).length ≤ 33554432 := by
  have h1 := pcsTxt_len ns b.data.toList
  have e : b.data.toList.length = b.size := Array.length_toList
  unfold putCs
  rw [List.length_append, chTxt_nil]
  simp only [List.length_cons, List.length_nil]
  omega

set_option maxRecDepth 100000 in
set_option maxHeartbeats 4000000 in
theorem specPutChunkedO_any (a : Option Addr) (r : Rq) (cap B : Nat) (a2 : Option Addr) (ns : List Int) (cap2 : Nat) (w : World) (h : Hds w B a r.hs) (hB : B ≤ w.heap.size) (hI : Ints w w.heap.size a2 ns) (hsh : ShortR r) (hl : r.hs.length ≤ 1048576) (hsum : sumH r.hs ≤ 1048576) (h1 : r.m.size ≤ 1048576) (h2 : r.p.size ≤ 1048576) (h4 : r.b.size ≤ 1048576) (hnl : ns.length ≤ 1048576) :
    Calls Tryz.prog 21 #[.agg #[.string r.m, .string r.p, .slice a r.hs.length cap, .string r.b], .slice a2 ns.length cap2] w fun e w' => (∃ (g c : Nat), e = .returned (.slice (some ⟨g, 0, none⟩) (putKL r ns).length c) ∧ OwnY w' w.heap.size (.slice (some ⟨g, 0, none⟩) (putKL r ns).length c) (putKL r ns)) ∧ Below w.heap.size w w' := by
  have HB0 : Hid (Below w.heap.size w (w.alloc (Obj.cells #[Value.string r.m, Value.string r.p, Value.slice a r.hs.length cap, Value.string r.b] 39))) := (Below.refl _ _).alloc (Nat.le_refl _) _
  have HX0 := hide (BoxR.made w a cap r 39)
  have HH := hide h
  have HS := hide hsh
  have HI := hide hI
  clear h hsh hI
  obtain ⟨t, ht⟩ : ∃ t, bytesOf (putCs ns r.b.data.toList) = t := ⟨_, rfl⟩
  have hl2 : putCs ns r.b.data.toList = t.data.toList := by rw [← ht]; rfl
  have htz : t.size ≤ 33554432 := by
    have := putCs_le ns r.b h4
    rw [hl2] at this
    have e : t.data.toList.length = t.size := Array.length_toList
    omega
  have hT : ∀ W, Below w.heap.size w W → Calls Tryz.prog 58 #[.string r.b, .slice a2 ns.length cap2] W fun e w' => e = .returned (.string t) ∧ Below W.heap.size W w' := by
    intro W hW
    have h := l4Text_any r.b a2 ns cap2 w.heap.size W (HI.out.below hW (Nat.le_refl _)) hW.size h4 (by omega)
    rwa [ht] at h
  have HT := hide hT
  have hP : ∀ W, Below w.heap.size w W → Calls Tryz.prog 56 #[.agg #[.string r.m, .string r.p, .slice a r.hs.length cap, .string r.b], .string ⟨#[116, 114, 97, 110, 115, 102, 101, 114, 45, 101, 110, 99, 111, 100, 105, 110, 103, 58, 32, 99, 104, 117, 110, 107, 101, 100, 13, 10]⟩, .string t] W fun e w' => (∃ (g c : Nat), e = .returned (.slice (some ⟨g, 0, none⟩) (putKL r ns).length c) ∧ OwnY w' W.heap.size (.slice (some ⟨g, 0, none⟩) (putKL r ns).length c) (putKL r ns)) ∧ Below W.heap.size W w' := by
    intro W hW
    have h := l3PutO_any a r cap B ⟨#[116, 114, 97, 110, 115, 102, 101, 114, 45, 101, 110, 99, 111, 100, 105, 110, 103, 58, 32, 99, 104, 117, 110, 107, 101, 100, 13, 10]⟩ t W (HH.out.below hW hB) (Nat.le_trans hB hW.size) HS.out hl hsum h1 h2 (by decide) htz
    rw [← codLine_eq, ← hl2] at h
    exact h
  have HP := hide hP
  clear hP hT ht hl2
  have BX0d := hide HX0.out.drew
  have C0d := hide (below_drew HB0.out)
  have K0 := hide (keep4 BX0d.out)
  go_enter Tryz.func21, Tryz.ntmps21
  go_wp2
  go_region_held3 (fun W => W.cell? ⟨w.heap.size, 0, none⟩ = some (.string r.m) ∧ W.cell? ⟨w.heap.size, 1, none⟩ = some (.string r.p) ∧ W.cell? ⟨w.heap.size, 2, none⟩ = some (.slice a r.hs.length cap) ∧ W.cell? ⟨w.heap.size, 3, none⟩ = some (.string r.b)) (first | exact K0.out | exact K1.out | exact K2.out) (first
    | (go_at_call 58; refine (HT.out _ C0d.out).mono ?_; rintro e w1 ⟨rfl, b1⟩; have c1 := C0d.out.trans (b1.mono C0d.out.size); have BX1 := hide (BX0d.out.next b1); have K1 := hide (keep4 BX1.out))
    | (go_at_call 56; refine (HP.out w1 c1).mono ?_; rintro e w2 ⟨⟨g, c, rfl, y2⟩, b2⟩; have c2 := c1.trans (b2.mono c1.size); have BX2 := hide (BX1.out.next b2); have K2 := hide (keep4 BX2.out)))
  all_goals
    have o2 := y2.base c1.size
    clear y2
    go_wp2
    go_ret
    exact ⟨⟨g, c, rfl, o2⟩, c2⟩
theorem specPutChunked_any (a : Option Addr) (r : Rq) (cap B : Nat) (a2 : Option Addr) (ns : List Int) (cap2 : Nat) (w : World) (h : Hds w B a r.hs) (hB : B ≤ w.heap.size) (hI : Ints w w.heap.size a2 ns) (hsh : ShortR r) (hl : r.hs.length ≤ 1048576) (hsum : sumH r.hs ≤ 1048576) (h1 : r.m.size ≤ 1048576) (h2 : r.p.size ≤ 1048576) (h4 : r.b.size ≤ 1048576) (hnl : ns.length ≤ 1048576) :
    Calls Tryz.prog 21 #[.agg #[.string r.m, .string r.p, .slice a r.hs.length cap, .string r.b], .slice a2 ns.length cap2] w fun e w' => (∃ (g c : Nat), e = .returned (.slice (some ⟨g, 0, none⟩) (putKL r ns).length c) ∧ Byt w' w'.heap.size (some ⟨g, 0, none⟩) (putKL r ns)) ∧ Below w.heap.size w w' := by
  refine (specPutChunkedO_any a r cap B a2 ns cap2 w h hB hI hsh hl hsum h1 h2 h4 hnl).mono ?_
  rintro e w1 ⟨⟨g, c, rfl, ho⟩, hb⟩
  obtain ⟨g', c', e', _, _, _, _, hy⟩ := ho.byt
  cases e'
  exact ⟨⟨g, c, rfl, hy⟩, hb⟩

set_option maxRecDepth 100000 in
set_option maxHeartbeats 4000000 in
theorem putChunked_any (a : Option Addr) (r : Rq) (cap B : Nat) (a2 : Option Addr) (ns : List Int) (cap2 : Nat) (w : World) (h : Hds w B a r.hs) (hB : B ≤ w.heap.size) (hI : Ints w w.heap.size a2 ns) (hfit : FitR r) (hl : r.hs.length ≤ 1048576) (hsum : sumH r.hs ≤ 1048576) (h1 : r.m.size ≤ 1048576) (h2 : r.p.size ≤ 1048576) (h4 : r.b.size ≤ 1048576) (hnl : ns.length ≤ 1048576) (hde : DeTab w) :
    Calls Tryz.prog 19 #[.agg #[.string r.m, .string r.p, .slice a r.hs.length cap, .string r.b], .slice a2 ns.length cap2] w fun e w' => (∃ v, e = .returned v ∧ OwnY w' w.heap.size v (putKL r ns)) ∧ Below w.heap.size w w' := by
  have HB0 : Hid (Below w.heap.size w (w.alloc (Obj.cells #[Value.string r.m, Value.string r.p, Value.slice a r.hs.length cap, Value.string r.b] 39))) := (Below.refl _ _).alloc (Nat.le_refl _) _
  have HX0 := hide (BoxR.made w a cap r 39)
  have HH := hide h
  have HF := hide hfit
  have HI := hide hI
  have HDe := hide hde
  clear h hfit hI hde
  obtain ⟨w2, hw2⟩ : ∃ w2, w.alloc (Obj.cells #[Value.string r.m, Value.string r.p, Value.slice a r.hs.length cap, Value.string r.b] 39) = w2 := ⟨_, rfl⟩
  have c3 := HB0.out.alloc HB0.out.size (Obj.cells #[Value.string codName, Value.string chkW] 82)
  have BX3 := hide (HX0.out.alloc (Obj.cells #[Value.string codName, Value.string chkW] 82))
  rw [hw2] at c3 BX3
  have H3 := hide (HH.out.below c3 hB)
  have hH2 := hide ((Hds.one w2 codName chkW 82).mono (show w2.heap.size + 1 ≤ (w2.alloc (Obj.cells #[Value.string codName, Value.string chkW] 82)).heap.size by simp))
  have C3 := hide c3
  have hsz2 : w2.heap.size = w.heap.size + 1 := by rw [← hw2]; simp
  clear c3
  have hs2 : sumH [(codName, chkW)] ≤ 1048576 := by decide
  obtain ⟨L, hL⟩ : ∃ L, frontL r (hdsTxt [(codName, chkW)]) = L := ⟨_, rfl⟩
  have HLf : Hid (frontL r codLine = L) := hL
  cases hr : reqB r
  · have HE : Hid (putKL r ns = []) := by show putKL r ns = []; simp [putKL, put0, hr]
    have HP := hide (putAhead_no a r cap B (some ⟨w2.heap.size, 0, none⟩) 1 1 _ H3.out (Nat.le_trans hB C3.out.size) HF.out hr)
    rw [hsz2] at HP
    rw [← hw2] at HP C3
    go_enter Tryz.func19, Tryz.ntmps19
    clear hw2 hsz2
    go_wp2_with fail
    refine HP.out.mono ?_
    rintro e w1 ⟨rfl, b1⟩
    have c1 := C3.out.trans (b1.mono C3.out.size)
    clear HP
    go_wp2
    go_ret
    rw [HE.out]
    exact ⟨⟨_, rfl, (OwnY.bare w1).base c1.size⟩, c1.alloc c1.size _⟩
  · have HP := hide (putAhead_yes a r cap B (some ⟨w2.heap.size, 0, none⟩) [(codName, chkW)] 1 _ H3.out (Nat.le_trans hB C3.out.size) hH2.out HF.out hl hsum (by simp) hs2 h1 h2 hr)
    rw [hL] at HP
    rw [hsz2] at HP
    rw [← hw2] at HP C3 BX3
    clear hw2 hsz2 hL H3 hH2
    go_enter Tryz.func19, Tryz.ntmps19
    go_wp2_with fail
    refine HP.out.mono ?_
    rintro e w1 ⟨⟨v1, rfl, o1, z1⟩, b1⟩
    have c1 := C3.out.trans (b1.mono C3.out.size)
    have O1 := hide (o1.base C3.out.size)
    have BX1 := hide (BX3.out.next b1)
    obtain ⟨xl, x10, x11, x12, x13⟩ := BX1.out
    clear o1 b1 HP C3 BX3
    by_cases h400 : L.length ≤ 400
    · have HE : Hid (putKL r ns = L ++ putCs ns r.b.data.toList) := by
        show putKL r ns = _
        unfold putKL put0
        rw [HLf.out, if_pos ⟨hr, h400⟩]
      have hcl := putCs_le ns r.b h4
      have HC := hide (putChunks_any r.b a2 ns cap2 w.heap.size w1 (HI.out.below c1 (Nat.le_refl _)) c1.size h4 (by omega) (HDe.out.below c1))
      obtain ⟨m, hm⟩ : ∃ m, putCs ns r.b.data.toList = m := ⟨_, rfl⟩
      rw [hm] at HC HE hcl
      clear hm
      rw [decide_eq_true h400]
      go_wp2_with fail
      refine HC.out.mono ?_
      rintro e w3 ⟨⟨v3, rfl, o3⟩, b3⟩
      have c3 := c1.trans (b3.mono c1.size)
      have O3 := hide (O1.out.next b3)
      obtain ⟨g3, k3, hv3, hg3, hl3, _, _, y3⟩ := o3.byt
      subst hv3
      have hcell : ∀ j (hj : j < m.length), w3.cell? ⟨g3, j, none⟩ = some (.int .u8 m[j].toNat) := by
        intro j hj
        obtain ⟨b', o', e, _, hcc⟩ := y3 (by omega)
        cases e
        have := hcc j hj
        rwa [Nat.zero_add] at this
      have HCell := hide hcell
      clear HC o3 b3 y3 O1 hcell x10 x11 x12 x13
      go_wp2_with (at_builtin; refine wp_append_byts rfl _ _ rfl w.heap.size v1 L rfl O3.out g3 m k3 rfl HCell.out ?c1 ?c2 ?_)
      case c1 => omega
      case c2 => exact c3.size
      intro v5 w5 ho5 hg5 hb5
      have c5 := c3.trans (O3.out.grown c3.size hg5)
      have HO5 := hide ho5
      clear ho5 hg5 hb5
      go_wp2
      go_ret
      rw [HE.out]
      exact ⟨⟨_, rfl, HO5.out⟩, c5⟩
    · have HE : Hid (putKL r ns = []) := by
        show putKL r ns = _
        unfold putKL put0
        rw [HLf.out, if_neg (fun h => h400 h.2)]
      rw [decide_eq_false h400]
      go_wp2
      go_ret
      rw [HE.out]
      exact ⟨⟨_, rfl, (OwnY.bare w1).base c1.size⟩, c1.alloc c1.size _⟩
end Go.Proofs.YtanebchmeaomgaaGreatDoor
