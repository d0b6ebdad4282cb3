/-
  The walk of the law FnChunks: for every code it returns true, and turns nothing that was there.
-/
import Derived.Test.YtcgmokjnjmefpaaGreatDoorParseBase
import Derived.Test.YtcgmokjnjmefpaaGreatDoorGetChunks
import Derived.Test.YtcgmokjnjmefpaaGreatDoorPutChunks
import Derived.Test.YtcgmokjnjmefpaaGreatDoorPutChunked
import Derived.Test.YtcgmokjnjmefpaaGreatDoorLower
import Derived.Test.YtcgmokjnjmefpaaGreatDoorGetReq
import Derived.Test.YtcgmokjnjmefpaaGreatDoorIsRow
import Derived.Test.YtcgmokjnjmefpaaGreatDoorMathCut
import Derived.Deep.RegionHeld3
namespace Go.Proofs.YtcgmokjnjmefpaaGreatDoor
open Go.RowKit M
set_option linter.unusedVariables false

theorem Hds.nextC {w w' : World} {a : Option Addr} {hs : List Hd} (h : Hds w w.heap.size a hs) (hb : Below w.heap.size w w') : Hds w' w'.heap.size a hs := (h.below hb (Nat.le_refl _)).mono hb.size
theorem Byt.nextC {w w' : World} {a : Option Addr} {l : List UInt8} (h : Byt w w.heap.size a l) (hb : Below w.heap.size w w') : Byt w' w'.heap.size a l := (h.below hb (Nat.le_refl _)).mono hb.size
theorem Ints.nextC {w w' : World} {a : Option Addr} {l : List Int} (h : Ints w w.heap.size a l) (hb : Below w.heap.size w w') : Ints w' w'.heap.size a l := (h.below hb (Nat.le_refl _)).mono hb.size
theorem SmallR.fitC {r : Rq} (h : SmallR r) : FitR r := by
  obtain ⟨h1, h2, h3, h4⟩ := h
  have := h1.1
  exact ⟨⟨by unfold maxLen; omega, by unfold maxLen; omega, by unfold maxLen; omega, by unfold maxLen; omega, h1.short⟩, fun x hx => by have := (h1.2 x hx).2; omega⟩
theorem belowG {w w' : World} {g C : Nat} (h : w.grownBy w' (some g)) (hC : C ≤ g) (hz : C ≤ w.heap.size) : Below C w w' :=
  ⟨h.os, h.tape, h.output, h.size, fun k hk => h.block k (by omega) (fun e => by have := Option.some.inj e; omega)⟩
theorem chunksC_0 (l : List UInt8) : chunksC l 0 = getC 201 l 0 [] := by
  unfold chunksC
  rw [if_pos ⟨by omega, by omega⟩]
  rfl
theorem chunks_whole (ns : List Int) (b : List UInt8) (hb : b.length ≤ 200) : chunksC (putCs ns b) 0 = (b, (putCs ns b).length, 0) := by
  have h := chunks_back [] [] ns b hb
  rw [List.nil_append, List.append_nil, List.length_nil, Nat.zero_add] at h
  exact h
theorem chunks_less (ns : List Int) (b : List UInt8) (hb : b.length ≤ 200) (j : Nat) (hj : j < (putCs ns b).length) : (chunksC ((putCs ns b).take j) 0).2.2 = 1 := by
  have hA := chunks_whole ns b hb
  generalize putCs ns b = L at hA hj
  rw [chunksC_0] at hA ⊢
  apply Classical.byContradiction
  intro h
  have h2 := getC_stay 201 0 [] h
  rw [hA] at h2
  have h3 := (getC_size (l := L.take j) 201 0 [] (by rw [← h2])).1
  rw [← h2, List.length_take] at h3
  have h4 : L.length ≤ min j L.length := h3
  omega
theorem putKL_back {r : Rq} {ns : List Int} (h : putKL r ns ≠ []) : getR (putKL r ns) = (r, (putKL r ns).length, 0) := by
  have h2 := (putC_back (r := r) (ns := ns) h []).2
  rw [List.append_nil] at h2
  exact h2
theorem putKL_few (r : Rq) (ns : List Int) : (putKL r ns).length ≤ 405 + 21 * r.b.size := by
  have h1 := put0_few r codLine (putCs ns r.b.data.toList)
  have h2 := putCs_len21 ns r.b
  unfold putKL
  omega

/-- What stands in the course of the law: a request in its box, a list of sizes, a row of bytes. -/
structure FrC (w : World) (N1 : Nat) (a1 : Option Addr) (c1 : Nat) (r : Rq) (ai : Option Addr) (ns : List Int) (gp : Nat) (lp : List UInt8) (W : World) : Prop where
  b1 : BoxR W N1 a1 c1 r
  h1 : Hds W W.heap.size a1 r.hs
  i : Ints W W.heap.size ai ns
  yb : Byt W W.heap.size (some ⟨gp, 0, none⟩) lp
  cw : Below w.heap.size w W
section
variable {w : World} {N1 : Nat} {a1 : Option Addr} {c1 : Nat} {r : Rq} {ai : Option Addr} {ns : List Int} {gp : Nat} {lp : List UInt8} {W W' : World}
theorem FrC.next (h : FrC w N1 a1 c1 r ai ns gp lp W) (hb : Below W.heap.size W W') : FrC w N1 a1 c1 r ai ns gp lp W' :=
  ⟨h.b1.next hb, h.h1.nextC hb, h.i.nextC hb, h.yb.nextC hb, h.cw.trans (hb.mono h.cw.size)⟩
theorem FrC.keep (h : FrC w N1 a1 c1 r ai ns gp lp W) (n cp : Nat) (hn : lp.length = n) : (convert 22 9 (.slice (some ⟨gp, 0, none⟩) n cp)).run Tryz.prog W = .ok (.string ⟨lp.toArray⟩) W ∧ W.cell? ⟨N1, 0, none⟩ = some (.string r.m) ∧ W.cell? ⟨N1, 1, none⟩ = some (.string r.p) ∧ W.cell? ⟨N1, 2, none⟩ = some (.slice a1 r.hs.length c1) ∧ W.cell? ⟨N1, 3, none⟩ = some (.string r.b) :=
  ⟨conv_byt h.yb n cp hn, h.b1.2.1, h.b1.2.2.1, h.b1.2.2.2.1, h.b1.2.2.2.2⟩
theorem FrC.keep2 (h : FrC w N1 a1 c1 r ai ns gp lp W) (n cp : Nat) (hn : lp.length = n) {N2 : Nat} {a2 : Option Addr} {c2 : Nat} {y : Rq} (h2 : BoxR W N2 a2 c2 y) : (convert 22 9 (.slice (some ⟨gp, 0, none⟩) n cp)).run Tryz.prog W = .ok (.string ⟨lp.toArray⟩) W ∧ W.cell? ⟨N1, 0, none⟩ = some (.string r.m) ∧ W.cell? ⟨N1, 1, none⟩ = some (.string r.p) ∧ W.cell? ⟨N1, 2, none⟩ = some (.slice a1 r.hs.length c1) ∧ W.cell? ⟨N1, 3, none⟩ = some (.string r.b) ∧ W.cell? ⟨N2, 0, none⟩ = some (.string y.m) ∧ W.cell? ⟨N2, 1, none⟩ = some (.string y.p) ∧ W.cell? ⟨N2, 2, none⟩ = some (.slice a2 y.hs.length c2) ∧ W.cell? ⟨N2, 3, none⟩ = some (.string y.b) :=
  ⟨conv_byt h.yb n cp hn, h.b1.2.1, h.b1.2.2.1, h.b1.2.2.2.1, h.b1.2.2.2.2, h2.2.1, h2.2.2.1, h2.2.2.2.1, h2.2.2.2.2⟩
end

set_option maxRecDepth 100000 in
set_option maxHeartbeats 8000000 in
theorem FnChunks_walk (a : Option Addr) (len cap : Nat) (zs : List Int) (w : World) (hr : IsRow .u8 w a len cap zs) (hL : laidMet Tryz.prog Rows.fnChunksRow.laid w) (mx : Int) (hmx : w.cell? ⟨0, 0, none⟩ = some (.int .i64 mx)) :
    Calls Tryz.prog 3 #[.slice a len cap] w fun e w' => e = .returned (.bool true) ∧ Below w.heap.size w w' := by
  have hml := row_len hr
  by_cases hb : (1048576 : Int) < (len : Int)
  · clear hr hL hmx
    go_enter Tryz.func3, Tryz.ntmps3
    go_wp2_with (go_at_call 7; refine (big_any a len cap _ hml).mono ?_; rintro e w1 ⟨rfl, hw⟩; obtain rfl := hw.symm; rw [decide_eq_true hb])
    go_ret
    exact ⟨rfl, Below.refl _ _⟩
  · have HC : Hid (CodeIn w w.heap.size a len zs) := code_of_row hr (by omega)
    have h0 : 0 < w.heap.size := World.block_lt_of_cell? w _ hmx
    have hde : DeTab w := deTab_of hL.tail
    have HPut := hide (fun (s : ByteArray) (a : Option Addr) (ns : List Int) (c : Nat) (W : World) (hI : Ints W W.heap.size a ns) (hc : Below w.heap.size w W) (hs : s.size ≤ 1048576) (hn : ns.length ≤ 1073741824) => putChunks_any s a ns c W.heap.size W hI (Nat.le_refl _) hs hn (hde.below hc))
    have HPutK := hide (fun (a : Option Addr) (r : Rq) (c : Nat) (a2 : Option Addr) (ns : List Int) (c2 : Nat) (W : World) (hd : Hds W W.heap.size a r.hs) (hI : Ints W W.heap.size a2 ns) (hc : Below w.heap.size w W) (hf : FitR r) (q1 : r.hs.length ≤ 1048576) (q2 : sumH r.hs ≤ 1048576) (q3 : r.m.size ≤ 1048576) (q4 : r.p.size ≤ 1048576) (q5 : r.b.size ≤ 1048576) (q6 : ns.length ≤ 1048576) => putChunked_any a r c W.heap.size a2 ns c2 W hd (Nat.le_refl _) hI hf q1 q2 q3 q4 q5 q6 (hde.below hc))
    have HGet := hide (fun (g c : Nat) (l : List UInt8) (W : World) (h : Byt W W.heap.size (some ⟨g, 0, none⟩) l) (hc : Below w.heap.size w W) (hl : l.length ≤ 10000) (hlc : l.length ≤ c) (hcm : c ≤ maxLen) => getReq_any g 0 l c mx W h (by omega) hlc hcm (Nat.lt_of_lt_of_le h0 hc.size) ((hc.cell (p := ⟨0, 0, none⟩) h0).trans hmx))
    have hk255 := atN_le HC.out 2
    have HAt := hide (fun (W : World) (hc : Below w.heap.size w W) => at_is (HC.out.below hc) cap 2 (by decide))
    obtain ⟨k, hk⟩ : ∃ k, atN len zs 2 = k := ⟨_, rfl⟩
    rw [hk] at HAt hk255
    clear hr hL hmx h0 hde hk
    go_enter Tryz.func3, Tryz.ntmps3
    go_wp2_with (go_at_call 7; refine (big_any a len cap _ hml).mono ?_; rintro e w1 ⟨rfl, hw⟩; obtain rfl := hw.symm; rw [decide_eq_false hb])
    refine (drawPutChunks_any HC.out (Nat.le_refl _) cap).mono ?_
    rintro e w1 ⟨⟨s, v, rfl, hs, hv⟩, b1⟩
    obtain ⟨ns, ai, ci, hns, rfl, hI, _⟩ := hv
    have I1 := hide hI
    have C1 := hide b1
    clear hI b1
    go_wp2_with fail
    refine (HPut.out s ai ns ci w1 I1.out C1.out (by omega) (by omega)).mono ?_
    rintro e w2 ⟨⟨v, rfl, o2⟩, b2⟩
    obtain ⟨gb, cb, rfl, o2'⟩ := o2.slice
    have hsl : s.data.toList.length = s.size := Array.length_toList
    have hW := chunks_whole ns s.data.toList (by omega)
    have hLess := chunks_less ns s.data.toList (by omega)
    have hlen := putCs_len21 ns s
    obtain ⟨lb, hlb⟩ : ∃ lb, putCs ns s.data.toList = lb := ⟨_, rfl⟩
    rw [hlb] at o2' hW hLess hlen
    rw [hlb]
    have hbd := o2'.bd
    have hcb := hbd.2.1
    have hcm := hbd.2.2.1
    have hgb1 := hbd.2.2.2.1
    have HG1 : Hid (∀ W, Byt W W.heap.size (some ⟨gb, 0, none⟩) lb → Calls Tryz.prog 10 #[.slice (some ⟨gb, 0, none⟩) lb.length cb, .int .i64 0] W fun e w' => e = .returned (.tuple #[.string s, .int .i64 lb.length, .int .i64 0]) ∧ Below W.heap.size W w') := fun W h => by
      have := getChunks_any (some ⟨gb, 0, none⟩) lb cb 0 W h (by omega) hcb hcm
      rw [hW] at this
      exact this
    obtain ⟨j, hj⟩ : ∃ j, j = k % (lb.length + 1) := ⟨_, rfl⟩
    have hjl : j ≤ lb.length := by have := Nat.mod_lt k (show 0 < lb.length + 1 by omega); omega
    have HG2 : Hid (∀ W, Byt W W.heap.size (some ⟨gb, 0, none⟩) lb → Calls Tryz.prog 10 #[.slice (some ⟨gb, 0, none⟩) j cb, .int .i64 0] W fun e w' => (∃ (x2 : ByteArray) (n2 : Nat) (s2 : Int), e = .returned (.tuple #[.string x2, .int .i64 n2, .int .i64 s2]) ∧ (j < lb.length → s2 = 1)) ∧ Below W.heap.size W w') := fun W h => by
      have ht : (lb.take j).length = j := by rw [List.length_take]; omega
      have := getChunks_any (some ⟨gb, 0, none⟩) (lb.take j) cb 0 W (h.take j) (by omega) (by omega) hcm
      rw [ht] at this
      refine this.mono ?_
      rintro e w' ⟨rfl, hbb⟩
      exact ⟨⟨_, _, _, rfl, hLess j⟩, hbb⟩
    have hjm : (k : Int).tmod ((lb.length : Int) + 1) = (j : Int) := by rw [Int.tmod_eq_emod_of_nonneg (by omega), hj, Int.natCast_emod, Int.natCast_add]; rfl
    have HJ := hide hjm
    have hjc : (j : Int) ≤ (cb : Int) := by omega
    have O2 := hide o2'
    have C2 := hide (C1.out.trans (b2.mono C1.out.size))
    have hgbw : w.heap.size ≤ gb := Nat.le_trans C1.out.size hgb1
    clear o2 o2' b2 hbd hsl hW hLess hlb HPut I1 hj hjm
    go_wp2_with fail
    refine (HG1.out w2 (O2.out.bytAt O2.out.bd.2.2.2.2)).mono ?_
    rintro e w3 ⟨rfl, b3⟩
    have O3 := hide (O2.out.next b3)
    have C3 := hide (C2.out.trans (b3.mono C2.out.size))
    clear b3 O2 C2 HG1
    go_wp2_with fail
    refine (HAt.out w3 C3.out).mono ?_
    rintro e w4 ⟨rfl, hw4⟩
    obtain rfl := hw4.symm
    clear hw4
    obtain ⟨n1, hn1⟩ : ∃ n1, n1 = lb.length + 1 := ⟨_, rfl⟩
    have HN1 := hide hn1
    have hr1 : (k : Int).tmod (n1 : Int) = (j : Int) := by rw [HN1.out, Int.natCast_add]; exact HJ.out
    have hn0 : ¬ ((n1 : Int) = 0) := by omega
    have hn0' : ((n1 : Int) == 0) = false := beq_eq_false_iff_ne.2 hn0
    have hz1 : w1.heap.size ≤ w3.heap.size := by have := O3.out.bd; omega
    clear hn1
    go_wp2_with (at_builtin; refine wp_append_keep rfl _ _ rfl w1.heap.size gb cb lb rfl (O3.out.alloc _) w3.heap.size [0] 1 rfl (fun j hj => ?_) (by simp; omega) (by simp; omega) n1 HN1.out ?_)
    · match j, hj with
      | 0, _ => simp
      | j + 1, hj => exact absurd hj (by simp)
    · intro g8 c8 w8 o8 gr8
      have O8 := hide o8
      have hgb8 := o8.bd.2.2.2.2
      have C8 := hide ((C3.out.alloc C3.out.size _).trans (belowG gr8 hgbw (by have := C3.out.size; simp; omega)))
      clear o8 gr8 O3 C3 hz1
      go_wp2_with fail
      refine (HG2.out w8 (O8.out.bytAt hgb8)).mono ?_
      rintro e w9 ⟨⟨x2, n2, s2, rfl, hs2⟩, b9⟩
      have HS2 := hide hs2
      have C9 := hide (C8.out.trans (b9.mono C8.out.size))
      clear b9 C8 O8 HG2 hs2 hr1 hn0 hn0' HN1
      go_wp2_with fail
      refine (drawGetChunks_any (HC.out.below C9.out) C9.out.size cap).mono ?_
      rintro e w10 ⟨⟨v, i, rfl, lc, hlc, o10⟩, b10⟩
      obtain ⟨gc, cc, rfl, _, _, hcc, hccm, y10⟩ := o10.byt
      have Y10 := hide y10
      have C10 := hide (C9.out.trans (b10.mono C9.out.size))
      clear o10 y10 b10 C9
      have HGc := hide (fun (W : World) (h : Byt W W.heap.size (some ⟨gc, 0, none⟩) lc) => getChunks_any (some ⟨gc, 0, none⟩) lc cc i W h (by omega) hcc hccm)
      have HGs := hide (fun (W : World) (h : Byt W W.heap.size (some ⟨gc, 0, none⟩) lc) => specGetChunks_any (some ⟨gc, 0, none⟩) lc cc W.heap.size i W h (by omega) hcc hccm)
      obtain ⟨y, m, t, hY⟩ : ∃ y m t, chunksC lc i = (y, m, t) := ⟨_, _, _, rfl⟩
      rw [hY] at HGc HGs
      obtain ⟨ys, hys⟩ : ∃ ys : ByteArray, ⟨y.toArray⟩ = ys := ⟨_, rfl⟩
      have HGc' : Hid (∀ W, Byt W W.heap.size (some ⟨gc, 0, none⟩) lc → Calls Tryz.prog 10 #[.slice (some ⟨gc, 0, none⟩) lc.length cc, .int .i64 i] W fun e w' => e = .returned (.tuple #[.string ys, .int .i64 m, .int .i64 t]) ∧ Below W.heap.size W w') := by rw [← hys]; exact HGc.out
      have HGs' : Hid (∀ W, Byt W W.heap.size (some ⟨gc, 0, none⟩) lc → Calls Tryz.prog 13 #[.slice (some ⟨gc, 0, none⟩) lc.length cc, .int .i64 i] W fun e w' => e = .returned (.tuple #[.string ys, .int .i64 m, .int .i64 t]) ∧ ∀ D, Below D W w') := by rw [← hys]; exact HGs.out
      clear HGc HGs hY hys
      go_wp2_with fail
      refine (HGc'.out w10 Y10.out).mono ?_
      rintro e w11 ⟨rfl, b11⟩
      have Y11 := hide (Y10.out.nextC b11)
      have C11 := hide (C10.out.trans (b11.mono C10.out.size))
      clear b11 Y10 C10 HGc'
      go_wp2_with fail
      refine (HGs'.out w11 Y11.out).mono ?_
      rintro e w12 ⟨rfl, b12⟩
      have C12 := hide (C11.out.trans (b12 _))
      clear b12 Y11 C11 HGs'
      go_wp2_with fail
      refine (drawPutChunked_any (HC.out.below C12.out) C12.out.size cap).mono ?_
      rintro e w13 ⟨⟨v, u, rfl, ⟨r, g1, c1, hs1, rfl, hh1⟩, ⟨ks, ak, ck, hks, rfl, hIk, _⟩⟩, b13⟩
      have bal : Below w13.heap.size w13 (w13.alloc (Obj.cells #[Value.string r.m, Value.string r.p, Value.slice (some ⟨g1, 0, none⟩) r.hs.length c1, Value.string r.b] 35)) := (Below.refl _ _).alloc (Nat.le_refl _) _
      have BR := hide (BoxR.made w13 (some ⟨g1, 0, none⟩) c1 r 35)
      have HR := hide (Hds.nextC hh1 bal)
      have IK := hide (Ints.nextC hIk bal)
      have C13 := hide (C12.out.trans ((b13.trans (bal.mono b13.size)).mono C12.out.size))
      have hsum1 := hs1.1.sumR
      have hlen1 := hs1.1.1
      obtain ⟨hm1, hp1, hbz1⟩ := hs1.2
      have F1 := hide hs1.fitC
      obtain ⟨N1, hN1⟩ : ∃ N1, w13.heap.size = N1 := ⟨_, rfl⟩
      obtain ⟨w1b, hw1b⟩ : ∃ w1b, w13.alloc (Obj.cells #[Value.string r.m, Value.string r.p, Value.slice (some ⟨g1, 0, none⟩) r.hs.length c1, Value.string r.b] 35) = w1b := ⟨_, rfl⟩
      rw [hw1b] at bal BR HR IK C13
      rw [hN1] at BR
      clear hh1 hs1 b13 bal hIk C12
      obtain ⟨_, x0, x1, x2', x3⟩ := BR.out
      go_wp2_with fail
      refine (HPutK.out (some ⟨g1, 0, none⟩) r c1 ak ks ck w1b HR.out IK.out C13.out F1.out (by omega) (by omega) (by omega) (by omega) (by omega) (by omega)).mono ?_
      rintro e w14 ⟨⟨v, rfl, o14⟩, b14⟩
      obtain ⟨gp, cp, rfl, _, _, hlp, hcp, y14⟩ := o14.byt
      have hfew := putKL_few r ks
      have hHB : putKL r ks ≠ [] → getR (putKL r ks) = (r, (putKL r ks).length, 0) := fun h => putKL_back h
      have HSp := hide (fun (W : World) (hd : Hds W W.heap.size (some ⟨g1, 0, none⟩) r.hs) (hI : Ints W W.heap.size ak ks) => specPutChunked_any (some ⟨g1, 0, none⟩) r c1 W.heap.size ak ks ck W hd (Nat.le_refl _) hI F1.out.1 (by omega) (by omega) (by omega) (by omega) (by omega) (by omega))
      obtain ⟨lp, hlpE⟩ : ∃ lp, putKL r ks = lp := ⟨_, rfl⟩
      rw [hlpE] at hlp y14 hfew hHB HSp
      rw [hlpE]
      have FR14 := hide (FrC.mk (w := w) (BR.out.next b14) (HR.out.nextC b14) (IK.out.nextC b14) y14 (C13.out.trans (b14.mono C13.out.size)))
      obtain ⟨np, hnp⟩ : ∃ np, lp.length = np := ⟨_, rfl⟩
      have HNP := hide hnp
      have HHB := hide hHB
      have hnp0 : lp.length ≤ 10000 := by omega
      have hlpc := hlp
      have HGp := hide (fun (W : World) (h : Byt W W.heap.size (some ⟨gp, 0, none⟩) lp) (hc : Below w.heap.size w W) => HGet.out gp cp lp W h hc hnp0 hlpc hcp)
      rw [hnp] at HGp HSp HHB
      rw [hnp]
      clear x0 x1 x2' x3 BR HR IK C13 o14 y14 b14 hlpE HGet hHB HPutK hnp hlpc hnp0 hfew hlp
      clear hN1 hw1b
      have hw1 : IntKind.i64.wrap ((lb.length : Int) + 1) = (lb.length : Int) + 1 := by rw [IntKind.wrap_i64]; omega
      by_cases hp0 : np = 0
      · subst hp0
        obtain ⟨y, P, C, hG⟩ : ∃ y P C, getR lp = (y, P, C) := ⟨_, _, _, rfl⟩
        clear HHB
        go_wp2_with fail
        refine (HGp.out w14 FR14.out.yb FR14.out.cw).mono ?_
        rw [hG]
        rintro e w15 ⟨⟨hv15, rfl, r15⟩, b15⟩
        obtain ⟨a2, c2, rfl, d15⟩ := RowsH.hds r15
        have bal : Below w15.heap.size w15 (w15.alloc (Obj.cells #[Value.string y.m, Value.string y.p, Value.slice a2 y.hs.length c2, Value.string y.b] 35)) := (Below.refl _ _).alloc (Nat.le_refl _) _
        have b15' := b15.trans (bal.mono b15.size)
        have FR15 := hide ((FR14.out.next b15').next (Below.refl _ _).drew)
        obtain ⟨N2, hN2⟩ : ∃ N2, w15.heap.size = N2 := ⟨_, rfl⟩
        obtain ⟨w16, hw16⟩ : ∃ w16, w15.alloc (Obj.cells #[Value.string y.m, Value.string y.p, Value.slice a2 y.hs.length c2, Value.string y.b] 35) = w16 := ⟨_, rfl⟩
        rw [hw16] at FR15
        clear b15 b15' bal r15 d15 FR14 hG HGp
        go_wp2_with fail
        clear hw16 hN2
        have K15 := hide (FR15.out.keep 0 cp HNP.out)
        refine wp_region_held_drew (S := (fun W => (convert 22 9 (.slice (some ⟨gp, 0, none⟩) 0 cp)).run Tryz.prog W = .ok (.string ⟨lp.toArray⟩) W ∧ W.cell? ⟨N1, 0, none⟩ = some (.string r.m) ∧ W.cell? ⟨N1, 1, none⟩ = some (.string r.p) ∧ W.cell? ⟨N1, 2, none⟩ = some (.slice (some ⟨g1, 0, none⟩) r.hs.length c1) ∧ W.cell? ⟨N1, 3, none⟩ = some (.string r.b))) (by kernel_rfl) K15.out (fun hHeld => ?_)
        simp only [List.size_toArray, List.length_cons, List.length_nil, Nat.reduceAdd, Array.replicate_succ, Array.replicate_zero, List.push_toArray, List.nil_append, List.cons_append]
        refine wpAnyH_take (i := 0) (v := ?_) rfl (by kernel_rfl) (by kernel_rfl) (by kernel_rfl) (fun _ _ _ h => h) (Or.inl ⟨by rfl, ?_⟩) (by assumption) ?_
        rotate_left
        · intro w hSw; (try dsimp only at hSw); go_simp; try with_reducible rfl
        simp only [Act.put, List.getElem_toArray, List.getElem_cons_zero, List.setIfInBounds_toArray, List.set_cons_succ, List.set_cons_zero]
        refine wpAnyH_take (i := 1) (v := ?_) rfl (by kernel_rfl) (by kernel_rfl) (by kernel_rfl) (fun _ _ _ h => h) (Or.inl ⟨by rfl, ?_⟩) (by assumption) ?_
        rotate_left
        · intro w hSw; (try dsimp only at hSw); go_simp; try with_reducible rfl
        simp only [Act.put, List.getElem_toArray, List.getElem_cons_succ, List.getElem_cons_zero, List.setIfInBounds_toArray, List.set_cons_succ, List.set_cons_zero]
        refine wpAnyH_take (i := 2) (v := ?_) rfl (by kernel_rfl) (by kernel_rfl) (by kernel_rfl) (fun _ _ _ h => h) (Or.inl ⟨by rfl, ?_⟩) (by assumption) ?_
        rotate_left
        · intro w hSw; (try dsimp only at hSw); go_simp; try with_reducible rfl
        simp only [Act.put, List.getElem_toArray, List.getElem_cons_succ, List.getElem_cons_zero, List.setIfInBounds_toArray, List.set_cons_succ, List.set_cons_zero]
        refine wpAnyH_take (i := 3) (v := ?_) rfl (by kernel_rfl) (by kernel_rfl) (by kernel_rfl) (fun _ _ _ h => h) (Or.inl ⟨by rfl, ?_⟩) (by assumption) ?_
        rotate_left
        · intro w hSw; (try dsimp only at hSw); go_simp; try with_reducible rfl
        simp only [Act.put, List.getElem_toArray, List.getElem_cons_succ, List.getElem_cons_zero, List.setIfInBounds_toArray, List.set_cons_succ, List.set_cons_zero]
        refine wpAnyH_take (i := 4) (v := undef) rfl (by kernel_rfl) (by kernel_rfl) (by kernel_rfl) (fun _ _ _ h => h) (Or.inr ⟨by rfl, rfl⟩) (by assumption) ?_
        simp only [Act.put, List.getElem_toArray, List.getElem_cons_succ, List.getElem_cons_zero, List.setIfInBounds_toArray, List.set_cons_succ, List.set_cons_zero]
        refine wpAnyH_take (i := 5) (v := undef) rfl (by kernel_rfl) (by kernel_rfl) (by kernel_rfl) (fun _ _ _ h => h) (Or.inr ⟨by rfl, rfl⟩) (by assumption) ?_
        simp only [Act.put, List.getElem_toArray, List.getElem_cons_succ, List.getElem_cons_zero, List.setIfInBounds_toArray, List.set_cons_succ, List.set_cons_zero]
        refine wpAnyH_take (i := 6) (v := undef) rfl (by kernel_rfl) (by kernel_rfl) (by kernel_rfl) (fun _ _ _ h => h) (Or.inr ⟨by rfl, rfl⟩) (by assumption) ?_
        simp only [Act.put, List.getElem_toArray, List.getElem_cons_succ, List.getElem_cons_zero, List.setIfInBounds_toArray, List.set_cons_succ, List.set_cons_zero]
        refine wpAnyH_take (i := 7) (v := undef) rfl (by kernel_rfl) (by kernel_rfl) (by kernel_rfl) (fun _ _ _ h => h) (Or.inr ⟨by rfl, rfl⟩) (by assumption) ?_
        simp only [Act.put, List.getElem_toArray, List.getElem_cons_succ, List.getElem_cons_zero, List.setIfInBounds_toArray, List.set_cons_succ, List.set_cons_zero]
        refine wpAnyH_take (i := 8) (v := undef) rfl (by kernel_rfl) (by kernel_rfl) (by kernel_rfl) (fun _ _ _ h => h) (Or.inr ⟨by rfl, rfl⟩) (by assumption) ?_
        simp only [Act.put, List.getElem_toArray, List.getElem_cons_succ, List.getElem_cons_zero, List.setIfInBounds_toArray, List.set_cons_succ, List.set_cons_zero]
        refine wpAnyH_take (i := 9) (v := undef) rfl (by kernel_rfl) (by kernel_rfl) (by kernel_rfl) (fun _ _ _ h => h) (Or.inr ⟨by rfl, rfl⟩) (by assumption) ?_
        simp only [Act.put, List.getElem_toArray, List.getElem_cons_succ, List.getElem_cons_zero, List.setIfInBounds_toArray, List.set_cons_succ, List.set_cons_zero]
        refine wpAnyH_take (i := 10) (v := undef) rfl (by kernel_rfl) (by kernel_rfl) (by kernel_rfl) (fun _ _ _ h => h) (Or.inr ⟨by rfl, rfl⟩) (by assumption) ?_
        simp only [Act.put, List.getElem_toArray, List.getElem_cons_succ, List.getElem_cons_zero, List.setIfInBounds_toArray, List.set_cons_succ, List.set_cons_zero]
        refine wpAnyH_take (i := 11) (v := undef) rfl (by kernel_rfl) (by kernel_rfl) (by kernel_rfl) (fun _ _ _ h => h) (Or.inr ⟨by rfl, rfl⟩) (by assumption) ?_
        simp only [Act.put, List.getElem_toArray, List.getElem_cons_succ, List.getElem_cons_zero, List.setIfInBounds_toArray, List.set_cons_succ, List.set_cons_zero]
        refine wpAnyH_take (i := 12) (v := undef) rfl (by kernel_rfl) (by kernel_rfl) (by kernel_rfl) (fun _ _ _ h => h) (Or.inr ⟨by rfl, rfl⟩) (by assumption) ?_
        simp only [Act.put, List.getElem_toArray, List.getElem_cons_succ, List.getElem_cons_zero, List.setIfInBounds_toArray, List.set_cons_succ, List.set_cons_zero]
        refine wpAnyH_take (i := 13) (v := undef) rfl (by kernel_rfl) (by kernel_rfl) (by kernel_rfl) (fun _ _ _ h => h) (Or.inr ⟨by rfl, rfl⟩) (by assumption) ?_
        simp only [Act.put, List.getElem_toArray, List.getElem_cons_succ, List.getElem_cons_zero, List.setIfInBounds_toArray, List.set_cons_succ, List.set_cons_zero]
        refine wpAnyH_take (i := 14) (v := undef) rfl (by kernel_rfl) (by kernel_rfl) (by kernel_rfl) (fun _ _ _ h => h) (Or.inr ⟨by rfl, rfl⟩) (by assumption) ?_
        simp only [Act.put, List.getElem_toArray, List.getElem_cons_succ, List.getElem_cons_zero, List.setIfInBounds_toArray, List.set_cons_succ, List.set_cons_zero]
        refine wpAnyH_take (i := 15) (v := undef) rfl (by kernel_rfl) (by kernel_rfl) (by kernel_rfl) (fun _ _ _ h => h) (Or.inr ⟨by rfl, rfl⟩) (by assumption) ?_
        simp only [Act.put, List.getElem_toArray, List.getElem_cons_succ, List.getElem_cons_zero, List.setIfInBounds_toArray, List.set_cons_succ, List.set_cons_zero]
        refine wpAnyH_take (i := 16) (v := undef) rfl (by kernel_rfl) (by kernel_rfl) (by kernel_rfl) (fun _ _ _ h => h) (Or.inr ⟨by rfl, rfl⟩) (by assumption) ?_
        simp only [Act.put, List.getElem_toArray, List.getElem_cons_succ, List.getElem_cons_zero, List.setIfInBounds_toArray, List.set_cons_succ, List.set_cons_zero]
        refine wpAnyH_take (i := 17) (v := undef) rfl (by kernel_rfl) (by kernel_rfl) (by kernel_rfl) (fun _ _ _ h => h) (Or.inr ⟨by rfl, rfl⟩) (by assumption) ?_
        simp only [Act.put, List.getElem_toArray, List.getElem_cons_succ, List.getElem_cons_zero, List.setIfInBounds_toArray, List.set_cons_succ, List.set_cons_zero]
        refine wpAnyH_take (i := 18) (v := ?_) rfl (by kernel_rfl) (by kernel_rfl) (by kernel_rfl) (fun _ _ _ h => h) (Or.inl ⟨by rfl, ?_⟩) (by assumption) ?_
        rotate_left
        · intro w hSw; (try dsimp only at hSw); go_simp; try with_reducible rfl
        simp only [Act.put, List.getElem_toArray, List.getElem_cons_succ, List.getElem_cons_zero, List.setIfInBounds_toArray, List.set_cons_succ, List.set_cons_zero]
        refine wpAnyH_take (i := 19) (v := ?_) rfl (by kernel_rfl) (by kernel_rfl) (by kernel_rfl) (fun _ _ _ h => h) (Or.inl ⟨by rfl, ?_⟩) (by assumption) ?_
        rotate_left
        · intro w hSw; (try dsimp only at hSw); go_simp; try with_reducible rfl
        simp only [Act.put, List.getElem_toArray, List.getElem_cons_succ, List.getElem_cons_zero, List.setIfInBounds_toArray, List.set_cons_succ, List.set_cons_zero]
        refine wpAnyH_take (i := 20) (v := ?_) rfl (by kernel_rfl) (by kernel_rfl) (by kernel_rfl) (fun _ _ _ h => h) (Or.inl ⟨by rfl, ?_⟩) (by assumption) ?_
        rotate_left
        · intro w hSw; (try dsimp only at hSw); go_simp; try with_reducible rfl
        simp only [Act.put, List.getElem_toArray, List.getElem_cons_succ, List.getElem_cons_zero, List.setIfInBounds_toArray, List.set_cons_succ, List.set_cons_zero]
        refine wpAnyH_take (i := 21) (v := ?_) rfl (by kernel_rfl) (by kernel_rfl) (by kernel_rfl) (fun _ _ _ h => h) (Or.inl ⟨by rfl, ?_⟩) (by assumption) ?_
        rotate_left
        · intro w hSw; (try dsimp only at hSw); go_simp; try with_reducible rfl
        simp only [Act.put, List.getElem_toArray, List.getElem_cons_succ, List.getElem_cons_zero, List.setIfInBounds_toArray, List.set_cons_succ, List.set_cons_zero]
        refine wpAnyH_take (i := 22) (v := ?_) rfl (by kernel_rfl) (by kernel_rfl) (by kernel_rfl) (fun _ _ _ h => h) (Or.inl ⟨by rfl, ?_⟩) (by assumption) ?_
        rotate_left
        · intro w hSw; (try dsimp only at hSw); go_simp; try with_reducible rfl
        simp only [Act.put, List.getElem_toArray, List.getElem_cons_succ, List.getElem_cons_zero, List.setIfInBounds_toArray, List.set_cons_succ, List.set_cons_zero]
        refine wpAnyH_take (i := 23) (v := ?_) rfl (by kernel_rfl) (by kernel_rfl) (by kernel_rfl) (fun _ _ _ h => h) (Or.inl ⟨by rfl, ?_⟩) (by assumption) ?_
        rotate_left
        · intro w hSw; (try dsimp only at hSw); go_simp; try with_reducible rfl
        simp only [Act.put, List.getElem_toArray, List.getElem_cons_succ, List.getElem_cons_zero, List.setIfInBounds_toArray, List.set_cons_succ, List.set_cons_zero]
        refine wpAnyH_ready (rs := [24]) (by kernel_rfl) (by simp) ?_
        refine AllReadyH.cons rfl (fun K hK => ?_) AllReadyH.nil
        go_simp
        refine (HSp.out w16.drew FR15.out.h1 FR15.out.i).mono ?_
        rintro e w18 ⟨⟨g18, c18, rfl, y18⟩, b18⟩
        have hcv18 := conv_byt y18 0 c18 HNP.out
        have FR18 := hide (FR15.out.next b18)
        have K18 := hide (FR18.out.keep 0 cp HNP.out)
        clear b18 y18
        refine hK.out _ _ K18.out (fun hHeld2 => ?_)
        clear hK K hHeld
        have hHeld := hHeld2
        clear hHeld2
        simp only [List.setIfInBounds_toArray, List.set_cons_succ, List.set_cons_zero]
        refine wpAnyH_ready (rs := [25]) (by kernel_rfl) (by simp) ?_
        refine AllReadyH.cons rfl (fun K hK => ?_) AllReadyH.nil
        go_simp
        refine hK.out _ _ K18.out (fun hHeld2 => ?_)
        clear hK K hHeld
        have hHeld := hHeld2
        clear hHeld2
        simp only [List.setIfInBounds_toArray, List.set_cons_succ, List.set_cons_zero]
        refine wpAnyH_take (i := 26) (v := ?_) rfl (by kernel_rfl) (by kernel_rfl) (by kernel_rfl) (fun _ _ _ h => h) (Or.inl ⟨by rfl, ?_⟩) (by assumption) ?_
        rotate_left
        · intro w hSw; (try dsimp only at hSw); go_simp; try with_reducible rfl
        simp only [Act.put, List.getElem_toArray, List.getElem_cons_succ, List.getElem_cons_zero, List.setIfInBounds_toArray, List.set_cons_succ, List.set_cons_zero]
        refine wpAnyH_take (i := 27) (v := ?_) rfl (by kernel_rfl) (by kernel_rfl) (by kernel_rfl) (fun _ _ _ h => h) (Or.inl ⟨by rfl, ?_⟩) (by assumption) ?_
        rotate_left
        · intro w hSw; (try dsimp only at hSw); go_simp; try with_reducible rfl
        simp only [Act.put, List.getElem_toArray, List.getElem_cons_succ, List.getElem_cons_zero, List.setIfInBounds_toArray, List.set_cons_succ, List.set_cons_zero]
        refine wpAnyH_done (by kernel_rfl) ?_ _
        by_cases hs2 : s2 = 1
        · subst hs2
          go_wp2
          go_ret
          exact ⟨by simp, FR18.out.cw⟩
        · have hs2' : (s2 == 1) = false := beq_eq_false_iff_ne.2 hs2
          have hjE : j = lb.length := by
            apply Classical.byContradiction
            intro hne
            exact hs2 (HS2.out (by omega))
          have hjm : (k : Int).tmod ((lb.length : Int) + 1) = (lb.length : Int) := by rw [HJ.out, hjE]
          have hz0 : ¬ ((lb.length : Int) + 1 = 0) := by omega
          have hz0' : ((lb.length : Int) + 1 == 0) = false := beq_eq_false_iff_ne.2 hz0
          clear hjE
          go_wp2_with fail
          refine (HAt.out _ FR18.out.cw).mono ?_
          rintro e w30 ⟨rfl, hw30⟩
          obtain rfl := hw30.symm
          go_wp2
          go_ret
          exact ⟨by simp, FR18.out.cw⟩
      · have hne : lp ≠ [] := by intro h; have := HNP.out; rw [h] at this; exact hp0 this.symm
        have hG : getR lp = (r, np, 0) := by first | exact HHB.out hne | (rw [HHB.out hne, HNP.out])
        have hpos : (0 : Int) < (np : Int) := by omega
        clear HHB hne
        go_wp2_with fail
        refine (HGp.out w14 FR14.out.yb FR14.out.cw).mono ?_
        rw [hG]
        rintro e w15 ⟨⟨hv15, rfl, r15⟩, b15⟩
        obtain ⟨a2, c2, rfl, d15⟩ := RowsH.hds r15
        have bal : Below w15.heap.size w15 (w15.alloc (Obj.cells #[Value.string r.m, Value.string r.p, Value.slice a2 r.hs.length c2, Value.string r.b] 35)) := (Below.refl _ _).alloc (Nat.le_refl _) _
        have b15' := b15.trans (bal.mono b15.size)
        have FR15 := hide ((FR14.out.next b15').next (Below.refl _ _).drew)
        have BY := hide ((BoxR.made w15 a2 c2 r 35).next (Below.refl _ _).drew)
        have HY := hide (Hds.nextC (Hds.nextC d15 bal) (Below.refl _ _).drew)
        obtain ⟨N2, hN2⟩ : ∃ N2, w15.heap.size = N2 := ⟨_, rfl⟩
        obtain ⟨w16, hw16⟩ : ∃ w16, w15.alloc (Obj.cells #[Value.string r.m, Value.string r.p, Value.slice a2 r.hs.length c2, Value.string r.b] 35) = w16 := ⟨_, rfl⟩
        rw [hw16] at FR15 BY HY
        rw [hN2] at BY
        have hrm : r.hs.length ≤ maxLen := by unfold maxLen; omega
        clear b15 b15' bal r15 d15 FR14 hG HGp
        go_wp2_with fail
        clear hw16 hN2
        have K15 := hide (FR15.out.keep2 np cp HNP.out BY.out)
        refine wp_region_held_drew (S := (fun W => (convert 22 9 (.slice (some ⟨gp, 0, none⟩) np cp)).run Tryz.prog W = .ok (.string ⟨lp.toArray⟩) W ∧ W.cell? ⟨N1, 0, none⟩ = some (.string r.m) ∧ W.cell? ⟨N1, 1, none⟩ = some (.string r.p) ∧ W.cell? ⟨N1, 2, none⟩ = some (.slice (some ⟨g1, 0, none⟩) r.hs.length c1) ∧ W.cell? ⟨N1, 3, none⟩ = some (.string r.b) ∧ W.cell? ⟨N2, 0, none⟩ = some (.string r.m) ∧ W.cell? ⟨N2, 1, none⟩ = some (.string r.p) ∧ W.cell? ⟨N2, 2, none⟩ = some (.slice a2 r.hs.length c2) ∧ W.cell? ⟨N2, 3, none⟩ = some (.string r.b))) (by kernel_rfl) K15.out (fun hHeld => ?_)
        simp only [List.size_toArray, List.length_cons, List.length_nil, Nat.reduceAdd, Array.replicate_succ, Array.replicate_zero, List.push_toArray, List.nil_append, List.cons_append]
        refine wpAnyH_take (i := 0) (v := ?_) rfl (by kernel_rfl) (by kernel_rfl) (by kernel_rfl) (fun _ _ _ h => h) (Or.inl ⟨by rfl, ?_⟩) (by assumption) ?_
        rotate_left
        · intro w hSw; (try dsimp only at hSw); go_simp; try with_reducible rfl
        simp only [Act.put, List.getElem_toArray, List.getElem_cons_zero, List.setIfInBounds_toArray, List.set_cons_succ, List.set_cons_zero]
        refine wpAnyH_take (i := 1) (v := ?_) rfl (by kernel_rfl) (by kernel_rfl) (by kernel_rfl) (fun _ _ _ h => h) (Or.inl ⟨by rfl, ?_⟩) (by assumption) ?_
        rotate_left
        · intro w hSw; (try dsimp only at hSw); go_simp; try with_reducible rfl
        simp only [Act.put, List.getElem_toArray, List.getElem_cons_succ, List.getElem_cons_zero, List.setIfInBounds_toArray, List.set_cons_succ, List.set_cons_zero]
        refine wpAnyH_take (i := 2) (v := .bool true) rfl (by kernel_rfl) (by kernel_rfl) (by kernel_rfl) (fun _ _ _ h => h) (Or.inl ⟨by rfl, ?_⟩) (by assumption) ?_
        · intro w hSw; (try dsimp only at hSw); go_simp; omega
        simp only [Act.put, List.getElem_toArray, List.getElem_cons_succ, List.getElem_cons_zero, List.setIfInBounds_toArray, List.set_cons_succ, List.set_cons_zero]
        refine wpAnyH_take (i := 3) (v := ?_) rfl (by kernel_rfl) (by kernel_rfl) (by kernel_rfl) (fun _ _ _ h => h) (Or.inl ⟨by rfl, ?_⟩) (by assumption) ?_
        rotate_left
        · intro w hSw; (try dsimp only at hSw); go_simp; try with_reducible rfl
        simp only [Act.put, List.getElem_toArray, List.getElem_cons_succ, List.getElem_cons_zero, List.setIfInBounds_toArray, List.set_cons_succ, List.set_cons_zero]
        refine wpAnyH_take (i := 4) (v := ?_) rfl (by kernel_rfl) (by kernel_rfl) (by kernel_rfl) (fun _ _ _ h => h) (Or.inl ⟨by rfl, ?_⟩) (by assumption) ?_
        rotate_left
        · intro w hSw; (try dsimp only at hSw); go_simp; try with_reducible rfl
        simp only [Act.put, List.getElem_toArray, List.getElem_cons_succ, List.getElem_cons_zero, List.setIfInBounds_toArray, List.set_cons_succ, List.set_cons_zero]
        refine wpAnyH_take (i := 5) (v := ?_) rfl (by kernel_rfl) (by kernel_rfl) (by kernel_rfl) (fun _ _ _ h => h) (Or.inl ⟨by rfl, ?_⟩) (by assumption) ?_
        rotate_left
        · intro w hSw; (try dsimp only at hSw); go_simp; try with_reducible rfl
        simp only [Act.put, List.getElem_toArray, List.getElem_cons_succ, List.getElem_cons_zero, List.setIfInBounds_toArray, List.set_cons_succ, List.set_cons_zero]
        refine wpAnyH_take (i := 6) (v := ?_) rfl (by kernel_rfl) (by kernel_rfl) (by kernel_rfl) (fun _ _ _ h => h) (Or.inl ⟨by rfl, ?_⟩) (by assumption) ?_
        rotate_left
        · intro w hSw; (try dsimp only at hSw); go_simp; try with_reducible rfl
        simp only [Act.put, List.getElem_toArray, List.getElem_cons_succ, List.getElem_cons_zero, List.setIfInBounds_toArray, List.set_cons_succ, List.set_cons_zero]
        refine wpAnyH_take (i := 7) (v := ?_) rfl (by kernel_rfl) (by kernel_rfl) (by kernel_rfl) (fun _ _ _ h => h) (Or.inl ⟨by rfl, ?_⟩) (by assumption) ?_
        rotate_left
        · intro w hSw; (try dsimp only at hSw); go_simp; try with_reducible rfl
        simp only [Act.put, List.getElem_toArray, List.getElem_cons_succ, List.getElem_cons_zero, List.setIfInBounds_toArray, List.set_cons_succ, List.set_cons_zero]
        refine wpAnyH_take (i := 8) (v := ?_) rfl (by kernel_rfl) (by kernel_rfl) (by kernel_rfl) (fun _ _ _ h => h) (Or.inl ⟨by rfl, ?_⟩) (by assumption) ?_
        rotate_left
        · intro w hSw; (try dsimp only at hSw); go_simp; try with_reducible rfl
        simp only [Act.put, List.getElem_toArray, List.getElem_cons_succ, List.getElem_cons_zero, List.setIfInBounds_toArray, List.set_cons_succ, List.set_cons_zero]
        refine wpAnyH_take (i := 9) (v := ?_) rfl (by kernel_rfl) (by kernel_rfl) (by kernel_rfl) (fun _ _ _ h => h) (Or.inl ⟨by rfl, ?_⟩) (by assumption) ?_
        rotate_left
        · intro w hSw; (try dsimp only at hSw); go_simp; try with_reducible rfl
        simp only [Act.put, List.getElem_toArray, List.getElem_cons_succ, List.getElem_cons_zero, List.setIfInBounds_toArray, List.set_cons_succ, List.set_cons_zero]
        refine wpAnyH_take (i := 10) (v := ?_) rfl (by kernel_rfl) (by kernel_rfl) (by kernel_rfl) (fun _ _ _ h => h) (Or.inl ⟨by rfl, ?_⟩) (by assumption) ?_
        rotate_left
        · intro w hSw; (try dsimp only at hSw); go_simp; try with_reducible rfl
        simp only [Act.put, List.getElem_toArray, List.getElem_cons_succ, List.getElem_cons_zero, List.setIfInBounds_toArray, List.set_cons_succ, List.set_cons_zero]
        refine wpAnyH_take (i := 11) (v := ?_) rfl (by kernel_rfl) (by kernel_rfl) (by kernel_rfl) (fun _ _ _ h => h) (Or.inl ⟨by rfl, ?_⟩) (by assumption) ?_
        rotate_left
        · intro w hSw; (try dsimp only at hSw); go_simp; try with_reducible rfl
        simp only [Act.put, List.getElem_toArray, List.getElem_cons_succ, List.getElem_cons_zero, List.setIfInBounds_toArray, List.set_cons_succ, List.set_cons_zero]
        refine wpAnyH_take (i := 12) (v := ?_) rfl (by kernel_rfl) (by kernel_rfl) (by kernel_rfl) (fun _ _ _ h => h) (Or.inl ⟨by rfl, ?_⟩) (by assumption) ?_
        rotate_left
        · intro w hSw; (try dsimp only at hSw); go_simp; try with_reducible rfl
        simp only [Act.put, List.getElem_toArray, List.getElem_cons_succ, List.getElem_cons_zero, List.setIfInBounds_toArray, List.set_cons_succ, List.set_cons_zero]
        refine wpAnyH_take (i := 13) (v := ?_) rfl (by kernel_rfl) (by kernel_rfl) (by kernel_rfl) (fun _ _ _ h => h) (Or.inl ⟨by rfl, ?_⟩) (by assumption) ?_
        rotate_left
        · intro w hSw; (try dsimp only at hSw); go_simp; try with_reducible rfl
        simp only [Act.put, List.getElem_toArray, List.getElem_cons_succ, List.getElem_cons_zero, List.setIfInBounds_toArray, List.set_cons_succ, List.set_cons_zero]
        refine wpAnyH_take (i := 14) (v := ?_) rfl (by kernel_rfl) (by kernel_rfl) (by kernel_rfl) (fun _ _ _ h => h) (Or.inl ⟨by rfl, ?_⟩) (by assumption) ?_
        rotate_left
        · intro w hSw; (try dsimp only at hSw); go_simp; try with_reducible rfl
        simp only [Act.put, List.getElem_toArray, List.getElem_cons_succ, List.getElem_cons_zero, List.setIfInBounds_toArray, List.set_cons_succ, List.set_cons_zero]
        refine wpAnyH_ready (rs := [15]) (by kernel_rfl) (by simp) ?_
        refine AllReadyH.cons rfl (fun K hK => ?_) AllReadyH.nil
        go_simp
        refine (sameReq_any _ _ r r _ _ _ _ w16.drew HY.out FR15.out.h1 (Nat.le_refl _) (Nat.le_refl _) hrm hrm).mono ?_
        rintro e w17 ⟨rfl, b17⟩
        rw [sameR_refl]
        have FR17 := hide (FR15.out.next b17)
        have BY17 := hide (BY.out.next b17)
        have K17 := hide (FR17.out.keep2 np cp HNP.out BY17.out)
        clear b17
        refine hK.out _ _ K17.out (fun hHeld2 => ?_)
        clear hK K hHeld
        have hHeld := hHeld2
        clear hHeld2
        simp only [List.setIfInBounds_toArray, List.set_cons_succ, List.set_cons_zero]
        refine wpAnyH_take (i := 16) (v := ?_) rfl (by kernel_rfl) (by kernel_rfl) (by kernel_rfl) (fun _ _ _ h => h) (Or.inl ⟨by rfl, ?_⟩) (by assumption) ?_
        rotate_left
        · intro w hSw; (try dsimp only at hSw); go_simp; try with_reducible rfl
        simp only [Act.put, List.getElem_toArray, List.getElem_cons_succ, List.getElem_cons_zero, List.setIfInBounds_toArray, List.set_cons_succ, List.set_cons_zero]
        refine wpAnyH_take (i := 17) (v := ?_) rfl (by kernel_rfl) (by kernel_rfl) (by kernel_rfl) (fun _ _ _ h => h) (Or.inl ⟨by rfl, ?_⟩) (by assumption) ?_
        rotate_left
        · intro w hSw; (try dsimp only at hSw); go_simp; try with_reducible rfl
        simp only [Act.put, List.getElem_toArray, List.getElem_cons_succ, List.getElem_cons_zero, List.setIfInBounds_toArray, List.set_cons_succ, List.set_cons_zero]
        refine wpAnyH_take (i := 18) (v := ?_) rfl (by kernel_rfl) (by kernel_rfl) (by kernel_rfl) (fun _ _ _ h => h) (Or.inl ⟨by rfl, ?_⟩) (by assumption) ?_
        rotate_left
        · intro w hSw; (try dsimp only at hSw); go_simp; try with_reducible rfl
        simp only [Act.put, List.getElem_toArray, List.getElem_cons_succ, List.getElem_cons_zero, List.setIfInBounds_toArray, List.set_cons_succ, List.set_cons_zero]
        refine wpAnyH_take (i := 19) (v := ?_) rfl (by kernel_rfl) (by kernel_rfl) (by kernel_rfl) (fun _ _ _ h => h) (Or.inl ⟨by rfl, ?_⟩) (by assumption) ?_
        rotate_left
        · intro w hSw; (try dsimp only at hSw); go_simp; try with_reducible rfl
        simp only [Act.put, List.getElem_toArray, List.getElem_cons_succ, List.getElem_cons_zero, List.setIfInBounds_toArray, List.set_cons_succ, List.set_cons_zero]
        refine wpAnyH_take (i := 20) (v := ?_) rfl (by kernel_rfl) (by kernel_rfl) (by kernel_rfl) (fun _ _ _ h => h) (Or.inl ⟨by rfl, ?_⟩) (by assumption) ?_
        rotate_left
        · intro w hSw; (try dsimp only at hSw); go_simp; try with_reducible rfl
        simp only [Act.put, List.getElem_toArray, List.getElem_cons_succ, List.getElem_cons_zero, List.setIfInBounds_toArray, List.set_cons_succ, List.set_cons_zero]
        refine wpAnyH_take (i := 21) (v := ?_) rfl (by kernel_rfl) (by kernel_rfl) (by kernel_rfl) (fun _ _ _ h => h) (Or.inl ⟨by rfl, ?_⟩) (by assumption) ?_
        rotate_left
        · intro w hSw; (try dsimp only at hSw); go_simp; try with_reducible rfl
        simp only [Act.put, List.getElem_toArray, List.getElem_cons_succ, List.getElem_cons_zero, List.setIfInBounds_toArray, List.set_cons_succ, List.set_cons_zero]
        refine wpAnyH_take (i := 22) (v := ?_) rfl (by kernel_rfl) (by kernel_rfl) (by kernel_rfl) (fun _ _ _ h => h) (Or.inl ⟨by rfl, ?_⟩) (by assumption) ?_
        rotate_left
        · intro w hSw; (try dsimp only at hSw); go_simp; try with_reducible rfl
        simp only [Act.put, List.getElem_toArray, List.getElem_cons_succ, List.getElem_cons_zero, List.setIfInBounds_toArray, List.set_cons_succ, List.set_cons_zero]
        refine wpAnyH_take (i := 23) (v := ?_) rfl (by kernel_rfl) (by kernel_rfl) (by kernel_rfl) (fun _ _ _ h => h) (Or.inl ⟨by rfl, ?_⟩) (by assumption) ?_
        rotate_left
        · intro w hSw; (try dsimp only at hSw); go_simp; try with_reducible rfl
        simp only [Act.put, List.getElem_toArray, List.getElem_cons_succ, List.getElem_cons_zero, List.setIfInBounds_toArray, List.set_cons_succ, List.set_cons_zero]
        refine wpAnyH_ready (rs := [24]) (by kernel_rfl) (by simp) ?_
        refine AllReadyH.cons rfl (fun K hK => ?_) AllReadyH.nil
        go_simp
        refine (HSp.out w17 FR17.out.h1 FR17.out.i).mono ?_
        rintro e w18 ⟨⟨g18, c18, rfl, y18⟩, b18⟩
        have hcv18 := conv_byt y18 np c18 HNP.out
        have FR18 := hide (FR17.out.next b18)
        have K18 := hide (FR18.out.keep2 np cp HNP.out (BY17.out.next b18))
        clear b18 y18
        refine hK.out _ _ K18.out (fun hHeld2 => ?_)
        clear hK K hHeld
        have hHeld := hHeld2
        clear hHeld2
        simp only [List.setIfInBounds_toArray, List.set_cons_succ, List.set_cons_zero]
        refine wpAnyH_ready (rs := [25]) (by kernel_rfl) (by simp) ?_
        refine AllReadyH.cons rfl (fun K hK => ?_) AllReadyH.nil
        go_simp
        refine hK.out _ _ K18.out (fun hHeld2 => ?_)
        clear hK K hHeld
        have hHeld := hHeld2
        clear hHeld2
        simp only [List.setIfInBounds_toArray, List.set_cons_succ, List.set_cons_zero]
        refine wpAnyH_take (i := 26) (v := ?_) rfl (by kernel_rfl) (by kernel_rfl) (by kernel_rfl) (fun _ _ _ h => h) (Or.inl ⟨by rfl, ?_⟩) (by assumption) ?_
        rotate_left
        · intro w hSw; (try dsimp only at hSw); go_simp; try with_reducible rfl
        simp only [Act.put, List.getElem_toArray, List.getElem_cons_succ, List.getElem_cons_zero, List.setIfInBounds_toArray, List.set_cons_succ, List.set_cons_zero]
        refine wpAnyH_take (i := 27) (v := ?_) rfl (by kernel_rfl) (by kernel_rfl) (by kernel_rfl) (fun _ _ _ h => h) (Or.inl ⟨by rfl, ?_⟩) (by assumption) ?_
        rotate_left
        · intro w hSw; (try dsimp only at hSw); go_simp; try with_reducible rfl
        simp only [Act.put, List.getElem_toArray, List.getElem_cons_succ, List.getElem_cons_zero, List.setIfInBounds_toArray, List.set_cons_succ, List.set_cons_zero]
        refine wpAnyH_done (by kernel_rfl) ?_ _
        by_cases hs2 : s2 = 1
        · subst hs2
          go_wp2
          go_ret
          exact ⟨by simp, FR18.out.cw⟩
        · have hs2' : (s2 == 1) = false := beq_eq_false_iff_ne.2 hs2
          have hjE : j = lb.length := by
            apply Classical.byContradiction
            intro hne
            exact hs2 (HS2.out (by omega))
          have hjm : (k : Int).tmod ((lb.length : Int) + 1) = (lb.length : Int) := by rw [HJ.out, hjE]
          have hz0 : ¬ ((lb.length : Int) + 1 = 0) := by omega
          have hz0' : ((lb.length : Int) + 1 == 0) = false := beq_eq_false_iff_ne.2 hz0
          clear hjE
          go_wp2_with fail
          refine (HAt.out _ FR18.out.cw).mono ?_
          rintro e w30 ⟨rfl, hw30⟩
          obtain rfl := hw30.symm
          go_wp2
          go_ret
          exact ⟨by simp, FR18.out.cw⟩
end Go.Proofs.YtcgmokjnjmefpaaGreatDoor
