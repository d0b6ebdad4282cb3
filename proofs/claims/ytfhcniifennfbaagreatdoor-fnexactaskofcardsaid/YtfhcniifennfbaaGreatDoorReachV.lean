/-
  The library's table of powers of ten, as the row lists it; that it stays where only new memory is laid.
  What the program's NumText does.
  What both sides' TagText does.
  What impl.TagAt does.
  What impl.TagAt does, over views.
  Rows of what is turned: paths, and whether all under them is.
-/
import Derived.Test.YtfhcniifennfbaaGreatDoorRows
import Derived.Test.YtfhcniifennfbaaGreatDoorShelf
import Derived.WalkKit
import Derived.WalkLawsBesides
import Derived.Lib.AppendIntMem
import Derived.Stop.LaidErr
import Derived.Test.YtfhcniifennfbaaGreatDoorMathHex
import Derived.Test.YtfhcniifennfbaaGreatDoorTurn
import Derived.Test.YtfhcniifennfbaaGreatDoorSliceEq
import Derived.Test.YtfhcniifennfbaaGreatDoorSvIn
import Derived.Test.YtfhcniifennfbaaGreatDoorMathMark2
import Derived.Test.YtfhcniifennfbaaGreatDoorSpecMayT
import Derived.Test.YtfhcniifennfbaaGreatDoorGenLock
namespace Go.Proofs.YtfhcniifennfbaaGreatDoor
open Go.RowKit

theorem pow_glob : Tryz.prog.globalNamed "internal/strconv.uint64pow10" = some 5 := by kernel_rfl
theorem pow_data : (Rows.laid_internal_strconv_uint64pow10 : DataW Unit) = Lib.tabData .u64 Lib.pow10Tab := by kernel_rfl

def PowTab (w : World) : Prop := Lib.TabIs Tryz.prog w "internal/strconv.uint64pow10" .u64 Lib.pow10Tab

theorem PowTab.lt {w : World} (h : PowTab w) : 5 < w.heap.size := by
  have h' : w.var? Tryz.prog "internal/strconv.uint64pow10" = some _ := h
  unfold World.var? at h'
  rw [pow_glob] at h'
  simp only [Option.bind_some] at h'
  rcases Nat.lt_or_ge 5 w.heap.size with h1 | h1
  · exact h1
  · rw [Array.getElem?_eq_none h1] at h'
    simp at h'

theorem PowTab.below {w w' : World} (h : PowTab w) (hb : Below w.heap.size w w') : PowTab w' := var?_below hb pow_glob h.lt h

theorem powTab_of {W : World} {rest : List (String × DataW Unit)} (h : laidMet Tryz.prog (("internal/strconv.uint64pow10", Rows.laid_internal_strconv_uint64pow10) :: rest) W) : PowTab W := by
  rw [pow_data] at h
  exact Lib.tabIs_of_head pow_glob (t := 280) (n := 20) (e := 259) (by kernel_rfl) (by kernel_rfl) (by kernel_rfl) (by kernel_rfl) (by kernel_rfl) h
end Go.Proofs.YtfhcniifennfbaaGreatDoor
namespace Go.Proofs.YtfhcniifennfbaaGreatDoor
open Go.RowKit M

theorem itoa_pos (m : Nat) : Lib.itoa (m : Int) = Lib.decDigits m := by
  unfold Lib.itoa
  rw [if_neg (by omega), Int.toNat_natCast]

theorem itoa_calls (m : Nat) (w : World) (hn : (m : Int) ≤ 9223372036854775807) (ht : PowTab w) :
    Calls Tryz.prog 220 #[.int .i64 m] w fun e w' => e = .returned (.string ⟨(Lib.decDigits m).toArray⟩) ∧ Below w.heap.size w w' := by
  refine (Tryz.strconv_Itoa (m : Int) (by omega) hn w ht).mono ?_
  rintro e w' ⟨rfl, k, os, rfl⟩
  rw [itoa_pos]
  exact ⟨rfl, Lib.below_grow _ w (Nat.le_refl _) k os⟩

set_option maxHeartbeats 400000 in
theorem numText_any (n : Int) (w : World) (hn : n ≤ 9223372036854775807) (ht : PowTab w) :
    Calls Tryz.prog 184 #[.int .i64 n] w fun e w' => e = .returned (.string ⟨(Lib.decDigits n.toNat).toArray⟩) ∧ Below w.heap.size w w' := by
  by_cases h : n < 0
  · have e : n.toNat = 0 := by omega
    have e0 : max n 0 = ((0 : Nat) : Int) := by omega
    rw [e]
    go_enter Tryz.func184, Tryz.ntmps184
    go_wp2_with fail
    rw [show (0 : Int) = ((0 : Nat) : Int) from rfl]
    refine (itoa_calls 0 w (by omega) ht).mono ?_
    rintro e w' ⟨rfl, hb⟩
    go_wp2
    go_ret
    exact ⟨rfl, hb⟩
  · obtain ⟨m, rfl⟩ := Int.eq_ofNat_of_zero_le (by omega : 0 ≤ n)
    rw [Int.toNat_natCast]
    go_enter Tryz.func184, Tryz.ntmps184
    go_wp2_with fail
    refine (itoa_calls m w hn ht).mono ?_
    rintro e w' ⟨rfl, hb⟩
    go_wp2
    go_ret
    exact ⟨rfl, hb⟩
end Go.Proofs.YtfhcniifennfbaaGreatDoor
namespace Go.Proofs.YtfhcniifennfbaaGreatDoor
open Go.RowKit M
set_option linter.unusedVariables false

theorem tagText_any (n : Int) (w : World) (hn : n ≤ 9223372036854775807) (ht : PowTab w) :
    Calls Tryz.prog 160 #[.int .i64 n] w fun e w' => e = .returned (.string (bytesOf (tagL (verL n)))) ∧ Below w.heap.size w w' := by
  have HN := hide (numText_any n w hn ht)
  have HR := hide (verL_cat n)
  obtain ⟨d, hd⟩ : ∃ d : ByteArray, (⟨(Lib.decDigits n.toNat).toArray⟩ : ByteArray) = d := ⟨_, rfl⟩
  have hds : d.size ≤ 100 := by
    rw [← hd]
    show (bytesOf (Lib.decDigits n.toNat)).size ≤ 100
    rw [bytesOf_size]
    have := dec_len 18 n.toNat (by omega)
    omega
  rw [hd] at HN HR
  clear hd
  go_enter Tryz.func160, Tryz.ntmps160
  go_wp2_with fail
  refine HN.out.mono ?_
  rintro e w1 ⟨rfl, b1⟩
  go_wp2
  go_ret
  rw [HR.out]
  exact ⟨rfl, b1⟩
end Go.Proofs.YtfhcniifennfbaaGreatDoor
namespace Go.Proofs.YtfhcniifennfbaaGreatDoor
open Go.RowKit M
set_option linter.unusedVariables false

set_option maxRecDepth 100000 in
set_option maxHeartbeats 4000000 in
theorem tagAt_any (x : Sv) (p : List ByteArray) (ta : Option Addr) (tc : Nat) (la : Option Addr) (lc : Nat) (da : Option Addr) (dc : Nat) (ua : Option Addr) (uc B : Nat) (a : Option Addr) (cap D : Nat) (w : World) (h : SvIn w B x ta tc la lc da dc ua uc) (hB : B ≤ w.heap.size) (hs : SvSmall x) (hp : Strs w D a p) (hD : D ≤ w.heap.size) (hpl : p.length ≤ maxLen) (hv : ∀ r ∈ x.t, r.ve ≤ 9223372036854775807) (ht : PowTab w) :
    Calls Tryz.prog 134 #[.agg #[.slice ta x.t.length tc, .slice la x.l.length lc, .int .i64 x.now, .int .i64 x.ver, .slice da x.dr.length dc, .slice ua x.us.length uc], .slice a p.length cap] w fun e w' => e = .returned (.tuple #[.string (tagAtT x p), .bool (tagAtB x p)]) ∧ Below w.heap.size w w' := by
  have K0 := hide (show Below w.heap.size w (w.alloc (Obj.cells #[.slice ta x.t.length tc, .slice la x.l.length lc, .int .i64 x.now, .int .i64 x.ver, .slice da x.dr.length dc, .slice ua x.us.length uc] 39)) from (Below.refl _ _).alloc (Nat.le_refl _) _)
  have X0 := hide (BoxV.made w [.slice ta x.t.length tc, .slice la x.l.length lc, .int .i64 x.now, .int .i64 x.ver, .slice da x.dr.length dc, .slice ua x.us.length uc] 39)
  have HT := hide (fun W (hb : Below w.heap.size w W) => h.th.below hb hB)
  have HF := hide (fun W (hb : Below w.heap.size w W) => findRes_any ta x.t tc B a p cap D W (h.th.below hb hB) (hp.below hb hD) (Nat.le_trans h.tl.1 h.tl.2.1) hpl (Nat.le_trans hB hb.size) (Nat.le_trans hD hb.size))
  have HG := hide (fun (n : Int) (W : World) (hb : Below w.heap.size w W) (hn : n ≤ 9223372036854775807) => tagText_any n W hn (ht.below hb))
  have hm : x.t.length ≤ 1048576 := hs.tlen
  have HV := hide hv
  by_cases h0 : p.length = 0
  · obtain ⟨r1, r2⟩ := tagAt_root x p h0
    rw [r1, r2]
    have hi : (p.length : Int) = 0 := by omega
    clear h hs hp hv r1 r2 HF HT HV
    have HQ := hide (HG.out 0 _ K0.out (by decide))
    obtain ⟨d, hd⟩ : ∃ d : ByteArray, tagV 0 = d := ⟨_, rfl⟩
    unfold tagV at hd
    rw [hd] at HQ
    unfold tagV
    rw [hd]
    clear hd h0 HG
    go_enter Tryz.func134, Tryz.ntmps134
    go_wp2_with fail
    refine HQ.out.mono ?_
    rintro e w1 ⟨rfl, b1⟩
    have K1 := hide (K0.out.trans (b1.mono K0.out.size))
    clear b1
    go_wp2
    go_ret2
    exact ⟨rfl, K1.out⟩
  have hi : ¬ (p.length : Int) = 0 := by omega
  rcases findI_cases x.t p with h2 | ⟨k, hk, h2, _⟩
  · obtain ⟨r1, r2⟩ := tagAt_none x p h0 h2
    rw [r1, r2]
    rw [h2] at HF
    have x0 := (X0.out.2 0 _ rfl).1
    clear h hs hp hv r1 r2 HV HG h0 HT h2
    go_enter Tryz.func134, Tryz.ntmps134
    go_wp2_with fail
    refine (HF.out _ K0.out).mono ?_
    rintro e w1 ⟨rfl, b1⟩
    have K1 := hide (K0.out.trans (b1.mono K0.out.size))
    clear b1 x0
    go_wp2
    go_ret2
    exact ⟨rfl, K1.out⟩
  · obtain ⟨r1, r2⟩ := tagAt_some x p h0 k hk h2
    rw [r1, r2]
    rw [h2] at HF
    have x0 := (X0.out.2 0 _ rfl).1
    obtain ⟨d, hd⟩ : ∃ d : ByteArray, tagV x.t[k].ve = d := ⟨_, rfl⟩
    rw [hd]
    unfold tagV at hd
    have HD := hide hd
    clear hd
    have hk0 : ¬ ((k : Int) < 0) := by omega
    have hk1 : (k : Int) < (x.t.length : Int) := by omega
    have hk2 : (0 : Int) ≤ (k : Int) := by omega
    clear h hs hp hv r1 r2 h0 h2
    go_enter Tryz.func134, Tryz.ntmps134
    go_wp2_with fail
    refine (HF.out _ K0.out).mono ?_
    rintro e w1 ⟨rfl, b1⟩
    have K1 := hide (K0.out.trans (b1.mono K0.out.size))
    have X1 := hide (X0.out.next b1)
    clear b1 x0 K0 X0 HF
    have x1 := (X1.out.2 0 _ rfl).1
    obtain ⟨b, o, hta, hbB, hc⟩ := HT.out _ K1.out (by omega)
    obtain ⟨pa, pc, qa, qc, hat, hin⟩ := hc k hk
    subst hta
    have c3 := hat.2.2.2.1
    have HQ := hide (HG.out x.t[k].ve _ K1.out (HV.out _ (List.getElem_mem hk)))
    rw [HD.out] at HQ
    clear HD hc hat hin HG HV HT hbB
    go_wp2_with fail
    refine HQ.out.mono ?_
    rintro e w2 ⟨rfl, b2⟩
    have K2 := hide (K1.out.trans (b2.mono K1.out.size))
    clear b2
    go_wp2
    go_ret2
    exact ⟨rfl, K2.out⟩
end Go.Proofs.YtfhcniifennfbaaGreatDoor
namespace Go.Proofs.YtfhcniifennfbaaGreatDoor
open Go.RowKit M
set_option linter.unusedVariables false

theorem tagAt_gen (x : Sv) (p : List ByteArray) (u0 u1 u4 u5 v : Value) (W : World) (h0 : View W W.heap.size u0 (.l (x.t.map dRs))) (h1 : View W W.heap.size u1 (.l (x.l.map dLk))) (h4 : View W W.heap.size u4 (.l (x.dr.map dI))) (h5 : View W W.heap.size u5 (.l (x.us.map dI))) (hv : View W W.heap.size v (.l (p.map dS))) (hsz : szR (dSv x) ≤ 1048576) (ok : okR (dSv x)) (ht : PowTab W) :
    Calls Tryz.prog 134 #[.agg #[u0, u1, .int .i64 x.now, .int .i64 x.ver, u4, u5], v] W fun e w' => e = .returned (.tuple #[.string (tagAtT x p), .bool (tagAtB x p)]) ∧ Below W.heap.size W w' := by
  obtain ⟨ta, tc, la, lc, da, dc, ua, uc, rfl, rfl, rfl, rfl, h⟩ := svIn_of_view h0 h1 h4 h5
  obtain ⟨a, cap, rfl, k1, k2, k3, k4⟩ := strs_of_view hv
  exact tagAt_any x p ta tc la lc da dc ua uc W.heap.size a cap W.heap.size W h (Nat.le_refl _) (sv_small hsz) k4 (Nat.le_refl _) (Nat.le_trans k1 k2) (ve_wf ok) ht
end Go.Proofs.YtfhcniifennfbaaGreatDoor
namespace Go.Proofs.YtfhcniifennfbaaGreatDoor
open Go.RowKit M
set_option linter.unusedVariables false

theorem info_reach : (Tryz.prog.info? 203).map (fun i => (i.zero, i.size, i.bytes)) = some (some (.agg #[.slice none 0 0, .bool false]), 2, 32) := by kernel_rfl
/-- One of them in memory: the path, whether all under it, where it lies, its room. -/
structure RcV where
  p : List ByteArray
  d : Bool
  a : Option Addr
  c : Nat
def rcCs (x : RcV) : List Value := [.slice x.a x.p.length x.c, .bool x.d]
theorem rcCs_len (x : RcV) : (rcCs x).length = 2 := rfl
theorem rcCs_one (l : List RcV) : ∀ u ∈ l.flatMap rcCs, u.oneCell' = true := fun u hu => by
  obtain ⟨x, _, hx⟩ := List.mem_flatMap.1 hu
  simp only [rcCs, List.mem_cons, List.not_mem_nil, or_false] at hx
  rcases hx with rfl | rfl <;> rfl
def RcSt (w : World) (l : List RcV) : Prop := ∀ x ∈ l, Strs w w.heap.size x.a x.p ∧ x.p.length ≤ x.c ∧ x.c ≤ maxLen ∧ (x.a = none → x.c = 0)
theorem RcSt.below {w w' : World} {l : List RcV} (h : RcSt w l) (hb : Below w.heap.size w w') : RcSt w' l := fun x hx => ⟨((h x hx).1.below hb (Nat.le_refl _)).mono hb.size, (h x hx).2⟩
structure RcsAt (w : World) (g : Nat) (l : List RcV) : Prop where
  lt : g < w.heap.size
  cl : ∀ j (hj : j < l.length), w.cell? ⟨g, j * 2, none⟩ = some (.slice l[j].a l[j].p.length l[j].c) ∧ w.cell? ⟨g, j * 2 + 1, none⟩ = some (.bool l[j].d)
  st : RcSt w l
theorem RcsAt.below {w w' : World} {g : Nat} {l : List RcV} (h : RcsAt w g l) (hb : Below w.heap.size w w') : RcsAt w' g l :=
  ⟨Nat.lt_of_lt_of_le h.lt hb.size, fun j hj => ⟨(hb.cell (p := ⟨g, j * 2, none⟩) h.lt).trans (h.cl j hj).1, (hb.cell (p := ⟨g, j * 2 + 1, none⟩) h.lt).trans (h.cl j hj).2⟩, h.st.below hb⟩
theorem rc_flat_at (l : List RcV) (i : Nat) (u : Value) (h : (l.flatMap rcCs)[i]? = some u) : ∃ (j : Nat) (hj : j < l.length), (i = j * 2 ∧ u = .slice l[j].a l[j].p.length l[j].c) ∨ (i = j * 2 + 1 ∧ u = .bool l[j].d) := by
  induction l generalizing i with
  | nil => simp at h
  | cons x r ih =>
    rw [List.flatMap_cons] at h
    match i with
    | 0 => exact ⟨0, by simp, .inl ⟨rfl, by simpa [rcCs] using h.symm⟩⟩
    | 1 => exact ⟨0, by simp, .inr ⟨rfl, by simpa [rcCs] using h.symm⟩⟩
    | i + 2 =>
      have h2 : (r.flatMap rcCs)[i]? = some u := by
        rw [List.getElem?_append_right (by simp [rcCs])] at h
        simpa [rcCs] using h
      obtain ⟨j, hj, h3⟩ := ih i h2
      refine ⟨j + 1, by simp; omega, ?_⟩
      simp only [List.getElem_cons_succ]
      rcases h3 with ⟨e, h3⟩ | ⟨e, h3⟩
      · exact .inl ⟨by omega, h3⟩
      · exact .inr ⟨by omega, h3⟩
theorem RcsAt.flat {w : World} {g : Nat} {l : List RcV} (h : RcsAt w g l) : ∀ i u, (l.flatMap rcCs)[i]? = some u → w.cell? ((⟨g, 0, none⟩ : Addr).add i) = some u := fun i u hu => by
  obtain ⟨j, hj, h3⟩ := rc_flat_at l i u hu
  rw [Addr.add_lit, Nat.zero_add]
  rcases h3 with ⟨rfl, rfl⟩ | ⟨rfl, rfl⟩
  · exact (h.cl j hj).1
  · exact (h.cl j hj).2
theorem rc_flat_get (l : List RcV) (j : Nat) (hj : j < l.length) : (l.flatMap rcCs)[j * 2]? = some (.slice l[j].a l[j].p.length l[j].c) ∧ (l.flatMap rcCs)[j * 2 + 1]? = some (.bool l[j].d) := by
  have e0 := flat_at (K := 2) (cs := rcCs) rcCs_len l j hj 0 (by decide)
  have e1 := flat_at (K := 2) (cs := rcCs) rcCs_len l j hj 1 (by decide)
  rw [Nat.add_zero] at e0
  exact ⟨by rw [e0]; rfl, by rw [e1]; rfl⟩
/-- A row that the call owns holds them. -/
theorem rcsAt_of_owns {w : World} {B g c n : Nat} {l : List RcV} (h : w.ownsRow B 203 2 (.slice (some ⟨g, 0, none⟩) n c) l.length (l.flatMap rcCs)) (hst : RcSt w l) : n = l.length ∧ RcsAt w g l := by
  have hlt := World.ownsRow.lt h g rfl
  rcases h.2 with ⟨e, _⟩ | ⟨g', c', cur, e, hB, hh, h1, h2, h3, h4⟩
  · cases e
  · cases e
    have hl := flat_length (K := 2) (cs := rcCs) rcCs_len l
    refine ⟨rfl, hlt.2, fun j hj => ?_, hst⟩
    obtain ⟨e0, e1⟩ := rc_flat_get l j hj
    have c0 := h.cells (g := g) rfl (j * 2) _ e0
    have c1 := h.cells (g := g) rfl (j * 2 + 1) _ e1
    rw [Addr.add_lit, Nat.zero_add] at c0 c1
    exact ⟨c0, c1⟩
/-- One of several lists of them, as it is handed in. -/
structure RcL where
  l : List RcV
  g : Nat
  c : Nat
structure RcLs (w : World) (g : Nat) (ps : List RcL) : Prop where
  lt : g < w.heap.size
  cl : ∀ j (hj : j < ps.length), w.cell? ⟨g, j, none⟩ = some (.slice (some ⟨ps[j].g, 0, none⟩) ps[j].l.length ps[j].c)
  st : ∀ j (hj : j < ps.length), RcsAt w ps[j].g ps[j].l
theorem RcLs.below {w w' : World} {g : Nat} {ps : List RcL} (h : RcLs w g ps) (hb : Below w.heap.size w w') : RcLs w' g ps :=
  ⟨Nat.lt_of_lt_of_le h.lt hb.size, fun j hj => (hb.cell (p := ⟨g, j, none⟩) h.lt).trans (h.cl j hj), fun j hj => (h.st j hj).below hb⟩
def catR (ps : List RcL) : List RcV := (ps.map (·.l)).flatten
theorem catR_snoc (ps : List RcL) (k : Nat) (hk : k < ps.length) : catR (ps.take (k + 1)) = catR (ps.take k) ++ ps[k].l := by
  unfold catR
  rw [List.take_succ_eq_append_getElem hk, List.map_append, List.flatten_append]
  simp
theorem catR_le (ps : List RcL) (k : Nat) : (catR (ps.take k)).length ≤ (catR ps).length := by
  have h : catR ps = catR (ps.take k) ++ catR (ps.drop k) := by
    unfold catR
    rw [← List.flatten_append, ← List.map_append, List.take_append_drop]
  rw [h]
  simp
theorem catR_st {w : World} {g : Nat} {ps : List RcL} (h : RcLs w g ps) : RcSt w (catR ps) := fun x hx => by
  unfold catR at hx
  obtain ⟨l, hl, hx⟩ := List.mem_flatten.1 hx
  obtain ⟨y, hy, rfl⟩ := List.mem_map.1 hl
  obtain ⟨j, hj, rfl⟩ := List.mem_iff_getElem.1 hy
  exact (h.st j hj).st x hx

set_option maxHeartbeats 2000000 in
set_option maxRecDepth 100000 in
/-- slices.Grow of no list. -/
theorem growR_any (n : Nat) (hn : n ≤ 4194304) (w : World) :
    Calls Tryz.prog 229 #[.slice none 0 0, .int .i64 n] w fun e w' => ∃ v, e = .returned v ∧ w'.ownsRow w.heap.size 203 2 v 0 [] ∧ Below w.heap.size w w' := by
  obtain ⟨ii, hii, hz, hs, hb⟩ := info_parts info_reach
  have h0 : ¬ ((n : Int) < 0) := by omega
  by_cases hn0 : n = 0
  · subst hn0
    go_enter Tryz.func229, Tryz.ntmps229
    go_wp2
    go_ret
    exact ⟨_, rfl, ⟨rfl, .inl ⟨rfl, rfl⟩⟩, Below.refl _ _⟩
  · have hold : (Builtin.firstCells ii.size 0 (.slice none 0 0)).run Tryz.prog w.drew = .ok ([] : List Value).toArray w.drew := by
      simp [Builtin.firstCells]
    have h1 : (0 : Int) < (n : Int) := by omega
    have hw1 : IntKind.i64.wrap (n : Int) = (n : Int) := by rw [IntKind.wrap_i64]; omega
    have HOLD := hide hold
    clear hold
    go_enter Tryz.func229, Tryz.ntmps229
    go_wp2_with (at_builtin; refine wpList_appendZ rfl _ _ 200 3 203 rfl ii _ .i64 .i64 Tryz.underlying200 Tryz.underlying3 hii hz none 0 0 [] HOLD.out n (by omega) (by omega) (by omega) (by omega) (by rw [hb]; omega) (by rw [hb]; exact growslice_fits (by omega) (by omega)) rfl _ rfl rfl ?_)
    intro w1 ROW H1 hRs hRt hg1 hs1
    have hGn : n ≤ grownCap w n 0 203 := grownCap_ge w _ _ _
    have hGm := grownCap_le_maxLen w n 0 203 (by unfold maxLen; omega)
    have HRS := hide (show ROW.size = grownCap w n 0 203 * 2 by
      have h1 := hRs.out
      first | omega | (simp at h1; omega))
    clear hRs hRt
    generalize grownCap w n 0 203 = G at *
    have hG63 : G ≤ 9223372036854775807 := by unfold maxLen at hGm; omega
    have K1 := hide hg1
    have hG0 : (0 : Int) ≤ (G : Int) := by omega
    clear hg1
    go_wp2
    go_ret
    refine ⟨_, rfl, ⟨rfl, .inr ⟨w.heap.size, G, ROW, rfl, Nat.le_refl _, H1.out, Nat.zero_le _, hGm, HRS.out, by simp⟩⟩, ?_⟩
    have k1 := K1.out
    exact ⟨k1.os, k1.tape, k1.output, k1.size, fun b hb => k1.block b hb (by simp)⟩

set_option maxHeartbeats 4000000 in
set_option maxRecDepth 100000 in
theorem concatR_any (g cap : Nat) (ps : List RcL) (hl : ps.length ≤ 1000) (hsum : (catR ps).length ≤ 2097152) (w : World) (h : RcLs w g ps) :
    Calls Tryz.prog 199 #[.slice (some ⟨g, 0, none⟩) ps.length cap] w fun e w' => ∃ v, e = .returned v ∧ w'.ownsRow w.heap.size 203 2 v (catR ps).length ((catR ps).flatMap rcCs) ∧ Below w.heap.size w w' := by
  obtain ⟨ii, hii, hz, hs, hb⟩ := info_parts info_reach
  have HSUM := hide hsum
  clear hsum
  go_enter Tryz.func199, Tryz.ntmps199
  go_wp2
  go_loop [3, 11] (fun s i => ∃ k : Nat, k ≤ ps.length ∧ i = .int .i64 k ∧ s = .int .i64 ((catR (ps.take k)).length : Nat)) (fun _ i => ps.length - (intOf i).toNat)
  case atStart => exact ⟨0, Nat.zero_le _, rfl, by simp [catR]⟩
  case round =>
    obtain ⟨k, hk, rfl, rfl⟩ := hrel
    by_cases hlt : k < ps.length
    · have hc := h.cl k hlt
      have hle := catR_le ps (k + 1)
      have hsn := congrArg List.length (catR_snoc ps k hlt)
      rw [List.length_append] at hsn
      have hb9 : (catR (ps.take k)).length + ps[k].l.length ≤ 2097152 := by have := HSUM.out; omega
      have HE := hide (show (((catR (ps.take (k + 1))).length : Nat) : Int) = ((catR (ps.take k)).length : Nat) + (ps[k].l.length : Nat) by omega)
      generalize (catR (ps.take k)).length = m at *
      have hneg : ¬ ((m : Int) + (ps[k].l.length : Int) < 0) := by omega
      clear hle hsn
      go_wp2
      go_round
      case rel => exact ⟨k + 1, by omega, by go_num, by rw [HE.out]⟩
      case measure => simp [intOf]; omega
    · have hke : ps.take k = ps := List.take_of_length_le (by omega)
      have HKE := hide hke
      have X1 := hide (growR_any (catR ps).length (by have := HSUM.out; omega) w)
      rw [← hke] at X1
      clear hke
      go_wp2_with fail
      refine X1.out.mono ?_
      rintro e w1 ⟨v0, rfl, hown, b1⟩
      have HOW := hide hown
      have B1 := hide b1
      clear hown b1 X1
      go_wp2
      go_loopw [6, 27] (fun v i wr => ∃ k : Nat, k ≤ ps.length ∧ i = .int .i64 k ∧ wr.ownsRow w.heap.size 203 2 v (catR (ps.take k)).length ((catR (ps.take k)).flatMap rcCs) ∧ Below w.heap.size w wr) (fun _ i _ => ps.length - (intOf i).toNat)
      case atStart => exact ⟨0, Nat.zero_le _, rfl, by simpa [catR] using HOW.out, B1.out⟩
      case round =>
        obtain ⟨j, hj, rfl, hown, hbe⟩ := hrel
        have HO := hide hown
        clear hown
        by_cases hjl : j < ps.length
        · have h2 := h.below hbe
          have hc := h2.cl j hjl
          have HS2 := hide (h2.st j hjl).flat
          have HSN := hide (catR_snoc ps j hjl)
          have hle := catR_le ps (j + 1)
          have hsn := congrArg List.length HSN.out
          rw [List.length_append] at hsn
          have hb9 : (catR (ps.take j)).length + ps[j].l.length ≤ 2097152 := by have := HSUM.out; omega
          generalize hm9 : (catR (ps.take j)).length = m at *
          clear h2 hle hsn
          go_wp2_with (at_builtin; refine wpList_append_own_at _ rfl _ _ 200 rfl w.heap.size 203 ii _ 2 32 Tryz.underlying200 hii hz hs hb rfl (by omega) _ m ((catR (ps.take j)).flatMap rcCs) rfl HO.out ⟨ps[j].g, 0, none⟩ ps[j].l.length ps[j].c (ps[j].l.flatMap rcCs) rfl (by rw [flat_length (K := 2) (cs := rcCs) rcCs_len]) HS2.out (rcCs_one _) (by unfold maxLen; omega) (by omega) hbe.size ?_)
          intro v' w' h3 h4 h5 h6
          have H3 := hide h3
          have H4 := hide h4
          have HOB := hide HO.out
          clear h3 h4 h5 h6
          go_wp2
          go_roundw
          case rel =>
            refine ⟨j + 1, by omega, by go_num, ?_, ?_⟩
            · rw [HSN.out, List.flatMap_append, List.length_append, hm9]
              exact H3.out
            · have g4 := H4.out
              have hlt2 := HOB.out.lt
              exact hbe.trans ⟨g4.os, g4.tape, g4.output, g4.size, fun b hb => g4.block b (by have := hbe.size; omega) (fun e => by have := (hlt2 b e.symm).1; omega)⟩
          case measure => simp [intOf]; omega
        · have hke2 : ps.take j = ps := List.take_of_length_le (by omega)
          have HK2 := hide hke2
          clear hke2
          go_wp2
          go_ret
          refine ⟨_, rfl, ?_, hbe⟩
          have := HO.out
          rw [HK2.out] at this
          exact this
end Go.Proofs.YtfhcniifennfbaaGreatDoor
