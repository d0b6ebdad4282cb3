/-
  The walk of the law FnNodes: for every code it returns true, and turns nothing that was there.
-/
import Derived.Test.YtccehdlgpbeijaaGreatDoorDrawSameN
import Derived.Test.YtccehdlgpbeijaaGreatDoorWalkParseNode
import Derived.Test.YtccehdlgpbeijaaGreatDoorNodeText
import Derived.Test.YtccehdlgpbeijaaGreatDoorSpecSameN
import Derived.Test.YtccehdlgpbeijaaGreatDoorSpecKidOf
import Derived.Test.YtccehdlgpbeijaaGreatDoorIsRow
import Derived.Deep.RegionHeld3
namespace Go.Proofs.YtccehdlgpbeijaaGreatDoor
open Go.RowKit M
set_option linter.unusedVariables false

/-- A tree in a box. -/
structure Tr (W : World) (B p : Nat) (a : Option Addr) (c : Nat) (n : Nd) : Prop where
  b : BoxN W p a c n
  d : Nds W B a n.ks
  hB : B ≤ W.heap.size
theorem Tr.next {W W' : World} {B p : Nat} {a : Option Addr} {c : Nat} {n : Nd} (h : Tr W B p a c n) (hb : Below W.heap.size W W') : Tr W' B p a c n :=
  ⟨h.b.next hb, h.d.stays hb h.hB, Nat.le_trans h.hB hb.size⟩
theorem Tr.made (W : World) {B : Nat} {a : Option Addr} {n : Nd} (d : Nds W B a n.ks) (hB : B ≤ W.heap.size) (c : Nat) (T : TypeId) : Tr (W.alloc (Obj.cells #[.string n.ns, .string n.nm, .string n.tx, .slice a n.ks.length c] T)) B W.heap.size a c n :=
  ⟨BoxN.made W a c n T, d.stays ((Below.refl W.heap.size W).alloc (Nat.le_refl _) _) hB, by simp; omega⟩
theorem Tr.drew {W : World} {B p : Nat} {a : Option Addr} {c : Nat} {n : Nd} (h : Tr W B p a c n) : Tr W.drew B p a c n := h.next (below_drewN (Below.refl _ _))
theorem nodeT_yes {n : Nd} (h : nodeB n = true) : nodeT n = bytesOf (n.txt noB) := by unfold nodeT; rw [if_pos h]; rfl
theorem nodeT_no {n : Nd} (h : nodeB n = false) : nodeT n = ⟨#[]⟩ := by unfold nodeT; rw [if_neg (by simp [h])]; rfl
theorem read_back {n : Nd} (h : nodeB n = true) : readP (pcsR (nodeT n).data.toList).1 = some n := by
  rw [nodeT_yes h]
  show readP (pcsR (n.txt noB)).1 = some n
  obtain ⟨h1, h2⟩ := tree_back n h
  rw [h1]; exact h2
theorem nodeT_fits {n : Nd} (h : n.szN ≤ 10000) : (nodeT n).size ≤ 1048576 := by
  unfold nodeT
  split
  · rw [bytesOf_size]
    have := txt_len n ByteArray.empty
    omega
  · show 0 ≤ _
    omega
/-- A right tree, read of its own text. -/
theorem back_call {n : Nd} (h : nodeB n = true) (hz : n.szN ≤ 10000) (W : World) : Calls Tryz.prog 9 #[.string (nodeT n)] W fun e w' => (∃ (a : Option Addr) (c : Nat), e = .returned (.tuple #[.agg #[.string n.ns, .string n.nm, .string n.tx, .slice a n.ks.length c], .bool true]) ∧ OwnK w' a n.ks (Ivl W.heap.size w'.heap.size)) ∧ Below W.heap.size W w' := by
  have h1 := (parseNode_any (nodeT n) W (nodeT_fits hz)).mono fun e w' h => And.intro (pn_parts h.1) h.2
  rw [read_back h] at h1
  exact h1
theorem empty8 : ((⟨#[]⟩ : ByteArray).toList).isEmpty = true := by rw [ByteArray.toList_eq]; rfl

theorem keep5 (W : World) {p0 : Nat} {a0 : Option Addr} {c0 : Nat} {n0 : Nd} {p1 : Nat} {a1 : Option Addr} {c1 : Nat} {n1 : Nd} {p2 : Nat} {a2 : Option Addr} {c2 : Nat} {n2 : Nd} {p3 : Nat} {a3 : Option Addr} {c3 : Nat} {n3 : Nd} {p4 : Nat} {a4 : Option Addr} {c4 : Nat} {n4 : Nd} (h0 : BoxN W p0 a0 c0 n0) (h1 : BoxN W p1 a1 c1 n1) (h2 : BoxN W p2 a2 c2 n2) (h3 : BoxN W p3 a3 c3 n3) (h4 : BoxN W p4 a4 c4 n4) : W.cell? ⟨p0, 0, none⟩ = some (.string n0.ns) ∧ W.cell? ⟨p0, 1, none⟩ = some (.string n0.nm) ∧ W.cell? ⟨p0, 2, none⟩ = some (.string n0.tx) ∧ W.cell? ⟨p0, 3, none⟩ = some (.slice a0 n0.ks.length c0) ∧ W.cell? ⟨p1, 0, none⟩ = some (.string n1.ns) ∧ W.cell? ⟨p1, 1, none⟩ = some (.string n1.nm) ∧ W.cell? ⟨p1, 2, none⟩ = some (.string n1.tx) ∧ W.cell? ⟨p1, 3, none⟩ = some (.slice a1 n1.ks.length c1) ∧ W.cell? ⟨p2, 0, none⟩ = some (.string n2.ns) ∧ W.cell? ⟨p2, 1, none⟩ = some (.string n2.nm) ∧ W.cell? ⟨p2, 2, none⟩ = some (.string n2.tx) ∧ W.cell? ⟨p2, 3, none⟩ = some (.slice a2 n2.ks.length c2) ∧ W.cell? ⟨p3, 0, none⟩ = some (.string n3.ns) ∧ W.cell? ⟨p3, 1, none⟩ = some (.string n3.nm) ∧ W.cell? ⟨p3, 2, none⟩ = some (.string n3.tx) ∧ W.cell? ⟨p3, 3, none⟩ = some (.slice a3 n3.ks.length c3) ∧ W.cell? ⟨p4, 0, none⟩ = some (.string n4.ns) ∧ W.cell? ⟨p4, 1, none⟩ = some (.string n4.nm) ∧ W.cell? ⟨p4, 2, none⟩ = some (.string n4.tx) ∧ W.cell? ⟨p4, 3, none⟩ = some (.slice a4 n4.ks.length c4) := ⟨h0.c0, h0.c1, h0.c2, h0.c3, h1.c0, h1.c1, h1.c2, h1.c3, h2.c0, h2.c1, h2.c2, h2.c3, h3.c0, h3.c1, h3.c2, h3.c3, h4.c0, h4.c1, h4.c2, h4.c3⟩

/-- What is held from the comparisons on. -/
structure HeldT (w W : World) (p1 : Nat) (an : Option Addr) (cn : Nat) (n : Nd) (p4 : Nat) (ay : Option Addr) (cy : Nat) (y : Nd) (q6 : Nat) (aa : Option Addr) (ca : Nat) (ga : Nd) (ab : Option Addr) (cb : Nat) (gb : Nd) (pu : Nat) (au : Option Addr) (cu : Nat) (pv : Nat) (av : Option Addr) (cv : Nat) (m : Nd) : Prop where
  n : Tr W p1 p1 an cn n
  y : Tr W p4 p4 ay cy y
  a : Tr W q6 q6 aa ca ga
  b : Tr W q6 (q6 + 1) ab cb gb
  u : Tr W pu pu au cu m
  v : Tr W pv pv av cv m
  c : Below w.heap.size w W
theorem HeldT.next {w W W' : World} {p1 : Nat} {an : Option Addr} {cn : Nat} {n : Nd} {p4 : Nat} {ay : Option Addr} {cy : Nat} {y : Nd} {q6 : Nat} {aa : Option Addr} {ca : Nat} {ga : Nd} {ab : Option Addr} {cb : Nat} {gb : Nd} {pu : Nat} {au : Option Addr} {cu : Nat} {pv : Nat} {av : Option Addr} {cv : Nat} {m : Nd} (h : HeldT w W p1 an cn n p4 ay cy y q6 aa ca ga ab cb gb pu au cu pv av cv m) (hb : Below W.heap.size W W') : HeldT w W' p1 an cn n p4 ay cy y q6 aa ca ga ab cb gb pu au cu pv av cv m :=
  ⟨h.n.next hb, h.y.next hb, h.a.next hb, h.b.next hb, h.u.next hb, h.v.next hb, h.c.trans (hb.mono h.c.size)⟩

set_option maxRecDepth 100000 in
set_option maxHeartbeats 16000000 in
theorem FnNodes_walk (a : Option Addr) (len cap : Nat) (zs : List Int) (w : World) (hr : IsRow .u8 w a len cap zs) (hL : laidMet Tryz.prog Rows.fnNodesRow.laid w) :
    Calls Tryz.prog 3 #[.slice a len cap] w fun e w' => e = .returned (.bool true) ∧ Below w.heap.size w w' := by
  clear hL
  have hml := row_len hr
  by_cases hb : (1048576 : Int) < (len : Int)
  · clear hr
    go_enter Tryz.func3, Tryz.ntmps3
    go_wp2_with (go_at_call 5; refine (big_any a len cap _ hml).mono ?_; rintro e w1 ⟨rfl, hw⟩; obtain rfl := hw.symm; rw [decide_eq_true hb])
    go_ret
    exact ⟨rfl, Below.refl _ _⟩
  · have HC : Hid (CodeIn w w.heap.size a len zs) := code_of_row hr (by omega)
    clear hr
    go_enter Tryz.func3, Tryz.ntmps3
    go_wp2_with (go_at_call 5; refine (big_any a len cap _ hml).mono ?_; rintro e w1 ⟨rfl, hw⟩; obtain rfl := hw.symm; rw [decide_eq_false hb])
    refine (drawNodeText_any HC.out cap).mono ?_
    rintro e w1 ⟨⟨n, an, cn, rfl, o1, hnz⟩, b1⟩
    have bA := (Below.refl w1.heap.size w1).alloc (Nat.le_refl _) (Obj.cells #[.string n.ns, .string n.nm, .string n.tx, .slice an n.ks.length cn] 26)
    have N1 := hide (Tr.made w1 (o1.nds (fun x hx => hx.2)) (Nat.le_refl _) cn 26)
    have C1 := hide (b1.trans (bA.mono b1.size))
    have HNT := hide (fun (W : World) (h : Nds W w1.heap.size an n.ks) (hB : w1.heap.size ≤ W.heap.size) => nodeText_any n an cn w1.heap.size W h hB (by omega))
    have HNS := hide (fun (W : World) (h : Nds W w1.heap.size an n.ks) (hB : w1.heap.size ≤ W.heap.size) => specNodeText_any n an cn w1.heap.size W h hB (by omega))
    have HNO := hide (fun (W : World) (h : Nds W w1.heap.size an n.ks) (hB : w1.heap.size ≤ W.heap.size) => nodeOk_any n an cn w1.heap.size W h hB (short_sz n (by omega)))
    have HNP := hide (fun (W : World) (h : Nds W w1.heap.size an n.ks) (hB : w1.heap.size ≤ W.heap.size) => specNodeOk_any n an cn w1.heap.size W h hB (short_sz n (by omega)))
    have hsz := nodeT_fits hnz
    have HNE := hide (fun h => nodeT_no (n := n) h)
    have HNB := hide (fun h W => back_call (n := n) h hnz W)
    have HNN := hide (fun (W : World) (px : Nat) (ax : Option Addr) (cx : Nat) (h1 : Nds W px ax n.ks) (h2 : Nds W w1.heap.size an n.ks) (hB : px ≤ W.heap.size) (hC : w1.heap.size ≤ W.heap.size) => (sameNode_any n n ax an cx cn px w1.heap.size W h1 h2 hB hC (short_sz n (by omega)) (short_sz n (by omega))))
    simp only [same_refl] at HNN
    obtain ⟨s, hs⟩ : ∃ s, nodeT n = s := ⟨_, rfl⟩
    rw [hs] at HNT HNS hsz HNE HNB
    obtain ⟨bn, hbn⟩ : ∃ bn, nodeB n = bn := ⟨_, rfl⟩
    rw [hbn] at HNO HNP HNE HNB
    obtain ⟨WA, hWA⟩ : ∃ WA, (w1.alloc (Obj.cells #[.string n.ns, .string n.nm, .string n.tx, .slice an n.ks.length cn] 26)) = WA := ⟨_, rfl⟩
    rw [hWA] at N1 C1
    obtain ⟨p1, hp1⟩ : ∃ p1, w1.heap.size = p1 := ⟨_, rfl⟩
    rw [hp1] at N1 HNT HNS HNO HNP HNN
    obtain ⟨_, x0, x1, x2, x3⟩ := N1.out.b
    clear o1 b1 bA hs hbn
    go_wp2_with fail
    refine (HNT.out WA N1.out.d N1.out.hB).mono ?_
    rintro e w2 ⟨rfl, b2⟩
    have N2 := hide (N1.out.next b2)
    have C2 := hide (C1.out.trans (b2.mono C1.out.size))
    have HC2 := hide (HC.out.below C2.out)
    clear b2 hWA hp1 x0 x1 x2 x3 N1 C1
    go_wp2_with fail
    refine (drawParseNode_any HC2.out cap).mono ?_
    rintro e w3 ⟨⟨t, rfl, htz⟩, b3⟩
    have N3 := hide (N2.out.next b3)
    have C3 := hide (C2.out.trans (b3.mono C2.out.size))
    have HIP := hide (fun W => (parseNode_any t W htz).mono fun e w' h => And.intro (pn_parts h.1) h.2)
    have HSP := hide (fun W => (specParseNode_any t W htz).mono fun e w' h => And.intro (pn_parts h.1) h.2)
    obtain ⟨hyz, hyc⟩ := ndOf_small (pcsR t.data.toList).1
    have HYB : Hid ((readP (pcsR t.data.toList).1).isSome = true → nodeB (ndOf (readP (pcsR t.data.toList).1)) = true) := fun h => by
      cases hx : readP (pcsR t.data.toList).1 with
      | none => rw [hx] at h; cases h
      | some m => exact readP_good hx
    obtain ⟨y, hy⟩ : ∃ y, ndOf (readP (pcsR t.data.toList).1) = y := ⟨_, rfl⟩
    obtain ⟨is, his⟩ : ∃ is, (readP (pcsR t.data.toList).1).isSome = is := ⟨_, rfl⟩
    simp only [hy, his] at HIP HSP hyz hyc HYB
    clear b3 hy his N2 C2 HC2
    go_wp2_with fail
    refine (HIP.out w3).mono ?_
    rintro e w4 ⟨⟨ay, cy, rfl, o4⟩, b4⟩
    have bA := (Below.refl w4.heap.size w4).alloc (Nat.le_refl _) (Obj.cells #[.string y.ns, .string y.nm, .string y.tx, .slice ay y.ks.length cy] 26)
    have Y4 := hide (Tr.made w4 (o4.nds (B := w4.heap.size) (fun x hx => hx.2)) (Nat.le_refl _) cy 26)
    have N4 := hide ((N3.out.next b4).next bA)
    have c4 := C3.out.trans (b4.mono C3.out.size)
    have C4 := hide (c4.trans (bA.mono c4.size))
    obtain ⟨WB, hWB⟩ : ∃ WB, (w4.alloc (Obj.cells #[.string y.ns, .string y.nm, .string y.tx, .slice ay y.ks.length cy] 26)) = WB := ⟨_, rfl⟩
    rw [hWB] at Y4 N4 C4
    obtain ⟨p4, hp4⟩ : ∃ p4, w4.heap.size = p4 := ⟨_, rfl⟩
    rw [hp4] at Y4
    clear o4 b4 bA c4 N3 C3
    go_wp2_with fail
    refine (HSP.out WB).mono ?_
    rintro e w5 ⟨⟨az, cz, rfl, o5⟩, b5⟩
    have bA := (Below.refl w5.heap.size w5).alloc (Nat.le_refl _) (Obj.cells #[.string y.ns, .string y.nm, .string y.tx, .slice az y.ks.length cz] 26)
    have Y5 := hide ((Y4.out.next b5).next bA)
    have N5 := hide ((N4.out.next b5).next bA)
    have c5 := C4.out.trans (b5.mono C4.out.size)
    have C5 := hide (c5.trans (bA.mono c5.size))
    obtain ⟨WC, hWC⟩ : ∃ WC, (w5.alloc (Obj.cells #[.string y.ns, .string y.nm, .string y.tx, .slice az y.ks.length cz] 26)) = WC := ⟨_, rfl⟩
    rw [hWC] at Y5 N5 C5
    have HC5 := hide (HC.out.below C5.out)
    clear o5 b5 bA c5 N4 C4 Y4 hWB hp4
    go_wp2_with fail
    refine (drawSameNode_any HC5.out cap).mono ?_
    rintro e w6 ⟨⟨ga, gb, aa, ab, ca, cb, rfl, oa, ob, hza, hzb⟩, b6⟩
    have bA := (Below.refl w6.heap.size w6).alloc (Nat.le_refl _) (Obj.cells #[.string ga.ns, .string ga.nm, .string ga.tx, .slice aa ga.ks.length ca] 26)
    have bB := (Below.refl (w6.alloc (Obj.cells #[.string ga.ns, .string ga.nm, .string ga.tx, .slice aa ga.ks.length ca] 26)).heap.size (w6.alloc (Obj.cells #[.string ga.ns, .string ga.nm, .string ga.tx, .slice aa ga.ks.length ca] 26))).alloc (Nat.le_refl _) (Obj.cells #[.string gb.ns, .string gb.nm, .string gb.tx, .slice ab gb.ks.length cb] 26)
    have ta := (Tr.made w6 (oa.nds (B := w6.heap.size) (fun x hx => hx.2)) (Nat.le_refl _) ca 26).next bB
    have tb := Tr.made (w6.alloc (Obj.cells #[.string ga.ns, .string ga.nm, .string ga.tx, .slice aa ga.ks.length ca] 26)) ((ob.nds (B := w6.heap.size) (fun x hx => hx.2)).stays bA (Nat.le_refl _)) bA.size cb 26
    have Y6 := hide (((Y5.out.next b6).next bA).next bB)
    have N6 := hide (((N5.out.next b6).next bA).next bB)
    have c6 := C5.out.trans (b6.mono C5.out.size)
    have C6 := hide ((c6.trans (bA.mono c6.size)).trans (bB.mono (by have := c6.size; simp; omega)))
    have hpb : (w6.alloc (Obj.cells #[.string ga.ns, .string ga.nm, .string ga.tx, .slice aa ga.ks.length ca] 26)).heap.size = w6.heap.size + 1 := by simp
    rw [hpb] at tb
    have TA := hide ta
    have TB := hide tb
    clear oa ob b6 bA bB ta tb c6 N5 Y5 C5 hWC HC5 hpb
    obtain ⟨WD, hWD⟩ : ∃ WD, ((w6.alloc (Obj.cells #[.string ga.ns, .string ga.nm, .string ga.tx, .slice aa ga.ks.length ca] 26)).alloc (Obj.cells #[.string gb.ns, .string gb.nm, .string gb.tx, .slice ab gb.ks.length cb] 26)) = WD := ⟨_, rfl⟩
    rw [hWD] at TA TB Y6 N6 C6
    have HWD := hide hWD
    have HC6 := hide (HC.out.below C6.out)
    clear hWD
    go_wp2_with fail
    rw [HWD.out]
    obtain ⟨q6, hq6⟩ : ∃ q6, w6.heap.size = q6 := ⟨_, rfl⟩
    rw [hq6] at TA TB
    rw [hq6]
    refine (drawKidOf_any HC6.out cap).mono ?_
    rintro e w7 ⟨⟨gk, ak, ck, kx, ky, rfl, ok7, hzk, hkx, hky⟩, b7⟩
    have bA := (Below.refl w7.heap.size w7).alloc (Nat.le_refl _) (Obj.cells #[.string gk.ns, .string gk.nm, .string gk.tx, .slice ak gk.ks.length ck] 26)
    have TK := hide (Tr.made w7 (ok7.nds (B := w7.heap.size) (fun x hx => hx.2)) (Nat.le_refl _) ck 26)
    have TA7 := hide ((TA.out.next b7).next bA)
    have TB7 := hide ((TB.out.next b7).next bA)
    have Y7 := hide ((Y6.out.next b7).next bA)
    have N7 := hide ((N6.out.next b7).next bA)
    have c7 := C6.out.trans (b7.mono C6.out.size)
    have C7 := hide (c7.trans (bA.mono c7.size))
    obtain ⟨WE, hWE⟩ : ∃ WE, (w7.alloc (Obj.cells #[.string gk.ns, .string gk.nm, .string gk.tx, .slice ak gk.ks.length ck] 26)) = WE := ⟨_, rfl⟩
    rw [hWE] at TK TA7 TB7 Y7 N7 C7
    have HKI := hide (fun (W : World) (h : Nds W w7.heap.size ak gk.ks) (hB : w7.heap.size ≤ W.heap.size) => kidOf_any gk kx ky ak ck w7.heap.size W h hB (by omega))
    have HKS := hide (fun (W : World) (h : Nds W w7.heap.size ak gk.ks) (hB : w7.heap.size ≤ W.heap.size) => specKidOf_any gk kx ky ak ck w7.heap.size W h hB (by omega))
    have hmz : (kidP gk.ks kx ky).1.szN ≤ 10000 := by have h1 := kidP_sz gk.ks kx ky; have h2 := szN_ks gk; omega
    obtain ⟨R, hR⟩ : ∃ R, kidP gk.ks kx ky = R := ⟨_, rfl⟩
    simp only [hR] at HKI HKS hmz
    clear hR
    obtain ⟨m, fo⟩ := R
    simp only at HKI HKS hmz
    obtain ⟨p7, hp7⟩ : ∃ p7, w7.heap.size = p7 := ⟨_, rfl⟩
    rw [hp7] at TK HKI HKS
    obtain ⟨_, x0, x1, x2, x3⟩ := TK.out.b
    clear ok7 b7 bA c7 TA TB Y6 N6 C6 HC6 HWD hq6
    go_wp2_with fail
    refine (HKI.out WE TK.out.d TK.out.hB).mono ?_
    rintro e w8 ⟨⟨au, cu, rfl, o8⟩, b8⟩
    have bA := (Below.refl w8.heap.size w8).alloc (Nat.le_refl _) (Obj.cells #[.string m.ns, .string m.nm, .string m.tx, .slice au m.ks.length cu] 26)
    have TU := hide (Tr.made w8 (o8.nds (B := w8.heap.size) (fun x hx => hx.2)) (Nat.le_refl _) cu 26)
    have TK8 := hide ((TK.out.next b8).next bA)
    have TA8 := hide ((TA7.out.next b8).next bA)
    have TB8 := hide ((TB7.out.next b8).next bA)
    have Y8 := hide ((Y7.out.next b8).next bA)
    have N8 := hide ((N7.out.next b8).next bA)
    have c8 := C7.out.trans (b8.mono C7.out.size)
    have C8 := hide (c8.trans (bA.mono c8.size))
    obtain ⟨WF, hWF⟩ : ∃ WF, (w8.alloc (Obj.cells #[.string m.ns, .string m.nm, .string m.tx, .slice au m.ks.length cu] 26)) = WF := ⟨_, rfl⟩
    rw [hWF] at TU TK8 TA8 TB8 Y8 N8 C8
    obtain ⟨pu, hpu⟩ : ∃ pu, w8.heap.size = pu := ⟨_, rfl⟩
    rw [hpu] at TU
    clear x0 x1 x2 x3 o8 b8 bA c8 hWE hp7 TK TA7 TB7 Y7 N7 C7
    obtain ⟨_, x0, x1, x2, x3⟩ := TK8.out.b
    go_wp2_with fail
    refine (HKS.out WF TK8.out.d TK8.out.hB).mono ?_
    rintro e w9 ⟨⟨av, cv, rfl, o9⟩, b9⟩
    have bA := (Below.refl w9.heap.size w9).alloc (Nat.le_refl _) (Obj.cells #[.string m.ns, .string m.nm, .string m.tx, .slice av m.ks.length cv] 26)
    have TV := hide (Tr.made w9 (o9.nds (B := w9.heap.size) (fun x hx => hx.2)) (Nat.le_refl _) cv 26)
    have TU9 := hide ((TU.out.next b9).next bA)
    have TA9 := hide ((TA8.out.next b9).next bA)
    have TB9 := hide ((TB8.out.next b9).next bA)
    have Y9 := hide ((Y8.out.next b9).next bA)
    have N9 := hide ((N8.out.next b9).next bA)
    have c9 := C8.out.trans (b9.mono C8.out.size)
    have C9 := hide (c9.trans (bA.mono c9.size))
    obtain ⟨WG, hWG⟩ : ∃ WG, (w9.alloc (Obj.cells #[.string m.ns, .string m.nm, .string m.tx, .slice av m.ks.length cv] 26)) = WG := ⟨_, rfl⟩
    rw [hWG] at TV TU9 TA9 TB9 Y9 N9 C9
    obtain ⟨pv, hpv⟩ : ∃ pv, w9.heap.size = pv := ⟨_, rfl⟩
    rw [hpv] at TV
    clear x0 x1 x2 x3 o9 b9 bA c9 hWF hpu TK8 TA8 TB8 Y8 N8 C8 TU
    have HSI := hide (fun (W : World) (h1 : Nds W q6 aa ga.ks) (h2 : Nds W q6 ab gb.ks) (hB : q6 ≤ W.heap.size) => sameNode_any ga gb aa ab ca cb q6 q6 W h1 h2 hB hB (short_sz ga (by omega)) (short_sz gb (by omega)))
    have HSS := hide (fun (W : World) (h1 : Nds W q6 aa ga.ks) (h2 : Nds W q6 ab gb.ks) (hB : q6 ≤ W.heap.size) => specSameNode_any ga gb aa ab ca cb q6 q6 W h1 h2 hB hB (short_sz ga (by omega)) (short_sz gb (by omega)))
    obtain ⟨sb, hsb⟩ : ∃ sb, ga.same gb = sb := ⟨_, rfl⟩
    simp only [hsb] at HSI HSS
    have HSU := hide (fun (W : World) (h1 : Nds W pu au m.ks) (h2 : Nds W pv av m.ks) (hB : pu ≤ W.heap.size) (hC : pv ≤ W.heap.size) => sameNode_any m m au av cu cv pu pv W h1 h2 hB hC (short_sz m (by omega)) (short_sz m (by omega)))
    simp only [same_refl] at HSU
    have H9 := hide ((HeldT.mk N9.out Y9.out TA9.out TB9.out TU9.out TV.out C9.out).next (below_drewN (Below.refl _ WG)))
    have K9 := hide (keep5 WG.drew H9.out.n.b H9.out.a.b H9.out.b.b H9.out.u.b H9.out.v.b)
    clear hsb N9 Y9 TA9 TB9 TU9 TV C9
    go_wp2_with fail
    clear hWG hpv
    refine wp_region_held_drew (S := (fun W => W.cell? ⟨p1, 0, none⟩ = some (.string n.ns) ∧ W.cell? ⟨p1, 1, none⟩ = some (.string n.nm) ∧ W.cell? ⟨p1, 2, none⟩ = some (.string n.tx) ∧ W.cell? ⟨p1, 3, none⟩ = some (.slice an n.ks.length cn) ∧ W.cell? ⟨q6, 0, none⟩ = some (.string ga.ns) ∧ W.cell? ⟨q6, 1, none⟩ = some (.string ga.nm) ∧ W.cell? ⟨q6, 2, none⟩ = some (.string ga.tx) ∧ W.cell? ⟨q6, 3, none⟩ = some (.slice aa ga.ks.length ca) ∧ W.cell? ⟨q6 + 1, 0, none⟩ = some (.string gb.ns) ∧ W.cell? ⟨q6 + 1, 1, none⟩ = some (.string gb.nm) ∧ W.cell? ⟨q6 + 1, 2, none⟩ = some (.string gb.tx) ∧ W.cell? ⟨q6 + 1, 3, none⟩ = some (.slice ab gb.ks.length cb) ∧ W.cell? ⟨pu, 0, none⟩ = some (.string m.ns) ∧ W.cell? ⟨pu, 1, none⟩ = some (.string m.nm) ∧ W.cell? ⟨pu, 2, none⟩ = some (.string m.tx) ∧ W.cell? ⟨pu, 3, none⟩ = some (.slice au m.ks.length cu) ∧ W.cell? ⟨pv, 0, none⟩ = some (.string m.ns) ∧ W.cell? ⟨pv, 1, none⟩ = some (.string m.nm) ∧ W.cell? ⟨pv, 2, none⟩ = some (.string m.tx) ∧ W.cell? ⟨pv, 3, none⟩ = some (.slice av m.ks.length cv))) (by kernel_rfl) K9.out (fun hHeld => ?_)
    simp only [List.cons_append, List.nil_append, List.size_toArray, List.length_cons, List.length_nil, Nat.reduceAdd, Array.replicate_succ, Array.replicate_zero, List.push_toArray, List.nil_append, List.cons_append]
    refine wpAnyH_take (i := 0) (v := ?_) rfl (by kernel_rfl) (by kernel_rfl) (by kernel_rfl) (fun _ _ _ h => h) (Or.inl ⟨by rfl, ?_⟩) (by assumption) ?_
    rotate_left
    · intro w hSw; (try dsimp only at hSw); go_simp; try with_reducible rfl
    simp only [Act.put, List.getElem_toArray, List.getElem_cons_zero, List.setIfInBounds_toArray, List.set_cons_succ, List.set_cons_zero]
    refine wpAnyH_take (i := 1) (v := ?_) rfl (by kernel_rfl) (by kernel_rfl) (by kernel_rfl) (fun _ _ _ h => h) (Or.inl ⟨by rfl, ?_⟩) (by assumption) ?_
    rotate_left
    · intro w hSw; (try dsimp only at hSw); go_simp; try with_reducible rfl
    simp only [Act.put, List.getElem_toArray, List.getElem_cons_succ, List.getElem_cons_zero, List.setIfInBounds_toArray, List.set_cons_succ, List.set_cons_zero]
    refine wpAnyH_take (i := 2) (v := .bool false) rfl (by kernel_rfl) (by kernel_rfl) (by kernel_rfl) (fun _ _ _ h => h) (Or.inl ⟨by rfl, ?_⟩) (by assumption) ?_
    · intro w hSw; (try dsimp only at hSw); go_simp
    simp only [Act.put, List.getElem_toArray, List.getElem_cons_succ, List.getElem_cons_zero, List.setIfInBounds_toArray, List.set_cons_succ, List.set_cons_zero]
    refine wpAnyH_take (i := 3) (v := ?_) rfl (by kernel_rfl) (by kernel_rfl) (by kernel_rfl) (fun _ _ _ h => h) (Or.inl ⟨by rfl, ?_⟩) (by assumption) ?_
    rotate_left
    · intro w hSw; (try dsimp only at hSw); go_simp; try with_reducible rfl
    simp only [Act.put, List.getElem_toArray, List.getElem_cons_succ, List.getElem_cons_zero, List.setIfInBounds_toArray, List.set_cons_succ, List.set_cons_zero]
    refine wpAnyH_take (i := 4) (v := ?_) rfl (by kernel_rfl) (by kernel_rfl) (by kernel_rfl) (fun _ _ _ h => h) (Or.inl ⟨by rfl, ?_⟩) (by assumption) ?_
    rotate_left
    · intro w hSw; (try dsimp only at hSw); go_simp; try with_reducible rfl
    simp only [Act.put, List.getElem_toArray, List.getElem_cons_succ, List.getElem_cons_zero, List.setIfInBounds_toArray, List.set_cons_succ, List.set_cons_zero]
    refine wpAnyH_take (i := 6) (v := ?_) rfl (by kernel_rfl) (by kernel_rfl) (by kernel_rfl) (fun _ _ _ h => h) (Or.inl ⟨by rfl, ?_⟩) (by assumption) ?_
    rotate_left
    · intro w hSw; (try dsimp only at hSw); go_simp; try with_reducible rfl
    simp only [Act.put, List.getElem_toArray, List.getElem_cons_succ, List.getElem_cons_zero, List.setIfInBounds_toArray, List.set_cons_succ, List.set_cons_zero]
    refine wpAnyH_ready (rs := [5]) (by kernel_rfl) (by simp) ?_
    refine AllReadyH.cons rfl (fun K hK => ?_) AllReadyH.nil
    go_simp
    refine (HNO.out WG.drew H9.out.n.d H9.out.n.hB).mono ?_
    rintro e w10 ⟨rfl, b10⟩
    have H10 := hide (H9.out.next b10)
    have K10 := hide (keep5 w10 H10.out.n.b H10.out.a.b H10.out.b.b H10.out.u.b H10.out.v.b)
    clear b10
    refine hK.out _ _ K10.out (fun hHeld2 => ?_)
    clear hK K hHeld
    have hHeld := hHeld2
    clear hHeld2
    simp only [List.setIfInBounds_toArray, List.set_cons_succ, List.set_cons_zero]
    refine wpAnyH_ready (rs := [7]) (by kernel_rfl) (by simp) ?_
    refine AllReadyH.cons rfl (fun K hK => ?_) AllReadyH.nil
    go_simp
    refine (HNP.out w10 H10.out.n.d H10.out.n.hB).mono ?_
    rintro e w11 ⟨rfl, b11⟩
    have H11 := hide (H10.out.next b11)
    have K11 := hide (keep5 w11 H11.out.n.b H11.out.a.b H11.out.b.b H11.out.u.b H11.out.v.b)
    clear b11
    refine hK.out _ _ K11.out (fun hHeld2 => ?_)
    clear hK K hHeld
    have hHeld := hHeld2
    clear hHeld2
    simp only [List.setIfInBounds_toArray, List.set_cons_succ, List.set_cons_zero]
    refine wpAnyH_take (i := 8) (v := .bool false) rfl (by kernel_rfl) (by kernel_rfl) (by kernel_rfl) (fun _ _ _ h => h) (Or.inl ⟨by rfl, ?_⟩) (by assumption) ?_
    · intro w hSw; (try dsimp only at hSw); go_simp
    simp only [Act.put, List.getElem_toArray, List.getElem_cons_succ, List.getElem_cons_zero, List.setIfInBounds_toArray, List.set_cons_succ, List.set_cons_zero]
    refine wpAnyH_take (i := 9) (v := .bool false) rfl (by kernel_rfl) (by kernel_rfl) (by kernel_rfl) (fun _ _ _ h => h) (Or.inl ⟨by rfl, ?_⟩) (by assumption) ?_
    · intro w hSw; (try dsimp only at hSw); go_simp
    simp only [Act.put, List.getElem_toArray, List.getElem_cons_succ, List.getElem_cons_zero, List.setIfInBounds_toArray, List.set_cons_succ, List.set_cons_zero]
    refine wpAnyH_take (i := 10) (v := ?_) rfl (by kernel_rfl) (by kernel_rfl) (by kernel_rfl) (fun _ _ _ h => h) (Or.inl ⟨by rfl, ?_⟩) (by assumption) ?_
    rotate_left
    · intro w hSw; (try dsimp only at hSw); go_simp; try with_reducible rfl
    simp only [Act.put, List.getElem_toArray, List.getElem_cons_succ, List.getElem_cons_zero, List.setIfInBounds_toArray, List.set_cons_succ, List.set_cons_zero]
    refine wpAnyH_take (i := 11) (v := ?_) rfl (by kernel_rfl) (by kernel_rfl) (by kernel_rfl) (fun _ _ _ h => h) (Or.inl ⟨by rfl, ?_⟩) (by assumption) ?_
    rotate_left
    · intro w hSw; (try dsimp only at hSw); go_simp; try with_reducible rfl
    simp only [Act.put, List.getElem_toArray, List.getElem_cons_succ, List.getElem_cons_zero, List.setIfInBounds_toArray, List.set_cons_succ, List.set_cons_zero]
    refine wpAnyH_take (i := 12) (v := ?_) rfl (by kernel_rfl) (by kernel_rfl) (by kernel_rfl) (fun _ _ _ h => h) (Or.inl ⟨by rfl, ?_⟩) (by assumption) ?_
    rotate_left
    · intro w hSw; (try dsimp only at hSw); go_simp; try with_reducible rfl
    simp only [Act.put, List.getElem_toArray, List.getElem_cons_succ, List.getElem_cons_zero, List.setIfInBounds_toArray, List.set_cons_succ, List.set_cons_zero]
    refine wpAnyH_ready (rs := [13]) (by kernel_rfl) (by simp) ?_
    refine AllReadyH.cons rfl (fun K hK => ?_) AllReadyH.nil
    go_simp
    refine (HNS.out w11 H11.out.n.d H11.out.n.hB).mono ?_
    rintro e w12 ⟨rfl, b12⟩
    have H12 := hide (H11.out.next b12)
    have K12 := hide (keep5 w12 H12.out.n.b H12.out.a.b H12.out.b.b H12.out.u.b H12.out.v.b)
    clear b12
    refine hK.out _ _ K12.out (fun hHeld2 => ?_)
    clear hK K hHeld
    have hHeld := hHeld2
    clear hHeld2
    simp only [List.setIfInBounds_toArray, List.set_cons_succ, List.set_cons_zero]
    refine wpAnyH_take (i := 14) (v := .bool false) rfl (by kernel_rfl) (by kernel_rfl) (by kernel_rfl) (fun _ _ _ h => h) (Or.inl ⟨by rfl, ?_⟩) (by assumption) ?_
    · intro w hSw; (try dsimp only at hSw); go_simp
    simp only [Act.put, List.getElem_toArray, List.getElem_cons_succ, List.getElem_cons_zero, List.setIfInBounds_toArray, List.set_cons_succ, List.set_cons_zero]
    refine wpAnyH_take (i := 15) (v := .bool false) rfl (by kernel_rfl) (by kernel_rfl) (by kernel_rfl) (fun _ _ _ h => h) (Or.inl ⟨by rfl, ?_⟩) (by assumption) ?_
    · intro w hSw; (try dsimp only at hSw); go_simp
    simp only [Act.put, List.getElem_toArray, List.getElem_cons_succ, List.getElem_cons_zero, List.setIfInBounds_toArray, List.set_cons_succ, List.set_cons_zero]
    refine wpAnyH_take (i := 16) (v := ?_) rfl (by kernel_rfl) (by kernel_rfl) (by kernel_rfl) (fun _ _ _ h => h) (Or.inl ⟨by rfl, ?_⟩) (by assumption) ?_
    rotate_left
    · intro w hSw; (try dsimp only at hSw); go_simp; try with_reducible rfl
    simp only [Act.put, List.getElem_toArray, List.getElem_cons_succ, List.getElem_cons_zero, List.setIfInBounds_toArray, List.set_cons_succ, List.set_cons_zero]
    refine wpAnyH_take (i := 17) (v := ?_) rfl (by kernel_rfl) (by kernel_rfl) (by kernel_rfl) (fun _ _ _ h => h) (Or.inl ⟨by rfl, ?_⟩) (by assumption) ?_
    rotate_left
    · intro w hSw; (try dsimp only at hSw); go_simp; try with_reducible rfl
    simp only [Act.put, List.getElem_toArray, List.getElem_cons_succ, List.getElem_cons_zero, List.setIfInBounds_toArray, List.set_cons_succ, List.set_cons_zero]
    refine wpAnyH_take (i := 18) (v := ?_) rfl (by kernel_rfl) (by kernel_rfl) (by kernel_rfl) (fun _ _ _ h => h) (Or.inl ⟨by rfl, ?_⟩) (by assumption) ?_
    rotate_left
    · intro w hSw; (try dsimp only at hSw); go_simp; try with_reducible rfl
    simp only [Act.put, List.getElem_toArray, List.getElem_cons_succ, List.getElem_cons_zero, List.setIfInBounds_toArray, List.set_cons_succ, List.set_cons_zero]
    refine wpAnyH_take (i := 20) (v := ?_) rfl (by kernel_rfl) (by kernel_rfl) (by kernel_rfl) (fun _ _ _ h => h) (Or.inl ⟨by rfl, ?_⟩) (by assumption) ?_
    rotate_left
    · intro w hSw; (try dsimp only at hSw); go_simp; try with_reducible rfl
    simp only [Act.put, List.getElem_toArray, List.getElem_cons_succ, List.getElem_cons_zero, List.setIfInBounds_toArray, List.set_cons_succ, List.set_cons_zero]
    refine wpAnyH_take (i := 21) (v := ?_) rfl (by kernel_rfl) (by kernel_rfl) (by kernel_rfl) (fun _ _ _ h => h) (Or.inl ⟨by rfl, ?_⟩) (by assumption) ?_
    rotate_left
    · intro w hSw; (try dsimp only at hSw); go_simp; try with_reducible rfl
    simp only [Act.put, List.getElem_toArray, List.getElem_cons_succ, List.getElem_cons_zero, List.setIfInBounds_toArray, List.set_cons_succ, List.set_cons_zero]
    refine wpAnyH_ready (rs := [19]) (by kernel_rfl) (by simp) ?_
    refine AllReadyH.cons rfl (fun K hK => ?_) AllReadyH.nil
    go_simp
    refine (HSI.out w12 H12.out.a.d H12.out.b.d H12.out.a.hB).mono ?_
    rintro e w13 ⟨rfl, b13⟩
    have H13 := hide (H12.out.next b13)
    have K13 := hide (keep5 w13 H13.out.n.b H13.out.a.b H13.out.b.b H13.out.u.b H13.out.v.b)
    clear b13
    refine hK.out _ _ K13.out (fun hHeld2 => ?_)
    clear hK K hHeld
    have hHeld := hHeld2
    clear hHeld2
    simp only [List.setIfInBounds_toArray, List.set_cons_succ, List.set_cons_zero]
    refine wpAnyH_ready (rs := [22]) (by kernel_rfl) (by simp) ?_
    refine AllReadyH.cons rfl (fun K hK => ?_) AllReadyH.nil
    go_simp
    refine (HSS.out w13 H13.out.a.d H13.out.b.d H13.out.a.hB).mono ?_
    rintro e w14 ⟨rfl, b14⟩
    have H14 := hide (H13.out.next b14)
    have K14 := hide (keep5 w14 H14.out.n.b H14.out.a.b H14.out.b.b H14.out.u.b H14.out.v.b)
    clear b14
    refine hK.out _ _ K14.out (fun hHeld2 => ?_)
    clear hK K hHeld
    have hHeld := hHeld2
    clear hHeld2
    simp only [List.setIfInBounds_toArray, List.set_cons_succ, List.set_cons_zero]
    refine wpAnyH_take (i := 23) (v := .bool false) rfl (by kernel_rfl) (by kernel_rfl) (by kernel_rfl) (fun _ _ _ h => h) (Or.inl ⟨by rfl, ?_⟩) (by assumption) ?_
    · intro w hSw; (try dsimp only at hSw); go_simp
    simp only [Act.put, List.getElem_toArray, List.getElem_cons_succ, List.getElem_cons_zero, List.setIfInBounds_toArray, List.set_cons_succ, List.set_cons_zero]
    refine wpAnyH_take (i := 24) (v := .bool false) rfl (by kernel_rfl) (by kernel_rfl) (by kernel_rfl) (fun _ _ _ h => h) (Or.inl ⟨by rfl, ?_⟩) (by assumption) ?_
    · intro w hSw; (try dsimp only at hSw); go_simp
    simp only [Act.put, List.getElem_toArray, List.getElem_cons_succ, List.getElem_cons_zero, List.setIfInBounds_toArray, List.set_cons_succ, List.set_cons_zero]
    refine wpAnyH_take (i := 25) (v := ?_) rfl (by kernel_rfl) (by kernel_rfl) (by kernel_rfl) (fun _ _ _ h => h) (Or.inl ⟨by rfl, ?_⟩) (by assumption) ?_
    rotate_left
    · intro w hSw; (try dsimp only at hSw); go_simp; try with_reducible rfl
    simp only [Act.put, List.getElem_toArray, List.getElem_cons_succ, List.getElem_cons_zero, List.setIfInBounds_toArray, List.set_cons_succ, List.set_cons_zero]
    refine wpAnyH_take (i := 26) (v := ?_) rfl (by kernel_rfl) (by kernel_rfl) (by kernel_rfl) (fun _ _ _ h => h) (Or.inl ⟨by rfl, ?_⟩) (by assumption) ?_
    rotate_left
    · intro w hSw; (try dsimp only at hSw); go_simp; try with_reducible rfl
    simp only [Act.put, List.getElem_toArray, List.getElem_cons_succ, List.getElem_cons_zero, List.setIfInBounds_toArray, List.set_cons_succ, List.set_cons_zero]
    refine wpAnyH_take (i := 27) (v := ?_) rfl (by kernel_rfl) (by kernel_rfl) (by kernel_rfl) (fun _ _ _ h => h) (Or.inl ⟨by rfl, ?_⟩) (by assumption) ?_
    rotate_left
    · intro w hSw; (try dsimp only at hSw); go_simp; try with_reducible rfl
    simp only [Act.put, List.getElem_toArray, List.getElem_cons_succ, List.getElem_cons_zero, List.setIfInBounds_toArray, List.set_cons_succ, List.set_cons_zero]
    refine wpAnyH_take (i := 28) (v := .bool false) rfl (by kernel_rfl) (by kernel_rfl) (by kernel_rfl) (fun _ _ _ h => h) (Or.inl ⟨by rfl, ?_⟩) (by assumption) ?_
    · intro w hSw; (try dsimp only at hSw); go_simp
    simp only [Act.put, List.getElem_toArray, List.getElem_cons_succ, List.getElem_cons_zero, List.setIfInBounds_toArray, List.set_cons_succ, List.set_cons_zero]
    refine wpAnyH_take (i := 29) (v := .bool false) rfl (by kernel_rfl) (by kernel_rfl) (by kernel_rfl) (fun _ _ _ h => h) (Or.inl ⟨by rfl, ?_⟩) (by assumption) ?_
    · intro w hSw; (try dsimp only at hSw); go_simp
    simp only [Act.put, List.getElem_toArray, List.getElem_cons_succ, List.getElem_cons_zero, List.setIfInBounds_toArray, List.set_cons_succ, List.set_cons_zero]
    refine wpAnyH_take (i := 30) (v := ?_) rfl (by kernel_rfl) (by kernel_rfl) (by kernel_rfl) (fun _ _ _ h => h) (Or.inl ⟨by rfl, ?_⟩) (by assumption) ?_
    rotate_left
    · intro w hSw; (try dsimp only at hSw); go_simp; try with_reducible rfl
    simp only [Act.put, List.getElem_toArray, List.getElem_cons_succ, List.getElem_cons_zero, List.setIfInBounds_toArray, List.set_cons_succ, List.set_cons_zero]
    refine wpAnyH_take (i := 31) (v := ?_) rfl (by kernel_rfl) (by kernel_rfl) (by kernel_rfl) (fun _ _ _ h => h) (Or.inl ⟨by rfl, ?_⟩) (by assumption) ?_
    rotate_left
    · intro w hSw; (try dsimp only at hSw); go_simp; try with_reducible rfl
    simp only [Act.put, List.getElem_toArray, List.getElem_cons_succ, List.getElem_cons_zero, List.setIfInBounds_toArray, List.set_cons_succ, List.set_cons_zero]
    refine wpAnyH_take (i := 32) (v := ?_) rfl (by kernel_rfl) (by kernel_rfl) (by kernel_rfl) (fun _ _ _ h => h) (Or.inl ⟨by rfl, ?_⟩) (by assumption) ?_
    rotate_left
    · intro w hSw; (try dsimp only at hSw); go_simp; try with_reducible rfl
    simp only [Act.put, List.getElem_toArray, List.getElem_cons_succ, List.getElem_cons_zero, List.setIfInBounds_toArray, List.set_cons_succ, List.set_cons_zero]
    refine wpAnyH_ready (rs := [33]) (by kernel_rfl) (by simp) ?_
    refine AllReadyH.cons rfl (fun K hK => ?_) AllReadyH.nil
    go_simp
    refine (HSU.out w14 H14.out.u.d H14.out.v.d H14.out.u.hB H14.out.v.hB).mono ?_
    rintro e w15 ⟨rfl, b15⟩
    have H15 := hide (H14.out.next b15)
    have K15 := hide (keep5 w15 H15.out.n.b H15.out.a.b H15.out.b.b H15.out.u.b H15.out.v.b)
    clear b15
    refine hK.out _ _ K15.out (fun hHeld2 => ?_)
    clear hK K hHeld
    have hHeld := hHeld2
    clear hHeld2
    simp only [List.setIfInBounds_toArray, List.set_cons_succ, List.set_cons_zero]
    refine wpAnyH_take (i := 34) (v := .bool false) rfl (by kernel_rfl) (by kernel_rfl) (by kernel_rfl) (fun _ _ _ h => h) (Or.inl ⟨by rfl, ?_⟩) (by assumption) ?_
    · intro w hSw; (try dsimp only at hSw); go_simp
    simp only [Act.put, List.getElem_toArray, List.getElem_cons_succ, List.getElem_cons_zero, List.setIfInBounds_toArray, List.set_cons_succ, List.set_cons_zero]
    refine wpAnyH_take (i := 35) (v := .bool false) rfl (by kernel_rfl) (by kernel_rfl) (by kernel_rfl) (fun _ _ _ h => h) (Or.inl ⟨by rfl, ?_⟩) (by assumption) ?_
    · intro w hSw; (try dsimp only at hSw); go_simp
    simp only [Act.put, List.getElem_toArray, List.getElem_cons_succ, List.getElem_cons_zero, List.setIfInBounds_toArray, List.set_cons_succ, List.set_cons_zero]
    refine wpAnyH_done (by kernel_rfl) ?_ _
    clear HSI HSS HSU HNS HNP H9 H10 H11 H12 H13 H14 K9 K10 K11 K12 K13 K14 K15 hHeld
    generalize w5.heap.size = p5 at *
    clear HIP HSP HKI HKS HNT HC
    cases is with
    | false =>
      cases bn with
      | false =>
        obtain ⟨_, x0, x1, x2, x3⟩ := H15.out.n.b
        have hs0 := HNE.out rfl
        subst hs0
        go_wp2_with fail
        refine (HNO.out w15 H15.out.n.d H15.out.n.hB).mono ?_
        rintro e wz ⟨rfl, bz⟩
        have HZ := hide (H15.out.next bz)
        clear bz x0 x1 x2 x3
        have e8 := empty8
        go_wp2_with fail
        go_ret
        exact ⟨by simp, HZ.out.c⟩
      | true =>
        obtain ⟨_, x0, x1, x2, x3⟩ := H15.out.n.b
        go_wp2_with fail
        refine (HNO.out w15 H15.out.n.d H15.out.n.hB).mono ?_
        rintro e wy ⟨rfl, by1⟩
        have HY1 := hide (H15.out.next by1)
        clear by1 x0 x1 x2 x3
        go_wp2_with fail
        refine (HNB.out (by trivial) wy).mono ?_
        rintro e wx ⟨⟨ax, cx, rfl, ox⟩, bx⟩
        have bA := (Below.refl wx.heap.size wx).alloc (Nat.le_refl _) (Obj.cells #[.string n.ns, .string n.nm, .string n.tx, .slice ax n.ks.length cx] 26)
        have TX := hide (Tr.made wx (ox.nds (B := wx.heap.size) (fun x hx => hx.2)) (Nat.le_refl _) cx 26)
        have HX := hide ((HY1.out.next bx).next bA)
        obtain ⟨WX, hWX⟩ : ∃ WX, (wx.alloc (Obj.cells #[.string n.ns, .string n.nm, .string n.tx, .slice ax n.ks.length cx] 26)) = WX := ⟨_, rfl⟩
        rw [hWX] at TX HX
        obtain ⟨px, hpx⟩ : ∃ px, wx.heap.size = px := ⟨_, rfl⟩
        rw [hpx] at TX
        obtain ⟨_, x0, x1, x2, x3⟩ := TX.out.b
        obtain ⟨_, z0, z1, z2, z3⟩ := HX.out.n.b
        clear ox bx bA
        go_wp2_with fail
        refine (HNN.out WX px ax cx TX.out.d HX.out.n.d TX.out.hB HX.out.n.hB).mono ?_
        rintro e wv ⟨rfl, bv⟩
        have HV := hide (HX.out.next bv)
        clear bv x0 x1 x2 x3 z0 z1 z2 z3 hWX hpx
        go_wp2_with fail
        go_ret
        exact ⟨by simp, HV.out.c⟩
    | true =>
      have hyb := HYB.out rfl
      have HYK := hide (nodeOk_any y ay cy p4)
      have HPY := hide (fun W => back_call hyb (by omega) W)
      have HYY := hide (fun (W : World) (px : Nat) (ax : Option Addr) (cx : Nat) (h1 : Nds W px ax y.ks) (h2 : Nds W p4 ay y.ks) (hB : px ≤ W.heap.size) (hC : p4 ≤ W.heap.size) => (sameNode_any y y ax ay cx cy px p4 W h1 h2 hB hC (short_sz y (by omega)) (short_sz y (by omega))))
      simp only [same_refl] at HYY
      have HYT := hide hyb
      clear hyb
      obtain ⟨_, x0, x1, x2, x3⟩ := H15.out.y.b
      go_wp2_with fail
      refine (nodeText_any y ay cy p4 w15 H15.out.y.d H15.out.y.hB (by omega)).mono ?_
      rintro e w16 ⟨rfl, b16⟩
      have H16 := hide (H15.out.next b16)
      clear b16 x0 x1 x2 x3 H15
      go_wp2_with fail
      refine (HPY.out w16).mono ?_
      rintro e w17 ⟨⟨ax, cx, rfl, ox⟩, bx⟩
      have bA := (Below.refl w17.heap.size w17).alloc (Nat.le_refl _) (Obj.cells #[.string y.ns, .string y.nm, .string y.tx, .slice ax y.ks.length cx] 26)
      have TX := hide (Tr.made w17 (ox.nds (B := w17.heap.size) (fun x hx => hx.2)) (Nat.le_refl _) cx 26)
      have H17 := hide ((H16.out.next bx).next bA)
      obtain ⟨WH, hWH⟩ : ∃ WH, (w17.alloc (Obj.cells #[.string y.ns, .string y.nm, .string y.tx, .slice ax y.ks.length cx] 26)) = WH := ⟨_, rfl⟩
      rw [hWH] at TX H17
      obtain ⟨px, hpx⟩ : ∃ px, w17.heap.size = px := ⟨_, rfl⟩
      rw [hpx] at TX
      obtain ⟨_, x0, x1, x2, x3⟩ := TX.out.b
      obtain ⟨_, z0, z1, z2, z3⟩ := H17.out.y.b
      clear ox bx bA H16
      go_wp2_with fail
      refine (HYY.out WH px ax cx TX.out.d H17.out.y.d TX.out.hB H17.out.y.hB).mono ?_
      rintro e w18 ⟨rfl, b18⟩
      have H18 := hide (H17.out.next b18)
      clear b18 x0 x1 x2 x3 z0 z1 z2 z3 hWH hpx H17 TX
      obtain ⟨_, z0, z1, z2, z3⟩ := H18.out.y.b
      go_wp2_with fail
      refine (HYK.out w18 H18.out.y.d H18.out.y.hB (short_sz y (by omega))).mono ?_
      rw [HYT.out]
      rintro e w19 ⟨rfl, b19⟩
      have H19 := hide (H18.out.next b19)
      clear b19 z0 z1 z2 z3 H18
      cases bn with
      | false =>
        obtain ⟨_, x0, x1, x2, x3⟩ := H19.out.n.b
        have hs0 := HNE.out rfl
        subst hs0
        go_wp2_with fail
        refine (HNO.out w19 H19.out.n.d H19.out.n.hB).mono ?_
        rintro e wz ⟨rfl, bz⟩
        have HZ := hide (H19.out.next bz)
        clear bz x0 x1 x2 x3
        have e8 := empty8
        go_wp2_with fail
        go_ret
        exact ⟨by simp, HZ.out.c⟩
      | true =>
        obtain ⟨_, x0, x1, x2, x3⟩ := H19.out.n.b
        go_wp2_with fail
        refine (HNO.out w19 H19.out.n.d H19.out.n.hB).mono ?_
        rintro e wy ⟨rfl, by1⟩
        have HY1 := hide (H19.out.next by1)
        clear by1 x0 x1 x2 x3
        go_wp2_with fail
        refine (HNB.out (by trivial) wy).mono ?_
        rintro e wx ⟨⟨ax, cx, rfl, ox⟩, bx⟩
        have bA := (Below.refl wx.heap.size wx).alloc (Nat.le_refl _) (Obj.cells #[.string n.ns, .string n.nm, .string n.tx, .slice ax n.ks.length cx] 26)
        have TX := hide (Tr.made wx (ox.nds (B := wx.heap.size) (fun x hx => hx.2)) (Nat.le_refl _) cx 26)
        have HX := hide ((HY1.out.next bx).next bA)
        obtain ⟨WX, hWX⟩ : ∃ WX, (wx.alloc (Obj.cells #[.string n.ns, .string n.nm, .string n.tx, .slice ax n.ks.length cx] 26)) = WX := ⟨_, rfl⟩
        rw [hWX] at TX HX
        obtain ⟨px, hpx⟩ : ∃ px, wx.heap.size = px := ⟨_, rfl⟩
        rw [hpx] at TX
        obtain ⟨_, x0, x1, x2, x3⟩ := TX.out.b
        obtain ⟨_, z0, z1, z2, z3⟩ := HX.out.n.b
        clear ox bx bA
        go_wp2_with fail
        refine (HNN.out WX px ax cx TX.out.d HX.out.n.d TX.out.hB HX.out.n.hB).mono ?_
        rintro e wv ⟨rfl, bv⟩
        have HV := hide (HX.out.next bv)
        clear bv x0 x1 x2 x3 z0 z1 z2 z3 hWX hpx
        go_wp2_with fail
        go_ret
        exact ⟨by simp, HV.out.c⟩
end Go.Proofs.YtccehdlgpbeijaaGreatDoor
