/-
  The walk of the law FnWires: for every code it returns true, and turns nothing that was there.
-/
import Derived.Test.YtanebchmeaomgaaGreatDoorMathGet
import Derived.Test.YtanebchmeaomgaaGreatDoorSpecFeed
import Derived.Test.YtanebchmeaomgaaGreatDoorIsRow
import Derived.Deep.RegionHeld3
namespace Go.Proofs.YtanebchmeaomgaaGreatDoor
open Go.RowKit M
set_option linter.unusedVariables false

theorem Byt.nextW {w w' : World} {a : Option Addr} {l : List UInt8} (h : Byt w w.heap.size a l) (hb : Below w.heap.size w w') : Byt w' w'.heap.size a l := (h.below hb (Nat.le_refl _)).mono hb.size
theorem hdsOf {r : Rq} (h : reqB r = true) : r.hs.length ≤ 8 := by
  by_cases e : r.hs.length ≤ 8
  · exact e
  · rw [reqB_h (hdsB_long r.hs e)] at h
    cases h
/-- A wire in its box. -/
structure WrB (W : World) (N : Nat) (a : Option Addr) (l : List UInt8) (c : Nat) (bad : Int) : Prop where
  lt : N < W.heap.size
  c0 : W.cell? ⟨N, 0, none⟩ = some (.slice a l.length c)
  c1 : W.cell? ⟨N, 1, none⟩ = some (.int .i64 bad)
  y : Byt W W.heap.size a l
theorem WrB.next {W W' : World} {N : Nat} {a : Option Addr} {l : List UInt8} {c : Nat} {bad : Int} (h : WrB W N a l c bad) (hb : Below W.heap.size W W') : WrB W' N a l c bad :=
  ⟨Nat.lt_of_lt_of_le h.lt hb.size, (hb.cell (p := ⟨N, 0, none⟩) h.lt).trans h.c0, (hb.cell (p := ⟨N, 1, none⟩) h.lt).trans h.c1, h.y.nextW hb⟩
theorem WrB.made {w : World} {a : Option Addr} {l : List UInt8} (h : Byt w w.heap.size a l) (c : Nat) (bad : Int) (T : TypeId) : WrB (w.alloc (Obj.cells #[.slice a l.length c, .int .i64 bad] T)) w.heap.size a l c bad :=
  ⟨by simp, by simp, by simp, h.nextW ((Below.refl _ _).alloc (Nat.le_refl _) _)⟩
theorem fedIs_parts {w : World} {B : Nat} {d : List Rq × List UInt8 × Int} {e : Ending} (h : FedIs w B d e) : ∃ (a : Option Addr) (c : Nat) (ax : Option Addr) (cx : Nat), e = .returned (.tuple #[.agg #[.slice a d.2.1.length c, .int .i64 d.2.2], .slice ax d.1.length cx]) ∧ Byt w w.heap.size a d.2.1 ∧ Rqs w w.heap.size ax d.1 := by
  obtain ⟨bv, qv, qs, rfl, ⟨a, c, rfl, _, _, _, y⟩, rq, hm, _⟩ := h
  obtain ⟨ax, cx, rfl, r⟩ := rq.rqs
  have hl : qs.length = d.1.length := by rw [← List.length_map (f := Prod.fst), hm]
  rw [hm] at r
  rw [hl]
  exact ⟨a, c, ax, cx, rfl, y, r⟩
theorem sfedIs_parts {w : World} {B : Nat} {d : List Rq × List UInt8 × Int} {e : Ending} (h : SFedIs w B d e) : ∃ (a : Option Addr) (c : Nat) (ax : Option Addr) (cx : Nat), e = .returned (.tuple #[.agg #[.slice a d.2.1.length c, .int .i64 d.2.2], .slice ax d.1.length cx]) ∧ Byt w w.heap.size a d.2.1 ∧ Rqs w w.heap.size ax d.1 := by
  obtain ⟨a, c, qv, qs, rfl, y, rq, hm, _⟩ := h
  obtain ⟨ax, cx, rfl, r⟩ := rq.rqs
  have hl : qs.length = d.1.length := by rw [← List.length_map (f := Prod.fst), hm]
  rw [hm] at r
  rw [hl]
  exact ⟨a, c, ax, cx, rfl, y, r⟩
/-- What stands at the end: five wires, what was read of them, the bytes and their parts. -/
structure FrW (w : World) (NA NB NC ND NE : Nat) (aA aB aC aD aE : Option Addr) (cA cB cC cD cE : Nat) (b1 b2 : List UInt8) (k1 k2 : Int) (xA xB xC xD xE : Option Addr) (r1 r2 : List Rq) (aj : Option Addr) (lj : List UInt8) (al : Option Addr) (ls : List (List UInt8)) (W : World) : Prop where
  wA : WrB W NA aA b1 cA k1
  wB : WrB W NB aB b1 cB k1
  wC : WrB W NC aC b1 cC k1
  wD : WrB W ND aD b2 cD k2
  wE : WrB W NE aE b2 cE k2
  qA : Rqs W W.heap.size xA r1
  qB : Rqs W W.heap.size xB r1
  qC : Rqs W W.heap.size xC r1
  qD : Rqs W W.heap.size xD r2
  qE : Rqs W W.heap.size xE r2
  j : Byt W W.heap.size aj lj
  bs : Bss W W.heap.size al ls
  cw : Below w.heap.size w W
section
variable {w : World} {NA NB NC ND NE : Nat} {aA aB aC aD aE : Option Addr} {cA cB cC cD cE : Nat} {b1 b2 : List UInt8} {k1 k2 : Int} {xA xB xC xD xE : Option Addr} {r1 r2 : List Rq} {aj : Option Addr} {lj : List UInt8} {al : Option Addr} {ls : List (List UInt8)} {W W' : World}
theorem FrW.next (h : FrW w NA NB NC ND NE aA aB aC aD aE cA cB cC cD cE b1 b2 k1 k2 xA xB xC xD xE r1 r2 aj lj al ls W) (hb : Below W.heap.size W W') : FrW w NA NB NC ND NE aA aB aC aD aE cA cB cC cD cE b1 b2 k1 k2 xA xB xC xD xE r1 r2 aj lj al ls W' :=
  ⟨h.wA.next hb, h.wB.next hb, h.wC.next hb, h.wD.next hb, h.wE.next hb, Rqs.next h.qA hb, Rqs.next h.qB hb, Rqs.next h.qC hb, Rqs.next h.qD hb, Rqs.next h.qE hb, h.j.nextW hb, h.bs.next hb, h.cw.trans (hb.mono h.cw.size)⟩
theorem FrW.keep (h : FrW w NA NB NC ND NE aA aB aC aD aE cA cB cC cD cE b1 b2 k1 k2 xA xB xC xD xE r1 r2 aj lj al ls W) (cj : Nat) : (convert 22 9 (.slice aA b1.length cA)).run Tryz.prog W = .ok (.string ⟨b1.toArray⟩) W ∧ (convert 22 9 (.slice aB b1.length cB)).run Tryz.prog W = .ok (.string ⟨b1.toArray⟩) W ∧ (convert 22 9 (.slice aC b1.length cC)).run Tryz.prog W = .ok (.string ⟨b1.toArray⟩) W ∧ (convert 22 9 (.slice aD b2.length cD)).run Tryz.prog W = .ok (.string ⟨b2.toArray⟩) W ∧ (convert 22 9 (.slice aE b2.length cE)).run Tryz.prog W = .ok (.string ⟨b2.toArray⟩) W ∧ (convert 22 9 (.slice aj lj.length cj)).run Tryz.prog W = .ok (.string ⟨lj.toArray⟩) W ∧ W.cell? ⟨NA, 0, none⟩ = some (.slice aA b1.length cA) ∧ W.cell? ⟨NA, 1, none⟩ = some (.int .i64 k1) ∧ W.cell? ⟨NB, 0, none⟩ = some (.slice aB b1.length cB) ∧ W.cell? ⟨NB, 1, none⟩ = some (.int .i64 k1) ∧ W.cell? ⟨NC, 0, none⟩ = some (.slice aC b1.length cC) ∧ W.cell? ⟨NC, 1, none⟩ = some (.int .i64 k1) ∧ W.cell? ⟨ND, 0, none⟩ = some (.slice aD b2.length cD) ∧ W.cell? ⟨ND, 1, none⟩ = some (.int .i64 k2) ∧ W.cell? ⟨NE, 0, none⟩ = some (.slice aE b2.length cE) ∧ W.cell? ⟨NE, 1, none⟩ = some (.int .i64 k2) :=
  ⟨conv_byt h.wA.y _ cA rfl, conv_byt h.wB.y _ cB rfl, conv_byt h.wC.y _ cC rfl, conv_byt h.wD.y _ cD rfl, conv_byt h.wE.y _ cE rfl, conv_byt h.j _ cj rfl, h.wA.c0, h.wA.c1, h.wB.c0, h.wB.c1, h.wC.c0, h.wC.c1, h.wD.c0, h.wD.c1, h.wE.c0, h.wE.c1⟩
end

set_option maxRecDepth 100000 in
set_option maxHeartbeats 8000000 in
theorem FnWires_walk (a : Option Addr) (len cap : Nat) (zs : List Int) (w : World) (hr : IsRow .u8 w a len cap zs) (hL : laidMet Tryz.prog Rows.fnWiresRow.laid w) (mx : Int) (hmx : w.cell? ⟨0, 0, none⟩ = some (.int .i64 mx)) :
    Calls Tryz.prog 3 #[.slice a len cap] w fun e w' => e = .returned (.bool true) ∧ Below w.heap.size w w' := by
  have hml := row_len hr
  by_cases hb : (1048576 : Int) < (len : Int)
  · clear hr hL hmx
    go_enter Tryz.func3, Tryz.ntmps3
    go_wp2_with (go_at_call 6; refine (big_any a len cap _ hml).mono ?_; rintro e w1 ⟨rfl, hw⟩; obtain rfl := hw.symm; rw [decide_eq_true hb])
    go_ret
    exact ⟨rfl, Below.refl _ _⟩
  · have HC : Hid (CodeIn w w.heap.size a len zs) := code_of_row hr (by omega)
    have h0 : 0 < w.heap.size := World.block_lt_of_cell? w _ hmx
    have HFeed := hide (fun (a : Option Addr) (ls : List (List UInt8)) (c : Nat) (W : World) (h : Bss W W.heap.size a ls) (hc : Below w.heap.size w W) (hl : ls.length ≤ 1048576) (hs : sumB ls ≤ 4194304) => feedAllI_any a ls c mx W h hl hs (Nat.lt_of_lt_of_le h0 hc.size) ((hc.cell (p := ⟨0, 0, none⟩) h0).trans hmx))
    have HF1 := hide (fun (a : Option Addr) (l : List UInt8) (c : Nat) (bad : Int) (a2 : Option Addr) (m : List UInt8) (c2 : Nat) (W : World) (hy : Byt W W.heap.size a l) (hy2 : Byt W W.heap.size a2 m) (hs : l.length + m.length ≤ 4194304) (hc : Below w.heap.size w W) => feedI_any a l c bad a2 m c2 mx W hy hy2 hs (Nat.lt_of_lt_of_le h0 hc.size) ((hc.cell (p := ⟨0, 0, none⟩) h0).trans hmx))
    clear hr hL hmx h0
    go_enter Tryz.func3, Tryz.ntmps3
    go_wp2_with (go_at_call 6; refine (big_any a len cap _ hml).mono ?_; rintro e w1 ⟨rfl, hw⟩; obtain rfl := hw.symm; rw [decide_eq_false hb])
    refine (drawFeedAll_any HC.out (Nat.le_refl _) cap).mono ?_
    rintro e w1 ⟨⟨al, cl, ls, rfl, hfl, h13, hlc, hbs⟩, c1⟩
    have hsm : sumB ls ≤ 12000 := by rw [← sumB_flat]; exact hfl
    obtain ⟨lj, hlj⟩ : ∃ lj, ls.flatten = lj := ⟨_, rfl⟩
    rw [hlj] at hfl
    have HLJ := hide hlj
    obtain ⟨r1, b1, k1, hd1⟩ : ∃ r1 b1 k1, feedM [] 0 lj = (r1, b1, k1) := ⟨_, _, _, rfl⟩
    have HFA : Hid (∀ ls' : List (List UInt8), ls'.flatten = lj → feedsM ls' [] 0 = (r1, b1, k1)) := fun ls' h => by
      rw [feedsM_flat ls' [] (by rfl), h, ← feedM_good, hd1]
    have HD1 := hide hd1
    have hall1 := feedM_all [] 0 lj
    rw [hd1] at hall1
    have hr1m : r1.length ≤ maxLen := by have := hall1.2.1; unfold maxLen; simp at this; omega
    have HM1 : Hid (∀ r ∈ r1, r.hs.length ≤ maxLen) := fun r hr => by have := (hdsOf (hall1.1 r hr)); unfold maxLen; omega
    have BS1 := hide hbs
    have C1 := hide c1
    clear hbs c1 hlj hd1 hall1
    -- FeedAll(l)
    go_wp2_with fail
    refine (HFeed.out al ls cl w1 BS1.out C1.out (by omega) (by omega)).mono ?_
    rw [HFA.out ls HLJ.out]
    rintro e w2 ⟨hf, t2⟩
    obtain ⟨aA, cA, xA, qA, rfl, yA, rA⟩ := fedIs_parts hf
    simp only at yA rA
    have WA := hide (WrB.made yA cA k1 27)
    have ba : Below w2.heap.size w2 (w2.alloc (Obj.cells #[.slice aA b1.length cA, .int .i64 k1] 27)) := (Below.refl _ _).alloc (Nat.le_refl _) _
    have RA2 := hide (Rqs.next rA ba)
    have tb := t2.trans (ba.mono t2.size)
    have C2 := hide (C1.out.trans (tb.mono C1.out.size))
    have BS2 := hide (BS1.out.next tb)
    obtain ⟨w2b, hw2b⟩ : ∃ w2b, w2.alloc (Obj.cells #[.slice aA b1.length cA, .int .i64 k1] 27) = w2b := ⟨_, rfl⟩
    rw [hw2b] at WA RA2 C2 BS2
    have WA2 := WA
    clear C1 BS1 tb ba t2 hf yA rA WA
    -- Joined(l)
    go_wp2_with fail
    refine (joined_any al ls cl w2b.heap.size w2b BS2.out (Nat.le_refl _) hlc (by omega) (by omega)).mono ?_
    rintro e w3 ⟨⟨v, rfl, aj, cj, rfl, hjc, hjm, hjg, yj⟩, t3⟩
    rw [HLJ.out] at yj hjc hjg
    rw [HLJ.out]
    have YJ3 := hide yj
    have HJG := hide hjg
    have C3 := hide (C2.out.trans (t3.mono C2.out.size))
    have BS3 := hide (BS2.out.next t3)
    have WA3 := hide (WA2.out.next t3)
    have RA3 := hide (Rqs.next RA2.out t3)
    clear yj hjg t3 BS2 C2 WA2 RA2 hw2b
    -- Feed(Wire{}, j)
    go_wp2_with fail
    refine (HF1.out none [] 0 0 aj lj cj w3 (fun h => absurd h (Nat.lt_irrefl _)) YJ3.out (by simp; omega) C3.out).mono ?_
    rw [HD1.out]
    rintro e w4 ⟨hf, t4⟩
    obtain ⟨aB, cB, xB, qB, rfl, yB, rB⟩ := fedIs_parts hf
    simp only at yB rB
    have WB := hide (WrB.made yB cB k1 27)
    have ba : Below w4.heap.size w4 (w4.alloc (Obj.cells #[.slice aB b1.length cB, .int .i64 k1] 27)) := (Below.refl _ _).alloc (Nat.le_refl _) _
    have RB4 := hide (Rqs.next rB ba)
    have tb := t4.trans (ba.mono t4.size)
    have C4 := hide (C3.out.trans (tb.mono C3.out.size))
    have BS4 := hide (BS3.out.next tb)
    have YJ4 := hide (YJ3.out.nextW tb)
    have WA4 := hide (WA3.out.next tb)
    have RA4 := hide (Rqs.next RA3.out tb)
    obtain ⟨w4b, hw4b⟩ : ∃ w4b, w4.alloc (Obj.cells #[.slice aB b1.length cB, .int .i64 k1] 27) = w4b := ⟨_, rfl⟩
    rw [hw4b] at WB RB4 C4 BS4 YJ4 WA4 RA4
    have WB4 := WB
    clear C3 BS3 YJ3 WA3 RA3 tb ba t4 hf yB rB WB
    -- cut(code, j)
    have HCut : Hid (Calls Tryz.prog 11 #[.slice a len cap, .slice aj lj.length cj] w4b fun e w' => (∃ (a' : Option Addr) (c' : Nat) (ls' : List (List UInt8)), e = .returned (.slice a' ls'.length c') ∧ ls'.flatten = lj ∧ ls'.length ≤ 41 ∧ Bss w' w'.heap.size a' ls') ∧ Below w4b.heap.size w4b w') := by
      by_cases hj0 : 0 < lj.length
      · obtain ⟨g, rfl, _⟩ := HJG.out hj0
        exact cut_any (HC.out.below C4.out) C4.out.size cap g 0 lj cj YJ4.out hjc hjm
      · have hn : lj = [] := List.eq_nil_of_length_eq_zero (by omega)
        subst hn
        exact cut_nil a len cap aj cj hjm w4b
    go_wp2_with fail
    refine HCut.out.mono ?_
    rintro e w5 ⟨⟨ac, cc, ls', rfl, hfl', h41, hbs'⟩, t5⟩
    have hsm' : sumB ls' ≤ 12000 := by rw [← sumB_flat, hfl']; exact hfl
    have HFl' := hide hfl'
    have BC5 := hide hbs'
    have C5 := hide (C4.out.trans (t5.mono C4.out.size))
    have BS5 := hide (BS4.out.next t5)
    have YJ5 := hide (YJ4.out.nextW t5)
    have WA5 := hide (WA4.out.next t5)
    have RA5 := hide (Rqs.next RA4.out t5)
    have WB5 := hide (WB4.out.next t5)
    have RB5 := hide (Rqs.next RB4.out t5)
    clear hfl' hbs' t5 C4 BS4 YJ4 WA4 RA4 WB4 RB4 HCut hw4b HJG
    -- FeedAll(cut)
    go_wp2_with fail
    refine (HFeed.out ac ls' cc w5 BC5.out C5.out (by omega) (by omega)).mono ?_
    rw [HFA.out ls' HFl'.out]
    rintro e w6 ⟨hf, t6⟩
    obtain ⟨aC, cC, xC, qC, rfl, yC, rC⟩ := fedIs_parts hf
    simp only at yC rC
    have WC := hide (WrB.made yC cC k1 27)
    have ba : Below w6.heap.size w6 (w6.alloc (Obj.cells #[.slice aC b1.length cC, .int .i64 k1] 27)) := (Below.refl _ _).alloc (Nat.le_refl _) _
    have RC6 := hide (Rqs.next rC ba)
    have tb := t6.trans (ba.mono t6.size)
    have C6 := hide (C5.out.trans (tb.mono C5.out.size))
    have BS6 := hide (BS5.out.next tb)
    have YJ6 := hide (YJ5.out.nextW tb)
    have WA6 := hide (WA5.out.next tb)
    have RA6 := hide (Rqs.next RA5.out tb)
    have WB6 := hide (WB5.out.next tb)
    have RB6 := hide (Rqs.next RB5.out tb)
    obtain ⟨w6b, hw6b⟩ : ∃ w6b, w6.alloc (Obj.cells #[.slice aC b1.length cC, .int .i64 k1] 27) = w6b := ⟨_, rfl⟩
    rw [hw6b] at WC RC6 C6 BS6 YJ6 WA6 RA6 WB6 RB6
    have WC6 := WC
    clear C5 BS5 YJ5 WA5 RA5 WB5 RB5 tb ba t6 hf yC rC WC
    clear BC5 HFl' hsm'
    -- DrawFeed(code)
    go_wp2_with fail
    refine (drawFeed_any (HC.out.below C6.out) C6.out.size cap).mono ?_
    rintro e w7 ⟨⟨aW, lW, cW, bad, ap, lp, cp, rfl, yW, yp, hWp⟩, t7⟩
    obtain ⟨r2, b2, k2, hd2⟩ : ∃ r2 b2 k2, feedM lW bad lp = (r2, b2, k2) := ⟨_, _, _, rfl⟩
    have HD2 := hide hd2
    have hall2 := feedM_all lW bad lp
    rw [hd2] at hall2
    have hr2m : r2.length ≤ maxLen := by have := hall2.2.1; unfold maxLen; simp only at this; omega
    have HM2 : Hid (∀ r ∈ r2, r.hs.length ≤ maxLen) := fun r hr => by have := (hdsOf (hall2.1 r hr)); unfold maxLen; omega
    have WW := hide (WrB.made yW cW bad 27)
    clear hd2 hall2
    have ba : Below w7.heap.size w7 (w7.alloc (Obj.cells #[.slice aW lW.length cW, .int .i64 bad] 27)) := (Below.refl _ _).alloc (Nat.le_refl _) _
    have YP7 := hide (yp.nextW ba)
    have tb := t7.trans (ba.mono t7.size)
    have C7 := hide (C6.out.trans (tb.mono C6.out.size))
    have BS7 := hide (BS6.out.next tb)
    have YJ7 := hide (YJ6.out.nextW tb)
    have WA7 := hide (WA6.out.next tb)
    have RA7 := hide (Rqs.next RA6.out tb)
    have WB7 := hide (WB6.out.next tb)
    have RB7 := hide (Rqs.next RB6.out tb)
    have WC7 := hide (WC6.out.next tb)
    have RC7 := hide (Rqs.next RC6.out tb)
    obtain ⟨w7b, hw7b⟩ : ∃ w7b, w7.alloc (Obj.cells #[.slice aW lW.length cW, .int .i64 bad] 27) = w7b := ⟨_, rfl⟩
    rw [hw7b] at WW YP7 C7 BS7 YJ7 WA7 RA7 WB7 RB7 WC7 RC7
    have WW7 := WW
    clear C6 BS6 YJ6 WA6 RA6 WB6 RB6 WC6 RC6 tb ba t7 yW yp WW hw6b
    -- Feed(w, p)
    obtain ⟨_, x0, x1, _⟩ := WW7.out
    go_wp2_with fail
    refine (HF1.out aW lW cW bad ap lp cp w7b WW7.out.y YP7.out (by omega) C7.out).mono ?_
    rw [HD2.out]
    rintro e w8 ⟨hf, t8⟩
    obtain ⟨aD, cD, xD, qD, rfl, yD, rD⟩ := fedIs_parts hf
    simp only at yD rD
    have WD := hide (WrB.made yD cD k2 27)
    clear x0 x1 hw7b
    have ba : Below w8.heap.size w8 (w8.alloc (Obj.cells #[.slice aD b2.length cD, .int .i64 k2] 27)) := (Below.refl _ _).alloc (Nat.le_refl _) _
    have RD8 := hide (Rqs.next rD ba)
    have tb := t8.trans (ba.mono t8.size)
    have C8 := hide (C7.out.trans (tb.mono C7.out.size))
    have BS8 := hide (BS7.out.next tb)
    have YJ8 := hide (YJ7.out.nextW tb)
    have WA8 := hide (WA7.out.next tb)
    have RA8 := hide (Rqs.next RA7.out tb)
    have WB8 := hide (WB7.out.next tb)
    have RB8 := hide (Rqs.next RB7.out tb)
    have WC8 := hide (WC7.out.next tb)
    have RC8 := hide (Rqs.next RC7.out tb)
    have WW8 := hide (WW7.out.next tb)
    have YP8 := hide (YP7.out.nextW tb)
    obtain ⟨w8b, hw8b⟩ : ∃ w8b, w8.alloc (Obj.cells #[.slice aD b2.length cD, .int .i64 k2] 27) = w8b := ⟨_, rfl⟩
    rw [hw8b] at WD RD8 C8 BS8 YJ8 WA8 RA8 WB8 RB8 WC8 RC8 WW8 YP8
    have WD8 := WD
    clear C7 BS7 YJ7 WA7 RA7 WB7 RB7 WC7 RC7 WW7 YP7 tb ba t8 hf yD rD WD
    -- spec.Feed(w, p)
    obtain ⟨_, x0, x1, _⟩ := WW8.out
    go_wp2_with fail
    refine (specFeed_any aW lW cW bad ap lp cp w8b WW8.out.y YP8.out (by omega)).mono ?_
    rw [HD2.out]
    rintro e w9 ⟨hf, t9⟩
    obtain ⟨aE, cE, xE, qE, rfl, yE, rE⟩ := sfedIs_parts hf
    simp only at yE rE
    have WE := hide (WrB.made yE cE k2 27)
    clear x0 x1 hw8b
    have ba : Below w9.heap.size w9 (w9.alloc (Obj.cells #[.slice aE b2.length cE, .int .i64 k2] 27)) := (Below.refl _ _).alloc (Nat.le_refl _) _
    have RE9 := hide (Rqs.next rE ba)
    have tb := t9.trans (ba.mono t9.size)
    have C9 := hide (C8.out.trans (tb.mono C8.out.size))
    have BS9 := hide (BS8.out.next tb)
    have YJ9 := hide (YJ8.out.nextW tb)
    have WA9 := hide (WA8.out.next tb)
    have RA9 := hide (Rqs.next RA8.out tb)
    have WB9 := hide (WB8.out.next tb)
    have RB9 := hide (Rqs.next RB8.out tb)
    have WC9 := hide (WC8.out.next tb)
    have RC9 := hide (Rqs.next RC8.out tb)
    have WD9 := hide (WD8.out.next tb)
    have RD9 := hide (Rqs.next RD8.out tb)
    obtain ⟨w9b, hw9b⟩ : ∃ w9b, w9.alloc (Obj.cells #[.slice aE b2.length cE, .int .i64 k2] 27) = w9b := ⟨_, rfl⟩
    rw [hw9b] at WE RE9 C9 BS9 YJ9 WA9 RA9 WB9 RB9 WC9 RC9 WD9 RD9
    have WE9 := WE
    clear C8 BS8 YJ8 WA8 RA8 WB8 RB8 WC8 RC8 WD8 RD8 tb ba t9 hf yE rE WE
    have FR0 := hide (FrW.next (W' := w9b.drew) (FrW.mk WA9.out WB9.out WC9.out WD9.out WE9.out RA9.out RB9.out RC9.out RD9.out RE9.out YJ9.out BS9.out C9.out) (Below.refl _ _).drew)
    generalize w2.heap.size = NA at *
    generalize w4.heap.size = NB at *
    generalize w6.heap.size = NC at *
    generalize w8.heap.size = ND at *
    clear WA9 WB9 WC9 WD9 WE9 RA9 RB9 RC9 RD9 RE9 YJ9 BS9 C9 WW8 YP8 HD1 HD2 HFA HFeed HF1 HC
    go_wp2_with fail
    clear hw9b
    generalize w9.heap.size = NE at *
    have K0 := hide (FR0.out.keep cj)
    refine wp_region_held_drew (S := (fun W => (convert 22 9 (.slice aA b1.length cA)).run Tryz.prog W = .ok (.string ⟨b1.toArray⟩) W ∧ (convert 22 9 (.slice aB b1.length cB)).run Tryz.prog W = .ok (.string ⟨b1.toArray⟩) W ∧ (convert 22 9 (.slice aC b1.length cC)).run Tryz.prog W = .ok (.string ⟨b1.toArray⟩) W ∧ (convert 22 9 (.slice aD b2.length cD)).run Tryz.prog W = .ok (.string ⟨b2.toArray⟩) W ∧ (convert 22 9 (.slice aE b2.length cE)).run Tryz.prog W = .ok (.string ⟨b2.toArray⟩) W ∧ (convert 22 9 (.slice aj lj.length cj)).run Tryz.prog W = .ok (.string ⟨lj.toArray⟩) W ∧ W.cell? ⟨NA, 0, none⟩ = some (.slice aA b1.length cA) ∧ W.cell? ⟨NA, 1, none⟩ = some (.int .i64 k1) ∧ W.cell? ⟨NB, 0, none⟩ = some (.slice aB b1.length cB) ∧ W.cell? ⟨NB, 1, none⟩ = some (.int .i64 k1) ∧ W.cell? ⟨NC, 0, none⟩ = some (.slice aC b1.length cC) ∧ W.cell? ⟨NC, 1, none⟩ = some (.int .i64 k1) ∧ W.cell? ⟨ND, 0, none⟩ = some (.slice aD b2.length cD) ∧ W.cell? ⟨ND, 1, none⟩ = some (.int .i64 k2) ∧ W.cell? ⟨NE, 0, none⟩ = some (.slice aE b2.length cE) ∧ W.cell? ⟨NE, 1, none⟩ = some (.int .i64 k2))) (by kernel_rfl) K0.out (fun hHeld => ?_)
    simp only [List.append_eq, List.cons_append, List.nil_append, List.size_toArray, List.length_cons, List.length_nil, Nat.reduceAdd, Array.replicate_succ, Array.replicate_zero, List.push_toArray, List.nil_append, List.cons_append]
    refine wpAnyH_take (i := 0) (v := ?_) rfl (by kernel_rfl) (by kernel_rfl) (by kernel_rfl) (fun _ _ _ h => h) (Or.inl ⟨by rfl, ?_⟩) (by assumption) ?_
    rotate_left
    · intro w hSw; (try dsimp only at hSw); go_simp; try with_reducible rfl
    simp only [Act.put, List.getElem_toArray, List.getElem_cons_zero, List.setIfInBounds_toArray, List.set_cons_succ, List.set_cons_zero]
    refine wpAnyH_take (i := 1) (v := ?_) rfl (by kernel_rfl) (by kernel_rfl) (by kernel_rfl) (fun _ _ _ h => h) (Or.inl ⟨by rfl, ?_⟩) (by assumption) ?_
    rotate_left
    · intro w hSw; (try dsimp only at hSw); go_simp; try with_reducible rfl
    simp only [Act.put, List.getElem_toArray, List.getElem_cons_succ, List.getElem_cons_zero, List.setIfInBounds_toArray, List.set_cons_succ, List.set_cons_zero]
    refine wpAnyH_take (i := 2) (v := ?_) rfl (by kernel_rfl) (by kernel_rfl) (by kernel_rfl) (fun _ _ _ h => h) (Or.inl ⟨by rfl, ?_⟩) (by assumption) ?_
    rotate_left
    · intro w hSw; (try dsimp only at hSw); go_simp; try with_reducible rfl
    simp only [Act.put, List.getElem_toArray, List.getElem_cons_succ, List.getElem_cons_zero, List.setIfInBounds_toArray, List.set_cons_succ, List.set_cons_zero]
    refine wpAnyH_take (i := 3) (v := ?_) rfl (by kernel_rfl) (by kernel_rfl) (by kernel_rfl) (fun _ _ _ h => h) (Or.inl ⟨by rfl, ?_⟩) (by assumption) ?_
    rotate_left
    · intro w hSw; (try dsimp only at hSw); go_simp; try with_reducible rfl
    simp only [Act.put, List.getElem_toArray, List.getElem_cons_succ, List.getElem_cons_zero, List.setIfInBounds_toArray, List.set_cons_succ, List.set_cons_zero]
    refine wpAnyH_take (i := 4) (v := ?_) rfl (by kernel_rfl) (by kernel_rfl) (by kernel_rfl) (fun _ _ _ h => h) (Or.inl ⟨by rfl, ?_⟩) (by assumption) ?_
    rotate_left
    · intro w hSw; (try dsimp only at hSw); go_simp; try with_reducible rfl
    simp only [Act.put, List.getElem_toArray, List.getElem_cons_succ, List.getElem_cons_zero, List.setIfInBounds_toArray, List.set_cons_succ, List.set_cons_zero]
    refine wpAnyH_take (i := 5) (v := ?_) rfl (by kernel_rfl) (by kernel_rfl) (by kernel_rfl) (fun _ _ _ h => h) (Or.inl ⟨by rfl, ?_⟩) (by assumption) ?_
    rotate_left
    · intro w hSw; (try dsimp only at hSw); go_simp; try with_reducible rfl
    simp only [Act.put, List.getElem_toArray, List.getElem_cons_succ, List.getElem_cons_zero, List.setIfInBounds_toArray, List.set_cons_succ, List.set_cons_zero]
    refine wpAnyH_take (i := 6) (v := ?_) rfl (by kernel_rfl) (by kernel_rfl) (by kernel_rfl) (fun _ _ _ h => h) (Or.inl ⟨by rfl, ?_⟩) (by assumption) ?_
    rotate_left
    · intro w hSw; (try dsimp only at hSw); go_simp; try with_reducible rfl
    simp only [Act.put, List.getElem_toArray, List.getElem_cons_succ, List.getElem_cons_zero, List.setIfInBounds_toArray, List.set_cons_succ, List.set_cons_zero]
    refine wpAnyH_take (i := 7) (v := ?_) rfl (by kernel_rfl) (by kernel_rfl) (by kernel_rfl) (fun _ _ _ h => h) (Or.inl ⟨by rfl, ?_⟩) (by assumption) ?_
    rotate_left
    · intro w hSw; (try dsimp only at hSw); go_simp; try with_reducible rfl
    simp only [Act.put, List.getElem_toArray, List.getElem_cons_succ, List.getElem_cons_zero, List.setIfInBounds_toArray, List.set_cons_succ, List.set_cons_zero]
    refine wpAnyH_take (i := 8) (v := ?_) rfl (by kernel_rfl) (by kernel_rfl) (by kernel_rfl) (fun _ _ _ h => h) (Or.inl ⟨by rfl, ?_⟩) (by assumption) ?_
    rotate_left
    · intro w hSw; (try dsimp only at hSw); go_simp; try with_reducible rfl
    simp only [Act.put, List.getElem_toArray, List.getElem_cons_succ, List.getElem_cons_zero, List.setIfInBounds_toArray, List.set_cons_succ, List.set_cons_zero]
    refine wpAnyH_take (i := 9) (v := ?_) rfl (by kernel_rfl) (by kernel_rfl) (by kernel_rfl) (fun _ _ _ h => h) (Or.inl ⟨by rfl, ?_⟩) (by assumption) ?_
    rotate_left
    · intro w hSw; (try dsimp only at hSw); go_simp; try with_reducible rfl
    simp only [Act.put, List.getElem_toArray, List.getElem_cons_succ, List.getElem_cons_zero, List.setIfInBounds_toArray, List.set_cons_succ, List.set_cons_zero]
    refine wpAnyH_take (i := 10) (v := ?_) rfl (by kernel_rfl) (by kernel_rfl) (by kernel_rfl) (fun _ _ _ h => h) (Or.inl ⟨by rfl, ?_⟩) (by assumption) ?_
    rotate_left
    · intro w hSw; (try dsimp only at hSw); go_simp; try with_reducible rfl
    simp only [Act.put, List.getElem_toArray, List.getElem_cons_succ, List.getElem_cons_zero, List.setIfInBounds_toArray, List.set_cons_succ, List.set_cons_zero]
    refine wpAnyH_take (i := 11) (v := ?_) rfl (by kernel_rfl) (by kernel_rfl) (by kernel_rfl) (fun _ _ _ h => h) (Or.inl ⟨by rfl, ?_⟩) (by assumption) ?_
    rotate_left
    · intro w hSw; (try dsimp only at hSw); go_simp; try with_reducible rfl
    simp only [Act.put, List.getElem_toArray, List.getElem_cons_succ, List.getElem_cons_zero, List.setIfInBounds_toArray, List.set_cons_succ, List.set_cons_zero]
    refine wpAnyH_take (i := 12) (v := ?_) rfl (by kernel_rfl) (by kernel_rfl) (by kernel_rfl) (fun _ _ _ h => h) (Or.inl ⟨by rfl, ?_⟩) (by assumption) ?_
    rotate_left
    · intro w hSw; (try dsimp only at hSw); go_simp; try with_reducible rfl
    simp only [Act.put, List.getElem_toArray, List.getElem_cons_succ, List.getElem_cons_zero, List.setIfInBounds_toArray, List.set_cons_succ, List.set_cons_zero]
    refine wpAnyH_take (i := 13) (v := ?_) rfl (by kernel_rfl) (by kernel_rfl) (by kernel_rfl) (fun _ _ _ h => h) (Or.inl ⟨by rfl, ?_⟩) (by assumption) ?_
    rotate_left
    · intro w hSw; (try dsimp only at hSw); go_simp; try with_reducible rfl
    simp only [Act.put, List.getElem_toArray, List.getElem_cons_succ, List.getElem_cons_zero, List.setIfInBounds_toArray, List.set_cons_succ, List.set_cons_zero]
    refine wpAnyH_take (i := 14) (v := ?_) rfl (by kernel_rfl) (by kernel_rfl) (by kernel_rfl) (fun _ _ _ h => h) (Or.inl ⟨by rfl, ?_⟩) (by assumption) ?_
    rotate_left
    · intro w hSw; (try dsimp only at hSw); go_simp; try with_reducible rfl
    simp only [Act.put, List.getElem_toArray, List.getElem_cons_succ, List.getElem_cons_zero, List.setIfInBounds_toArray, List.set_cons_succ, List.set_cons_zero]
    refine wpAnyH_take (i := 15) (v := ?_) rfl (by kernel_rfl) (by kernel_rfl) (by kernel_rfl) (fun _ _ _ h => h) (Or.inl ⟨by rfl, ?_⟩) (by assumption) ?_
    rotate_left
    · intro w hSw; (try dsimp only at hSw); go_simp; try with_reducible rfl
    simp only [Act.put, List.getElem_toArray, List.getElem_cons_succ, List.getElem_cons_zero, List.setIfInBounds_toArray, List.set_cons_succ, List.set_cons_zero]
    refine wpAnyH_take (i := 16) (v := ?_) rfl (by kernel_rfl) (by kernel_rfl) (by kernel_rfl) (fun _ _ _ h => h) (Or.inl ⟨by rfl, ?_⟩) (by assumption) ?_
    rotate_left
    · intro w hSw; (try dsimp only at hSw); go_simp; try with_reducible rfl
    simp only [Act.put, List.getElem_toArray, List.getElem_cons_succ, List.getElem_cons_zero, List.setIfInBounds_toArray, List.set_cons_succ, List.set_cons_zero]
    refine wpAnyH_ready (rs := [17]) (by kernel_rfl) (by simp) ?_
    refine AllReadyH.cons rfl (fun K hK => ?_) AllReadyH.nil
    go_simp
    refine (sameReqs_same xA xB r1 qA qB _ _ w9b.drew FR0.out.qA FR0.out.qB (Nat.le_refl _) (Nat.le_refl _) hr1m HM1.out).mono ?_
    rintro e v1 ⟨rfl, t1⟩
    have FR1 := hide (FR0.out.next t1)
    have K1 := hide (FR1.out.keep cj)
    clear t1
    refine hK.out _ _ K1.out (fun hHeld2 => ?_)
    clear hK K hHeld
    have hHeld := hHeld2
    clear hHeld2
    simp only [List.setIfInBounds_toArray, List.set_cons_succ, List.set_cons_zero]
    refine wpAnyH_take (i := 18) (v := ?_) rfl (by kernel_rfl) (by kernel_rfl) (by kernel_rfl) (fun _ _ _ h => h) (Or.inl ⟨by rfl, ?_⟩) (by assumption) ?_
    rotate_left
    · intro w hSw; (try dsimp only at hSw); go_simp; try with_reducible rfl
    simp only [Act.put, List.getElem_toArray, List.getElem_cons_succ, List.getElem_cons_zero, List.setIfInBounds_toArray, List.set_cons_succ, List.set_cons_zero]
    refine wpAnyH_take (i := 19) (v := ?_) rfl (by kernel_rfl) (by kernel_rfl) (by kernel_rfl) (fun _ _ _ h => h) (Or.inl ⟨by rfl, ?_⟩) (by assumption) ?_
    rotate_left
    · intro w hSw; (try dsimp only at hSw); go_simp; try with_reducible rfl
    simp only [Act.put, List.getElem_toArray, List.getElem_cons_succ, List.getElem_cons_zero, List.setIfInBounds_toArray, List.set_cons_succ, List.set_cons_zero]
    refine wpAnyH_take (i := 20) (v := ?_) rfl (by kernel_rfl) (by kernel_rfl) (by kernel_rfl) (fun _ _ _ h => h) (Or.inl ⟨by rfl, ?_⟩) (by assumption) ?_
    rotate_left
    · intro w hSw; (try dsimp only at hSw); go_simp; try with_reducible rfl
    simp only [Act.put, List.getElem_toArray, List.getElem_cons_succ, List.getElem_cons_zero, List.setIfInBounds_toArray, List.set_cons_succ, List.set_cons_zero]
    refine wpAnyH_take (i := 21) (v := ?_) rfl (by kernel_rfl) (by kernel_rfl) (by kernel_rfl) (fun _ _ _ h => h) (Or.inl ⟨by rfl, ?_⟩) (by assumption) ?_
    rotate_left
    · intro w hSw; (try dsimp only at hSw); go_simp; try with_reducible rfl
    simp only [Act.put, List.getElem_toArray, List.getElem_cons_succ, List.getElem_cons_zero, List.setIfInBounds_toArray, List.set_cons_succ, List.set_cons_zero]
    refine wpAnyH_take (i := 22) (v := ?_) rfl (by kernel_rfl) (by kernel_rfl) (by kernel_rfl) (fun _ _ _ h => h) (Or.inl ⟨by rfl, ?_⟩) (by assumption) ?_
    rotate_left
    · intro w hSw; (try dsimp only at hSw); go_simp; try with_reducible rfl
    simp only [Act.put, List.getElem_toArray, List.getElem_cons_succ, List.getElem_cons_zero, List.setIfInBounds_toArray, List.set_cons_succ, List.set_cons_zero]
    refine wpAnyH_take (i := 23) (v := ?_) rfl (by kernel_rfl) (by kernel_rfl) (by kernel_rfl) (fun _ _ _ h => h) (Or.inl ⟨by rfl, ?_⟩) (by assumption) ?_
    rotate_left
    · intro w hSw; (try dsimp only at hSw); go_simp; try with_reducible rfl
    simp only [Act.put, List.getElem_toArray, List.getElem_cons_succ, List.getElem_cons_zero, List.setIfInBounds_toArray, List.set_cons_succ, List.set_cons_zero]
    refine wpAnyH_take (i := 24) (v := ?_) rfl (by kernel_rfl) (by kernel_rfl) (by kernel_rfl) (fun _ _ _ h => h) (Or.inl ⟨by rfl, ?_⟩) (by assumption) ?_
    rotate_left
    · intro w hSw; (try dsimp only at hSw); go_simp; try with_reducible rfl
    simp only [Act.put, List.getElem_toArray, List.getElem_cons_succ, List.getElem_cons_zero, List.setIfInBounds_toArray, List.set_cons_succ, List.set_cons_zero]
    refine wpAnyH_take (i := 25) (v := ?_) rfl (by kernel_rfl) (by kernel_rfl) (by kernel_rfl) (fun _ _ _ h => h) (Or.inl ⟨by rfl, ?_⟩) (by assumption) ?_
    rotate_left
    · intro w hSw; (try dsimp only at hSw); go_simp; try with_reducible rfl
    simp only [Act.put, List.getElem_toArray, List.getElem_cons_succ, List.getElem_cons_zero, List.setIfInBounds_toArray, List.set_cons_succ, List.set_cons_zero]
    refine wpAnyH_take (i := 26) (v := ?_) rfl (by kernel_rfl) (by kernel_rfl) (by kernel_rfl) (fun _ _ _ h => h) (Or.inl ⟨by rfl, ?_⟩) (by assumption) ?_
    rotate_left
    · intro w hSw; (try dsimp only at hSw); go_simp; try with_reducible rfl
    simp only [Act.put, List.getElem_toArray, List.getElem_cons_succ, List.getElem_cons_zero, List.setIfInBounds_toArray, List.set_cons_succ, List.set_cons_zero]
    refine wpAnyH_take (i := 27) (v := ?_) rfl (by kernel_rfl) (by kernel_rfl) (by kernel_rfl) (fun _ _ _ h => h) (Or.inl ⟨by rfl, ?_⟩) (by assumption) ?_
    rotate_left
    · intro w hSw; (try dsimp only at hSw); go_simp; try with_reducible rfl
    simp only [Act.put, List.getElem_toArray, List.getElem_cons_succ, List.getElem_cons_zero, List.setIfInBounds_toArray, List.set_cons_succ, List.set_cons_zero]
    refine wpAnyH_take (i := 28) (v := ?_) rfl (by kernel_rfl) (by kernel_rfl) (by kernel_rfl) (fun _ _ _ h => h) (Or.inl ⟨by rfl, ?_⟩) (by assumption) ?_
    rotate_left
    · intro w hSw; (try dsimp only at hSw); go_simp; try with_reducible rfl
    simp only [Act.put, List.getElem_toArray, List.getElem_cons_succ, List.getElem_cons_zero, List.setIfInBounds_toArray, List.set_cons_succ, List.set_cons_zero]
    refine wpAnyH_take (i := 29) (v := ?_) rfl (by kernel_rfl) (by kernel_rfl) (by kernel_rfl) (fun _ _ _ h => h) (Or.inl ⟨by rfl, ?_⟩) (by assumption) ?_
    rotate_left
    · intro w hSw; (try dsimp only at hSw); go_simp; try with_reducible rfl
    simp only [Act.put, List.getElem_toArray, List.getElem_cons_succ, List.getElem_cons_zero, List.setIfInBounds_toArray, List.set_cons_succ, List.set_cons_zero]
    refine wpAnyH_take (i := 30) (v := ?_) rfl (by kernel_rfl) (by kernel_rfl) (by kernel_rfl) (fun _ _ _ h => h) (Or.inl ⟨by rfl, ?_⟩) (by assumption) ?_
    rotate_left
    · intro w hSw; (try dsimp only at hSw); go_simp; try with_reducible rfl
    simp only [Act.put, List.getElem_toArray, List.getElem_cons_succ, List.getElem_cons_zero, List.setIfInBounds_toArray, List.set_cons_succ, List.set_cons_zero]
    refine wpAnyH_take (i := 31) (v := ?_) rfl (by kernel_rfl) (by kernel_rfl) (by kernel_rfl) (fun _ _ _ h => h) (Or.inl ⟨by rfl, ?_⟩) (by assumption) ?_
    rotate_left
    · intro w hSw; (try dsimp only at hSw); go_simp; try with_reducible rfl
    simp only [Act.put, List.getElem_toArray, List.getElem_cons_succ, List.getElem_cons_zero, List.setIfInBounds_toArray, List.set_cons_succ, List.set_cons_zero]
    refine wpAnyH_take (i := 32) (v := ?_) rfl (by kernel_rfl) (by kernel_rfl) (by kernel_rfl) (fun _ _ _ h => h) (Or.inl ⟨by rfl, ?_⟩) (by assumption) ?_
    rotate_left
    · intro w hSw; (try dsimp only at hSw); go_simp; try with_reducible rfl
    simp only [Act.put, List.getElem_toArray, List.getElem_cons_succ, List.getElem_cons_zero, List.setIfInBounds_toArray, List.set_cons_succ, List.set_cons_zero]
    refine wpAnyH_take (i := 33) (v := ?_) rfl (by kernel_rfl) (by kernel_rfl) (by kernel_rfl) (fun _ _ _ h => h) (Or.inl ⟨by rfl, ?_⟩) (by assumption) ?_
    rotate_left
    · intro w hSw; (try dsimp only at hSw); go_simp; try with_reducible rfl
    simp only [Act.put, List.getElem_toArray, List.getElem_cons_succ, List.getElem_cons_zero, List.setIfInBounds_toArray, List.set_cons_succ, List.set_cons_zero]
    refine wpAnyH_take (i := 34) (v := ?_) rfl (by kernel_rfl) (by kernel_rfl) (by kernel_rfl) (fun _ _ _ h => h) (Or.inl ⟨by rfl, ?_⟩) (by assumption) ?_
    rotate_left
    · intro w hSw; (try dsimp only at hSw); go_simp; try with_reducible rfl
    simp only [Act.put, List.getElem_toArray, List.getElem_cons_succ, List.getElem_cons_zero, List.setIfInBounds_toArray, List.set_cons_succ, List.set_cons_zero]
    refine wpAnyH_take (i := 35) (v := ?_) rfl (by kernel_rfl) (by kernel_rfl) (by kernel_rfl) (fun _ _ _ h => h) (Or.inl ⟨by rfl, ?_⟩) (by assumption) ?_
    rotate_left
    · intro w hSw; (try dsimp only at hSw); go_simp; try with_reducible rfl
    simp only [Act.put, List.getElem_toArray, List.getElem_cons_succ, List.getElem_cons_zero, List.setIfInBounds_toArray, List.set_cons_succ, List.set_cons_zero]
    refine wpAnyH_take (i := 36) (v := ?_) rfl (by kernel_rfl) (by kernel_rfl) (by kernel_rfl) (fun _ _ _ h => h) (Or.inl ⟨by rfl, ?_⟩) (by assumption) ?_
    rotate_left
    · intro w hSw; (try dsimp only at hSw); go_simp; try with_reducible rfl
    simp only [Act.put, List.getElem_toArray, List.getElem_cons_succ, List.getElem_cons_zero, List.setIfInBounds_toArray, List.set_cons_succ, List.set_cons_zero]
    refine wpAnyH_take (i := 37) (v := ?_) rfl (by kernel_rfl) (by kernel_rfl) (by kernel_rfl) (fun _ _ _ h => h) (Or.inl ⟨by rfl, ?_⟩) (by assumption) ?_
    rotate_left
    · intro w hSw; (try dsimp only at hSw); go_simp; try with_reducible rfl
    simp only [Act.put, List.getElem_toArray, List.getElem_cons_succ, List.getElem_cons_zero, List.setIfInBounds_toArray, List.set_cons_succ, List.set_cons_zero]
    refine wpAnyH_ready (rs := [38]) (by kernel_rfl) (by simp) ?_
    refine AllReadyH.cons rfl (fun K hK => ?_) AllReadyH.nil
    go_simp
    refine (sameReqs_same xC xB r1 qC qB _ _ v1 FR1.out.qC FR1.out.qB (Nat.le_refl _) (Nat.le_refl _) hr1m HM1.out).mono ?_
    rintro e v2 ⟨rfl, t2⟩
    have FR2 := hide (FR1.out.next t2)
    have K2 := hide (FR2.out.keep cj)
    clear t2
    refine hK.out _ _ K2.out (fun hHeld2 => ?_)
    clear hK K hHeld
    have hHeld := hHeld2
    clear hHeld2
    simp only [List.setIfInBounds_toArray, List.set_cons_succ, List.set_cons_zero]
    refine wpAnyH_take (i := 39) (v := ?_) rfl (by kernel_rfl) (by kernel_rfl) (by kernel_rfl) (fun _ _ _ h => h) (Or.inl ⟨by rfl, ?_⟩) (by assumption) ?_
    rotate_left
    · intro w hSw; (try dsimp only at hSw); go_simp; try with_reducible rfl
    simp only [Act.put, List.getElem_toArray, List.getElem_cons_succ, List.getElem_cons_zero, List.setIfInBounds_toArray, List.set_cons_succ, List.set_cons_zero]
    refine wpAnyH_take (i := 40) (v := ?_) rfl (by kernel_rfl) (by kernel_rfl) (by kernel_rfl) (fun _ _ _ h => h) (Or.inl ⟨by rfl, ?_⟩) (by assumption) ?_
    rotate_left
    · intro w hSw; (try dsimp only at hSw); go_simp; try with_reducible rfl
    simp only [Act.put, List.getElem_toArray, List.getElem_cons_succ, List.getElem_cons_zero, List.setIfInBounds_toArray, List.set_cons_succ, List.set_cons_zero]
    refine wpAnyH_take (i := 41) (v := ?_) rfl (by kernel_rfl) (by kernel_rfl) (by kernel_rfl) (fun _ _ _ h => h) (Or.inl ⟨by rfl, ?_⟩) (by assumption) ?_
    rotate_left
    · intro w hSw; (try dsimp only at hSw); go_simp; try with_reducible rfl
    simp only [Act.put, List.getElem_toArray, List.getElem_cons_succ, List.getElem_cons_zero, List.setIfInBounds_toArray, List.set_cons_succ, List.set_cons_zero]
    refine wpAnyH_take (i := 42) (v := ?_) rfl (by kernel_rfl) (by kernel_rfl) (by kernel_rfl) (fun _ _ _ h => h) (Or.inl ⟨by rfl, ?_⟩) (by assumption) ?_
    rotate_left
    · intro w hSw; (try dsimp only at hSw); go_simp; try with_reducible rfl
    simp only [Act.put, List.getElem_toArray, List.getElem_cons_succ, List.getElem_cons_zero, List.setIfInBounds_toArray, List.set_cons_succ, List.set_cons_zero]
    refine wpAnyH_take (i := 43) (v := ?_) rfl (by kernel_rfl) (by kernel_rfl) (by kernel_rfl) (fun _ _ _ h => h) (Or.inl ⟨by rfl, ?_⟩) (by assumption) ?_
    rotate_left
    · intro w hSw; (try dsimp only at hSw); go_simp; try with_reducible rfl
    simp only [Act.put, List.getElem_toArray, List.getElem_cons_succ, List.getElem_cons_zero, List.setIfInBounds_toArray, List.set_cons_succ, List.set_cons_zero]
    refine wpAnyH_take (i := 44) (v := ?_) rfl (by kernel_rfl) (by kernel_rfl) (by kernel_rfl) (fun _ _ _ h => h) (Or.inl ⟨by rfl, ?_⟩) (by assumption) ?_
    rotate_left
    · intro w hSw; (try dsimp only at hSw); go_simp; try with_reducible rfl
    simp only [Act.put, List.getElem_toArray, List.getElem_cons_succ, List.getElem_cons_zero, List.setIfInBounds_toArray, List.set_cons_succ, List.set_cons_zero]
    refine wpAnyH_take (i := 45) (v := ?_) rfl (by kernel_rfl) (by kernel_rfl) (by kernel_rfl) (fun _ _ _ h => h) (Or.inl ⟨by rfl, ?_⟩) (by assumption) ?_
    rotate_left
    · intro w hSw; (try dsimp only at hSw); go_simp; try with_reducible rfl
    simp only [Act.put, List.getElem_toArray, List.getElem_cons_succ, List.getElem_cons_zero, List.setIfInBounds_toArray, List.set_cons_succ, List.set_cons_zero]
    refine wpAnyH_take (i := 46) (v := ?_) rfl (by kernel_rfl) (by kernel_rfl) (by kernel_rfl) (fun _ _ _ h => h) (Or.inl ⟨by rfl, ?_⟩) (by assumption) ?_
    rotate_left
    · intro w hSw; (try dsimp only at hSw); go_simp; try with_reducible rfl
    simp only [Act.put, List.getElem_toArray, List.getElem_cons_succ, List.getElem_cons_zero, List.setIfInBounds_toArray, List.set_cons_succ, List.set_cons_zero]
    refine wpAnyH_take (i := 47) (v := ?_) rfl (by kernel_rfl) (by kernel_rfl) (by kernel_rfl) (fun _ _ _ h => h) (Or.inl ⟨by rfl, ?_⟩) (by assumption) ?_
    rotate_left
    · intro w hSw; (try dsimp only at hSw); go_simp; try with_reducible rfl
    simp only [Act.put, List.getElem_toArray, List.getElem_cons_succ, List.getElem_cons_zero, List.setIfInBounds_toArray, List.set_cons_succ, List.set_cons_zero]
    refine wpAnyH_take (i := 48) (v := ?_) rfl (by kernel_rfl) (by kernel_rfl) (by kernel_rfl) (fun _ _ _ h => h) (Or.inl ⟨by rfl, ?_⟩) (by assumption) ?_
    rotate_left
    · intro w hSw; (try dsimp only at hSw); go_simp; try with_reducible rfl
    simp only [Act.put, List.getElem_toArray, List.getElem_cons_succ, List.getElem_cons_zero, List.setIfInBounds_toArray, List.set_cons_succ, List.set_cons_zero]
    refine wpAnyH_take (i := 49) (v := ?_) rfl (by kernel_rfl) (by kernel_rfl) (by kernel_rfl) (fun _ _ _ h => h) (Or.inl ⟨by rfl, ?_⟩) (by assumption) ?_
    rotate_left
    · intro w hSw; (try dsimp only at hSw); go_simp; try with_reducible rfl
    simp only [Act.put, List.getElem_toArray, List.getElem_cons_succ, List.getElem_cons_zero, List.setIfInBounds_toArray, List.set_cons_succ, List.set_cons_zero]
    refine wpAnyH_take (i := 50) (v := ?_) rfl (by kernel_rfl) (by kernel_rfl) (by kernel_rfl) (fun _ _ _ h => h) (Or.inl ⟨by rfl, ?_⟩) (by assumption) ?_
    rotate_left
    · intro w hSw; (try dsimp only at hSw); go_simp; try with_reducible rfl
    simp only [Act.put, List.getElem_toArray, List.getElem_cons_succ, List.getElem_cons_zero, List.setIfInBounds_toArray, List.set_cons_succ, List.set_cons_zero]
    refine wpAnyH_take (i := 51) (v := ?_) rfl (by kernel_rfl) (by kernel_rfl) (by kernel_rfl) (fun _ _ _ h => h) (Or.inl ⟨by rfl, ?_⟩) (by assumption) ?_
    rotate_left
    · intro w hSw; (try dsimp only at hSw); go_simp; try with_reducible rfl
    simp only [Act.put, List.getElem_toArray, List.getElem_cons_succ, List.getElem_cons_zero, List.setIfInBounds_toArray, List.set_cons_succ, List.set_cons_zero]
    refine wpAnyH_take (i := 52) (v := ?_) rfl (by kernel_rfl) (by kernel_rfl) (by kernel_rfl) (fun _ _ _ h => h) (Or.inl ⟨by rfl, ?_⟩) (by assumption) ?_
    rotate_left
    · intro w hSw; (try dsimp only at hSw); go_simp; try with_reducible rfl
    simp only [Act.put, List.getElem_toArray, List.getElem_cons_succ, List.getElem_cons_zero, List.setIfInBounds_toArray, List.set_cons_succ, List.set_cons_zero]
    refine wpAnyH_take (i := 53) (v := ?_) rfl (by kernel_rfl) (by kernel_rfl) (by kernel_rfl) (fun _ _ _ h => h) (Or.inl ⟨by rfl, ?_⟩) (by assumption) ?_
    rotate_left
    · intro w hSw; (try dsimp only at hSw); go_simp; try with_reducible rfl
    simp only [Act.put, List.getElem_toArray, List.getElem_cons_succ, List.getElem_cons_zero, List.setIfInBounds_toArray, List.set_cons_succ, List.set_cons_zero]
    refine wpAnyH_take (i := 54) (v := ?_) rfl (by kernel_rfl) (by kernel_rfl) (by kernel_rfl) (fun _ _ _ h => h) (Or.inl ⟨by rfl, ?_⟩) (by assumption) ?_
    rotate_left
    · intro w hSw; (try dsimp only at hSw); go_simp; try with_reducible rfl
    simp only [Act.put, List.getElem_toArray, List.getElem_cons_succ, List.getElem_cons_zero, List.setIfInBounds_toArray, List.set_cons_succ, List.set_cons_zero]
    refine wpAnyH_take (i := 55) (v := ?_) rfl (by kernel_rfl) (by kernel_rfl) (by kernel_rfl) (fun _ _ _ h => h) (Or.inl ⟨by rfl, ?_⟩) (by assumption) ?_
    rotate_left
    · intro w hSw; (try dsimp only at hSw); go_simp; try with_reducible rfl
    simp only [Act.put, List.getElem_toArray, List.getElem_cons_succ, List.getElem_cons_zero, List.setIfInBounds_toArray, List.set_cons_succ, List.set_cons_zero]
    refine wpAnyH_take (i := 56) (v := ?_) rfl (by kernel_rfl) (by kernel_rfl) (by kernel_rfl) (fun _ _ _ h => h) (Or.inl ⟨by rfl, ?_⟩) (by assumption) ?_
    rotate_left
    · intro w hSw; (try dsimp only at hSw); go_simp; try with_reducible rfl
    simp only [Act.put, List.getElem_toArray, List.getElem_cons_succ, List.getElem_cons_zero, List.setIfInBounds_toArray, List.set_cons_succ, List.set_cons_zero]
    refine wpAnyH_take (i := 57) (v := ?_) rfl (by kernel_rfl) (by kernel_rfl) (by kernel_rfl) (fun _ _ _ h => h) (Or.inl ⟨by rfl, ?_⟩) (by assumption) ?_
    rotate_left
    · intro w hSw; (try dsimp only at hSw); go_simp; try with_reducible rfl
    simp only [Act.put, List.getElem_toArray, List.getElem_cons_succ, List.getElem_cons_zero, List.setIfInBounds_toArray, List.set_cons_succ, List.set_cons_zero]
    refine wpAnyH_take (i := 58) (v := ?_) rfl (by kernel_rfl) (by kernel_rfl) (by kernel_rfl) (fun _ _ _ h => h) (Or.inl ⟨by rfl, ?_⟩) (by assumption) ?_
    rotate_left
    · intro w hSw; (try dsimp only at hSw); go_simp; try with_reducible rfl
    simp only [Act.put, List.getElem_toArray, List.getElem_cons_succ, List.getElem_cons_zero, List.setIfInBounds_toArray, List.set_cons_succ, List.set_cons_zero]
    refine wpAnyH_ready (rs := [59]) (by kernel_rfl) (by simp) ?_
    refine AllReadyH.cons rfl (fun K hK => ?_) AllReadyH.nil
    go_simp
    refine (sameReqs_same xD xE r2 qD qE _ _ v2 FR2.out.qD FR2.out.qE (Nat.le_refl _) (Nat.le_refl _) hr2m HM2.out).mono ?_
    rintro e v3 ⟨rfl, t3⟩
    have FR3 := hide (FR2.out.next t3)
    have K3 := hide (FR3.out.keep cj)
    clear t3
    refine hK.out _ _ K3.out (fun hHeld2 => ?_)
    clear hK K hHeld
    have hHeld := hHeld2
    clear hHeld2
    simp only [List.setIfInBounds_toArray, List.set_cons_succ, List.set_cons_zero]
    refine wpAnyH_take (i := 60) (v := ?_) rfl (by kernel_rfl) (by kernel_rfl) (by kernel_rfl) (fun _ _ _ h => h) (Or.inl ⟨by rfl, ?_⟩) (by assumption) ?_
    rotate_left
    · intro w hSw; (try dsimp only at hSw); go_simp; try with_reducible rfl
    simp only [Act.put, List.getElem_toArray, List.getElem_cons_succ, List.getElem_cons_zero, List.setIfInBounds_toArray, List.set_cons_succ, List.set_cons_zero]
    refine wpAnyH_take (i := 61) (v := ?_) rfl (by kernel_rfl) (by kernel_rfl) (by kernel_rfl) (fun _ _ _ h => h) (Or.inl ⟨by rfl, ?_⟩) (by assumption) ?_
    rotate_left
    · intro w hSw; (try dsimp only at hSw); go_simp; try with_reducible rfl
    simp only [Act.put, List.getElem_toArray, List.getElem_cons_succ, List.getElem_cons_zero, List.setIfInBounds_toArray, List.set_cons_succ, List.set_cons_zero]
    refine wpAnyH_take (i := 62) (v := ?_) rfl (by kernel_rfl) (by kernel_rfl) (by kernel_rfl) (fun _ _ _ h => h) (Or.inl ⟨by rfl, ?_⟩) (by assumption) ?_
    rotate_left
    · intro w hSw; (try dsimp only at hSw); go_simp; try with_reducible rfl
    simp only [Act.put, List.getElem_toArray, List.getElem_cons_succ, List.getElem_cons_zero, List.setIfInBounds_toArray, List.set_cons_succ, List.set_cons_zero]
    refine wpAnyH_take (i := 63) (v := ?_) rfl (by kernel_rfl) (by kernel_rfl) (by kernel_rfl) (fun _ _ _ h => h) (Or.inl ⟨by rfl, ?_⟩) (by assumption) ?_
    rotate_left
    · intro w hSw; (try dsimp only at hSw); go_simp; try with_reducible rfl
    simp only [Act.put, List.getElem_toArray, List.getElem_cons_succ, List.getElem_cons_zero, List.setIfInBounds_toArray, List.set_cons_succ, List.set_cons_zero]
    refine wpAnyH_take (i := 64) (v := ?_) rfl (by kernel_rfl) (by kernel_rfl) (by kernel_rfl) (fun _ _ _ h => h) (Or.inl ⟨by rfl, ?_⟩) (by assumption) ?_
    rotate_left
    · intro w hSw; (try dsimp only at hSw); go_simp; try with_reducible rfl
    simp only [Act.put, List.getElem_toArray, List.getElem_cons_succ, List.getElem_cons_zero, List.setIfInBounds_toArray, List.set_cons_succ, List.set_cons_zero]
    refine wpAnyH_ready (rs := [65]) (by kernel_rfl) (by simp) ?_
    refine AllReadyH.cons rfl (fun K hK => ?_) AllReadyH.nil
    go_simp
    refine (specJoined_any al ls cl v3.heap.size v3 FR3.out.bs (Nat.le_refl _) (by omega) (by omega)).mono ?_
    rintro e v4 ⟨⟨vj, rfl, oj⟩, t4⟩
    rw [HLJ.out] at oj
    obtain ⟨gj, cz, rfl, _, _, _, _, yj4⟩ := oj.byt
    have hcv := conv_byt yj4 _ cz rfl
    have FR5 := hide (FR3.out.next t4)
    have K5 := hide (FR5.out.keep cj)
    clear t4 oj
    refine hK.out _ _ K5.out (fun hHeld2 => ?_)
    clear hK K hHeld
    have hHeld := hHeld2
    clear hHeld2
    simp only [List.setIfInBounds_toArray, List.set_cons_succ, List.set_cons_zero]
    refine wpAnyH_ready (rs := [66]) (by kernel_rfl) (by simp) ?_
    refine AllReadyH.cons rfl (fun K hK => ?_) AllReadyH.nil
    go_simp
    refine hK.out _ _ K5.out (fun hHeld2 => ?_)
    clear hK K hHeld
    have hHeld := hHeld2
    clear hHeld2
    simp only [List.setIfInBounds_toArray, List.set_cons_succ, List.set_cons_zero]
    refine wpAnyH_take (i := 67) (v := ?_) rfl (by kernel_rfl) (by kernel_rfl) (by kernel_rfl) (fun _ _ _ h => h) (Or.inl ⟨by rfl, ?_⟩) (by assumption) ?_
    rotate_left
    · intro w hSw; (try dsimp only at hSw); go_simp; try with_reducible rfl
    simp only [Act.put, List.getElem_toArray, List.getElem_cons_succ, List.getElem_cons_zero, List.setIfInBounds_toArray, List.set_cons_succ, List.set_cons_zero]
    refine wpAnyH_take (i := 68) (v := ?_) rfl (by kernel_rfl) (by kernel_rfl) (by kernel_rfl) (fun _ _ _ h => h) (Or.inl ⟨by rfl, ?_⟩) (by assumption) ?_
    rotate_left
    · intro w hSw; (try dsimp only at hSw); go_simp; try with_reducible rfl
    simp only [Act.put, List.getElem_toArray, List.getElem_cons_succ, List.getElem_cons_zero, List.setIfInBounds_toArray, List.set_cons_succ, List.set_cons_zero]
    refine wpAnyH_take (i := 69) (v := ?_) rfl (by kernel_rfl) (by kernel_rfl) (by kernel_rfl) (fun _ _ _ h => h) (Or.inl ⟨by rfl, ?_⟩) (by assumption) ?_
    rotate_left
    · intro w hSw; (try dsimp only at hSw); go_simp; try with_reducible rfl
    simp only [Act.put, List.getElem_toArray, List.getElem_cons_succ, List.getElem_cons_zero, List.setIfInBounds_toArray, List.set_cons_succ, List.set_cons_zero]
    refine wpAnyH_done (by kernel_rfl) ?_ _
    go_wp2
    go_ret
    exact ⟨by simp, FR5.out.cw⟩
end Go.Proofs.YtanebchmeaomgaaGreatDoor
