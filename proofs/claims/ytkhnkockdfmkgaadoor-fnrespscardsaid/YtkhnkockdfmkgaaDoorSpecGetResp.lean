/-
  What the specification's GetResp does.
-/
import Derived.Test.YtkhnkockdfmkgaaDoorSpecVal
import Derived.Test.YtkhnkockdfmkgaaDoorAllOf
import Derived.Test.YtkhnkockdfmkgaaDoorGetResp
namespace Go.Proofs.YtkhnkockdfmkgaaDoor
open Go.RowKit M
set_option linter.unusedVariables false

theorem rowS_cell5 {w : World} {B g n cap : Nat} {ls : List ByteArray} (h : w.ownsRow B 9 1 (.slice (some ⟨g, 0, none⟩) n cap) n (strCells ls)) (j : Nat) (hj : j < ls.length) : w.cell? ⟨g, j, none⟩ = some (.string ls[j]) := by
  have := h.cells (g := g) rfl j (.string ls[j]) (by simp [strCells, List.getElem?_eq_getElem hj])
  have e : (⟨g, 0, none⟩ : Addr).add j = ⟨g, j, none⟩ := by unfold Addr.add; split <;> simp_all
  first | exact this | (rw [e] at this; exact this)
theorem results_sgetA (tmps : Array Value) (N : Nat) (W : World) (v0 v1 v2 : Value) (x : Int) (y : Bool) (h2 : tmps.getD 2 undef = .pointer (some ⟨N, 0, none⟩)) (h3 : tmps.getD 3 undef = .int .i64 x) (h4 : tmps.getD 4 undef = .bool y) (hg : W.heap[N]? = some (Obj.cells #[v0, v1, v2] 26)) :
    (results Tryd.f9 tmps).run Tryd.prog W = .ok (.tuple #[.agg #[v0, v1, v2], .int .i64 x, .bool y]) W := by
  have hl := run_loadVar_row (P := Tryd.prog) W N 26 26 #[v0, v1, v2] (0, 0) _ hg Tryd.underlying26 rfl resp_desc
  simp at h2 h3 h4
  simp [results, Tryd.results9, h2, h3, h4, asAddr, hl]
theorem top_beq (c : List UInt8) : (((bytesOf c).toList) == [72, 84, 84, 80, 47, 49, 46, 49, 32]) = decide (c = proto ++ [32]) := by
  rw [ByteArray.toList_eq]
  show (c == proto ++ [32]) = _
  by_cases h : c = proto ++ [32] <;> simp [h]
theorem top_bne (c : List UInt8) : (((bytesOf c).toList) != [72, 84, 84, 80, 47, 49, 46, 49, 32]) = !decide (c = proto ++ [32]) := by
  rw [bne, top_beq]
/-- What is known in the course of the loop. -/
def RespJ (w2 : World) (c : Int) (hs : List Hd) (hv : Value) (W : World) : Prop := BoxC w2.heap.size c hv ⟨#[]⟩ W ∧ RowsH W (w2.heap.size + 1) hv hs ∧ Below w2.heap.size w2 W
theorem RespJ.next {w2 W W' : World} {c : Int} {hs : List Hd} {hv : Value} (h : RespJ w2 c hs hv W) (hb : Below W.heap.size W W') : RespJ w2 c hs hv W' := by
  obtain ⟨h1, h2, h3⟩ := h
  exact ⟨(hb.block _ (Array.getElem?_eq_some_iff.1 h1).1).trans h1, ownsH_below h2 hb, h3.trans (hb.mono h3.size)⟩
theorem lineSum_take (lr : List (List UInt8)) (j : Nat) : lineSum (lr.take j) ≤ lineSum lr := by
  have e : lineSum lr = lineSum (lr.take j) + lineSum (lr.drop j) := by
    unfold lineSum
    rw [← List.sum_append, ← List.map_append, List.take_append_drop]
  omega
theorem lineSum_mem (lr : List (List UInt8)) (x : List UInt8) (h : x ∈ lr) : x.length ≤ lineSum lr := by
  induction lr with
  | nil => cases h
  | cons y r ih =>
    simp only [lineSum, List.map_cons, List.sum_cons]
    rcases List.mem_cons.1 h with rfl | h
    · omega
    · have := ih h
      unfold lineSum at this
      omega
theorem lenEq5 (x : ByteArray) : (x.toList == [99, 111, 110, 116, 101, 110, 116, 45, 108, 101, 110, 103, 116, 104]) = decide (x = lenName) := by
  by_cases h : x = lenName
  · subst h; rw [ByteArray.toList_eq]; decide
  · have : ¬ x.toList = [99, 111, 110, 116, 101, 110, 116, 45, 108, 101, 110, 103, 116, 104] := fun e => h (strInj (by rw [e, ByteArray.toList_eq]; rfl))
    simp [h, this]
theorem lenNe5 (x : ByteArray) : (x.toList != [99, 111, 110, 116, 101, 110, 116, 45, 108, 101, 110, 103, 116, 104]) = !decide (x = lenName) := by rw [bne, lenEq5]
theorem GotA.mk {w : World} {B : Nat} {r : Rs} {n : Nat} {ok : Bool} {hv : Value} {x : Int} (hx : x = (n : Int)) (h : RowsH w B hv r.hs) : GotA w B (r, n, ok) (.returned (.tuple #[.agg #[.int .i64 r.c, hv, .string r.b], .int .i64 x, .bool ok])) := ⟨hv, by rw [hx], h⟩
theorem ZeroA.below {N C : Nat} {W W' : World} (h : ZeroA N W) (hb : Below C W W') (hN : N < C) : ZeroA N W' := (hb.block _ hN).trans h

set_option maxRecDepth 100000 in
set_option maxHeartbeats 4000000 in
theorem specGetResp_any (b o : Nat) (l : List UInt8) (cap : Nat) (w : World) (h : Byt w w.heap.size (some ⟨b, o, none⟩) l) (hl : l.length ≤ 1048576) (hlc : l.length ≤ cap) (hcm : cap ≤ maxLen) :
    Calls Tryd.prog 9 #[.slice (some ⟨b, o, none⟩) l.length cap] w fun e w' => GotA w' w.heap.size (getA l) e ∧ Below w.heap.size w w' := by
  obtain ⟨w0, hw0⟩ : ∃ w0, w.alloc (Obj.cells #[.int .i64 0, .slice none 0 0, .string ⟨#[]⟩] 26) = w0 := ⟨_, rfl⟩
  have c0 : Below w.heap.size w w0 := by rw [← hw0]; exact (Below.refl _ _).alloc (Nat.le_refl _) _
  have z0 : ZeroA w.heap.size w0 := by rw [← hw0]; exact heap_alloc_new w _
  have C0 := hide c0
  have Z0 := hide z0
  have HH := hide h
  have HEn := hide (l5End_any (some ⟨b, o, none⟩) l cap w.heap.size w0 (h.below c0 (Nat.le_refl _)) hl hlc hcm)
  have hcm' := hcm
  unfold maxLen at hcm'
  have hbd := endL_bd l
  clear h c0 z0
  rcases hbd with hneg | ⟨hk4, hkl⟩
  · have HG : Hid (getA l = (zeroA, 0, false)) := hide (getA_no fun q hq => by have := RespAt.end5 hq; omega)
    rw [hneg] at HEn
    clear hneg
    go_enter Tryd.func9, Tryd.ntmps9
    go_wp2_with fail
    try rw [hw0]
    refine HEn.out.mono ?_
    rintro e w1 ⟨rfl, b1⟩
    have hZ1 := Z0.out.next (b1 _)
    have C1 := hide (C0.out.trans (b1 _))
    obtain ⟨q0, q1, q2, f0, f1, f2⟩ := cells3R hZ1
    have HZ1 := hide hZ1
    clear hw0 HEn b1 hZ1
    go_wp2
    refine bodyPost_ret (results_sgetA _ w.heap.size _ _ _ _ _ _ rfl rfl rfl (set3_heapR HZ1.out _ _ _)) rfl ?_
    rw [HG.out]
    exact ⟨GotA.bad _ _, set3_below C1.out (Nat.le_refl _) _ _ _⟩
  · obtain ⟨k, hk⟩ := Int.eq_ofNat_of_zero_le (by omega : 0 ≤ endL l)
    have hk' : endL l = (k : Int) := hk
    have HKf : Hid (∀ q, RespAt q l → k = (frontA q).length) := hide (fun q hq => by have := RespAt.end5 hq; omega)
    rw [hk'] at HEn hk4 hkl
    have hk4 : 4 ≤ k := by omega
    have hkl : k ≤ l.length := by omega
    have hkn : ¬ ((k : Int) < 0) := by omega
    clear hk hk'
    obtain ⟨l0, lr, hL⟩ : ∃ l0 lr, linesL (l.take (k - 4)) = l0 :: lr := by
      cases e : linesL (l.take (k - 4)) with
      | nil => exact absurd e (linesL_ne _)
      | cons a b => exact ⟨a, b, rfl⟩
    have HLo : Hid (LinesOf l l0 lr) := hide (fun q hq => by
      have h1 := hq.lines
      rw [← HKf.out q hq, hL] at h1
      unfold linesA at h1
      exact ⟨List.head_eq_of_cons_eq h1, List.tail_eq_of_cons_eq h1⟩)
    have hsm := lines_sum (l.take (k - 4))
    rw [hL] at hsm
    have hs1 : l0.length + lineSum lr + 2 * lr.length ≤ 1048576 := by
      simp only [lineSum, List.map_cons, List.sum_cons, List.length_cons, List.length_take] at hsm
      unfold lineSum
      omega
    obtain ⟨t, ht⟩ : ∃ t : ByteArray, (⟨(l.take (k - 4)).toArray⟩ : ByteArray) = t := ⟨_, rfl⟩
    have htd : t.data.toList = l.take (k - 4) := by rw [← ht]
    have hts : t.size ≤ 1048576 := by
      rw [← ht]
      show (l.take (k - 4)).toArray.size ≤ _
      rw [List.size_toArray, List.length_take]; omega
    have hbs : linesB t.data.toList = bytesOf l0 :: lr.map bytesOf := by unfold linesB; rw [htd, hL]; rfl
    have HLi := hide (fun (W : World) => l3Lines_any t W hts)
    rw [hbs] at HLi
    have hn : (bytesOf l0 :: lr.map bytesOf).length = lr.length + 1 := by simp
    rw [hn] at HLi
    have hk4' : ((k : Int) - 4).toNat = k - 4 := by omega
    clear hsm hL hbs htd hts
    go_enter Tryd.func9, Tryd.ntmps9
    go_wp2_with fail
    try rw [hw0]
    refine HEn.out.mono ?_
    rintro e w1 ⟨rfl, b1⟩
    have C1 := hide (C0.out.trans (b1 _))
    have Z1 := hide (Z0.out.next (b1 _))
    have hlt1 : w.heap.size < w1.heap.size := (Array.getElem?_eq_some_iff.1 Z1.out).1
    have hcv := conv_byt ((HH.out.below C1.out (Nat.le_refl _)).take (k - 4)) (k - 4) cap (by rw [List.length_take]; omega)
    rw [ht] at hcv
    clear hw0 HEn b1 ht
    go_wp2_with fail
    refine (HLi.out w1).mono ?_
    rintro e w2 ⟨⟨g, gc, rfl, hown⟩, b2⟩
    have C2 := hide (C1.out.trans (b2.mono C1.out.size))
    have Z2 := hide (Z1.out.next b2)
    have hlt2 : w.heap.size < w2.heap.size := Nat.lt_of_lt_of_le hlt1 b2.size
    have hg2 : g < w2.heap.size := (hown.lt g rfl).2
    have r0 := rowS_cell5 hown 0 (by simp)
    simp only [List.getElem_cons_zero] at r0
    have HCl : Hid (∀ (W : World) (j : Nat) (hj : j < lr.length), Below w2.heap.size w2 W → W.cell? ⟨g, j + 1, none⟩ = some (.string (bytesOf lr[j]))) := hide (fun W j hj hb => by
      rw [hb.cell (p := ⟨g, j + 1, none⟩) hg2]
      have := rowS_cell5 hown (j + 1) (by simp; exact hj)
      simpa using this)
    have hx0 : (bytesOf l0).size = l0.length := bytesOf_size _
    clear hcv HLi hown b2
    obtain ⟨w3, hw3⟩ : ∃ w3, w2.alloc (Obj.cells #[.int .i64 0, .slice none 0 0, .string ⟨#[]⟩] 26) = w3 := ⟨_, rfl⟩
    have b3 : Below w2.heap.size w2 w3 := by rw [← hw3]; exact (Below.refl _ _).alloc (Nat.le_refl _) _
    have n3 : BoxC w2.heap.size 0 (.slice none 0 0) ⟨#[]⟩ w3 := by rw [← hw3]; exact heap_alloc_new w2 _
    have z3 := Z2.out.next b3
    obtain ⟨m0, m1, m2, i0, i1, i2⟩ := cells3R n3
    obtain ⟨w4, hw4⟩ : ∃ w4, ((w3.setCell ⟨w2.heap.size, 0, none⟩ (.int .i64 0)).setCell ⟨w2.heap.size, 1, none⟩ (.slice none 0 0)).setCell ⟨w2.heap.size, 2, none⟩ (.string ⟨#[]⟩) = w4 := ⟨_, rfl⟩
    have n4 := set3_heapR n3 (.int .i64 0) (.slice none 0 0) (.string ⟨#[]⟩)
    have b4 := set3_below b3 (Nat.le_refl _) (.int .i64 0) (.slice none 0 0) (.string ⟨#[]⟩)
    rw [hw4] at n4 b4
    have z4 := Z2.out.below b4 hlt2
    have C4 := hide (C2.out.trans (b4.mono C2.out.size))
    have r4 := (b4.cell (p := ⟨g, 0, none⟩) hg2).trans r0
    obtain ⟨q0, q1, q2, f0, f1, f2⟩ := cells3R z4
    obtain ⟨p0, p1, p2, j0, j1, j2⟩ := cells3R n4
    have Z4 := hide z4
    have N4 := hide n4
    have B4 := hide b4
    clear z3 r0 z4 b3 n3 n4 b4
    by_cases hfew : 1 ≤ lr.length
    · have hfew' : ¬ ((lr.length : Int) + 1 < 2) := by omega
      by_cases h12 : l0.length = 12
      · have h12' : (bytesOf l0).size = 12 := by omega
        have x9 := extract_pieceB (bytesOf l0) 0 9
        have x9' : (bytesOf l0).extract 0 9 = bytesOf (l0.take 9) := by rw [x9]; rfl
        have xr := extract_pieceB (bytesOf l0) 9 (bytesOf l0).size
        have xr' : (bytesOf l0).extract 9 12 = bytesOf (l0.drop 9) := by
          rw [h12'] at xr
          rw [xr]
          show bytesOf ((l0.drop 9).take (12 - 9)) = _
          rw [List.take_of_length_le (by rw [List.length_drop]; omega)]
        have pb := top_bne (l0.take 9)
        have pe := top_beq (l0.take 9)
        clear x9 xr
        by_cases htp : l0.take 9 = proto ++ [32]
        · rw [decide_eq_true htp] at pb pe
          have HPn := hide (specParseNum_any (bytesOf (l0.drop 9)) 599 w4 (by rw [bytesOf_size, List.length_drop]; unfold maxLen; omega))
          have hd9 : (bytesOf (l0.drop 9)).data.toList = l0.drop 9 := rfl
          rw [hd9] at HPn
          have HSt := hide (LoopA.start HLo.out)
          obtain ⟨pc, pok, hp⟩ : ∃ pc pok, parseNum (l0.drop 9) 599 = (pc, pok) := ⟨_, _, rfl⟩
          rw [hp] at HPn HSt
          clear htp hp hd9
          go_wp2_with fail
          refine HPn.out.mono ?_
          rintro e w5 ⟨rfl, hw5⟩
          obtain rfl := hw5.symm
          obtain ⟨w6, hw6⟩ : ∃ w6, w4.setCell ⟨w2.heap.size, 0, none⟩ (.int .i64 pc) = w6 := ⟨_, rfl⟩
          have n6 := set_heap N4.out 0 (.int .i64 pc)
          have b6 := B4.out.setCell (p := ⟨w2.heap.size, 0, none⟩) (Nat.le_refl _) (.int .i64 pc)
          rw [hw6] at n6 b6
          have HJ6 : Hid (RespJ w2 pc [] (.slice none 0 0) w6) := hide ⟨n6, World.ownsRow_nil _ _ _ _, b6⟩
          clear n6 b6 HPn N4 B4 Z4 C4
          go_wp2
          clear hw3 hw4 hw6 m0 m1 m2 i0 i1 i2 q0 q1 q2 f0 f1 f2 p0 p1 p2 j0 j1 j2 r4 pb pe x9' xr'
          go_loopw [8, 9] (fun sv i wr => ∃ (j : Nat) (hs : List Hd) (sz : Int) (hv : Value), j ≤ lr.length ∧ i = .int .i64 ((j : Int) + 1) ∧ sv = .int .i64 sz ∧ -1 ≤ sz ∧ sz ≤ 400 ∧ hs.length ≤ j ∧ sumH hs ≤ lineSum (lr.take j) ∧ RespJ w2 pc hs hv wr ∧ LoopA l lr pc hs sz j) (fun _ i _ => lr.length + 1 - (intOf i).toNat)
          case atStart => exact ⟨0, [], -1, _, Nat.zero_le _, rfl, rfl, by omega, by omega, Nat.le_refl _, Nat.zero_le _, HJ6.out, HSt.out⟩
          case round =>
            obtain ⟨j, hs, sz, hv, hj, rfl, rfl, hz1, hz2, hhl, hsu, hJ, hA⟩ := hrel
            clear HJ6 HSt
            have HJ := hide hJ
            have HA := hide hA
            have hlsm : lineSum (lr.take j) ≤ lineSum lr := lineSum_take lr j
            obtain ⟨ah, ch, hve, _⟩ := RowsH.hds hJ.2.1
            subst hve
            have hNw : w2.heap.size < wr.heap.size := (Array.getElem?_eq_some_iff.1 hJ.1).1
            clear hJ hA
            by_cases hlt : j < lr.length
            · have hlt' : (j : Int) + 1 < (lr.length : Int) + 1 := by omega
              have rj := HCl.out wr j hlt HJ.out.2.2
              have hll : (bytesOf lr[j]).size ≤ 1048576 := by
                rw [bytesOf_size]
                have := lineSum_mem lr _ (List.getElem_mem hlt)
                omega
              have HHd := hide (l5Head_any (bytesOf lr[j]) wr hll)
              have hdl : (bytesOf lr[j]).data.toList = lr[j] := rfl
              rw [hdl] at HHd
              clear hdl
              go_wp2_with fail
              refine HHd.out.mono ?_
              rintro e w7 ⟨he, b7⟩
              have hJ7 := HJ.out.next b7
              have B7 := hide hJ7.2.2
              have C7 := hide (C2.out.trans (hJ7.2.2.mono C2.out.size))
              have z7 := Z2.out.below hJ7.2.2 hlt2
              cases hc : cutS [58, 32] lr[j] with
              | none =>
                rw [hc] at he
                have he' : e = .returned (.tuple #[.agg #[.string ⟨#[]⟩, .string ⟨#[]⟩], .bool false]) := he
                subst he'
                have HG : Hid (getA l = (zeroA, 0, false)) := hide (getA_no (HA.out.no hlt hc))
                have ba := (Below.refl w7.heap.size w7).alloc (Nat.le_refl _) (Obj.cells #[.string ⟨#[]⟩, .string ⟨#[]⟩] 42)
                have Z8 := hide (z7.next ba)
                have C8 := hide (C7.out.trans (ba.mono C7.out.size))
                obtain ⟨q0, q1, q2, f0, f1, f2⟩ := cells3R Z8.out
                clear hc he z7 hJ7 b7 HHd ba rj
                go_wp2
                refine bodyPost_ret (results_sgetA _ w.heap.size _ _ _ _ _ _ rfl rfl rfl (set3_heapR Z8.out _ _ _)) rfl ?_
                rw [HG.out]
                exact ⟨GotA.bad _ _, set3_below C8.out (Nat.le_refl _) _ _ _⟩
              | some ab =>
                obtain ⟨xa, xb⟩ := ab
                rw [hc] at he
                have he' : e = .returned (.tuple #[.agg #[.string (bytesOf xa), .string (bytesOf xb)], .bool true]) := he
                subst he'
                have hcl := cutS_len hc
                have hcl' : xa.length + xb.length + 2 ≤ lr[j].length := by
                  have : ([58, 32] : List UInt8).length = 2 := rfl
                  omega
                have Hc := hide hc
                obtain ⟨x, hx⟩ : ∃ x, bytesOf xa = x := ⟨_, rfl⟩
                obtain ⟨y, hy⟩ : ∃ y, bytesOf xb = y := ⟨_, rfl⟩
                have hxs : x.size = xa.length := by rw [← hx]; exact bytesOf_size _
                have hys : y.size = xb.length := by rw [← hy]; exact bytesOf_size _
                have hyd : y.data.toList = xb := by rw [← hy]; rfl
                have HMo := hide (fun hn => HA.out.more hlt hc hn)
                have HSi := hide (fun hl n hp => HA.out.size (n := n) hlt hc hl hp)
                have HNs := hide (fun hl hp => HA.out.noSize hlt hc hl hp)
                rw [hx, hy]
                rw [hx, hy] at HMo
                have hsuj : lineSum (lr.take (j + 1)) = lineSum (lr.take j) + lr[j].length := by
                  unfold lineSum
                  rw [List.take_succ_eq_append_getElem hlt, List.map_append, List.sum_append]
                  simp only [List.map_cons, List.map_nil, List.sum_cons, List.sum_nil, Nat.add_zero]
                have hls1 := lineSum_take lr (j + 1)
                obtain ⟨w8, hw8⟩ : ∃ w8, w7.alloc (Obj.cells #[.string x, .string y] 42) = w8 := ⟨_, rfl⟩
                have b8 : Below w7.heap.size w7 w8 := by rw [← hw8]; exact (Below.refl _ _).alloc (Nat.le_refl _) _
                have g8 : w8.heap[w7.heap.size]? = some (Obj.cells #[.string x, .string y] 42) := by rw [← hw8]; exact heap_alloc_new w7 _
                have hJ8 := hJ7.next b8
                have C8 := hide (C7.out.trans (b8.mono C7.out.size))
                have z8 := z7.next b8
                have ln1 := lenEq5 x
                have lnn := lenNe5 x
                obtain ⟨q0, q1, q2, f0, f1, f2⟩ := cells3R z8
                obtain ⟨y0, y1, d0, d1⟩ := cells2R g8
                obtain ⟨n0, n1, n2, i0, i1, i2⟩ := cells3R hJ8.1
                have J8 := hide hJ8
                have Z8 := hide z8
                have G8 := hide g8
                clear hc he z7 hJ7 b7 HHd rj hx hy b8 g8 hJ8 z8
                by_cases hlast : j + 1 = lr.length
                · have hla1 : (j : Int) + 1 = (lr.length : Int) := by omega
                  have hla2 : ((j : Int) + 1 == (lr.length : Int)) = true := by rw [beq_iff_eq]; exact hla1
                  by_cases hnm : x = lenName
                  · rw [decide_eq_true hnm] at ln1
                    have HPz := hide (specParseNum_any y 400 w8 (by unfold maxLen; omega))
                    rw [hyd] at HPz
                    have hpb : (parseNum xb 400).1 ≤ 400 ∧ 0 ≤ (parseNum xb 400).1 := by
                      cases hb : (parseNum xb 400).2
                      · unfold parseNum at hb ⊢
                        split at hb
                        · cases hb
                        · rename_i h; rw [if_neg h]; exact ⟨by decide, by decide⟩
                      · obtain ⟨hp, he⟩ := parseOk_of hb
                        rw [he]
                        exact ⟨hp.2.2.2.2, Int.natCast_nonneg _⟩
                    have HSz := hide (HSi.out hlast)
                    have HNz := hide (HNs.out hlast)
                    obtain ⟨pz, po, hpp⟩ : ∃ pz po, parseNum xb 400 = (pz, po) := ⟨_, _, rfl⟩
                    rw [hpp] at HPz hpb HSz HNz
                    have hpb1 : pz ≤ 400 := hpb.1
                    have hpb2 : 0 ≤ pz := hpb.2
                    clear hpp hnm hlast hpb HMo HSi HNs
                    go_wp2_with fail
                    try rw [hw8]
                    refine HPz.out.mono ?_
                    rintro e w9 ⟨rfl, hw9⟩
                    obtain rfl := hw9.symm
                    cases po with
                    | false =>
                      have HG : Hid (getA l = (zeroA, 0, false)) := hide (getA_no (HNz.out rfl))
                      go_wp2
                      refine bodyPost_ret (results_sgetA _ w.heap.size _ _ _ _ _ _ rfl rfl rfl (set3_heapR Z8.out _ _ _)) rfl ?_
                      rw [HG.out]
                      exact ⟨GotA.bad _ _, set3_below C8.out (Nat.le_refl _) _ _ _⟩
                    | true =>
                      have HL2 := hide (HSz.out pz rfl)
                      go_wp2
                      go_roundw
                      case rel => exact ⟨j + 1, hs, pz, _, by omega, by go_num, rfl, by omega, hpb1, by omega, by omega, J8.out, HL2.out⟩
                      case measure => simp [intOf]; omega
                  · rw [decide_eq_false hnm] at ln1
                    have HL2 := hide (HMo.out (fun hh => hnm hh.2))
                    have BH := BoxH.made w8 x y 42
                    have hba := (Below.refl w8.heap.size w8).alloc (Nat.le_refl _) (Obj.cells #[Value.string x, Value.string y] 42)
                    have HBa := hide hba
                    have Row := hide (ownsH_below J8.out.2.1 hba)
                    have hN8 : w2.heap.size < w8.heap.size := (Array.getElem?_eq_some_iff.1 J8.out.1).1
                    have hsz : sumH (hs ++ [(x, y)]) ≤ lineSum (lr.take (j + 1)) := by
                      have e : sumH (hs ++ [(x, y)]) = sumH hs + (x.size + y.size) := by simp [sumH, szH]
                      omega
                    clear hba HMo HSi HNs
                    go_wp2_with (at_builtin; refine wp_append_head2 rfl _ _ rfl (w2.heap.size + 1) (.slice ah hs.length ch) hs.length hs rfl Row.out w8.heap.size (x, y) rfl BH.2.1 BH.2.2 ?c1 ?c2 ?_)
                    case c1 => omega
                    case c2 => simp; omega
                    intro g9 cap9 w9 ho hg hwh
                    have hown : ∀ g, (Value.slice ah hs.length ch).ownBlock = some g → w2.heap.size + 1 ≤ g := fun g hg => (World.ownsRow.lt Row.out g hg).1
                    have hbb : Below (w2.heap.size + 1) w8 w9 := (HBa.out.mono (by omega)).trans ⟨hg.os, hg.tape, hg.output, hg.size, fun k hk => hg.block k (by simp; omega) (fun e => by have := hown k e.symm; omega)⟩
                    have n9 : BoxC w2.heap.size pc (.slice ah hs.length ch) ⟨#[]⟩ w9 := (hbb.block _ (by omega)).trans J8.out.1
                    have b9 := J8.out.2.2.trans (hbb.mono (by omega))
                    obtain ⟨m0, m1, m2, k0, k1, k2⟩ := cells3R n9
                    obtain ⟨w10, hw10⟩ : ∃ w10, w9.setCell ⟨w2.heap.size, 1, none⟩ (.slice (some ⟨g9, 0, none⟩) (hs.length + 1) cap9) = w10 := ⟨_, rfl⟩
                    have n10 := set_heap n9 1 (.slice (some ⟨g9, 0, none⟩) (hs.length + 1) cap9)
                    have r10 := ownsRow_setCell_below (a := ⟨w2.heap.size, 1, none⟩) ho (Nat.lt_succ_self _) (.slice (some ⟨g9, 0, none⟩) (hs.length + 1) cap9)
                    have b10 := b9.setCell (p := ⟨w2.heap.size, 1, none⟩) (Nat.le_refl _) (.slice (some ⟨g9, 0, none⟩) (hs.length + 1) cap9)
                    rw [hw10] at n10 r10 b10
                    have HJ10 : Hid (RespJ w2 pc (hs ++ [(x, y)]) (.slice (some ⟨g9, 0, none⟩) (hs.length + 1) cap9) w10) := hide ⟨n10, by unfold RowsH; rw [List.length_append]; exact r10, b10⟩
                    clear ho hg hwh hbb n9 b9 n10 r10 b10 n0 n1 n2 i0 i1 i2 q0 q1 q2 f0 f1 f2 y0 y1 d0 d1 BH HBa Row J8 Z8 G8 hown
                    go_wp2
                    go_roundw
                    case rel => exact ⟨j + 1, hs ++ [(x, y)], sz, _, by omega, by go_num, rfl, hz1, hz2, by simp; omega, hsz, HJ10.out, HL2.out⟩
                    case measure => simp [intOf]; omega
                · have hla1 : ¬ (j : Int) + 1 = (lr.length : Int) := by omega
                  have hla2 : ((j : Int) + 1 == (lr.length : Int)) = false := by rw [beq_eq_false_iff_ne]; exact hla1
                  have HL2 := hide (HMo.out (fun hh => hlast hh.1))
                  have BH := BoxH.made w8 x y 42
                  have hba := (Below.refl w8.heap.size w8).alloc (Nat.le_refl _) (Obj.cells #[Value.string x, Value.string y] 42)
                  have HBa := hide hba
                  have Row := hide (ownsH_below J8.out.2.1 hba)
                  have hN8 : w2.heap.size < w8.heap.size := (Array.getElem?_eq_some_iff.1 J8.out.1).1
                  have hsz : sumH (hs ++ [(x, y)]) ≤ lineSum (lr.take (j + 1)) := by
                    have e : sumH (hs ++ [(x, y)]) = sumH hs + (x.size + y.size) := by simp [sumH, szH]
                    omega
                  clear hba HMo HSi HNs
                  go_wp2_with (at_builtin; refine wp_append_head2 rfl _ _ rfl (w2.heap.size + 1) (.slice ah hs.length ch) hs.length hs rfl Row.out w8.heap.size (x, y) rfl BH.2.1 BH.2.2 ?c1 ?c2 ?_)
                  case c1 => omega
                  case c2 => simp; omega
                  intro g9 cap9 w9 ho hg hwh
                  have hown : ∀ g, (Value.slice ah hs.length ch).ownBlock = some g → w2.heap.size + 1 ≤ g := fun g hg => (World.ownsRow.lt Row.out g hg).1
                  have hbb : Below (w2.heap.size + 1) w8 w9 := (HBa.out.mono (by omega)).trans ⟨hg.os, hg.tape, hg.output, hg.size, fun k hk => hg.block k (by simp; omega) (fun e => by have := hown k e.symm; omega)⟩
                  have n9 : BoxC w2.heap.size pc (.slice ah hs.length ch) ⟨#[]⟩ w9 := (hbb.block _ (by omega)).trans J8.out.1
                  have b9 := J8.out.2.2.trans (hbb.mono (by omega))
                  obtain ⟨m0, m1, m2, k0, k1, k2⟩ := cells3R n9
                  obtain ⟨w10, hw10⟩ : ∃ w10, w9.setCell ⟨w2.heap.size, 1, none⟩ (.slice (some ⟨g9, 0, none⟩) (hs.length + 1) cap9) = w10 := ⟨_, rfl⟩
                  have n10 := set_heap n9 1 (.slice (some ⟨g9, 0, none⟩) (hs.length + 1) cap9)
                  have r10 := ownsRow_setCell_below (a := ⟨w2.heap.size, 1, none⟩) ho (Nat.lt_succ_self _) (.slice (some ⟨g9, 0, none⟩) (hs.length + 1) cap9)
                  have b10 := b9.setCell (p := ⟨w2.heap.size, 1, none⟩) (Nat.le_refl _) (.slice (some ⟨g9, 0, none⟩) (hs.length + 1) cap9)
                  rw [hw10] at n10 r10 b10
                  have HJ10 : Hid (RespJ w2 pc (hs ++ [(x, y)]) (.slice (some ⟨g9, 0, none⟩) (hs.length + 1) cap9) w10) := hide ⟨n10, by unfold RowsH; rw [List.length_append]; exact r10, b10⟩
                  clear ho hg hwh hbb n9 b9 n10 r10 b10 n0 n1 n2 i0 i1 i2 q0 q1 q2 f0 f1 f2 y0 y1 d0 d1 BH HBa Row J8 Z8 G8 hown
                  go_wp2
                  go_roundw
                  case rel => exact ⟨j + 1, hs ++ [(x, y)], sz, _, by omega, by go_num, rfl, hz1, hz2, by simp; omega, hsz, HJ10.out, HL2.out⟩
                  case measure => simp [intOf]; omega
            · have hje : j = lr.length := by omega
              subst hje
              have hlt' : ¬ ((lr.length : Int) + 1 < (lr.length : Int) + 1) := by omega
              have HDn := hide (HA.out.done HKf.out)
              have z9 := Z2.out.below HJ.out.2.2 hlt2
              have C9 := hide (C2.out.trans (HJ.out.2.2.mono C2.out.size))
              obtain ⟨q0, q1, q2, f0, f1, f2⟩ := cells3R z9
              obtain ⟨n0, n1, n2, i0, i1, i2⟩ := cells3R HJ.out.1
              have Z9 := hide z9
              clear z9 HA hlt
              by_cases hsn : sz < 0
              · have HG : Hid (getA l = (zeroA, 0, false)) := hide (getA_no fun q hq => by have := (HDn.out q hq).1; omega)
                go_wp2
                refine bodyPost_ret (results_sgetA _ w.heap.size _ _ _ _ _ _ rfl rfl rfl (set3_heapR Z9.out _ _ _)) rfl ?_
                rw [HG.out]
                exact ⟨GotA.bad _ _, set3_below C9.out (Nat.le_refl _) _ _ _⟩
              · obtain ⟨n, rfl⟩ := Int.eq_ofNat_of_zero_le (show 0 ≤ sz by omega)
                have hn4 : n ≤ 400 := by omega
                have hsn' : ¬ ((n : Int) < 0) := by omega
                have HDn2 : Hid (∀ q, RespAt q l → k + n ≤ l.length ∧ (⟨pc, hs, bytesOf ((l.drop k).take n)⟩ : Rs) = q ∧ putA q = l.take (k + n) ∧ putA q ≠ []) := hide (fun q hq => by have h5 := (HDn.out q hq).2; simpa using h5)
                clear hsn HDn hz1 hz2
                by_cases hmr : l.length < k + n
                · have hmr' : ((l.length : Int) - k < n) := by omega
                  have HG : Hid (getA l = (zeroA, 0, false)) := hide (getA_no fun q hq => by have := (HDn2.out q hq).1; omega)
                  go_wp2
                  refine bodyPost_ret (results_sgetA _ w.heap.size _ _ _ _ _ _ rfl rfl rfl (set3_heapR Z9.out _ _ _)) rfl ?_
                  rw [HG.out]
                  exact ⟨GotA.bad _ _, set3_below C9.out (Nat.le_refl _) _ _ _⟩
                · have hmr' : ¬ ((l.length : Int) - k < n) := by omega
                  have hkn2 : k + n ≤ l.length := by omega
                  obtain ⟨s, hs'⟩ : ∃ s, (l.drop k).take n = s := ⟨_, rfl⟩
                  rw [hs'] at HDn2
                  have hslen : s.length = n := by rw [← hs', List.length_take, List.length_drop]; omega
                  obtain ⟨w11, hw11⟩ : ∃ w11, wr.setCell ⟨w2.heap.size, 2, none⟩ (.string ⟨s.toArray⟩) = w11 := ⟨_, rfl⟩
                  have n11 := set_heap HJ.out.1 2 (.string ⟨s.toArray⟩)
                  have r11 := ownsRow_setCell_below (a := ⟨w2.heap.size, 2, none⟩) HJ.out.2.1 (Nat.lt_succ_self _) (.string ⟨s.toArray⟩)
                  have b11 := HJ.out.2.2.setCell (p := ⟨w2.heap.size, 2, none⟩) (Nat.le_refl _) (.string ⟨s.toArray⟩)
                  rw [hw11] at n11 r11 b11
                  have hNw11 : w2.heap.size < w11.heap.size := (Array.getElem?_eq_some_iff.1 n11).1
                  have C11 := hide (C2.out.trans (b11.mono C2.out.size))
                  have Z11 := hide (Z2.out.below b11 hlt2)
                  obtain ⟨p0, p1, p2, _, _, _⟩ := cells3R n11
                  obtain ⟨a', c', hv', hd'⟩ := RowsH.hds r11
                  cases hv'
                  have N11 := hide n11
                  have R11 := hide r11
                  have HDs := hide hd'
                  have HPu : Hid (∀ W, Below w11.heap.size w11 W → Calls Tryd.prog 19 #[.agg #[.int .i64 pc, .slice ah hs.length ch, .string ⟨s.toArray⟩]] W fun e w' => (∃ (g c : Nat), e = .returned (.slice (some ⟨g, 0, none⟩) (putA ⟨pc, hs, bytesOf s⟩).length c) ∧ Byt w' w'.heap.size (some ⟨g, 0, none⟩) (putA ⟨pc, hs, bytesOf s⟩) ∧ (putA ⟨pc, hs, bytesOf s⟩).length ≤ c ∧ c ≤ maxLen) ∧ Below w11.heap.size W w') := hide (fun W hW => by
                    have hbz : (bytesOf s).size = s.length := bytesOf_size _
                    refine (specPutResp_any ah ⟨pc, hs, bytesOf s⟩ ch w11.heap.size W (HDs.out.below hW (Nat.le_refl _)) hW.size ⟨by show (bytesOf s).size ≤ maxLen; unfold maxLen; omega, by show hs.length ≤ maxLen; unfold maxLen; omega, fun x hx => ?_⟩ (by show hs.length ≤ _; omega) (by show sumH hs ≤ _; omega) (by show (bytesOf s).size ≤ _; omega)).mono ?_
                    · have := sumH_mem hs x hx
                      unfold maxLen
                      omega
                    · rintro e w' ⟨h1, h2⟩
                      exact ⟨h1, h2.mono hW.size⟩)
                  have HS : Hid (∀ W, Below w11.heap.size w11 W → W.cell? ⟨w2.heap.size, 0, none⟩ = some (.int .i64 pc) ∧ W.cell? ⟨w2.heap.size, 1, none⟩ = some (.slice ah hs.length ch) ∧ W.cell? ⟨w2.heap.size, 2, none⟩ = some (.string ⟨s.toArray⟩) ∧ (convert 22 9 (.slice (some ⟨b, o, none⟩) (k + n) cap)).run Tryd.prog W = .ok (.string ⟨(l.take (k + n)).toArray⟩) W) := hide (fun W hW => by
                    obtain ⟨y0, y1, y2, _, _, _⟩ := cells3R ((hW.block _ hNw11).trans N11.out)
                    exact ⟨y0, y1, y2, conv_byt ((HH.out.below (C11.out.trans (hW.mono C11.out.size)) (Nat.le_refl _)).take (k + n)) (k + n) cap (by rw [List.length_take]; omega)⟩)
                  have hPl : ∀ q : List UInt8, (⟨q.toArray⟩ : ByteArray).toList = q := fun q => by rw [ByteArray.toList_eq]
                  obtain ⟨P, hP⟩ : ∃ P, putA ⟨pc, hs, bytesOf s⟩ = P := ⟨_, rfl⟩
                  rw [hP] at HPu
                  have HPe := hide hP
                  have hkn3 : ((k : Int) + n).toNat = k + n := by omega
                  have hwr : IntKind.i64.wrap ((k : Int) + n) = (k : Int) + n := by rw [IntKind.wrap_i64]; omega
                  have hb1 : (0 : Int) ≤ (k : Int) + n := by omega
                  have hb2 : (k : Int) + n ≤ (cap : Int) := by omega
                  have HCs : Hid ((l.drop k).take n = s) := hide hs'
                  clear hs' hP n11 r11 b11 hd'
                  have hcvB : ∀ a1 c1, (cap = k → a1 = some ⟨b, o, none⟩ ∧ c1 = 0) → (cap ≠ k → a1 = some ⟨b, o + k, none⟩ ∧ c1 = cap - k) → (convert 22 9 (.slice a1 n c1)).run Tryd.prog wr = .ok (.string ⟨s.toArray⟩) wr := fun a1 c1 h1 h2 => by
                    by_cases hcp : cap = k
                    · obtain ⟨rfl, rfl⟩ := h1 hcp
                      have hn0 : n = 0 := by omega
                      have hs0 : s = [] := List.length_eq_zero_iff.1 (by omega)
                      rw [hs0, hn0]
                      exact conv_byt (Byt.nil wr w.heap.size (some ⟨b, o, none⟩)) 0 0 rfl
                    · obtain ⟨rfl, rfl⟩ := h2 hcp
                      have := conv_byt (((HH.out.below C9.out (Nat.le_refl _)).drop k).take n) n (cap - k) (by rw [List.length_take, List.length_drop]; omega)
                      rw [HCs.out] at this
                      exact this
                  by_cases hcp : cap = k
                  · have hcv := hcvB (some ⟨b, o, none⟩) 0 (fun _ => ⟨rfl, rfl⟩) (fun h => absurd hcp h)
                    clear hcvB
                    subst hcp
                    go_wp2
                    have Cur := hide (below_drew (Below.refl w11.heap.size w11))
                    refine wp_region_held_drew (S := (fun W => W.cell? ⟨w2.heap.size, 0, none⟩ = some (.int .i64 pc) ∧ W.cell? ⟨w2.heap.size, 1, none⟩ = some (.slice ah hs.length ch) ∧ W.cell? ⟨w2.heap.size, 2, none⟩ = some (.string ⟨s.toArray⟩) ∧ (convert 22 9 (.slice (some ⟨b, o, none⟩) (cap + n) cap)).run Tryd.prog W = .ok (.string ⟨(l.take (cap + n)).toArray⟩) W)) (by kernel_rfl) (HS.out _ Cur.out) (fun hHeld => ?_)
                    refine wpAnyH_take (i := 0) (v := ?_) rfl (by kernel_rfl) (by kernel_rfl) (by kernel_rfl) (fun _ _ _ h => h) (Or.inl ⟨by rfl, ?_⟩) (by assumption) ?_
                    rotate_left
                    · intro w hSw; (try dsimp only at hSw); go_simp; try with_reducible rfl
                    refine wpAnyH_take (i := 3) (v := ?_) rfl (by kernel_rfl) (by kernel_rfl) (by kernel_rfl) (fun _ _ _ h => h) (Or.inl ⟨by rfl, ?_⟩) (by assumption) ?_
                    rotate_left
                    · intro w hSw; (try dsimp only at hSw); go_simp; try with_reducible rfl
                    refine wpAnyH_take (i := 4) (v := ?_) rfl (by kernel_rfl) (by kernel_rfl) (by kernel_rfl) (fun _ _ _ h => h) (Or.inl ⟨by rfl, ?_⟩) (by assumption) ?_
                    rotate_left
                    · intro w hSw; (try dsimp only at hSw); go_simp; try with_reducible rfl
                    refine wpAnyH_take (i := 5) (v := ?_) rfl (by kernel_rfl) (by kernel_rfl) (by kernel_rfl) (fun _ _ _ h => h) (Or.inl ⟨by rfl, ?_⟩) (by assumption) ?_
                    rotate_left
                    · intro w hSw; (try dsimp only at hSw); go_simp; try with_reducible rfl
                    refine wpAnyH_take (i := 6) (v := ?_) rfl (by kernel_rfl) (by kernel_rfl) (by kernel_rfl) (fun _ _ _ h => h) (Or.inl ⟨by rfl, ?_⟩) (by assumption) ?_
                    rotate_left
                    · intro w hSw; (try dsimp only at hSw); go_simp; try with_reducible rfl
                    refine wpAnyH_take (i := 7) (v := ?_) rfl (by kernel_rfl) (by kernel_rfl) (by kernel_rfl) (fun _ _ _ h => h) (Or.inl ⟨by rfl, ?_⟩) (by assumption) ?_
                    rotate_left
                    · intro w hSw; (try dsimp only at hSw); go_simp; try with_reducible rfl
                    refine wpAnyH_take (i := 8) (v := ?_) rfl (by kernel_rfl) (by kernel_rfl) (by kernel_rfl) (fun _ _ _ h => h) (Or.inl ⟨by rfl, ?_⟩) (by assumption) ?_
                    rotate_left
                    · intro w hSw; (try dsimp only at hSw); go_simp; try with_reducible rfl
                    refine wpAnyH_ready (rs := [1]) (by kernel_rfl) (by simp) ?_
                    refine AllReadyH.cons rfl (fun K hK => ?_) AllReadyH.nil
                    go_simp
                    refine (HPu.out _ Cur.out).mono ?_
                    rintro e wn ⟨⟨gn, cn, rfl, yn, zn1, zn2⟩, bn⟩
                    replace Cur := hide (Cur.out.trans bn)
                    refine hK.out _ _ (HS.out _ Cur.out) (fun hHeld2 => ?_)
                    clear hK K hHeld bn
                    have hHeld := hHeld2
                    clear hHeld2
                    have hcp2 := conv_byt yn P.length cn rfl
                    refine wpAnyH_ready (rs := [2]) (by kernel_rfl) (by simp) ?_
                    refine AllReadyH.cons rfl (fun K hK => ?_) AllReadyH.nil
                    go_simp
                    refine hK.out _ _ (HS.out _ Cur.out) (fun hHeld2 => ?_)
                    clear hK K hHeld hcp2
                    have hHeld := hHeld2
                    clear hHeld2
                    by_cases hPP : P = l.take (cap + n)
                    · have e1 : (P == l.take (cap + n)) = true := beq_iff_eq.2 hPP
                      have e2 : (P != l.take (cap + n)) = false := by rw [bne, e1]; rfl
                      have e3 : ((⟨P.toArray⟩ : ByteArray).toList == (⟨(l.take (cap + n)).toArray⟩ : ByteArray).toList) = true := by rw [hPl, hPl]; exact e1
                      have hplen : P.length = cap + n := by rw [hPP, List.length_take]; omega
                      have HG : Hid (getA l = (⟨pc, hs, bytesOf s⟩, cap + n, true)) := hide (getA_of (by rw [HPe.out]; exact hPP) hkn2 (by rw [HPe.out]; intro e; rw [e] at hplen; simp at hplen; omega))
                      have hp0 : ((P.length : Int) == 0) = false := by rw [beq_eq_false_iff_ne]; omega
                      have hp1 : ¬ (P.length : Int) = 0 := by omega
                      clear hPP hplen
                      refine wpAnyH_take (i := 9) (v := ?_) rfl (by kernel_rfl) (by kernel_rfl) (by kernel_rfl) (fun _ _ _ h => h) (Or.inl ⟨by rfl, ?_⟩) (by assumption) ?_
                      rotate_left
                      · intro w hSw; (try dsimp only at hSw); go_simp; try with_reducible rfl
                      refine wpAnyH_take (i := 10) (v := ?_) rfl (by kernel_rfl) (by kernel_rfl) (by kernel_rfl) (fun _ _ _ h => h) (Or.inl ⟨by rfl, ?_⟩) (by assumption) ?_
                      rotate_left
                      · intro w hSw; (try dsimp only at hSw); go_simp; try with_reducible rfl
                      simp only [Act.put, List.setIfInBounds_toArray]
                      refine wpAnyH_take (i := 11) (v := ?_) rfl (by kernel_rfl) (by kernel_rfl) (by kernel_rfl) (fun _ _ _ h => h) (Or.inl ⟨by rfl, ?_⟩) (by assumption) ?_
                      rotate_left
                      · intro w hSw; (try dsimp only at hSw); go_simp; try with_reducible rfl
                      refine wpAnyH_ready (rs := [12]) (by kernel_rfl) (by simp) ?_
                      refine AllReadyH.cons rfl (fun K hK => ?_) AllReadyH.nil
                      go_simp
                      refine (HPu.out _ Cur.out).mono ?_
                      rintro e wn ⟨⟨gn, cn, rfl, yn, zn1, zn2⟩, bn⟩
                      replace Cur := hide (Cur.out.trans bn)
                      refine hK.out _ _ (HS.out _ Cur.out) (fun hHeld2 => ?_)
                      clear hK K hHeld bn
                      have hHeld := hHeld2
                      clear hHeld2
                      refine wpAnyH_take (i := 13) (v := ?_) rfl (by kernel_rfl) (by kernel_rfl) (by kernel_rfl) (fun _ _ _ h => h) (Or.inl ⟨by rfl, ?_⟩) (by assumption) ?_
                      rotate_left
                      · intro w hSw; (try dsimp only at hSw); go_simp; try with_reducible rfl
                      refine wpAnyH_take (i := 14) (v := ?_) rfl (by kernel_rfl) (by kernel_rfl) (by kernel_rfl) (fun _ _ _ h => h) (Or.inl ⟨by rfl, ?_⟩) (by assumption) ?_
                      rotate_left
                      · intro w hSw; (try dsimp only at hSw); go_simp; try with_reducible rfl
                      refine wpAnyH_take (i := 15) (v := ?_) rfl (by kernel_rfl) (by kernel_rfl) (by kernel_rfl) (fun _ _ _ h => h) (Or.inl ⟨by rfl, ?_⟩) (by assumption) ?_
                      rotate_left
                      · intro w hSw; (try dsimp only at hSw); go_simp; try with_reducible rfl
                      refine wpAnyH_done (by kernel_rfl) ?_ _
                      have zf := Z11.out.below Cur.out (Nat.lt_of_lt_of_le hlt2 (Nat.le_of_lt hNw11))
                      obtain ⟨y0, y1, y2, _⟩ := HS.out _ Cur.out
                      obtain ⟨t0, t1, t2, g0, g1, g2⟩ := cells3R zf
                      have Zf := hide zf
                      have Rf := hide (ownsH_below R11.out Cur.out)
                      have Cf := hide (C11.out.trans (Cur.out.mono C11.out.size))
                      clear zf hHeld
                      go_wp2
                      refine bodyPost_ret (results_sgetA _ w.heap.size _ _ _ _ _ _ rfl rfl rfl (set3_heapR Zf.out _ _ _)) rfl ?_
                      rw [HG.out]
                      refine ⟨GotA.mk (r := ⟨pc, hs, bytesOf s⟩) (by omega) ?_, set3_below Cf.out (Nat.le_refl _) _ _ _⟩
                      have hN0 : w.heap.size < w2.heap.size + 1 := by omega
                      refine RowsH.base (B := w2.heap.size + 1) ?_ (by omega)
                      exact ownsRow_setCell_below (ownsRow_setCell_below (ownsRow_setCell_below Rf.out (by show w.heap.size < _; exact hN0) _) (by show w.heap.size < _; exact hN0) _) (by show w.heap.size < _; exact hN0) _
                    · have e1 : (P == l.take (cap + n)) = false := beq_eq_false_iff_ne.2 hPP
                      have e2 : (P != l.take (cap + n)) = true := by rw [bne, e1]; rfl
                      have e3 : ((⟨P.toArray⟩ : ByteArray).toList == (⟨(l.take (cap + n)).toArray⟩ : ByteArray).toList) = false := by rw [hPl, hPl]; exact e1
                      have HG : Hid (getA l = (zeroA, 0, false)) := hide (getA_no fun q hq => by
                        obtain ⟨_, h1, h2, _⟩ := HDn2.out q hq
                        subst h1
                        rw [HPe.out] at h2
                        exact hPP h2)
                      clear hPP
                      refine wpAnyH_take (i := 9) (v := ?_) rfl (by kernel_rfl) (by kernel_rfl) (by kernel_rfl) (fun _ _ _ h => h) (Or.inl ⟨by rfl, ?_⟩) (by assumption) ?_
                      rotate_left
                      · intro w hSw; (try dsimp only at hSw); go_simp; try with_reducible rfl
                      refine wpAnyH_take (i := 10) (v := ?_) rfl (by kernel_rfl) (by kernel_rfl) (by kernel_rfl) (fun _ _ _ h => h) (Or.inl ⟨by rfl, ?_⟩) (by assumption) ?_
                      rotate_left
                      · intro w hSw; (try dsimp only at hSw); go_simp; try with_reducible rfl
                      simp only [Act.put, List.setIfInBounds_toArray]
                      refine wpAnyH_take (i := 11) (v := undef) rfl (by kernel_rfl) (by kernel_rfl) (by kernel_rfl) (fun _ _ _ h => h) (Or.inr ⟨by rfl, rfl⟩) (by assumption) ?_
                      refine wpAnyH_take (i := 12) (v := undef) rfl (by kernel_rfl) (by kernel_rfl) (by kernel_rfl) (fun _ _ _ h => h) (Or.inr ⟨by rfl, rfl⟩) (by assumption) ?_
                      refine wpAnyH_take (i := 13) (v := undef) rfl (by kernel_rfl) (by kernel_rfl) (by kernel_rfl) (fun _ _ _ h => h) (Or.inr ⟨by rfl, rfl⟩) (by assumption) ?_
                      refine wpAnyH_take (i := 14) (v := undef) rfl (by kernel_rfl) (by kernel_rfl) (by kernel_rfl) (fun _ _ _ h => h) (Or.inr ⟨by rfl, rfl⟩) (by assumption) ?_
                      refine wpAnyH_take (i := 15) (v := ?_) rfl (by kernel_rfl) (by kernel_rfl) (by kernel_rfl) (fun _ _ _ h => h) (Or.inl ⟨by rfl, ?_⟩) (by assumption) ?_
                      rotate_left
                      · intro w hSw; (try dsimp only at hSw); go_simp; try with_reducible rfl
                      refine wpAnyH_done (by kernel_rfl) ?_ _
                      simp only [Act.put, List.setIfInBounds_toArray, List.getElem_toArray, List.getElem_cons_succ, List.getElem_cons_zero]
                      have zf := Z11.out.below Cur.out (Nat.lt_of_lt_of_le hlt2 (Nat.le_of_lt hNw11))
                      obtain ⟨t0, t1, t2, g0, g1, g2⟩ := cells3R zf
                      have Zf := hide zf
                      have Cf := hide (C11.out.trans (Cur.out.mono C11.out.size))
                      clear zf hHeld
                      go_wp2
                      refine bodyPost_ret (results_sgetA _ w.heap.size _ _ _ _ _ _ rfl rfl rfl (set3_heapR Zf.out _ _ _)) rfl ?_
                      rw [HG.out]
                      exact ⟨GotA.bad _ _, set3_below Cf.out (Nat.le_refl _) _ _ _⟩
                  · have hcv := hcvB (some ⟨b, o + k, none⟩) (cap - k) (fun h => absurd h hcp) (fun _ => ⟨rfl, rfl⟩)
                    clear hcvB
                    go_wp2
                    have Cur := hide (below_drew (Below.refl w11.heap.size w11))
                    refine wp_region_held_drew (S := (fun W => W.cell? ⟨w2.heap.size, 0, none⟩ = some (.int .i64 pc) ∧ W.cell? ⟨w2.heap.size, 1, none⟩ = some (.slice ah hs.length ch) ∧ W.cell? ⟨w2.heap.size, 2, none⟩ = some (.string ⟨s.toArray⟩) ∧ (convert 22 9 (.slice (some ⟨b, o, none⟩) (k + n) cap)).run Tryd.prog W = .ok (.string ⟨(l.take (k + n)).toArray⟩) W)) (by kernel_rfl) (HS.out _ Cur.out) (fun hHeld => ?_)
                    refine wpAnyH_take (i := 0) (v := ?_) rfl (by kernel_rfl) (by kernel_rfl) (by kernel_rfl) (fun _ _ _ h => h) (Or.inl ⟨by rfl, ?_⟩) (by assumption) ?_
                    rotate_left
                    · intro w hSw; (try dsimp only at hSw); go_simp; try with_reducible rfl
                    refine wpAnyH_take (i := 3) (v := ?_) rfl (by kernel_rfl) (by kernel_rfl) (by kernel_rfl) (fun _ _ _ h => h) (Or.inl ⟨by rfl, ?_⟩) (by assumption) ?_
                    rotate_left
                    · intro w hSw; (try dsimp only at hSw); go_simp; try with_reducible rfl
                    refine wpAnyH_take (i := 4) (v := ?_) rfl (by kernel_rfl) (by kernel_rfl) (by kernel_rfl) (fun _ _ _ h => h) (Or.inl ⟨by rfl, ?_⟩) (by assumption) ?_
                    rotate_left
                    · intro w hSw; (try dsimp only at hSw); go_simp; try with_reducible rfl
                    refine wpAnyH_take (i := 5) (v := ?_) rfl (by kernel_rfl) (by kernel_rfl) (by kernel_rfl) (fun _ _ _ h => h) (Or.inl ⟨by rfl, ?_⟩) (by assumption) ?_
                    rotate_left
                    · intro w hSw; (try dsimp only at hSw); go_simp; try with_reducible rfl
                    refine wpAnyH_take (i := 6) (v := ?_) rfl (by kernel_rfl) (by kernel_rfl) (by kernel_rfl) (fun _ _ _ h => h) (Or.inl ⟨by rfl, ?_⟩) (by assumption) ?_
                    rotate_left
                    · intro w hSw; (try dsimp only at hSw); go_simp; try with_reducible rfl
                    refine wpAnyH_take (i := 7) (v := ?_) rfl (by kernel_rfl) (by kernel_rfl) (by kernel_rfl) (fun _ _ _ h => h) (Or.inl ⟨by rfl, ?_⟩) (by assumption) ?_
                    rotate_left
                    · intro w hSw; (try dsimp only at hSw); go_simp; try with_reducible rfl
                    refine wpAnyH_take (i := 8) (v := ?_) rfl (by kernel_rfl) (by kernel_rfl) (by kernel_rfl) (fun _ _ _ h => h) (Or.inl ⟨by rfl, ?_⟩) (by assumption) ?_
                    rotate_left
                    · intro w hSw; (try dsimp only at hSw); go_simp; try with_reducible rfl
                    refine wpAnyH_ready (rs := [1]) (by kernel_rfl) (by simp) ?_
                    refine AllReadyH.cons rfl (fun K hK => ?_) AllReadyH.nil
                    go_simp
                    refine (HPu.out _ Cur.out).mono ?_
                    rintro e wn ⟨⟨gn, cn, rfl, yn, zn1, zn2⟩, bn⟩
                    replace Cur := hide (Cur.out.trans bn)
                    refine hK.out _ _ (HS.out _ Cur.out) (fun hHeld2 => ?_)
                    clear hK K hHeld bn
                    have hHeld := hHeld2
                    clear hHeld2
                    have hcp2 := conv_byt yn P.length cn rfl
                    refine wpAnyH_ready (rs := [2]) (by kernel_rfl) (by simp) ?_
                    refine AllReadyH.cons rfl (fun K hK => ?_) AllReadyH.nil
                    go_simp
                    refine hK.out _ _ (HS.out _ Cur.out) (fun hHeld2 => ?_)
                    clear hK K hHeld hcp2
                    have hHeld := hHeld2
                    clear hHeld2
                    by_cases hPP : P = l.take (k + n)
                    · have e1 : (P == l.take (k + n)) = true := beq_iff_eq.2 hPP
                      have e2 : (P != l.take (k + n)) = false := by rw [bne, e1]; rfl
                      have e3 : ((⟨P.toArray⟩ : ByteArray).toList == (⟨(l.take (k + n)).toArray⟩ : ByteArray).toList) = true := by rw [hPl, hPl]; exact e1
                      have hplen : P.length = k + n := by rw [hPP, List.length_take]; omega
                      have HG : Hid (getA l = (⟨pc, hs, bytesOf s⟩, k + n, true)) := hide (getA_of (by rw [HPe.out]; exact hPP) hkn2 (by rw [HPe.out]; intro e; rw [e] at hplen; simp at hplen; omega))
                      have hp0 : ((P.length : Int) == 0) = false := by rw [beq_eq_false_iff_ne]; omega
                      have hp1 : ¬ (P.length : Int) = 0 := by omega
                      clear hPP hplen
                      refine wpAnyH_take (i := 9) (v := ?_) rfl (by kernel_rfl) (by kernel_rfl) (by kernel_rfl) (fun _ _ _ h => h) (Or.inl ⟨by rfl, ?_⟩) (by assumption) ?_
                      rotate_left
                      · intro w hSw; (try dsimp only at hSw); go_simp; try with_reducible rfl
                      refine wpAnyH_take (i := 10) (v := ?_) rfl (by kernel_rfl) (by kernel_rfl) (by kernel_rfl) (fun _ _ _ h => h) (Or.inl ⟨by rfl, ?_⟩) (by assumption) ?_
                      rotate_left
                      · intro w hSw; (try dsimp only at hSw); go_simp; try with_reducible rfl
                      simp only [Act.put, List.setIfInBounds_toArray]
                      refine wpAnyH_take (i := 11) (v := ?_) rfl (by kernel_rfl) (by kernel_rfl) (by kernel_rfl) (fun _ _ _ h => h) (Or.inl ⟨by rfl, ?_⟩) (by assumption) ?_
                      rotate_left
                      · intro w hSw; (try dsimp only at hSw); go_simp; try with_reducible rfl
                      refine wpAnyH_ready (rs := [12]) (by kernel_rfl) (by simp) ?_
                      refine AllReadyH.cons rfl (fun K hK => ?_) AllReadyH.nil
                      go_simp
                      refine (HPu.out _ Cur.out).mono ?_
                      rintro e wn ⟨⟨gn, cn, rfl, yn, zn1, zn2⟩, bn⟩
                      replace Cur := hide (Cur.out.trans bn)
                      refine hK.out _ _ (HS.out _ Cur.out) (fun hHeld2 => ?_)
                      clear hK K hHeld bn
                      have hHeld := hHeld2
                      clear hHeld2
                      refine wpAnyH_take (i := 13) (v := ?_) rfl (by kernel_rfl) (by kernel_rfl) (by kernel_rfl) (fun _ _ _ h => h) (Or.inl ⟨by rfl, ?_⟩) (by assumption) ?_
                      rotate_left
                      · intro w hSw; (try dsimp only at hSw); go_simp; try with_reducible rfl
                      refine wpAnyH_take (i := 14) (v := ?_) rfl (by kernel_rfl) (by kernel_rfl) (by kernel_rfl) (fun _ _ _ h => h) (Or.inl ⟨by rfl, ?_⟩) (by assumption) ?_
                      rotate_left
                      · intro w hSw; (try dsimp only at hSw); go_simp; try with_reducible rfl
                      refine wpAnyH_take (i := 15) (v := ?_) rfl (by kernel_rfl) (by kernel_rfl) (by kernel_rfl) (fun _ _ _ h => h) (Or.inl ⟨by rfl, ?_⟩) (by assumption) ?_
                      rotate_left
                      · intro w hSw; (try dsimp only at hSw); go_simp; try with_reducible rfl
                      refine wpAnyH_done (by kernel_rfl) ?_ _
                      have zf := Z11.out.below Cur.out (Nat.lt_of_lt_of_le hlt2 (Nat.le_of_lt hNw11))
                      obtain ⟨y0, y1, y2, _⟩ := HS.out _ Cur.out
                      obtain ⟨t0, t1, t2, g0, g1, g2⟩ := cells3R zf
                      have Zf := hide zf
                      have Rf := hide (ownsH_below R11.out Cur.out)
                      have Cf := hide (C11.out.trans (Cur.out.mono C11.out.size))
                      clear zf hHeld
                      go_wp2
                      refine bodyPost_ret (results_sgetA _ w.heap.size _ _ _ _ _ _ rfl rfl rfl (set3_heapR Zf.out _ _ _)) rfl ?_
                      rw [HG.out]
                      refine ⟨GotA.mk (r := ⟨pc, hs, bytesOf s⟩) (by omega) ?_, set3_below Cf.out (Nat.le_refl _) _ _ _⟩
                      have hN0 : w.heap.size < w2.heap.size + 1 := by omega
                      refine RowsH.base (B := w2.heap.size + 1) ?_ (by omega)
                      exact ownsRow_setCell_below (ownsRow_setCell_below (ownsRow_setCell_below Rf.out (by show w.heap.size < _; exact hN0) _) (by show w.heap.size < _; exact hN0) _) (by show w.heap.size < _; exact hN0) _
                    · have e1 : (P == l.take (k + n)) = false := beq_eq_false_iff_ne.2 hPP
                      have e2 : (P != l.take (k + n)) = true := by rw [bne, e1]; rfl
                      have e3 : ((⟨P.toArray⟩ : ByteArray).toList == (⟨(l.take (k + n)).toArray⟩ : ByteArray).toList) = false := by rw [hPl, hPl]; exact e1
                      have HG : Hid (getA l = (zeroA, 0, false)) := hide (getA_no fun q hq => by
                        obtain ⟨_, h1, h2, _⟩ := HDn2.out q hq
                        subst h1
                        rw [HPe.out] at h2
                        exact hPP h2)
                      clear hPP
                      refine wpAnyH_take (i := 9) (v := ?_) rfl (by kernel_rfl) (by kernel_rfl) (by kernel_rfl) (fun _ _ _ h => h) (Or.inl ⟨by rfl, ?_⟩) (by assumption) ?_
                      rotate_left
                      · intro w hSw; (try dsimp only at hSw); go_simp; try with_reducible rfl
                      refine wpAnyH_take (i := 10) (v := ?_) rfl (by kernel_rfl) (by kernel_rfl) (by kernel_rfl) (fun _ _ _ h => h) (Or.inl ⟨by rfl, ?_⟩) (by assumption) ?_
                      rotate_left
                      · intro w hSw; (try dsimp only at hSw); go_simp; try with_reducible rfl
                      simp only [Act.put, List.setIfInBounds_toArray]
                      refine wpAnyH_take (i := 11) (v := undef) rfl (by kernel_rfl) (by kernel_rfl) (by kernel_rfl) (fun _ _ _ h => h) (Or.inr ⟨by rfl, rfl⟩) (by assumption) ?_
                      refine wpAnyH_take (i := 12) (v := undef) rfl (by kernel_rfl) (by kernel_rfl) (by kernel_rfl) (fun _ _ _ h => h) (Or.inr ⟨by rfl, rfl⟩) (by assumption) ?_
                      refine wpAnyH_take (i := 13) (v := undef) rfl (by kernel_rfl) (by kernel_rfl) (by kernel_rfl) (fun _ _ _ h => h) (Or.inr ⟨by rfl, rfl⟩) (by assumption) ?_
                      refine wpAnyH_take (i := 14) (v := undef) rfl (by kernel_rfl) (by kernel_rfl) (by kernel_rfl) (fun _ _ _ h => h) (Or.inr ⟨by rfl, rfl⟩) (by assumption) ?_
                      refine wpAnyH_take (i := 15) (v := ?_) rfl (by kernel_rfl) (by kernel_rfl) (by kernel_rfl) (fun _ _ _ h => h) (Or.inl ⟨by rfl, ?_⟩) (by assumption) ?_
                      rotate_left
                      · intro w hSw; (try dsimp only at hSw); go_simp; try with_reducible rfl
                      refine wpAnyH_done (by kernel_rfl) ?_ _
                      simp only [Act.put, List.setIfInBounds_toArray, List.getElem_toArray, List.getElem_cons_succ, List.getElem_cons_zero]
                      have zf := Z11.out.below Cur.out (Nat.lt_of_lt_of_le hlt2 (Nat.le_of_lt hNw11))
                      obtain ⟨t0, t1, t2, g0, g1, g2⟩ := cells3R zf
                      have Zf := hide zf
                      have Cf := hide (C11.out.trans (Cur.out.mono C11.out.size))
                      clear zf hHeld
                      go_wp2
                      refine bodyPost_ret (results_sgetA _ w.heap.size _ _ _ _ _ _ rfl rfl rfl (set3_heapR Zf.out _ _ _)) rfl ?_
                      rw [HG.out]
                      exact ⟨GotA.bad _ _, set3_below Cf.out (Nat.le_refl _) _ _ _⟩
        · have HG : Hid (getA l = (zeroA, 0, false)) := hide (getA_no (HLo.out.few (fun hh => htp hh.2.2)))
          rw [decide_eq_false htp] at pb pe
          clear htp
          go_wp2
          refine bodyPost_ret (results_sgetA _ w.heap.size _ _ _ _ _ _ rfl rfl rfl (set3_heapR Z4.out _ _ _)) rfl ?_
          rw [HG.out]
          exact ⟨GotA.bad _ _, set3_below C4.out (Nat.le_refl _) _ _ _⟩
      · have h12' : ¬ ((bytesOf l0).size : Int) = 12 := by omega
        have HG : Hid (getA l = (zeroA, 0, false)) := hide (getA_no (HLo.out.few (fun hh => h12 hh.2.1)))
        clear h12
        go_wp2
        refine bodyPost_ret (results_sgetA _ w.heap.size _ _ _ _ _ _ rfl rfl rfl (set3_heapR Z4.out _ _ _)) rfl ?_
        rw [HG.out]
        exact ⟨GotA.bad _ _, set3_below C4.out (Nat.le_refl _) _ _ _⟩
    · have h1 : lr.length = 0 := by omega
      have hfew' : ((lr.length : Int) + 1 < 2) := by omega
      have HG : Hid (getA l = (zeroA, 0, false)) := hide (getA_no (HLo.out.few (fun hh => hfew hh.1)))
      clear h1
      go_wp2
      refine bodyPost_ret (results_sgetA _ w.heap.size _ _ _ _ _ _ rfl rfl rfl (set3_heapR Z4.out _ _ _)) rfl ?_
      rw [HG.out]
      exact ⟨GotA.bad _ _, set3_below C4.out (Nat.le_refl _) _ _ _⟩
end Go.Proofs.YtkhnkockdfmkgaaDoor
