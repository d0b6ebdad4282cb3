/-
  The walk of the law FnReqsBent: for every code it returns true, and turns nothing that was there.
-/
import Derived.Test.YtklhplhjnpdigaaDrawBent
import Derived.Test.YtklhplhjnpdigaaReqOk
import Derived.Test.YtklhplhjnpdigaaSameReq
import Derived.Test.YtklhplhjnpdigaaHeadOf
import Derived.Test.YtklhplhjnpdigaaIsRow
import Derived.Deep.RegionHeld3
namespace Go.Proofs.Ytklhplhjnpdigaa
open Go.RowKit M
set_option linter.unusedVariables false

set_option maxHeartbeats 400000 in
theorem big_any (a : Option Addr) (len cap : Nat) (w : World) (_hl : len ≤ maxLen) :
    Calls Try.prog 6 #[.slice a len cap] w fun e w' => e = .returned (.bool (decide ((1048576 : Int) < len))) ∧ w' = w := by
  unfold maxLen at _hl
  go_enter Try.func6, Try.ntmps6
  go_wp2
  go_ret
  exact ⟨rfl, rfl⟩

theorem row_len {w : World} {a : Option Addr} {len cap : Nat} {zs : List Int} (h : IsRow .u8 w a len cap zs) : len ≤ maxLen := by
  rcases h with ⟨_, rfl, _, _⟩ | ⟨x, _, hl, hm, _⟩
  · exact Nat.zero_le _
  · omega

theorem SmallR.fit {r : Rq} (h : SmallR r) : FitR r := by
  obtain ⟨h1, h2, h3, h4⟩ := h
  have := h1.1
  exact ⟨⟨by unfold maxLen; omega, by unfold maxLen; omega, by unfold maxLen; omega, by unfold maxLen; omega, h1.short⟩, fun x hx => by have := (h1.2 x hx).2; omega⟩
theorem Hds.next {w w' : World} {a : Option Addr} {hs : List Hd} (h : Hds w w.heap.size a hs) (hb : Below w.heap.size w w') : Hds w' w'.heap.size a hs := (h.below hb (Nat.le_refl _)).mono hb.size

/-- The cells of three boxes, one by one. -/
theorem keep12 {w : World} {L M N : Nat} {a b d : Option Addr} {c1 c2 c3 : Nat} {r p q : Rq} (h1 : BoxR w L a c1 r) (h2 : BoxR w M b c2 p) (h3 : BoxR w N d c3 q) :
    w.cell? ⟨L, 0, none⟩ = some (.string r.m) ∧ w.cell? ⟨L, 1, none⟩ = some (.string r.p) ∧ w.cell? ⟨L, 2, none⟩ = some (.slice a r.hs.length c1) ∧ w.cell? ⟨L, 3, none⟩ = some (.string r.b) ∧ w.cell? ⟨M, 0, none⟩ = some (.string p.m) ∧ w.cell? ⟨M, 1, none⟩ = some (.string p.p) ∧ w.cell? ⟨M, 2, none⟩ = some (.slice b p.hs.length c2) ∧ w.cell? ⟨M, 3, none⟩ = some (.string p.b) ∧ w.cell? ⟨N, 0, none⟩ = some (.string q.m) ∧ w.cell? ⟨N, 1, none⟩ = some (.string q.p) ∧ w.cell? ⟨N, 2, none⟩ = some (.slice d q.hs.length c3) ∧ w.cell? ⟨N, 3, none⟩ = some (.string q.b) := by
  obtain ⟨_, x0, x1, x2, x3⟩ := h1
  obtain ⟨_, y0, y1, y2, y3⟩ := h2
  obtain ⟨_, z0, z1, z2, z3⟩ := h3
  exact ⟨x0, x1, x2, x3, y0, y1, y2, y3, z0, z1, z2, z3⟩

set_option maxRecDepth 100000 in
set_option maxHeartbeats 8000000 in
theorem FnReqsBent_walk (a : Option Addr) (len cap : Nat) (zs : List Int) (w : World) (hr : IsRow .u8 w a len cap zs) :
    Calls Try.prog 3 #[.slice a len cap] w fun e w' => e = .returned (.bool true) ∧ Below w.heap.size w w' := by
  have hml := row_len hr
  by_cases hb : (1048576 : Int) < (len : Int)
  · clear hr
    go_enter Try.func3, Try.ntmps3
    go_wp2_with (go_at_call 6; refine (big_any a len cap _ hml).mono ?_; rintro e w1 ⟨rfl, hw⟩; obtain rfl := hw.symm; rw [decide_eq_true hb])
    go_ret
    exact ⟨rfl, Below.refl _ _⟩
  · have HC : Hid (CodeIn w w.heap.size a len zs) := code_of_row hr (by omega)
    clear hr
    go_enter Try.func3, Try.ntmps3
    go_wp2_with (go_at_call 6; refine (big_any a len cap _ hml).mono ?_; rintro e w1 ⟨rfl, hw⟩; obtain rfl := hw.symm; rw [decide_eq_false hb])
    refine (drawReqOk_any HC.out (Nat.le_refl _) cap).mono ?_
    rintro e w1 ⟨⟨v, rfl, r, g, c, hs, rfl, hh⟩, b1⟩
    have H1 := hide hh
    have S1 := hide hs
    clear hh hs
    have BXr := hide (BoxR.made w1 (some ⟨g, 0, none⟩) c r 26)
    have bal : Below w1.heap.size w1 (w1.alloc (Obj.cells #[Value.string r.m, Value.string r.p, Value.slice (some ⟨g, 0, none⟩) r.hs.length c, Value.string r.b] 26)) := (Below.refl _ _).alloc (Nat.le_refl _) _
    have C1 := hide (b1.trans (bal.mono b1.size))
    have H1b := hide (H1.out.next bal)
    have HD2 := hide (drawSameReq_any (HC.out.below C1.out) C1.out.size cap)
    clear bal
    go_wp2_with fail
    refine HD2.out.mono ?_
    rintro e w2 ⟨⟨v, u, rfl, ⟨p, g2, c2, hs2, rfl, hh2⟩, ⟨q, g3, c3, hs3, rfl, hh3⟩⟩, b2⟩
    have cw2 := C1.out.trans (b2.mono C1.out.size)
    have BR2 := hide (BXr.out.next b2)
    have H12 := hide (H1b.out.next b2)
    have S2 := hide hs2
    have S3 := hide hs3
    have bal : Below w2.heap.size w2 ((w2.alloc (Obj.cells #[Value.string p.m, Value.string p.p, Value.slice (some ⟨g2, 0, none⟩) p.hs.length c2, Value.string p.b] 26)).alloc (Obj.cells #[Value.string q.m, Value.string q.p, Value.slice (some ⟨g3, 0, none⟩) q.hs.length c3, Value.string q.b] 26)) := ((Below.refl _ _).alloc (Nat.le_refl _) _).alloc (by simp) _
    have BA2 := hide ((BoxR.made w2 (some ⟨g2, 0, none⟩) c2 p 26).alloc (Obj.cells #[Value.string q.m, Value.string q.p, Value.slice (some ⟨g3, 0, none⟩) q.hs.length c3, Value.string q.b] 26))
    have bb2 := BoxR.made (w2.alloc (Obj.cells #[Value.string p.m, Value.string p.p, Value.slice (some ⟨g2, 0, none⟩) p.hs.length c2, Value.string p.b] 26)) (some ⟨g3, 0, none⟩) c3 q 26
    have hz2 : (w2.alloc (Obj.cells #[Value.string p.m, Value.string p.p, Value.slice (some ⟨g2, 0, none⟩) p.hs.length c2, Value.string p.b] 26)).heap.size = w2.heap.size + 1 := by simp
    rw [hz2] at bb2
    have BB2 := hide bb2
    have BR2b := hide (BR2.out.next bal)
    have H12b := hide (H12.out.next bal)
    have H22 := hide (Hds.next hh2 bal)
    have H32 := hide (Hds.next hh3 bal)
    have C2 := hide (cw2.trans (bal.mono cw2.size))
    have HD3 := hide (drawHeadOf_any (HC.out.below C2.out) C2.out.size cap)
    clear bal bb2 hz2 hh2 hh3 hs2 hs3 b2 HD2 C1 BXr H1 H1b BR2 H12
    go_wp2_with fail
    refine HD3.out.mono ?_
    rintro e w3 ⟨⟨hs, g4, c4, s, hf, hsz, rfl, hh4⟩, b3⟩
    have cw3 := C2.out.trans (b3.mono C2.out.size)
    have BR3 := hide (BR2b.out.next b3)
    have BA3 := hide (BA2.out.next b3)
    have BB3 := hide (BB2.out.next b3)
    have H13 := hide (H12b.out.next b3)
    have H23 := hide (H22.out.next b3)
    have H33 := hide (H32.out.next b3)
    have H43 := hide hh4
    have hl4 : hs.length ≤ maxLen := by have := hf.1; unfold maxLen; omega
    have hv4 : ∀ x ∈ hs, x.2.size ≤ 281474976710656 := fun x hx => by have := (hf.2 x hx).2; omega
    have HF4 := hide hv4
    clear hh4 hf b3 HD3 BR2b BA2 BB2 H12b H22 H32 C2 hv4
    go_wp2_with fail
    refine (headOf_any _ hs _ _ s w3 H43.out (Nat.le_refl _) hl4 HF4.out).mono ?_
    rintro e w4 ⟨rfl, b4⟩
    have cw4 := cw3.trans (b4.mono cw3.size)
    have BR4 := hide (BR3.out.next b4)
    have BA4 := hide (BA3.out.next b4)
    have BB4 := hide (BB3.out.next b4)
    have H14 := hide (H13.out.next b4)
    have H24 := hide (H23.out.next b4)
    have H34 := hide (H33.out.next b4)
    have H44 := hide (H43.out.next b4)
    clear b4 BR3 BA3 BB3 H13 H23 H33 H43
    go_wp2_with fail
    refine (specHeadOf_any _ hs _ _ s w4 H44.out hl4).mono ?_
    rintro e w5 ⟨rfl, hw5⟩
    obtain rfl := hw5.symm
    obtain ⟨nx, hnx⟩ : ∃ nx, (hdOf hs s).1 = nx := ⟨_, rfl⟩
    obtain ⟨nb, hnb⟩ : ∃ nb, (hdOf hs s).2 = nb := ⟨_, rfl⟩
    rw [hnx, hnb]
    clear hnx hnb
    have W5 : ∃ w5, w4.drew = w5 := ⟨_, rfl⟩
    have c5 := below_drew cw4
    have BR5 := hide BR4.out.drew
    have BA5 := hide BA4.out.drew
    have BB5 := hide BB4.out.drew
    have K5 := hide (keep12 BR5.out BA5.out BB5.out)
    have Hr5 := hide (hdsD H14.out)
    have Hp5 := hide (hdsD H24.out)
    have Hq5 := hide (hdsD H34.out)
    have lp : p.hs.length ≤ maxLen := by have := S2.out.1.1; unfold maxLen; omega
    have lq : q.hs.length ≤ maxLen := by have := S3.out.1.1; unfold maxLen; omega
    have F1 := hide S1.out.fit
    clear W5
    go_wp2_with fail
    go_region_held3 (fun W => W.cell? ⟨w1.heap.size, 0, none⟩ = some (.string r.m) ∧ W.cell? ⟨w1.heap.size, 1, none⟩ = some (.string r.p) ∧ W.cell? ⟨w1.heap.size, 2, none⟩ = some (.slice (some ⟨g, 0, none⟩) r.hs.length c) ∧ W.cell? ⟨w1.heap.size, 3, none⟩ = some (.string r.b) ∧ W.cell? ⟨w2.heap.size, 0, none⟩ = some (.string p.m) ∧ W.cell? ⟨w2.heap.size, 1, none⟩ = some (.string p.p) ∧ W.cell? ⟨w2.heap.size, 2, none⟩ = some (.slice (some ⟨g2, 0, none⟩) p.hs.length c2) ∧ W.cell? ⟨w2.heap.size, 3, none⟩ = some (.string p.b) ∧ W.cell? ⟨w2.heap.size + 1, 0, none⟩ = some (.string q.m) ∧ W.cell? ⟨w2.heap.size + 1, 1, none⟩ = some (.string q.p) ∧ W.cell? ⟨w2.heap.size + 1, 2, none⟩ = some (.slice (some ⟨g3, 0, none⟩) q.hs.length c3) ∧ W.cell? ⟨w2.heap.size + 1, 3, none⟩ = some (.string q.b)) (first | exact K5.out | exact K6.out | exact K7.out | exact K8.out | exact K9.out | exact K10.out) (first
      | (go_at_call 12; refine (reqOk_any _ r _ _ w4.drew Hr5.out (Nat.le_refl _) F1.out).mono ?_; rintro e w6 ⟨rfl, b6⟩; have c6 := c5.trans (b6.mono c5.size); have BR6 := hide (BR5.out.next b6); have BA6 := hide (BA5.out.next b6); have BB6 := hide (BB5.out.next b6); have K6 := hide (keep12 BR6.out BA6.out BB6.out); have Hr6 := hide (Hr5.out.next b6); have Hp6 := hide (Hp5.out.next b6); have Hq6 := hide (Hq5.out.next b6))
      | (go_at_call 13; refine (specReqOk_any _ r _ _ w6 Hr6.out (Nat.le_refl _) F1.out.1).mono ?_; rintro e w7 ⟨rfl, b7⟩; have c7 := c6.trans (b7.mono c6.size); have BR7 := hide (BR6.out.next b7); have BA7 := hide (BA6.out.next b7); have BB7 := hide (BB6.out.next b7); have K7 := hide (keep12 BR7.out BA7.out BB7.out); have Hr7 := hide (Hr6.out.next b7); have Hp7 := hide (Hp6.out.next b7); have Hq7 := hide (Hq6.out.next b7))
      | (go_at_call_of 14 (Value.string q.m); refine (sameReq_any _ _ p q _ _ _ _ w7 Hp7.out Hq7.out (Nat.le_refl _) (Nat.le_refl _) lp lq).mono ?_; rintro e w8 ⟨rfl, b8⟩; have c8 := c7.trans (b8.mono c7.size); have BR8 := hide (BR7.out.next b8); have BA8 := hide (BA7.out.next b8); have BB8 := hide (BB7.out.next b8); have K8 := hide (keep12 BR8.out BA8.out BB8.out); have Hr8 := hide (Hr7.out.next b8); have Hp8 := hide (Hp7.out.next b8); have Hq8 := hide (Hq7.out.next b8))
      | (go_at_call 15; refine (specSameReq_any _ _ p q _ _ _ _ w8 Hp8.out Hq8.out (Nat.le_refl _) (Nat.le_refl _) lp lq).mono ?_; rintro e w9 ⟨rfl, b9⟩; have c9 := c8.trans (b9.mono c8.size); have BR9 := hide (BR8.out.next b9); have BA9 := hide (BA8.out.next b9); have BB9 := hide (BB8.out.next b9); have K9 := hide (keep12 BR9.out BA9.out BB9.out); have Hr9 := hide (Hr8.out.next b9); have Hp9 := hide (Hp8.out.next b9); have Hq9 := hide (Hq8.out.next b9))
      | (go_at_call 14; refine (sameReq_any _ _ p p _ _ _ _ w9 Hp9.out Hp9.out (Nat.le_refl _) (Nat.le_refl _) lp lp).mono ?_; rintro e w10 ⟨rfl, b10⟩; rw [sameR_refl]; have c10 := c9.trans (b10.mono c9.size); have BR10 := hide (BR9.out.next b10); have BA10 := hide (BA9.out.next b10); have BB10 := hide (BB9.out.next b10); have K10 := hide (keep12 BR10.out BA10.out BB10.out); have Hr10 := hide (Hr9.out.next b10); have Hp10 := hide (Hp9.out.next b10); have Hq10 := hide (Hq9.out.next b10)))
    all_goals
      go_wp2
      go_ret
      exact ⟨rfl, c10⟩
end Go.Proofs.Ytklhplhjnpdigaa
