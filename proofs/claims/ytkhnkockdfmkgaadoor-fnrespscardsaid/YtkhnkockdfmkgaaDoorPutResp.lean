/-
  What the program's PutResp does.
-/
import Derived.Test.YtkhnkockdfmkgaaDoorHdsOne
import Derived.Test.YtkhnkockdfmkgaaDoorAllOf
namespace Go.Proofs.YtkhnkockdfmkgaaDoor
open Go.RowKit M
set_option linter.unusedVariables false

set_option maxRecDepth 100000 in
set_option maxHeartbeats 4000000 in
theorem putResp_any (a : Option Addr) (r : Rs) (cap B : Nat) (w : World) (h : Hds w B a r.hs) (hB : B ≤ w.heap.size) (hfit : FitA r) (hl : r.hs.length ≤ 1048576) (hsum : sumH r.hs ≤ 1048576) (h4 : r.b.size ≤ 1048576) (hpw : ∀ w', Below w.heap.size w w' → PowTab w') :
    Calls Tryd.prog 6 #[.agg #[.int .i64 r.c, .slice a r.hs.length cap, .string r.b]] w fun e w' => (∃ v, e = .returned v ∧ OwnY w' w.heap.size v (putA r)) ∧ Below w.heap.size w w' := by
  have HB0 : Hid (Below w.heap.size w (w.alloc (Obj.cells #[Value.int .i64 r.c, Value.slice a r.hs.length cap, Value.string r.b] 26))) := (Below.refl _ _).alloc (Nat.le_refl _) _
  have HX0 := hide (BoxA.made w a cap r 26)
  have HH := hide h
  have HOk := hide (respOk_any a r cap B _ (h.below HB0.out hB) (Nat.le_trans hB HB0.out.size) hfit)
  have HPw := hide hpw
  clear h hpw
  cases hr : respB r
  · have HE : Hid (putA r = []) := hide (putA_no hr)
    rw [hr] at HOk
    go_enter Tryd.func6, Tryd.ntmps6
    go_wp2_with fail
    refine HOk.out.mono ?_
    rintro e w1 ⟨rfl, b1⟩
    have c1 := HB0.out.trans (b1.mono HB0.out.size)
    go_wp2
    go_ret
    rw [HE.out]
    exact ⟨⟨_, rfl, (OwnY.bare w1).base c1.size⟩, c1.alloc c1.size _⟩
  · have hcd := (resp_hds hr).1
    obtain ⟨hc0, hc1, hc2⟩ := dec3 hcd
    have HN1 := hide (fun W (hc : Below w.heap.size w W) => numText_any r.c W (by omega) (HPw.out W hc))
    have HN2 := hide (fun W (hc : Below w.heap.size w W) => numText_any (r.b.size : Int) W (by omega) (HPw.out W hc))
    simp only [Int.toNat_natCast] at HN2
    obtain ⟨d1, hd1⟩ : ∃ d, (⟨(Lib.decDigits r.c.toNat).toArray⟩ : ByteArray) = d := ⟨_, rfl⟩
    obtain ⟨d2, hd2⟩ : ∃ d, (⟨(Lib.decDigits r.b.size).toArray⟩ : ByteArray) = d := ⟨_, rfl⟩
    have hz1 : d1.size ≤ 20 := by rw [← hd1]; exact dec_len _ (by omega)
    have hz2 : d2.size ≤ 20 := by rw [← hd2]; exact dec_len _ h4
    rw [hd1] at HN1
    rw [hd2] at HN2
    obtain ⟨sx, hsx⟩ : ∃ sx, (⟨#[72, 84, 84, 80, 47, 49, 46, 49, 32]⟩ : ByteArray) ++ d1 = sx := ⟨_, rfl⟩
    have hsz : sx.size ≤ 100 := by
      rw [← hsx, ByteArray.size_append]
      have e1 : (⟨#[72, 84, 84, 80, 47, 49, 46, 49, 32]⟩ : ByteArray).size = 9 := rfl
      omega
    have HSX : Hid (linesTxt sx.data.toList r.hs [(lenName, d2)] = frontA r) := hide (by
      rw [← hsx, ← hd1, ← hd2]
      simp [frontA, linesTxt, topA, proto, lenH, bytesOf])
    have hsum2 : sumH [(lenName, d2)] ≤ 1048576 := by
      have e3 : lenName.size = 14 := rfl
      simp only [sumH, szH, List.map_cons, List.map_nil, List.sum_cons, List.sum_nil]
      omega
    have HPL := hide (fun (W : World) (g : Nat) (hc : Below w.heap.size w W) (h2 : Hds W W.heap.size (some ⟨g, 0, none⟩) [(lenName, d2)]) => putLines_any sx a r.hs cap B (some ⟨g, 0, none⟩) [(lenName, d2)] 1 W.heap.size W (HH.out.below hc hB) (Nat.le_trans hB hc.size) h2 (Nat.le_refl _) (by omega) hl hsum (by simp) hsum2)
    rw [HSX.out] at HPL
    rw [← hsx] at HPL
    rw [hr] at HOk
    have HE : Hid (putA r = frontA r ++ r.b.data.toList) := hide (putA_of hr)
    have hq1 : ¬ (9223372036854775807 < 9 + d1.size) := by omega
    have hbz : (r.b.size : Int) ≤ 1048576 := by omega
    clear hd1 hd2 hc0 hc1 hc2 hcd hsx hsum2
    go_enter Tryd.func6, Tryd.ntmps6
    go_wp2_with fail
    refine HOk.out.mono ?_
    rintro e w1 ⟨rfl, b1⟩
    have c1 := HB0.out.trans (b1.mono HB0.out.size)
    have BX1 := hide (HX0.out.next b1)
    have Cur := hide (below_drew c1)
    have BXc := hide BX1.out.drew
    clear HOk b1 c1 BX1 HX0
    go_wp2
    go_region_held3 (fun W => W.cell? ⟨w.heap.size, 0, none⟩ = some (.int .i64 r.c) ∧ W.cell? ⟨w.heap.size, 1, none⟩ = some (.slice a r.hs.length cap) ∧ W.cell? ⟨w.heap.size, 2, none⟩ = some (.string r.b)) (first | exact keep3 BXc.out | exact keep3 (BXc.out.alloc _)) (first
      | (go_at_call_of 18 (Value.int .i64 r.c); refine (HN1.out _ Cur.out).mono ?_; rintro e wn ⟨rfl, bn⟩; replace BXc := hide (BXc.out.next bn); replace Cur := hide (Cur.out.trans (bn.mono Cur.out.size)))
      | (go_at_call 18; refine (HN2.out _ Cur.out).mono ?_; rintro e wn ⟨rfl, bn⟩; replace BXc := hide (BXc.out.next bn); replace Cur := hide (Cur.out.trans (bn.mono Cur.out.size)))
      | (go_at_call 17; have Cur2 := hide (Cur.out.alloc Cur.out.size (Obj.cells #[Value.string lenName, Value.string d2] 42)); refine (HPL.out _ _ Cur2.out ((Hds.one wn lenName d2 42).mono (by simp))).mono ?_; rintro e wp ⟨⟨v, rfl, ov, zv⟩, bp⟩; have O1 := hide (ov.base Cur2.out.size); replace BXc := hide ((BXc.out.alloc _).next bp); replace Cur := hide (Cur2.out.trans (bp.mono Cur2.out.size))))
    have C1 := Cur.out
    obtain ⟨_, x0, x1, x2⟩ := BXc.out
    clear ov bp BXc Cur2
    go_wp2_with (at_builtin; refine wp_append_text rfl _ _ rfl w.heap.size v (frontA r) rfl O1.out r.b rfl ?c1 ?c2 ?_)
    case c1 => omega
    case c2 => exact C1.size
    intro v5 w5 ho5 hg5 hb5
    have c5 := C1.trans (O1.out.grown C1.size hg5)
    have HO5 := hide ho5
    clear ho5 hg5 hb5
    go_wp2
    go_ret
    rw [HE.out]
    exact ⟨⟨_, rfl, HO5.out⟩, c5⟩
end Go.Proofs.YtkhnkockdfmkgaaDoor
