/-
  What the specification's l3Put does.
-/
import Derived.Test.YthcaedgegmnopaaDoorSpecSmall
import Derived.Test.YthcaedgegmnopaaDoorPutAhead
namespace Go.Proofs.YthcaedgegmnopaaDoor
open Go.RowKit M
set_option linter.unusedVariables false

set_option maxRecDepth 100000 in
set_option maxHeartbeats 2000000 in
theorem l3Put_any (a : Option Addr) (r : Rq) (cap B : Nat) (line body : ByteArray) (w : World) (h : Hds w B a r.hs) (hB : B ≤ w.heap.size) (hsh : ShortR r) (hl : r.hs.length ≤ 1048576) (hsum : sumH r.hs ≤ 1048576) (h1 : r.m.size ≤ 1048576) (h2 : r.p.size ≤ 1048576) (h3 : line.size ≤ 1048576) (h4 : body.size ≤ 33554432) :
    Calls Tryd.prog 47 #[.agg #[.string r.m, .string r.p, .slice a r.hs.length cap, .string r.b], .string line, .string body] w fun e w' => (∃ (g c : Nat), e = .returned (.slice (some ⟨g, 0, none⟩) (put0 r line.data.toList body.data.toList).length c) ∧ Byt w' w'.heap.size (some ⟨g, 0, none⟩) (put0 r line.data.toList body.data.toList)) ∧ Below w.heap.size w w' := by
  have HB0 : Hid (Below w.heap.size w (w.alloc (Obj.cells #[Value.string r.m, Value.string r.p, Value.slice a r.hs.length cap, Value.string r.b] 42))) := (Below.refl _ _).alloc (Nat.le_refl _) _
  have HX0 := hide (BoxR.made w a cap r 42)
  have HH := hide h
  clear h
  go_enter Tryd.func47, Tryd.ntmps47
  obtain ⟨_, x0, x1, x2, x3⟩ := HX0.out
  obtain ⟨t, ht⟩ : ∃ t, bytesOf (hdsTxt r.hs) = t := ⟨_, rfl⟩
  have htz : t.size ≤ 8388608 := by rw [← ht, bytesOf_size, hdsTxt_len]; omega
  have hT : ∀ W, (∃ n, W = (w.alloc (Obj.cells #[Value.string r.m, Value.string r.p, Value.slice a r.hs.length cap, Value.string r.b] 42)).drewN n) → Calls Tryd.prog 56 #[.slice a r.hs.length cap] W fun e w' => e = .returned (.string t) ∧ ∃ n, w' = W.drewN n := by
    rintro W ⟨n, rfl⟩
    rw [← ht]
    exact l3HeadsText_any a r.hs cap B _ (HH.out.below (below_drewN HB0.out n) hB) hl hsum
  have HT := hide ht
  clear ht
  have hq1 : ¬ (9223372036854775807 < r.m.size + 1) := by omega
  have hq2 : ¬ (9223372036854775807 < r.m.size + 1 + r.p.size) := by omega
  have hq3 : ¬ (9223372036854775807 < r.m.size + 1 + r.p.size + 9) := by omega
  have hq4 : ¬ (9223372036854775807 < r.m.size + 1 + r.p.size + 9 + 2) := by omega
  have hq5 : ¬ (9223372036854775807 < r.m.size + 1 + r.p.size + 9 + 2 + t.size) := by omega
  have hq6 : ¬ (9223372036854775807 < r.m.size + 1 + r.p.size + 9 + 2 + t.size + line.size) := by omega
  have hq7 : ¬ (9223372036854775807 < r.m.size + 1 + r.p.size + 9 + 2 + t.size + line.size + 2) := by omega
  go_wp2
  go_quiet ((go_at_call 56; exact Calls.quiet_of (hT _ ⟨_, rfl⟩)))
  obtain ⟨sx, hsx⟩ : ∃ sx, r.m ++ (⟨#[32]⟩ : ByteArray) ++ r.p ++ ⟨#[32, 72, 84, 84, 80, 47, 49, 46, 49]⟩ ++ ⟨#[13, 10]⟩ ++ t ++ line ++ ⟨#[13, 10]⟩ = sx := ⟨_, rfl⟩
  have hsz : sx.size ≤ 16777216 := by
    rw [← hsx]
    simp only [ByteArray.size_append]
    have e1 : (⟨#[32]⟩ : ByteArray).size = 1 := rfl
    have e2 : (⟨#[32, 72, 84, 84, 80, 47, 49, 46, 49]⟩ : ByteArray).size = 9 := rfl
    have e3 : (⟨#[13, 10]⟩ : ByteArray).size = 2 := rfl
    omega
  have HSX : Hid (sx.data.toList = frontL r line.data.toList) := by
    show sx.data.toList = frontL r line.data.toList
    rw [← hsx, ← HT.out]
    simp [frontL, topTxt, proto, crlf, bytesOf]
  go_wp2_with fail
  simp only [hsx]
  have HB1 : Hid (Below w.heap.size w ((w.alloc (Obj.cells #[Value.string r.m, Value.string r.p, Value.slice a r.hs.length cap, Value.string r.b] 42)).drewN nq)) := below_drewN HB0.out nq
  refine (specReqOk_any a r cap B _ (HH.out.below HB1.out hB) (Nat.le_trans hB HB1.out.size) hsh).mono ?_
  rintro e w3 ⟨rfl, b3⟩
  have c3 := HB1.out.trans (b3.mono HB1.out.size)
  clear hsx hq1 hq2 hq3 hq4 hq5 hq6 hq7 x0 x1 x2 x3 hT
  cases hr : reqB r
  · have HE : Hid (put0 r line.data.toList body.data.toList = []) := by show put0 _ _ _ = []; simp [put0, hr]
    go_wp2
    go_ret
    rw [HE.out]
    exact ⟨⟨_, _, rfl, Byt.nil _ _ _⟩, c3.alloc c3.size _⟩
  · have hlen : sx.data.toList.length = sx.size := Array.length_toList
    by_cases h400 : sx.size ≤ 400
    · have HE : Hid (put0 r line.data.toList body.data.toList = (sx ++ body).data.toList) := by
        show put0 _ _ _ = _
        rw [HSX.out] at hlen
        unfold put0
        rw [if_pos ⟨hr, by omega⟩, ← HSX.out]
        simp
      have h4' : ¬ ((400 : Int) < sx.size) := by omega
      have hcv := Lib.run_convert_string_bytes (P := Tryd.prog) w3 9 22 5 (sx ++ body) Tryd.underlying9 Tryd.underlying22 Tryd.underlying5
      have hab : (sx ++ body).size ≤ 67108864 := by rw [ByteArray.size_append]; omega
      clear hlen
      go_wp2
      go_ret
      have hN : (put0 r line.data.toList body.data.toList).length = sx.size + body.size := by
        rw [HE.out, ← ByteArray.size_append]; exact Array.length_toList
      refine ⟨⟨w3.heap.size, grownCap w3 (sx.size + body.size) 0 5, by rw [hN]; rfl, ?_⟩, c3.trans ((below_bytesP w3 (sx ++ body)).mono c3.size)⟩
      rw [HE.out]
      exact (byt_bytes w3 (sx ++ body)).mono (by rw [Lib.bytesWorld_size]; exact Nat.le_refl _)
    · have HE : Hid (put0 r line.data.toList body.data.toList = []) := by
        show put0 _ _ _ = []
        rw [HSX.out] at hlen
        unfold put0
        rw [if_neg (fun h => by omega)]
      have h4' : (400 : Int) < sx.size := by omega
      go_wp2
      go_ret
      rw [HE.out]
      exact ⟨⟨_, _, rfl, Byt.nil _ _ _⟩, c3.alloc c3.size _⟩
end Go.Proofs.YthcaedgegmnopaaDoor
