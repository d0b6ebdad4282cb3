/-
  What the specification's PutReq does.
-/
import Derived.Test.YthicgbocgdijlaaDoorSpecReqOk
import Derived.Test.YthicgbocgdijlaaDoorRet
import Derived.Test.YthicgbocgdijlaaDoorSpecNum
import Derived.Test.YthicgbocgdijlaaDoorByts
import Derived.Deep.RegionHeld3
import Derived.Lib.ConvBytes
import Derived.Lib.ItoaLen
namespace Go.Proofs.YthicgbocgdijlaaDoor
open Go.RowKit M
set_option linter.unusedVariables false

theorem ret_string {a b : ByteArray} (h : a = b) : Ending.returned (.string a) = .returned (.string b) := by rw [h]

theorem join_head (l : List UInt8) (x y : ByteArray) : bytesOf l ++ x ++ ⟨#[58, 32]⟩ ++ y ++ ⟨#[13, 10]⟩ = bytesOf (l ++ hdTxt (x, y)) := by
  apply ByteArray.ext
  simp [bytesOf, hdTxt, crlf]

set_option maxHeartbeats 1000000 in
theorem l3HeadsText_any (a : Option Addr) (hs : List Hd) (cap B : Nat) (w : World) (h : Hds w B a hs) (hl : hs.length ≤ 1048576) (hsum : sumH hs ≤ 1048576) :
    Calls Tryd.prog 48 #[.slice a hs.length cap] w fun e w' => e = .returned (.string (bytesOf (hdsTxt hs))) ∧ ∃ n, w' = w.drewN n := by
  go_enter Tryd.func48, Tryd.ntmps48
  go_wp2
  go_loopw [3, 4] (fun s i wr => ∃ (k n : Nat) (t : ByteArray), k ≤ hs.length ∧ i = .int .i64 k ∧ s = .string t ∧ t = bytesOf (hdsTxt (hs.take k)) ∧ wr = w.drewN n) (fun _ i _ => hs.length - (intOf i).toNat)
  case atStart => exact ⟨0, 0, _, Nat.zero_le _, rfl, rfl, rfl, rfl⟩
  case round =>
    obtain ⟨k, n, t, hk, rfl, rfl, ht, rfl⟩ := hrel
    have htz : t.size ≤ 8388608 := by
      rw [ht, bytesOf_size, hdsTxt_len]
      have := sumH_take hs k
      rw [List.length_take]; omega
    have HT := hide ht
    clear ht
    by_cases hlt : k < hs.length
    · obtain ⟨b, o, rfl, hb, hc⟩ := h (by omega)
      have hcx := (hc k hlt).1
      have hcy := (hc k hlt).2
      have HS : Hid (hdsTxt (hs.take (k + 1)) = hdsTxt (hs.take k) ++ hdTxt hs[k]) := hdsTxt_snoc hs k hlt
      have hz1 : (hs[k]).1.size ≤ 1048576 := Nat.le_trans (sumH_mem hs _ (List.getElem_mem hlt)).1 hsum
      have hz2 : (hs[k]).2.size ≤ 1048576 := Nat.le_trans (sumH_mem hs _ (List.getElem_mem hlt)).2 hsum
      have hq1 : ¬ (9223372036854775807 < t.size + (hs[k]).1.size) := by omega
      have hq2 : ¬ (9223372036854775807 < t.size + (hs[k]).1.size + 2) := by omega
      have hq3 : ¬ (9223372036854775807 < t.size + (hs[k]).1.size + 2 + (hs[k]).2.size) := by omega
      have hq4 : ¬ (9223372036854775807 < t.size + (hs[k]).1.size + 2 + (hs[k]).2.size + 2) := by omega
      clear hc
      go_wp2
      go_quiet (fail)
      go_wp2
      go_roundw
      case rel => exact ⟨k + 1, n + nq, _, by omega, by go_num, rfl, by rw [HS.out, HT.out]; exact join_head _ _ _, rfl⟩
      case measure => simp [intOf]; omega
    · go_wp2
      go_ret
      exact ⟨ret_string (by rw [HT.out, List.take_of_length_le (by omega)]), n, rfl⟩

theorem below_bytesP (w : World) (s : ByteArray) : Below w.heap.size w (Lib.bytesWorld w 5 s) :=
  ⟨rfl, rfl, rfl, by rw [Lib.bytesWorld_size]; omega, fun k hk => Lib.bytesWorld_at_old w 5 s k hk⟩
theorem byt_bytes (w : World) (s : ByteArray) : Byt (Lib.bytesWorld w 5 s) (w.heap.size + 1) (some ⟨w.heap.size, 0, none⟩) s.data.toList := fun _ =>
  ⟨w.heap.size, 0, rfl, Nat.lt_succ_self _, fun j hj => by
    have e : s.data.toList.length = s.size := Array.length_toList
    rw [Nat.zero_add, Lib.bytesWorld_cell w 5 s j (by omega)]
    simp [List.getD, List.getElem?_eq_getElem hj]⟩

set_option maxRecDepth 100000 in
set_option maxHeartbeats 2000000 in
theorem l3Put_any (a : Option Addr) (r : Rq) (cap B : Nat) (line body : ByteArray) (w : World) (h : Hds w B a r.hs) (hB : B ≤ w.heap.size) (hsh : ShortR r) (hl : r.hs.length ≤ 1048576) (hsum : sumH r.hs ≤ 1048576) (h1 : r.m.size ≤ 1048576) (h2 : r.p.size ≤ 1048576) (h3 : line.size ≤ 1048576) (h4 : body.size ≤ 33554432) :
    Calls Tryd.prog 34 #[.agg #[.string r.m, .string r.p, .slice a r.hs.length cap, .string r.b], .string line, .string body] w fun e w' => (∃ (g c : Nat), e = .returned (.slice (some ⟨g, 0, none⟩) (put0 r line.data.toList body.data.toList).length c) ∧ Byt w' w'.heap.size (some ⟨g, 0, none⟩) (put0 r line.data.toList body.data.toList)) ∧ Below w.heap.size w w' := by
  have HB0 : Hid (Below w.heap.size w (w.alloc (Obj.cells #[Value.string r.m, Value.string r.p, Value.slice a r.hs.length cap, Value.string r.b] 42))) := (Below.refl _ _).alloc (Nat.le_refl _) _
  have HX0 := hide (BoxR.made w a cap r 42)
  have HH := hide h
  clear h
  go_enter Tryd.func34, Tryd.ntmps34
  obtain ⟨_, x0, x1, x2, x3⟩ := HX0.out
  obtain ⟨t, ht⟩ : ∃ t, bytesOf (hdsTxt r.hs) = t := ⟨_, rfl⟩
  have htz : t.size ≤ 8388608 := by rw [← ht, bytesOf_size, hdsTxt_len]; omega
  have hT : ∀ W, (∃ n, W = (w.alloc (Obj.cells #[Value.string r.m, Value.string r.p, Value.slice a r.hs.length cap, Value.string r.b] 42)).drewN n) → Calls Tryd.prog 48 #[.slice a r.hs.length cap] W fun e w' => e = .returned (.string t) ∧ ∃ n, w' = W.drewN n := by
    rintro W ⟨n, rfl⟩
    rw [← ht]
    exact l3HeadsText_any a r.hs cap B _ (HH.out.below (below_drewN HB0.out n) hB) hl hsum
  have HT := hide ht
  clear ht
  have hq1 : ¬ (9223372036854775807 < r.m.size + 1) := by omega
  have hq2 : ¬ (9223372036854775807 < r.m.size + 1 + r.p.size) := by omega
  have hq3 : ¬ (9223372036854775807 < r.m.size + 1 + r.p.size + 9) := by omega
  have hq4 : ¬ (9223372036854775807 < r.m.size + 1 + r.p.size + 9 + 2) := by omega
  have hq5 : ¬ (9223372036854775807 < r.m.size + 1 + r.p.size + 9 + 2 + t.size) := by omega
  have hq6 : ¬ (9223372036854775807 < r.m.size + 1 + r.p.size + 9 + 2 + t.size + line.size) := by omega
  have hq7 : ¬ (9223372036854775807 < r.m.size + 1 + r.p.size + 9 + 2 + t.size + line.size + 2) := by omega
  go_wp2
  go_quiet ((go_at_call 48; exact Calls.quiet_of (hT _ ⟨_, rfl⟩)))
  obtain ⟨sx, hsx⟩ : ∃ sx, r.m ++ (⟨#[32]⟩ : ByteArray) ++ r.p ++ ⟨#[32, 72, 84, 84, 80, 47, 49, 46, 49]⟩ ++ ⟨#[13, 10]⟩ ++ t ++ line ++ ⟨#[13, 10]⟩ = sx := ⟨_, rfl⟩
  have hsz : sx.size ≤ 16777216 := by
    rw [← hsx]
    simp only [ByteArray.size_append]
    have e1 : (⟨#[32]⟩ : ByteArray).size = 1 := rfl
    have e2 : (⟨#[32, 72, 84, 84, 80, 47, 49, 46, 49]⟩ : ByteArray).size = 9 := rfl
    have e3 : (⟨#[13, 10]⟩ : ByteArray).size = 2 := rfl
    omega
  have HSX : Hid (sx.data.toList = frontL r line.data.toList) := by
    show sx.data.toList = frontL r line.data.toList
    rw [← hsx, ← HT.out]
    simp [frontL, topTxt, proto, crlf, bytesOf]
  go_wp2_with fail
  simp only [hsx]
  have HB1 : Hid (Below w.heap.size w ((w.alloc (Obj.cells #[Value.string r.m, Value.string r.p, Value.slice a r.hs.length cap, Value.string r.b] 42)).drewN nq)) := below_drewN HB0.out nq
  refine (specReqOk_any a r cap B _ (HH.out.below HB1.out hB) (Nat.le_trans hB HB1.out.size) hsh).mono ?_
  rintro e w3 ⟨rfl, b3⟩
  have c3 := HB1.out.trans (b3.mono HB1.out.size)
  clear hsx hq1 hq2 hq3 hq4 hq5 hq6 hq7 x0 x1 x2 x3 hT
  cases hr : reqB r
  · have HE : Hid (put0 r line.data.toList body.data.toList = []) := by show put0 _ _ _ = []; simp [put0, hr]
    go_wp2
    go_ret
    rw [HE.out]
    exact ⟨⟨_, _, rfl, Byt.nil _ _ _⟩, c3.alloc c3.size _⟩
  · have hlen : sx.data.toList.length = sx.size := Array.length_toList
    by_cases h400 : sx.size ≤ 400
    · have HE : Hid (put0 r line.data.toList body.data.toList = (sx ++ body).data.toList) := by
        show put0 _ _ _ = _
        rw [HSX.out] at hlen
        unfold put0
        rw [if_pos ⟨hr, by omega⟩, ← HSX.out]
        simp
      have h4' : ¬ ((400 : Int) < sx.size) := by omega
      have hcv := Lib.run_convert_string_bytes (P := Tryd.prog) w3 9 22 5 (sx ++ body) Tryd.underlying9 Tryd.underlying22 Tryd.underlying5
      have hab : (sx ++ body).size ≤ 67108864 := by rw [ByteArray.size_append]; omega
      clear hlen
      go_wp2
      go_ret
      have hN : (put0 r line.data.toList body.data.toList).length = sx.size + body.size := by
        rw [HE.out, ← ByteArray.size_append]; exact Array.length_toList
      refine ⟨⟨w3.heap.size, grownCap w3 (sx.size + body.size) 0 5, by rw [hN]; rfl, ?_⟩, c3.trans ((below_bytesP w3 (sx ++ body)).mono c3.size)⟩
      rw [HE.out]
      exact (byt_bytes w3 (sx ++ body)).mono (by rw [Lib.bytesWorld_size]; exact Nat.le_refl _)
    · have HE : Hid (put0 r line.data.toList body.data.toList = []) := by
        show put0 _ _ _ = []
        rw [HSX.out] at hlen
        unfold put0
        rw [if_neg (fun h => by omega)]
      have h4' : (400 : Int) < sx.size := by omega
      go_wp2
      go_ret
      rw [HE.out]
      exact ⟨⟨_, _, rfl, Byt.nil _ _ _⟩, c3.alloc c3.size _⟩

theorem len_line (n : Nat) : (⟨#[99, 111, 110, 116, 101, 110, 116, 45, 108, 101, 110, 103, 116, 104, 58, 32]⟩ : ByteArray) ++ ⟨(Lib.decDigits n).toArray⟩ ++ ⟨#[13, 10]⟩ = bytesOf (lenLine n) := by
  apply ByteArray.ext
  simp [bytesOf, lenLine, lenTag, crlf]

theorem dec_len (n : Nat) (h : n ≤ 1048576) : (Lib.decDigits n).length ≤ 20 := by
  rw [Lib.decDigits_length]
  exact Lib.nDigits_le20 n (by omega)

set_option maxHeartbeats 2000000 in
theorem specPutReq_any (a : Option Addr) (r : Rq) (cap B : Nat) (w : World) (h : Hds w B a r.hs) (hB : B ≤ w.heap.size) (hsh : ShortR r) (hl : r.hs.length ≤ 1048576) (hsum : sumH r.hs ≤ 1048576) (h1 : r.m.size ≤ 1048576) (h2 : r.p.size ≤ 1048576) (h4 : r.b.size ≤ 1048576) :
    Calls Tryd.prog 24 #[.agg #[.string r.m, .string r.p, .slice a r.hs.length cap, .string r.b]] w fun e w' => (∃ (g c : Nat), e = .returned (.slice (some ⟨g, 0, none⟩) (putL r).length c) ∧ Byt w' w'.heap.size (some ⟨g, 0, none⟩) (putL r)) ∧ Below w.heap.size w w' := by
  have HB0 : Hid (Below w.heap.size w (w.alloc (Obj.cells #[Value.string r.m, Value.string r.p, Value.slice a r.hs.length cap, Value.string r.b] 42))) := (Below.refl _ _).alloc (Nat.le_refl _) _
  have HX0 := hide (BoxR.made w a cap r 42)
  have HH := hide h
  have HS := hide hsh
  clear h hsh
  by_cases hb : r.b.size = 0
  · have hz : r.b.toList.isEmpty = true := by
      rw [ByteArray.toList_eq]
      have e : r.b.data.toList.length = r.b.size := Array.length_toList
      cases hq : r.b.data.toList with
      | nil => rfl
      | cons _ _ => rw [hq] at e; simp at e; omega
    go_enter Tryd.func24, Tryd.ntmps24
    have HE : Hid (putL r = put0 r (⟨#[]⟩ : ByteArray).data.toList (⟨#[]⟩ : ByteArray).data.toList) := by
      show putL r = _
      have e2 : r.b.data.toList = [] := by
        have e : r.b.data.toList.length = r.b.size := Array.length_toList
        exact List.length_eq_zero_iff.1 (by omega)
      unfold putL bodyLine
      rw [if_pos hb, e2]
    clear hb
    have hP := l3Put_any a r cap B ⟨#[]⟩ ⟨#[]⟩ _ (HH.out.below HB0.out hB) (Nat.le_trans hB HB0.out.size) HS.out hl hsum h1 h2 (by decide) (by decide)
    rw [← HE.out] at hP
    go_wp2_with fail
    refine hP.mono ?_
    rintro e w2 ⟨⟨g, c, rfl, y2⟩, b2⟩
    have c2 := HB0.out.trans (b2.mono HB0.out.size)
    clear hP
    go_wp2
    go_ret
    exact ⟨⟨g, c, rfl, y2⟩, c2⟩
  · have hz : r.b.toList.isEmpty = false := by
      rw [ByteArray.toList_eq]
      have e : r.b.data.toList.length = r.b.size := Array.length_toList
      cases hq : r.b.data.toList with
      | nil => rw [hq] at e; simp at e; omega
      | cons _ _ => rfl
    have HE : Hid (putL r = put0 r (lenLine r.b.size) r.b.data.toList) := by
      show putL r = _
      unfold putL bodyLine
      rw [if_neg hb]
    have hN := fun W => specNumText_pos r.b.size W (by omega)
    have hd20 := dec_len r.b.size h4
    obtain ⟨d, hd⟩ : ∃ d, (⟨(Lib.decDigits r.b.size).toArray⟩ : ByteArray) = d := ⟨_, rfl⟩
    have hdz : d.size ≤ 20 := by rw [← hd]; exact hd20
    have HL : Hid ((⟨#[99, 111, 110, 116, 101, 110, 116, 45, 108, 101, 110, 103, 116, 104, 58, 32]⟩ : ByteArray) ++ d ++ ⟨#[13, 10]⟩ = bytesOf (lenLine r.b.size)) := by rw [← hd]; exact len_line r.b.size
    rw [hd] at hN
    have HN := hide hN
    clear hb hd hN hd20
    go_enter Tryd.func24, Tryd.ntmps24
    have hq1 : ¬ (9223372036854775807 < 16 + d.size) := by omega
    have hq2 : ¬ (9223372036854775807 < 16 + d.size + 2) := by omega
    have hbz : (r.b.size : Int) ≤ 1048576 := by omega
    have BX0d := hide HX0.out.drew
    have C0d := hide (below_drew HB0.out)
    have K0 := hide (keep4 BX0d.out)
    obtain ⟨ln, hln⟩ : ∃ ln, (⟨#[99, 111, 110, 116, 101, 110, 116, 45, 108, 101, 110, 103, 116, 104, 58, 32]⟩ : ByteArray) ++ d ++ ⟨#[13, 10]⟩ = ln := ⟨_, rfl⟩
    have hlz : ln.size ≤ 1048576 := by
      rw [← hln, ByteArray.size_append, ByteArray.size_append]
      have e1 : (⟨#[99, 111, 110, 116, 101, 110, 116, 45, 108, 101, 110, 103, 116, 104, 58, 32]⟩ : ByteArray).size = 16 := rfl
      have e3 : (⟨#[13, 10]⟩ : ByteArray).size = 2 := rfl
      omega
    have HLn : Hid (ln.data.toList = lenLine r.b.size) := by show ln.data.toList = _; rw [← hln, HL.out]; rfl
    have hP : ∀ W, Below w.heap.size w W → Calls Tryd.prog 34 #[.agg #[.string r.m, .string r.p, .slice a r.hs.length cap, .string r.b], .string ln, .string r.b] W fun e w' => (∃ (g c : Nat), e = .returned (.slice (some ⟨g, 0, none⟩) (putL r).length c) ∧ Byt w' w'.heap.size (some ⟨g, 0, none⟩) (putL r)) ∧ Below W.heap.size W w' := by
      intro W hW
      have h := l3Put_any a r cap B ln r.b W (HH.out.below hW hB) (Nat.le_trans hB hW.size) HS.out hl hsum h1 h2 hlz (by omega)
      rw [HLn.out, ← HE.out] at h
      exact h
    have HP := hide hP
    clear hP
    go_wp2
    go_region_held3 (fun W => W.cell? ⟨w.heap.size, 0, none⟩ = some (.string r.m) ∧ W.cell? ⟨w.heap.size, 1, none⟩ = some (.string r.p) ∧ W.cell? ⟨w.heap.size, 2, none⟩ = some (.slice a r.hs.length cap) ∧ W.cell? ⟨w.heap.size, 3, none⟩ = some (.string r.b)) (first | exact K0.out | exact K1.out | exact K2.out) (first
      | (go_at_call 39; refine (HN.out _).mono ?_; rintro e w1 ⟨rfl, b1⟩; have c1 := C0d.out.trans (b1.mono C0d.out.size); have BX1 := hide (BX0d.out.next b1); have K1 := hide (keep4 BX1.out))
      | (go_at_call 34; refine (HP.out w1 c1).mono ?_; rintro e w2 ⟨⟨g, c, rfl, y2⟩, b2⟩; have c2 := c1.trans (b2.mono c1.size); have BX2 := hide (BX1.out.next b2); have K2 := hide (keep4 BX2.out)))
    all_goals
      go_wp2
      go_ret
      exact ⟨⟨g, c, rfl, y2⟩, c2⟩
end Go.Proofs.YthicgbocgdijlaaDoor
