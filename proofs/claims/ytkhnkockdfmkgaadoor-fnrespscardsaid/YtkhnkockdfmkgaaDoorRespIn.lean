/-
  What the program's bodyBehind and respIn do.
-/
import Derived.Test.YtkhnkockdfmkgaaDoorAllOf
import Derived.Test.YtkhnkockdfmkgaaDoorExtract
import Derived.Test.YtkhnkockdfmkgaaDoorTells
import Derived.Laws.Rows
import Derived.Laws.ResultCell
namespace Go.Proofs.YtkhnkockdfmkgaaDoor
open Go.RowKit M
set_option linter.unusedVariables false

theorem rst_nil (w : World) (B : Nat) : Rst w B (.slice none 0 0) [] := ⟨none, 0, rfl, Byt.nil _ _ _, Nat.le_refl _, by decide, fun _ => rfl, fun _ h => by cases h⟩
/-- What wordAhead hands back, whether the stop is there or not. -/
theorem word_any {w : World} {B : Nat} {sep t : List UInt8} {word : ByteArray} {v : Value} {ok : Bool} (h : WordIs w B (cutS sep t) word v ok) (hz : word.size ≤ t.length) :
    ∃ t', Rst w B v t' ∧ word.size + t'.length ≤ t.length ∧ ∀ a b, cutS sep t = some (a, b) → word = bytesOf a ∧ t' = b := by
  cases hc : cutS sep t with
  | none =>
    rw [hc] at h
    obtain ⟨_, rfl⟩ := h
    exact ⟨[], rst_nil _ _, by simpa using hz, fun a b e => by cases e⟩
  | some p =>
    obtain ⟨a, b⟩ := p
    rw [hc] at h
    obtain ⟨_, rfl, h3⟩ := h
    have := cutS_len hc
    have e : (bytesOf a).size = a.length := bytesOf_size a
    exact ⟨b, h3, by omega, fun a' b' e => by cases e; exact ⟨rfl, rfl⟩⟩

theorem numsOf_crlf : numsOf crlf = [13, 10] := rfl
theorem trimV_is {w : World} {B : Nat} {a : Option Addr} {t : List UInt8} {c : Nat} (hy : Byt w B a t) (hc : t.length ≤ c) (hm : c ≤ maxLen) (ha : a = none → c = 0) (hs : ∀ x, a = some x → x.spot = none) : Rst w B (Lib.trimPrefixV a t.length c (numsOf t) [13, 10]) (stripE t) := by
  have hR : Rst w B (.slice a t.length c) t := ⟨a, c, rfl, hy, hc, hm, ha, hs⟩
  cases a with
  | none =>
    have hc0 := ha rfl
    have ht : t = [] := List.length_eq_zero_iff.1 (by omega)
    subst ht
    exact hR
  | some x =>
    obtain ⟨b, o, sp⟩ := x
    have hsp : sp = none := hs _ rfl
    subst hsp
    unfold Lib.trimPrefixV
    simp only
    unfold Lib.bytesTrimPrefix
    rw [numsOf_bytes, ← numsOf_crlf, numsOf_bytes]
    unfold Lib.hasPrefix stripE
    by_cases hp : crlf.isPrefixOf t = true
    · rw [if_pos hp, if_pos hp]
      have hl : 2 ≤ t.length := by
        have := (List.isPrefixOf_iff_prefix.1 hp).length_le
        exact this
      unfold Lib.sliceFrom
      refine ⟨_, c - 2, by rw [List.length_drop]; rfl, ?_, by rw [List.length_drop]; omega, by unfold maxLen at *; omega, fun e => ?_, fun x e => ?_⟩
      · by_cases hce : c = 2
        · have : t.drop 2 = [] := List.drop_of_length_le (by omega)
          rw [this]; exact Byt.nil _ _ _
        · show Byt w B (if c = 2 then some ⟨b, o, none⟩ else some ⟨b, o + 2, none⟩) (t.drop 2)
          rw [if_neg hce]
          exact hy.drop 2
      · split at e <;> cases e
      · split at e <;> (cases e; rfl)
    · rw [if_neg hp, if_neg hp]
      exact hR
theorem lit2_cells (w : World) (T : TypeId) : Lib.BytesIn (w.alloc (.cells #[.int .u8 13, .int .u8 10] T (2, 3))) (some ⟨w.heap.size, 0, none⟩) 2 [13, 10] := fun _ => ⟨w.heap.size, 0, rfl, fun i hi => by
  rw [Nat.zero_add, World.cell?_alloc_mark]
  match i, hi with
  | 0, _ => rfl
  | 1, _ => rfl⟩

set_option maxRecDepth 100000 in
set_option maxHeartbeats 2000000 in
theorem bodyBehind_any (v : Value) (t : List UInt8) (s : ByteArray) (B : Nat) (w : World) (h : Rst w B v t) (hB : B ≤ w.heap.size) (ht : t.length ≤ 1048576) (hs : s.size ≤ 1048576) :
    Calls Tryd.prog 47 #[v, .string s] w fun e w' => e = .returned (.string (bytesOf (bodyBh t s.data.toList))) ∧ Below w.heap.size w w' := by
  obtain ⟨a, c, rfl, hy, hc1, hc2, hc3, hc4⟩ := h
  have HP := hide (parseNum_any s 400 w (by unfold maxLen; omega))
  have hnn : 0 ≤ (parseNum s.data.toList 400).1 := by
    unfold parseNum
    split
    · exact Int.natCast_nonneg _
    · exact Int.le_refl _
  have HBh : Hid (bodyBh t s.data.toList = (stripE t).take (parseNum s.data.toList 400).1.toNat) := rfl
  obtain ⟨n, ok, hn⟩ : ∃ n ok, parseNum s.data.toList 400 = (n, ok) := ⟨_, _, rfl⟩
  rw [hn] at HP hnn HBh
  have HY := hide hy
  obtain ⟨m, rfl⟩ := Int.eq_ofNat_of_zero_le (show 0 ≤ n from hnn)
  have kc := fun (w : World) (C : Array Value) (n c : Nat) => Lib.run_convert_bytes_const w 22 5 C n c Tryd.underlying22 Tryd.underlying5
  have hc2' := hc2
  unfold maxLen at hc2'
  clear hy hnn hn
  go_enter Tryd.func47, Tryd.ntmps47
  go_wp2_with fail
  refine HP.out.mono ?_
  rintro e w1 ⟨rfl, b1⟩
  have Y1 := hide (HY.out.below b1 hB)
  have C1 := hide b1
  have hb2 : Below w1.heap.size w1 (w1.alloc (.cells #[.int .u8 13, .int .u8 10] 5 (2, 3))) := (Below.refl _ _).alloc (Nat.le_refl _) _
  have HC := hide (Tryd.bytes_CutPrefix_all a (some ⟨w1.heap.size, 0, none⟩) t.length c 2 2 (numsOf t) [13, 10] (w1.alloc (.cells #[.int .u8 13, .int .u8 10] 5 (2, 3))) (numsOf_length _) rfl hc1 (bytesIn_of (Y1.out.below hb2 (Nat.le_trans hB b1.size))) (lit2_cells w1 _))
  have HR := hide (trimV_is (Y1.out.below hb2 (Nat.le_trans hB b1.size)) hc1 hc2 hc3 hc4)
  have C2 := hide (C1.out.trans (hb2.mono b1.size))
  obtain ⟨a', c', hv', hy', hd1, hd2, hd3, hd4⟩ := HR.out
  rw [hv'] at HC
  obtain ⟨L, hL⟩ : ∃ L, stripE t = L := ⟨_, rfl⟩
  rw [hL] at HC hy' hd1 HBh
  have hLt : L.length ≤ 1048576 := by
    rw [← hL]
    unfold stripE
    split
    · rw [List.length_drop]; omega
    · exact ht
  have Y2 := hide hy'
  obtain ⟨k, hk⟩ : ∃ k : Nat, min m L.length = k := ⟨_, rfl⟩
  have hkL : k ≤ L.length := by omega
  have HK : Hid ((min (m : Int) (L.length : Int)).toNat = k) := hide (by omega)
  have hk1 : min (m : Int) (L.length : Int) = (k : Int) := by omega
  have HBk : Hid (bytesOf (bodyBh t s.data.toList) = ⟨(L.take k).toArray⟩) := hide (by
    rw [HBh.out]
    show bytesOf (L.take ((m : Int)).toNat) = bytesOf (L.take k)
    rw [Int.toNat_natCast, ← hk, List.take_eq_take_min])
  have hcv := conv_byt (Y2.out.take k) k c' (by rw [List.length_take]; omega)
  obtain ⟨Wc, hWc⟩ : ∃ Wc, w1.alloc (.cells #[.int .u8 13, .int .u8 10] 5 (2, 3)) = Wc := ⟨_, rfl⟩
  rw [hWc] at HC C2 hcv
  unfold maxLen at hd2
  clear HP b1 hb2 HR hy' hv' hL hd3 hd4 hk HBh Y1 HY C1 hc1 hc2 hc2' hc3 hc4
  go_wp2_with fail
  refine HC.out.mono ?_
  rintro e w2 ⟨rfl, hw2⟩
  obtain rfl := hw2.symm
  clear hWc HC
  go_wp2
  go_ret
  exact ⟨by rw [HBk.out]; rfl, C2.out⟩

def ZeroA (N : Nat) (W : World) : Prop := W.heap[N]? = some (Obj.cells #[.int .i64 0, .slice none 0 0, .string ⟨#[]⟩] 26)
def BoxC (N : Nat) (c : Int) (hv : Value) (b : ByteArray) (W : World) : Prop := W.heap[N]? = some (Obj.cells #[.int .i64 c, hv, .string b] 26)
theorem cells3R {W : World} {N : Nat} {v0 v1 v2 : Value} {t : TypeId} (h : W.heap[N]? = some (.cells #[v0, v1, v2] t)) : W.cell? ⟨N, 0, none⟩ = some v0 ∧ W.cell? ⟨N, 1, none⟩ = some v1 ∧ W.cell? ⟨N, 2, none⟩ = some v2 ∧ W.frozen? ⟨N, 0, none⟩ = false ∧ W.frozen? ⟨N, 1, none⟩ = false ∧ W.frozen? ⟨N, 2, none⟩ = false := by
  refine ⟨?_, ?_, ?_, ?_, ?_, ?_⟩
  all_goals first | (unfold World.cell?; rw [h]; rfl) | (unfold World.frozen?; rw [h]; rfl)
theorem cells2R {W : World} {N : Nat} {v0 v1 : Value} {t : TypeId} (h : W.heap[N]? = some (.cells #[v0, v1] t)) : W.cell? ⟨N, 0, none⟩ = some v0 ∧ W.cell? ⟨N, 1, none⟩ = some v1 ∧ W.frozen? ⟨N, 0, none⟩ = false ∧ W.frozen? ⟨N, 1, none⟩ = false := by
  refine ⟨?_, ?_, ?_, ?_⟩
  all_goals first | (unfold World.cell?; rw [h]; rfl) | (unfold World.frozen?; rw [h]; rfl)
/-- What is known where k heads are read. -/
def RespI (w : World) (l : List UInt8) (k : Nat) (c : Int) (hs : List Hd) (t : List UInt8) (hv : Value) (W : World) : Prop :=
  ZeroA w.heap.size W ∧ BoxC (w.heap.size + 1) c hv ⟨#[]⟩ W ∧ RowsH W (w.heap.size + 1 + 1) hv hs ∧ Below w.heap.size w W ∧ hs.length = k ∧ sumH hs + t.length ≤ l.length ∧ ReadTo l c k hs t
theorem RespI.next {w W W' : World} {l : List UInt8} {k : Nat} {c : Int} {hs : List Hd} {t : List UInt8} {hv : Value} (h : RespI w l k c hs t hv W) (hb : Below W.heap.size W W') : RespI w l k c hs t hv W' := by
  obtain ⟨h1, h2, h3, h4, h5⟩ := h
  have l1 := (Array.getElem?_eq_some_iff.1 h1).1
  have l2 := (Array.getElem?_eq_some_iff.1 h2).1
  exact ⟨(hb.block _ l1).trans h1, (hb.block _ l2).trans h2, ownsH_below h3 hb, h4.trans (hb.mono h4.size), h5⟩
theorem resp_desc : (Tryd.prog.info? 26).map (·.size) = some 3 := by kernel_rfl
theorem results_respIn (tmps : Array Value) (N : Nat) (W : World) (v0 v1 v2 : Value) (h2 : tmps.getD 2 undef = .pointer (some ⟨N, 0, none⟩)) (hg : W.heap[N]? = some (Obj.cells #[v0, v1, v2] 26)) :
    (results Tryd.f23 tmps).run Tryd.prog W = .ok (.agg #[v0, v1, v2]) W := by
  have hl := run_loadVar_row (P := Tryd.prog) W N 26 26 #[v0, v1, v2] (0, 0) _ hg Tryd.underlying26 rfl resp_desc
  simp at h2
  simp [results, Tryd.results23, h2, asAddr, hl]
theorem set3_heapR {W : World} {N : Nat} {a0 a1 a2 : Value} {t : TypeId} (h : W.heap[N]? = some (.cells #[a0, a1, a2] t)) (v0 v1 v2 : Value) : (((W.setCell ⟨N, 0, none⟩ v0).setCell ⟨N, 1, none⟩ v1).setCell ⟨N, 2, none⟩ v2).heap[N]? = some (.cells #[v0, v1, v2] t) := by
  have := set_heap (set_heap (set_heap h 0 v0) 1 v1) 2 v2
  simpa using this
/-- What respIn hands back. -/
def RespInIs (l : List UInt8) (B : Nat) (e : Ending) (W : World) : Prop :=
  ∃ (r : Rs) (hv : Value), e = .returned (.agg #[.int .i64 r.c, hv, .string r.b]) ∧ RowsH W B hv r.hs ∧ r.hs.length ≤ 9 ∧ sumH r.hs ≤ l.length ∧ r.b.size ≤ l.length ∧ ∀ q, RespAt q l → r = q
theorem bodyBh_len (t s : List UInt8) : (bodyBh t s).length ≤ t.length := by
  unfold bodyBh stripE
  rw [List.length_take]
  split
  · rw [List.length_drop]; omega
  · omega

set_option maxRecDepth 100000 in
set_option maxHeartbeats 4000000 in
theorem respIn_any (v : Value) (l : List UInt8) (B : Nat) (mx : Int) (w : World) (h : Rst w B v l) (hB : B ≤ w.heap.size) (hl : l.length ≤ 1048576) (h0 : 0 < w.heap.size) (hmx : w.cell? ⟨0, 0, none⟩ = some (.int .i64 mx)) :
    Calls Tryd.prog 23 #[v] w fun e w' => RespInIs l w.heap.size e w' ∧ Below w.heap.size w w' := by
  obtain ⟨w0, hw0⟩ : ∃ w0, (w.alloc (Obj.cells #[.int .i64 0, .slice none 0 0, .string ⟨#[]⟩] 26)).alloc (Obj.cells #[.int .i64 0, .slice none 0 0, .string ⟨#[]⟩] 26) = w0 := ⟨_, rfl⟩
  have c0 : Below w.heap.size w w0 := by rw [← hw0]; exact ((Below.refl _ _).alloc (Nat.le_refl _) _).alloc (by simp) _
  have z0 : ZeroA w.heap.size w0 := by rw [← hw0]; exact (((Below.refl _ _).alloc (Nat.le_refl _) _).block _ (by simp)).trans (heap_alloc_new w _)
  have n0 : BoxC (w.heap.size + 1) 0 (.slice none 0 0) ⟨#[]⟩ w0 := by rw [← hw0]; have := heap_alloc_new (w.alloc (Obj.cells #[.int .i64 0, .slice none 0 0, .string ⟨#[]⟩] 26)) (Obj.cells #[.int .i64 0, .slice none 0 0, .string ⟨#[]⟩] 26); simpa [BoxC] using this
  have s0 : w0.heap.size = w.heap.size + 1 + 1 := by rw [← hw0]; simp
  have HWd := hide (fun (W : World) (hc : Below w.heap.size w W) (v : Value) (t : List UInt8) (h : Rst W B v t) (ht : t.length ≤ 1048576) (sep : ByteArray) (hs : sep.size ≤ 16) (hs0 : 0 < sep.size) => wordAhead_any v t sep B mx W h (Nat.le_trans hB hc.size) (by omega) hs hs0 (Nat.lt_of_lt_of_le h0 hc.size) ((hc.cell (p := ⟨0, 0, none⟩) h0).trans hmx))
  have C0 := hide c0
  have HS0 := hide s0
  have Z0 := hide z0
  have N0 := hide n0
  have R0 := hide (h.below c0 hB)
  clear c0 z0 n0 s0 h hmx h0
  go_enter Tryd.func23, Tryd.ntmps23
  go_wp2_with fail
  try rw [hw0]
  refine (HWd.out w0 C0.out v l R0.out hl ⟨#[32]⟩ (by decide) (by decide)).mono ?_
  rintro e w1 ⟨⟨word1, v1, ok1, rfl, hi1, hz1⟩, b1⟩
  obtain ⟨t1, r1, l1, k1⟩ := word_any hi1 hz1
  have C1 := hide (C0.out.trans (b1.mono C0.out.size))
  have Z1 := hide (show ZeroA w.heap.size w1 from (b1.block _ (by have := HS0.out; omega)).trans Z0.out)
  have N1 := hide (show BoxC (w.heap.size + 1) 0 (.slice none 0 0) ⟨#[]⟩ w1 from (b1.block _ (by have := HS0.out; omega)).trans N0.out)
  have R1 := hide r1
  have K1 := hide k1
  have hs1 : w0.heap.size ≤ w1.heap.size := b1.size
  clear hw0 b1 hi1 hz1 r1 k1 R0 Z0 N0 C0
  have hl1 : t1.length ≤ 1048576 := by omega
  go_wp2_with fail
  refine (HWd.out w1 C1.out v1 t1 R1.out hl1 ⟨#[13, 10]⟩ (by decide) (by decide)).mono ?_
  rintro e w2 ⟨⟨word2, v2, ok2, rfl, hi2, hz2⟩, b2⟩
  obtain ⟨t2, r2, l2, k2⟩ := word_any hi2 hz2
  have C2 := hide (C1.out.trans (b2.mono C1.out.size))
  have Z2 := hide (show ZeroA w.heap.size w2 from (b2.block _ (by have := HS0.out; omega)).trans Z1.out)
  have N2 := hide (show BoxC (w.heap.size + 1) 0 (.slice none 0 0) ⟨#[]⟩ w2 from (b2.block _ (by have := HS0.out; omega)).trans N1.out)
  have R2 := hide r2
  have K2 := hide k2
  have hs2 : w1.heap.size ≤ w2.heap.size := b2.size
  clear b2 hi2 hz2 r2 k2 R1 Z1 N1 C1
  have HPn := hide (parseNum_any word2 600 w2 (by unfold maxLen; omega))
  have HRt := hide (ReadTo.start (l := l) (t1 := t1) (t2 := t2) (w2 := word2.data.toList) (fun a b e => (K1.out a b e).2) (fun a b e => ⟨by rw [(K2.out a b e).1]; rfl, (K2.out a b e).2⟩))
  obtain ⟨pc, pok, hp⟩ : ∃ pc pok, parseNum word2.data.toList 600 = (pc, pok) := ⟨_, _, rfl⟩
  rw [hp] at HPn HRt
  clear hp K1 K2
  go_wp2_with fail
  refine HPn.out.mono ?_
  rintro e w3 ⟨rfl, b3⟩
  have n3 : BoxC (w.heap.size + 1) 0 (.slice none 0 0) ⟨#[]⟩ w3 := (b3.block _ (by have := HS0.out; omega)).trans N2.out
  have z3 : ZeroA w.heap.size w3 := (b3.block _ (by have := HS0.out; omega)).trans Z2.out
  have C3 := C2.out.trans (b3.mono C2.out.size)
  have R3 := hide (R2.out.below b3 (Nat.le_trans hB C2.out.size))
  have hs3 : w2.heap.size ≤ w3.heap.size := b3.size
  obtain ⟨w4, hw4⟩ : ∃ w4, w3.setCell ⟨w.heap.size + 1, 0, none⟩ (.int .i64 pc) = w4 := ⟨_, rfl⟩
  have n4 := set_heap n3 0 (.int .i64 pc)
  have z4 := set_other (k := 0) z3 (show w.heap.size ≠ w.heap.size + 1 by omega) (.int .i64 pc)
  have C4 := C3.setCell (p := ⟨w.heap.size + 1, 0, none⟩) (Nat.le_succ _) (.int .i64 pc)
  have R4 := R3.out.below ((Below.refl w.heap.size w3).setCell (p := ⟨w.heap.size + 1, 0, none⟩) (Nat.le_succ _) (.int .i64 pc)) hB
  rw [hw4] at n4 z4 C4 R4
  obtain ⟨x0, x1, x2, f0, f1, f2⟩ := cells3R n3
  have HI4 : Hid (RespI w l 0 pc [] t2 (.slice none 0 0) w4) := hide ⟨z4, n4, World.ownsRow_nil _ _ _ _, C4, rfl, by show 0 + t2.length ≤ _; omega, HRt.out⟩
  have HR4 := hide R4
  clear b3 n3 z3 C3 R3 n4 z4 C4 R4 HPn HRt R2 Z2 N2 C2
  go_wp2
  clear hw4 x0 x1 x2 f0 f1 f2
  go_loopw [5, 28] (fun rv i wr => ∃ (k : Nat) (hs : List Hd) (t : List UInt8) (hv : Value), k ≤ 9 ∧ i = .int .i64 k ∧ Rst wr B rv t ∧ RespI w l k pc hs t hv wr) (fun _ i _ => 9 - (intOf i).toNat)
  case atStart => exact ⟨0, [], t2, _, Nat.zero_le _, rfl, HR4.out, HI4.out⟩
  case round =>
    obtain ⟨k, hs, t, hv, hk, rfl, hr, hI⟩ := hrel
    clear HI4 HR4
    have HI := hide hI
    have HR := hide hr
    have hlt : t.length ≤ 1048576 := by have := hI.2.2.2.2.2.1; omega
    have hB2 : B ≤ wr.heap.size := Nat.le_trans hB hI.2.2.2.1.size
    obtain ⟨ah, ch, hve, _⟩ := RowsH.hds hI.2.2.1
    subst hve
    have hkl : hs.length = k := hI.2.2.2.2.1
    subst hkl
    have hNw : w.heap.size + 1 < wr.heap.size := (Array.getElem?_eq_some_iff.1 hI.2.1).1
    clear hI hr
    by_cases h9 : hs.length < 9
    · have h9' : ((hs.length : Int) < 9) := by omega
      obtain ⟨wa, hwa⟩ : ∃ wa, wr.alloc (Obj.cells #[.string ⟨#[]⟩, .string ⟨#[]⟩] 42) = wa := ⟨_, rfl⟩
      have ba : Below wr.heap.size wr wa := by rw [← hwa]; exact (Below.refl _ _).alloc (Nat.le_refl _) _
      have ga : wa.heap[wr.heap.size]? = some (Obj.cells #[.string ⟨#[]⟩, .string ⟨#[]⟩] 42) := by rw [← hwa]; exact heap_alloc_new wr _
      have hIa := HI.out.next ba
      have HWa := hide (HWd.out wa hIa.2.2.2.1 _ t (HR.out.below ba hB2) hlt ⟨#[58, 32]⟩ (by decide) (by decide))
      have Ga := hide ga
      have Ba := hide ba
      clear hIa ba ga
      go_wp2_with fail
      try rw [hwa]
      refine HWa.out.mono ?_
      rintro e w5 ⟨⟨x, v5, ok5, rfl, hi5, hz5⟩, b5⟩
      obtain ⟨t5, r5, l5, k5⟩ := word_any hi5 hz5
      have hHw : wr.heap.size < wa.heap.size := (Array.getElem?_eq_some_iff.1 Ga.out).1
      have g5 := (b5.block _ hHw).trans Ga.out
      have b5' := Ba.out.trans (b5.mono Ba.out.size)
      obtain ⟨w6, hw6⟩ : ∃ w6, w5.setCell ⟨wr.heap.size, 0, none⟩ (.string x) = w6 := ⟨_, rfl⟩
      have g6 := set_heap g5 0 (.string x)
      have b6 := b5'.setCell (p := ⟨wr.heap.size, 0, none⟩) (Nat.le_refl _) (.string x)
      have r6 := r5.below ((Below.refl wr.heap.size w5).setCell (p := ⟨wr.heap.size, 0, none⟩) (Nat.le_refl _) (.string x)) hB2
      rw [hw6] at g6 b6 r6
      have hI6 := HI.out.next b6
      obtain ⟨y0, y1, e0, e1⟩ := cells2R g5
      have hl5 : t5.length ≤ 1048576 := by omega
      have HWb := hide (HWd.out w6 hI6.2.2.2.1 v5 t5 r6 hl5 ⟨#[13, 10]⟩ (by decide) (by decide))
      have G6 := hide g6
      have B6 := hide b6
      have K5 := hide k5
      have hHw6 : wr.heap.size < w6.heap.size := (Array.getElem?_eq_some_iff.1 g6).1
      clear hwa HWa Ga Ba hi5 hz5 b5 r5 k5 g5 b5' g6 b6 r6 hI6 hHw
      go_wp2_with fail
      refine HWb.out.mono ?_
      rintro e w7 ⟨⟨y, v7, ok7, rfl, hi7, hz7⟩, b7⟩
      obtain ⟨t7, r7, l7, k7⟩ := word_any hi7 hz7
      have g7 := (b7.block _ hHw6).trans G6.out
      have b7' := B6.out.trans (b7.mono B6.out.size)
      obtain ⟨w8, hw8⟩ : ∃ w8, w7.setCell ⟨wr.heap.size, 1, none⟩ (.string y) = w8 := ⟨_, rfl⟩
      have g8 := set_heap g7 1 (.string y)
      have b8 := b7'.setCell (p := ⟨wr.heap.size, 1, none⟩) (Nat.le_refl _) (.string y)
      have r8 := r7.below ((Below.refl wr.heap.size w7).setCell (p := ⟨wr.heap.size, 1, none⟩) (Nat.le_refl _) (.string y)) hB2
      rw [hw8] at g8 b8 r8
      obtain ⟨y0', y1', e0', e1'⟩ := cells2R g7
      obtain ⟨u0, u1, _, _⟩ := cells2R g8
      have G8 := hide g8
      have B8 := hide b8
      have R8 := hide r8
      have K7 := hide k7
      have hHw8 : wr.heap.size < w8.heap.size := (Array.getElem?_eq_some_iff.1 g8).1
      have HTl := hide (tellsLength_any x y w8)
      clear hw6 HWb y0 y1 e0 e1 hi7 hz7 b7 r7 k7 g7 b7' g8 b8 r8 G6 B6
      go_wp2_with fail
      refine HTl.out.mono ?_
      rintro e w9 ⟨rfl, b9⟩
      have g9 := (b9.block _ hHw8).trans G8.out
      have B9 := hide (B8.out.trans (b9.mono B8.out.size))
      have R9 := hide (R8.out.below b9 (Nat.le_trans hB2 B8.out.size))
      obtain ⟨u0', u1', _, _⟩ := cells2R g9
      have hI9 := HI.out.next B9.out
      have I9 := hide hI9
      obtain ⟨n0', n1', n2', j0, j1, j2⟩ := cells3R hI9.2.1
      clear hw8 HTl y0' y1' e0' e1' u0 u1 b9 g9 G8 B8 R8 hI9
      have hk9 : hs.length + 1 ≤ 9 := by omega
      by_cases hx : x = lenName
      · have HD := hide (decide_eq_true hx)
        have HLa := hide (ReadTo.last I9.out.2.2.2.2.2.2 K5.out K7.out hx)
        have hy1 : y.size ≤ 1048576 := by omega
        have HBo := hide (bodyBehind_any v7 t7 y B w9 R9.out (Nat.le_trans hB2 B9.out.size) (by omega) hy1)
        obtain ⟨bd, hbd⟩ : ∃ bd, bytesOf (bodyBh t7 y.data.toList) = bd := ⟨_, rfl⟩
        have hbz : bd.size ≤ t7.length := by rw [← hbd, bytesOf_size]; exact bodyBh_len _ _
        rw [hbd] at HBo HLa
        have hsl : sumH hs + t.length ≤ l.length := I9.out.2.2.2.2.2.1
        clear hx hbd K5 K7
        rw [HD.out]
        go_wp2_with fail
        refine HBo.out.mono ?_
        rintro e w10 ⟨rfl, b10⟩
        have hI10 := I9.out.next b10
        obtain ⟨m0, m1, m2, i0, i1, i2⟩ := cells3R hI10.2.1
        obtain ⟨w11, hw11⟩ : ∃ w11, w10.setCell ⟨w.heap.size + 1, 2, none⟩ (.string bd) = w11 := ⟨_, rfl⟩
        have n11 := set_heap hI10.2.1 2 (.string bd)
        have z11 := set_other (k := 2) hI10.1 (show w.heap.size ≠ w.heap.size + 1 by omega) (.string bd)
        have r11 := ownsRow_setCell_below (a := ⟨w.heap.size + 1, 2, none⟩) hI10.2.2.1 (Nat.lt_succ_self _) (.string bd)
        have c11 := hI10.2.2.2.1.setCell (p := ⟨w.heap.size + 1, 2, none⟩) (Nat.le_succ _) (.string bd)
        rw [hw11] at n11 z11 r11 c11
        obtain ⟨p0, p1, p2, _, _, _⟩ := cells3R n11
        obtain ⟨s0, s1, s2, d0, d1, d2⟩ := cells3R z11
        have Z11 := hide z11
        have Rr11 := hide r11
        have Cc11 := hide c11
        clear hI10 n11 z11 r11 c11 b10 u0' u1' n0' n1' n2' j0 j1 j2 HBo I9 B9 R9 HI HR
        go_wp2
        refine bodyPost_ret (results_respIn _ w.heap.size _ _ _ _ rfl (set3_heapR Z11.out _ _ _)) rfl ?_
        have hN0 : w.heap.size < w.heap.size + 1 + 1 := by omega
        refine ⟨⟨⟨pc, hs, bd⟩, _, rfl, ?_, by show hs.length ≤ 9; omega, by show sumH hs ≤ l.length; omega, by show bd.size ≤ l.length; omega, HLa.out⟩, ((Cc11.out.setCell (p := ⟨w.heap.size, 0, none⟩) (Nat.le_refl _) _).setCell (p := ⟨w.heap.size, 1, none⟩) (Nat.le_refl _) _).setCell (p := ⟨w.heap.size, 2, none⟩) (Nat.le_refl _) _⟩
        refine RowsH.base (B := w.heap.size + 1 + 1) ?_ (by omega)
        exact ownsRow_setCell_below (ownsRow_setCell_below (ownsRow_setCell_below Rr11.out (by show w.heap.size < _; exact hN0) _) (by show w.heap.size < _; exact hN0) _) (by show w.heap.size < _; exact hN0) _
      · have HD := hide (decide_eq_false hx)
        have HMo := hide (ReadTo.more I9.out.2.2.2.2.2.2 K5.out K7.out hx)
        have hsl : sumH hs + t.length ≤ l.length := I9.out.2.2.2.2.2.1
        have hsz : sumH (hs ++ [(x, y)]) + t7.length ≤ l.length := by
          have e : sumH (hs ++ [(x, y)]) = sumH hs + (x.size + y.size) := by simp [sumH, szH]
          omega
        have hN9 : w.heap.size + 1 < w9.heap.size := Nat.lt_of_lt_of_le hNw B9.out.size
        have BH := BoxH.made w9 x y 42
        have hba := (Below.refl w9.heap.size w9).alloc (Nat.le_refl _) (Obj.cells #[Value.string x, Value.string y] 42)
        have HBa := hide hba
        have Row := hide (ownsH_below I9.out.2.2.1 hba)
        clear hx K5 K7 hba
        rw [HD.out]
        go_wp2_with (at_builtin; refine wp_append_head2 rfl _ _ rfl (w.heap.size + 1 + 1) (.slice ah hs.length ch) hs.length hs rfl Row.out w9.heap.size (x, y) rfl BH.2.1 BH.2.2 ?c1 ?c2 ?_)
        case c1 => omega
        case c2 => simp; omega
        intro g cap w10 ho hg hwh
        have hown : ∀ g, (Value.slice ah hs.length ch).ownBlock = some g → w.heap.size + 1 + 1 ≤ g := fun g hg => (World.ownsRow.lt Row.out g hg).1
        have hbb : Below (w.heap.size + 1 + 1) w9 w10 := (HBa.out.mono (by omega)).trans ⟨hg.os, hg.tape, hg.output, hg.size, fun k hk => hg.block k (by simp; omega) (fun e => by have := hown k e.symm; omega)⟩
        have n10 : BoxC (w.heap.size + 1) pc (.slice ah hs.length ch) ⟨#[]⟩ w10 := (hbb.block _ (by omega)).trans I9.out.2.1
        have z10 : ZeroA w.heap.size w10 := (hbb.block _ (by omega)).trans I9.out.1
        have c10 := I9.out.2.2.2.1.trans (hbb.mono (by omega))
        obtain ⟨m0, m1, m2, i0, i1, i2⟩ := cells3R n10
        obtain ⟨w11, hw11⟩ : ∃ w11, w10.setCell ⟨w.heap.size + 1, 1, none⟩ (.slice (some ⟨g, 0, none⟩) (hs.length + 1) cap) = w11 := ⟨_, rfl⟩
        have n11 := set_heap n10 1 (.slice (some ⟨g, 0, none⟩) (hs.length + 1) cap)
        have z11 := set_other (k := 1) z10 (show w.heap.size ≠ w.heap.size + 1 by omega) (.slice (some ⟨g, 0, none⟩) (hs.length + 1) cap)
        have r11 := ownsRow_setCell_below (a := ⟨w.heap.size + 1, 1, none⟩) ho (Nat.lt_succ_self _) (.slice (some ⟨g, 0, none⟩) (hs.length + 1) cap)
        have c11 := c10.setCell (p := ⟨w.heap.size + 1, 1, none⟩) (Nat.le_succ _) (.slice (some ⟨g, 0, none⟩) (hs.length + 1) cap)
        have q11 := R9.out.below ((hbb.mono (show w.heap.size ≤ w.heap.size + 1 + 1 by omega)).setCell (p := ⟨w.heap.size + 1, 1, none⟩) (Nat.le_succ _) (.slice (some ⟨g, 0, none⟩) (hs.length + 1) cap)) hB
        rw [hw11] at n11 z11 r11 c11 q11
        have HI11 : Hid (RespI w l (hs.length + 1) pc (hs ++ [(x, y)]) t7 (.slice (some ⟨g, 0, none⟩) (hs.length + 1) cap) w11) := hide ⟨z11, n11, by unfold RowsH; rw [List.length_append]; exact r11, c11, by simp, hsz, HMo.out⟩
        have HQ11 := hide q11
        clear ho hg hwh hbb n10 z10 c10 n11 z11 r11 c11 q11 u0' u1' n0' n1' n2' j0 j1 j2 BH HBa Row I9 B9 R9 HI HR
        go_wp2
        go_roundw
        case rel => exact ⟨hs.length + 1, hs ++ [(x, y)], t7, _, by omega, by go_num, HQ11.out, HI11.out⟩
        case measure => simp [intOf]; omega
    · have h9' : ¬ ((hs.length : Int) < 9) := by omega
      have hno := ReadTo.none HI.out.2.2.2.2.2.2 (by omega)
      have HNo := hide hno
      have hsl : sumH hs + t.length ≤ l.length := HI.out.2.2.2.2.2.1
      obtain ⟨p0, p1, p2, _, _, _⟩ := cells3R HI.out.2.1
      obtain ⟨s0, s1, s2, d0, d1, d2⟩ := cells3R HI.out.1
      clear hno
      go_wp2
      refine bodyPost_ret (results_respIn _ w.heap.size _ _ _ _ rfl (set3_heapR HI.out.1 _ _ _)) rfl ?_
      have hN0 : w.heap.size < w.heap.size + 1 + 1 := by omega
      refine ⟨⟨⟨pc, hs, ⟨#[]⟩⟩, _, rfl, ?_, hk, by show sumH hs ≤ l.length; omega, Nat.zero_le _, fun q hq => absurd hq (HNo.out q)⟩, ((HI.out.2.2.2.1.setCell (p := ⟨w.heap.size, 0, none⟩) (Nat.le_refl _) _).setCell (p := ⟨w.heap.size, 1, none⟩) (Nat.le_refl _) _).setCell (p := ⟨w.heap.size, 2, none⟩) (Nat.le_refl _) _⟩
      refine RowsH.base (B := w.heap.size + 1 + 1) ?_ (by omega)
      exact ownsRow_setCell_below (ownsRow_setCell_below (ownsRow_setCell_below HI.out.2.2.1 (by show w.heap.size < _; exact hN0) _) (by show w.heap.size < _; exact hN0) _) (by show w.heap.size < _; exact hN0) _
end Go.Proofs.YtkhnkockdfmkgaaDoor
