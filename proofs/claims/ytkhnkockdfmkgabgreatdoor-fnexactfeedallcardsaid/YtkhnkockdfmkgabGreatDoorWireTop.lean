/-
  What the program's Feed and FeedAll do.
-/
import Derived.Test.YtkhnkockdfmkgabGreatDoorWireFeed
namespace Go.Proofs.YtkhnkockdfmkgabGreatDoor
open Go.RowKit M
set_option linter.unusedVariables false

theorem FedIs.store {w : World} {B C M : Nat} {d : List Rq × List UInt8 × Int} {e : Ending} (h : FedIs w B d e) (hM : M < B) (hC : C ≤ B) (v0 v1 : Value) : FedIs ((w.setCell ⟨M, 0, none⟩ v0).setCell ⟨M, 1, none⟩ v1) C d e := by
  obtain ⟨bv, qv, qs, rfl, h1, h2, h3, h4⟩ := h
  have keep : ∀ k, B ≤ k → k < w.heap.size → ((w.setCell ⟨M, 0, none⟩ v0).setCell ⟨M, 1, none⟩ v1).heap[k]? = w.heap[k]? := fun k hk _ => by
    have hkM : k ≠ M := by omega
    rw [Below.heap_setCell _ _ _ _ hkM, Below.heap_setCell _ _ _ _ hkM]
  exact ⟨bv, qv, qs, rfl, (h1.same (by simp [World.setCell]) keep).base hC, (h2.same keep).base hC, h3, h4⟩
theorem FedIs.next {w w' : World} {B : Nat} {d : List Rq × List UInt8 × Int} {e : Ending} (h : FedIs w B d e) (hb : Below w.heap.size w w') : FedIs w' B d e := by
  obtain ⟨bv, qv, qs, rfl, h1, h2, h3, h4⟩ := h
  exact ⟨bv, qv, qs, rfl, h1.next hb, h2.next hb, h3, h4⟩
theorem results_feed (tmps : Array Value) (N : Nat) (W : World) (v0 v1 x : Value) (h2 : tmps.getD 4 undef = .pointer (some ⟨N, 0, none⟩)) (h3 : tmps.getD 5 undef = x) (hg : W.heap[N]? = some (Obj.cells #[v0, v1] 26)) :
    (results Tryz.f9 tmps).run Tryz.prog W = .ok (.tuple #[.agg #[v0, v1], x]) W := by
  have hl := run_loadVar_row (P := Tryz.prog) W N 26 26 #[v0, v1] (0, 0) _ hg Tryz.underlying26 rfl (by kernel_rfl)
  simp at h2 h3
  simp [results, Tryz.results9, h2, h3, asAddr, hl]
theorem results_feedAll (tmps : Array Value) (N : Nat) (W : World) (v0 v1 x : Value) (h2 : tmps.getD 2 undef = .pointer (some ⟨N, 0, none⟩)) (h3 : tmps.getD 3 undef = x) (hg : W.heap[N]? = some (Obj.cells #[v0, v1] 26)) :
    (results Tryz.f21 tmps).run Tryz.prog W = .ok (.tuple #[.agg #[v0, v1], x]) W := by
  have hl := run_loadVar_row (P := Tryz.prog) W N 26 26 #[v0, v1] (0, 0) _ hg Tryz.underlying26 rfl (by kernel_rfl)
  simp at h2 h3
  simp [results, Tryz.results21, h2, h3, asAddr, hl]

set_option maxRecDepth 100000 in
set_option maxHeartbeats 2000000 in
theorem feedI_any (a : Option Addr) (l : List UInt8) (c : Nat) (bad : Int) (a2 : Option Addr) (m : List UInt8) (c2 : Nat) (mx : Int) (w : World) (hy : Byt w w.heap.size a l) (hy2 : Byt w w.heap.size a2 m) (hs : l.length + m.length ≤ 4194304) (h0 : 0 < w.heap.size) (hmx : w.cell? ⟨0, 0, none⟩ = some (.int .i64 mx)) :
    Calls Tryz.prog 9 #[.agg #[.slice a l.length c, .int .i64 bad], .slice a2 m.length c2] w fun e w' => FedIs w' w.heap.size (feedM l bad m) e ∧ Below w.heap.size w w' := by
  obtain ⟨w0, hw0⟩ : ∃ w0, (w.alloc (Obj.cells #[.slice a l.length c, .int .i64 bad] 26)).alloc (Obj.cells #[.slice none 0 0, .int .i64 0] 26) = w0 := ⟨_, rfl⟩
  have n0 : (w.alloc (Obj.cells #[.slice a l.length c, .int .i64 bad] 26)).heap.size = w.heap.size + 1 := by simp
  have c0 : Below w.heap.size w w0 := by rw [← hw0]; exact ((Below.refl _ _).alloc (Nat.le_refl _) _).alloc (by rw [n0]; omega) _
  have s0 : w0.heap.size = w.heap.size + 2 := by rw [← hw0]; simp
  have z0 : w0.heap[w.heap.size]? = some (Obj.cells #[.slice a l.length c, .int .i64 bad] 26) := by
    rw [← hw0, Below.heap_alloc _ _ _ (by rw [n0]; omega)]; exact heap_alloc_new w _
  have z1 : w0.heap[w.heap.size + 1]? = some (Obj.cells #[.slice none 0 0, .int .i64 0] 26) := by
    have := heap_alloc_new (w.alloc (Obj.cells #[.slice a l.length c, .int .i64 bad] 26)) (Obj.cells #[.slice none 0 0, .int .i64 0] 26)
    rw [n0] at this
    rw [← hw0]; exact this
  obtain ⟨x0, x1, _, _⟩ := cells2 z0
  have HO := hide (opened_any w0 l bad a c ((hy.below c0 (Nat.le_refl _)).mono c0.size) (by omega))
  have HM := hide (fun (W : World) (hb : Below w.heap.size w W) => (hb.cell (p := ⟨0, 0, none⟩) h0).trans hmx)
  have HY2 := hide hy2
  have C0 := hide c0
  have Z1 := hide z1
  have HF := hide (feedM_count l bad m)
  have S0 := hide s0
  clear hy hy2 hmx c0 z0 z1 n0 s0
  go_enter Tryz.func9, Tryz.ntmps9
  go_wp2_with fail
  try rw [hw0]
  refine HO.out.mono ?_
  rintro e w1 ⟨⟨N, rfl, hBN, st1⟩, b1⟩
  have c1 := C0.out.trans (b1.mono C0.out.size)
  have HFd := hide (feed_any N (w0.heap.size + 1) w1 l m bad [] mx a2 c2 st1 hBN ((HY2.out.below c1 (Nat.le_refl _)).mono (by have := S0.out; omega)) hs (by simp only [List.length_nil]; omega) (by have := S0.out; omega) (HM.out w1 c1))
  have C1 := hide c1
  have Z2 := hide ((b1.block _ (by have := S0.out; omega)).trans Z1.out)
  clear st1 b1 c1 HO x0 x1
  go_wp2_with fail
  refine HFd.out.mono ?_
  rintro e w2 ⟨⟨v, rfl⟩, st2, b2⟩
  rw [List.nil_append] at st2
  have c2' := C1.out.trans (b2.mono (by have := S0.out; omega))
  have Z3 := hide ((b2.block _ (by have := S0.out; omega)).trans Z2.out)
  have HCl := hide (closed_any N (w0.heap.size + 1) w2 _ _ _ st2 hBN (by have := HF.out; omega))
  have C2 := hide c2'
  have hN2 := st2.lt
  clear st2 b2 c2' HFd
  go_wp2_with fail
  refine HCl.out.mono ?_
  rintro e w3 ⟨hfed, b3⟩
  have c3 := C2.out.trans (b3.mono C2.out.size)
  have z4 := (b3.block _ (by have := S0.out; omega)).trans Z3.out
  have Z4 := hide z4
  have C3 := hide c3
  have HFe := hide hfed
  obtain ⟨bv, qv, qs, rfl, hfr, _⟩ := hfed
  obtain ⟨av, cv, rfl, _⟩ := hfr
  obtain ⟨m0, m1, n0, n1⟩ := cells2 z4
  clear hw0 HCl b3 c3 z4
  go_wp2
  refine bodyPost_ret (results_feed _ (w.heap.size + 1) _ _ _ _ rfl rfl (set2_heap Z4.out _ _)) rfl ?_
  refine ⟨HFe.out.store (M := w.heap.size + 1) (by have := S0.out; omega) (by have := S0.out; omega) _ _, ?_⟩
  exact (C3.out.setCell (p := ⟨w.heap.size + 1, 0, none⟩) (Nat.le_succ _) _).setCell (p := ⟨w.heap.size + 1, 1, none⟩) (Nat.le_succ _) _

set_option maxRecDepth 100000 in
set_option maxHeartbeats 2000000 in
theorem feedAllI_any (a : Option Addr) (ls : List (List UInt8)) (cap : Nat) (mx : Int) (w : World) (h : Bss w w.heap.size a ls) (hl : ls.length ≤ 1048576) (hs : sumB ls ≤ 4194304) (h0 : 0 < w.heap.size) (hmx : w.cell? ⟨0, 0, none⟩ = some (.int .i64 mx)) :
    Calls Tryz.prog 21 #[.slice a ls.length cap] w fun e w' => FedIs w' w.heap.size (feedsM ls [] 0) e ∧ Below w.heap.size w w' := by
  obtain ⟨w0, hw0⟩ : ∃ w0, w.alloc (Obj.cells #[.slice none 0 0, .int .i64 0] 26) = w0 := ⟨_, rfl⟩
  have c0 : Below w.heap.size w w0 := by rw [← hw0]; exact (Below.refl _ _).alloc (Nat.le_refl _) _
  have s0 : w.heap.size < w0.heap.size := by rw [← hw0]; simp
  have z0 : w0.heap[w.heap.size]? = some (Obj.cells #[.slice none 0 0, .int .i64 0] 26) := by rw [← hw0]; exact heap_alloc_new w _
  have HO := hide (opened_any w0 [] 0 none 0 (Byt.nil _ _ _) (by simp))
  have HM := hide (fun (W : World) (hb : Below w.heap.size w W) => (hb.cell (p := ⟨0, 0, none⟩) h0).trans hmx)
  have HB := hide h
  have C0 := hide c0
  have Z0 := hide z0
  have HCnt := hide (fun k => feedsM_all (ls.take k) [] 0)
  clear h hmx c0 z0
  go_enter Tryz.func21, Tryz.ntmps21
  go_wp2_with fail
  try rw [hw0]
  refine HO.out.mono ?_
  rintro e w1 ⟨⟨N, rfl, hBN, st1⟩, b1⟩
  have C1 := hide (C0.out.trans (b1.mono C0.out.size))
  have Z1 := hide ((b1.block _ s0).trans Z0.out)
  have ST1 := hide st1
  clear st1 b1 HO hw0
  go_wp2
  go_loopw [11] (fun i wr => ∃ k : Nat, k ≤ ls.length ∧ i = .int .i64 k ∧ WireSt wr N (w0.heap.size + 1) (feedsM (ls.take k) [] 0).2.1 (feedsM (ls.take k) [] 0).2.2 (feedsM (ls.take k) [] 0).1 ∧ Below w.heap.size w wr ∧ wr.heap[w.heap.size]? = some (Obj.cells #[.slice none 0 0, .int .i64 0] 26)) (fun i _ => ls.length - (intOf i).toNat)
  case atStart => exact ⟨0, Nat.zero_le _, rfl, ST1.out, C1.out, Z1.out⟩
  case round =>
    obtain ⟨k, hk, rfl, hst, hbe, hz⟩ := hrel
    have hcnt := (HCnt.out k).2
    simp only [List.length_nil, Nat.zero_add] at hcnt
    rw [sumB_flat] at hcnt
    by_cases hlt : k < ls.length
    · obtain ⟨b, o, rfl, hb, hc⟩ := HB.out (by omega)
      obtain ⟨aj, cj, hc1, hy, hlc, hcm⟩ := hc k hlt
      have hcx := (hbe.cell (p := ⟨b, o + k, none⟩) hb).trans hc1
      have h1 := sumB_snoc ls k hlt
      have h2 := sumB_le ls (k + 1)
      have HFd := hide (feed_any N (w0.heap.size + 1) wr _ ls[k] _ _ mx aj cj hst hBN ((hy.below hbe (Nat.le_refl _)).mono (by omega)) (by omega) (by omega) (by omega) (HM.out wr hbe))
      have HSn := hide (feedsM_snoc (ls.take k) ls[k] [] 0)
      rw [← List.take_succ_eq_append_getElem hlt] at HSn
      have HBe := hide hbe
      have HZ := hide hz
      clear hc hc1 hy hlc hcm hst hbe hz h1 h2 hcnt
      go_wp2_with fail
      refine HFd.out.mono ?_
      rintro e w2 ⟨⟨v, rfl⟩, st2, b2⟩
      have ST2 : Hid (WireSt w2 N (w0.heap.size + 1) (feedsM (ls.take (k + 1)) [] 0).2.1 (feedsM (ls.take (k + 1)) [] 0).2.2 (feedsM (ls.take (k + 1)) [] 0).1) := by
        rw [HSn.out]; exact st2
      have C2 := hide (HBe.out.trans (b2.mono (by omega)))
      have Z2 := hide ((b2.block _ (by omega)).trans HZ.out)
      clear st2 b2 HFd
      go_wp2
      go_roundw
      case rel => exact ⟨k + 1, by omega, by go_num, ST2.out, C2.out, Z2.out⟩
      case measure => simp [intOf]; omega
    · have hall : ls.take k = ls := List.take_of_length_le (by omega)
      have h2 := sumB_le ls k
      rw [hall] at hst hcnt
      have HCl := hide (closed_any N (w0.heap.size + 1) wr _ _ _ hst hBN (by omega))
      have HBe := hide hbe
      have HZ := hide hz
      have hNl := hst.lt
      clear hst hbe hz hcnt hall h2
      go_wp2_with fail
      refine HCl.out.mono ?_
      rintro e w3 ⟨hfed, b3⟩
      have z4 := (b3.block _ (by omega)).trans HZ.out
      have Z4 := hide z4
      have C3 := hide (HBe.out.trans (b3.mono HBe.out.size))
      have HFe := hide hfed
      obtain ⟨bv, qv, qs, rfl, hfr, _⟩ := hfed
      obtain ⟨av, cv, rfl, _⟩ := hfr
      obtain ⟨m0, m1, n0, n1⟩ := cells2 z4
      clear HCl b3 z4
      go_wp2
      refine bodyPost_ret (results_feedAll _ w.heap.size _ _ _ _ rfl rfl (set2_heap Z4.out _ _)) rfl ?_
      refine ⟨HFe.out.store (M := w.heap.size) (by omega) (by omega) _ _, ?_⟩
      exact (C3.out.setCell (p := ⟨w.heap.size, 0, none⟩) (Nat.le_refl _) _).setCell (p := ⟨w.heap.size, 1, none⟩) (Nat.le_refl _) _
end Go.Proofs.YtkhnkockdfmkgabGreatDoor
