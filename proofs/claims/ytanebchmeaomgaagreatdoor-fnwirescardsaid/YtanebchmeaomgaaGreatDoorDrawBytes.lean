/-
  The draw of a request's bytes, bent or not: some bytes, few, in memory of their own.
-/
import Derived.Test.YtanebchmeaomgaaGreatDoorStepByts
import Derived.Test.YtanebchmeaomgaaGreatDoorPutHead
import Derived.Test.YtanebchmeaomgaaGreatDoorPutChunked
import Derived.Deep.RegionLaw
namespace Go.Proofs.YtanebchmeaomgaaGreatDoor
open Go.RowKit M
set_option linter.unusedVariables false

theorem strNewM {w : World} {N : Nat} {a : Option Addr} {len cap : Nat} {zs : List Int} (h : DX w N a len cap zs) (ss : List ByteArray) (C : Array Value) (T : TypeId) (n M z : Nat) (hM : M = w.heap.size) (hC : C = (ss.map Value.string).toArray) (hn : ss.length = n) (h0 : 0 < n) (h1 : n ≤ 256) (hz : ∀ s ∈ ss, s.size ≤ z) :
    Calls Tryz.prog 63 #[.pointer (some ⟨N, 0, none⟩), .slice (some ⟨M, 0, none⟩) n n] (w.alloc (.cells C T)) fun e w' => (∃ s : ByteArray, e = .returned (.string s) ∧ s.size ≤ z) ∧ DX w' N a len cap zs ∧ w.grownBy w' (some N) := by
  obtain ⟨c, h⟩ := h
  refine (strNew h ss C T n M hM hC hn h0 h1).mono ?_
  rintro e w1 ⟨rfl, hd, hg⟩
  exact ⟨⟨_, rfl, getD_mem ss _ _ (fun s => s.size ≤ z) hz (Nat.zero_le _)⟩, ⟨_, hd⟩, hg⟩
theorem l1OnceX {w : World} {N : Nat} {a : Option Addr} {len cap : Nat} {zs : List Int} (h : DX w N a len cap zs) (n : Int) (hn : 0 < n) (hn2 : n ≤ 1000000) :
    Calls Tryz.prog 47 #[.pointer (some ⟨N, 0, none⟩), .int .i64 n] w fun e w' => (∃ b : Bool, e = .returned (.bool b)) ∧ DX w' N a len cap zs ∧ w.grownBy w' (some N) := by
  obtain ⟨c, h⟩ := h
  refine (l1Once_any N a len cap zs c n w h.cur h.code h.bN h.hlen hn hn2).mono ?_
  rintro e w1 ⟨rfl, hc1, hg1⟩
  exact ⟨⟨_, rfl⟩, ⟨_, h.grown hg1 hc1⟩, hg1⟩
theorem FewH.sumR {n : Nat} {hs : List Hd} (h : FewH n hs) : sumH hs ≤ n * 120 := by
  obtain ⟨h1, h2⟩ := h
  unfold sumH
  induction hs generalizing n with
  | nil => exact Nat.zero_le _
  | cons x t ih =>
    have hx := h2 x (by simp)
    have ht := ih (n := n - 1) (by simp at h1; omega) (fun y hy => h2 y (by simp [hy]))
    simp only [List.map_cons, List.sum_cons, szH]
    simp at h1
    omega
theorem put0_few (r : Rq) (line body : List UInt8) : (put0 r line body).length ≤ 400 + body.length := by
  unfold put0
  split
  · rename_i h
    rw [List.length_append]
    omega
  · exact Nat.zero_le _
theorem putCs_len21 (ns : List Int) (b : ByteArray) : (putCs ns b.data.toList).length ≤ 21 * b.size + 5 := by
  have h1 := pcsTxt_len ns b.data.toList
  have e : b.data.toList.length = b.size := Array.length_toList
  unfold putCs
  rw [List.length_append, chTxt_nil]
  simp only [List.length_cons, List.length_nil]
  omega
theorem putCs_few (ns : List Int) (b : ByteArray) (h : b.size ≤ 20) : (putCs ns b.data.toList).length ≤ 1000 := by
  have h1 := putCs_len21 ns b
  omega
/-- What a draw of bytes hands back. -/
def RetY (w' : World) (B M : Nat) (v : Value) : Prop := ∃ l : List UInt8, l.length ≤ M ∧ OwnY w' B v l
/-- A drawn request is put, whole or in pieces. -/
theorem put_drawnR {w : World} {B : Nat} {r : Rq} {g c : Nat} (hf : FewH 2 r.hs) (h1 : r.m.size ≤ 20) (h2 : r.p.size ≤ 20) (hb : r.b.size ≤ 20) (hd : Hds w w.heap.size (some ⟨g, 0, none⟩) r.hs) :
    Calls Tryz.prog 20 #[.agg #[.string r.m, .string r.p, .slice (some ⟨g, 0, none⟩) r.hs.length c, .string r.b]] w fun e w' => (∃ (g' n c' : Nat) (l : List UInt8), e = .returned (.slice (some ⟨g', 0, none⟩) n c') ∧ l.length ≤ 2000 ∧ l.length = n ∧ n ≤ c' ∧ c' ≤ maxLen ∧ OwnY w' w.heap.size (.slice (some ⟨g', 0, none⟩) n c') l) ∧ Below w.heap.size w w' := by
  have q1 := hf.sumR
  have q2 := hf.1
  have hsh : ShortR r := ⟨by unfold maxLen; omega, by unfold maxLen; omega, by unfold maxLen; omega, by unfold maxLen; omega, hf.short⟩
  refine (specPutReqO_any (some ⟨g, 0, none⟩) r c w.heap.size w hd (Nat.le_refl _) hsh (by omega) (by omega) (by omega) (by omega) (by omega)).mono ?_
  rintro e w1 ⟨⟨g', c', rfl, hv⟩, hbb⟩
  have hl : (putL r).length ≤ 2000 := by
    have h3 := put0_few r (bodyLine r.b) r.b.data.toList
    have h4 : r.b.data.toList.length = r.b.size := Array.length_toList
    unfold putL
    omega
  exact ⟨⟨g', _, c', putL r, rfl, hl, rfl, hv.bd.2.1, hv.bd.2.2.1, hv⟩, hbb⟩
theorem putC_drawnR {w : World} {r : Rq} {g c : Nat} (a2 : Option Addr) (ns : List Int) (cap2 : Nat) (hI : Ints w w.heap.size a2 ns) (hn : ns.length ≤ 1000) (hf : FewH 2 r.hs) (h1 : r.m.size ≤ 20) (h2 : r.p.size ≤ 20) (hb : r.b.size ≤ 20) (hd : Hds w w.heap.size (some ⟨g, 0, none⟩) r.hs) :
    Calls Tryz.prog 21 #[.agg #[.string r.m, .string r.p, .slice (some ⟨g, 0, none⟩) r.hs.length c, .string r.b], .slice a2 ns.length cap2] w fun e w' => (∃ (g' n c' : Nat) (l : List UInt8), e = .returned (.slice (some ⟨g', 0, none⟩) n c') ∧ l.length ≤ 2000 ∧ l.length = n ∧ n ≤ c' ∧ c' ≤ maxLen ∧ OwnY w' w.heap.size (.slice (some ⟨g', 0, none⟩) n c') l) ∧ Below w.heap.size w w' := by
  have q1 := hf.sumR
  have q2 := hf.1
  have hsh : ShortR r := ⟨by unfold maxLen; omega, by unfold maxLen; omega, by unfold maxLen; omega, by unfold maxLen; omega, hf.short⟩
  refine (specPutChunkedO_any (some ⟨g, 0, none⟩) r c w.heap.size a2 ns cap2 w hd (Nat.le_refl _) hI hsh (by omega) (by omega) (by omega) (by omega) (by omega) (by omega)).mono ?_
  rintro e w1 ⟨⟨g', c', rfl, hv⟩, hbb⟩
  have hl : (putKL r ns).length ≤ 2000 := by
    have h3 := put0_few r codLine (putCs ns r.b.data.toList)
    have h4 := putCs_few ns r.b hb
    unfold putKL
    omega
  exact ⟨⟨g', _, c', putKL r ns, rfl, hl, rfl, hv.bd.2.1, hv.bd.2.2.1, hv⟩, hbb⟩

def bytesD : List ByteArray := [⟨#[71, 69, 84, 32, 47, 32, 72, 84, 84, 80, 47, 49, 46, 49, 13, 10, 13, 10]⟩, ⟨#[71, 69, 84, 32, 47, 32, 72, 84, 84, 80, 47, 49, 46, 48, 13, 10, 13, 10]⟩, ⟨#[71, 69, 84, 32, 47, 13, 10, 13, 10]⟩, ⟨#[80, 85, 84, 32, 47, 32, 72, 84, 84, 80, 47, 49, 46, 49, 13, 10, 67, 111, 110, 116, 101, 110, 116, 45, 76, 101, 110, 103, 116, 104, 58, 32, 51, 13, 10, 13, 10, 97, 98, 99]⟩, ⟨#[80, 85, 84, 32, 47, 32, 72, 84, 84, 80, 47, 49, 46, 49, 13, 10, 99, 111, 110, 116, 101, 110, 116, 45, 108, 101, 110, 103, 116, 104, 58, 32, 50, 48, 49, 13, 10, 13, 10]⟩, ⟨#[80, 85, 84, 32, 47, 32, 72, 84, 84, 80, 47, 49, 46, 49, 13, 10, 99, 111, 110, 116, 101, 110, 116, 45, 108, 101, 110, 103, 116, 104, 58, 32, 49, 13, 10, 99, 111, 110, 116, 101, 110, 116, 45, 108, 101, 110, 103, 116, 104, 58, 32, 49, 13, 10, 13, 10, 97]⟩, ⟨#[80, 85, 84, 32, 47, 32, 72, 84, 84, 80, 47, 49, 46, 49, 13, 10, 116, 114, 97, 110, 115, 102, 101, 114, 45, 101, 110, 99, 111, 100, 105, 110, 103, 58, 32, 103, 122, 105, 112, 13, 10, 13, 10]⟩, ⟨#[80, 85, 84, 32, 47, 32, 72, 84, 84, 80, 47, 49, 46, 49, 13, 10, 84, 114, 97, 110, 115, 102, 101, 114, 45, 69, 110, 99, 111, 100, 105, 110, 103, 58, 32, 67, 72, 85, 78, 75, 69, 68, 13, 10, 13, 10, 49, 13, 10, 97, 13, 10, 48, 13, 10, 13, 10]⟩, ⟨#[65, 32, 47, 32, 72, 84, 84, 80, 47, 49, 46, 49, 13, 10, 120, 13, 10, 13, 10]⟩, ⟨#[65, 32, 47, 32, 72, 84, 84, 80, 47, 49, 46, 49, 13, 10, 32, 88, 32, 58, 32, 121, 32, 13, 10, 13, 10]⟩, ⟨#[65, 32, 47, 32, 72, 84, 84, 80, 47, 49, 46, 49, 13, 10, 88, 58, 9, 32, 121, 32, 13, 10, 13, 10]⟩, ⟨#[13, 10, 13, 10]⟩, ⟨#[80, 85, 84, 32, 47, 32, 72, 84, 84, 80, 47, 49, 46, 49, 13, 10, 99, 111, 110, 116, 101, 110, 116, 45, 108, 101, 110, 103, 116, 104, 58, 32, 48, 51, 13, 10, 13, 10, 97, 98, 99]⟩]
theorem info_u8b : (Tryz.prog.info? 5).map (fun i => (i.zero, i.size, i.bytes)) = some (some (.int .u8 0), 1, 1) := by kernel_rfl
def bytesI : List Int := [0, 13, 10, 32, 58, 65, 255]

theorem grown_drewR {a b : World} {r : Option Nat} (h : a.drew.grownBy b r) : a.grownBy b r := ⟨h.os, h.tape, h.output, h.size, h.block⟩
theorem Hds.grown {w w' : World} {N B g : Nat} {hs : List Hd} (h : Hds w B (some ⟨g, 0, none⟩) hs) (hg : w.grownBy w' (some N)) (hB : B ≤ w.heap.size) (hN : N < g) : Hds w' B (some ⟨g, 0, none⟩) hs := fun h0 => by
  obtain ⟨b, o, e, hbB, hc⟩ := h h0
  cases e
  exact ⟨g, 0, rfl, hbB, fun j hj => ⟨grown_cell hg hN (Nat.lt_of_lt_of_le hbB hB) (hc j hj).1, grown_cell hg hN (Nat.lt_of_lt_of_le hbB hB) (hc j hj).2⟩⟩
theorem Ints.three (w : World) (x y z : Int) (T : TypeId) : Ints (w.alloc (Obj.cells #[.int .i64 x, .int .i64 y, .int .i64 z] T)) (w.alloc (Obj.cells #[.int .i64 x, .int .i64 y, .int .i64 z] T)).heap.size (some ⟨w.heap.size, 0, none⟩) [x, y, z] := fun _ => by
  refine ⟨_, _, rfl, by simp, fun j hj => ?_⟩
  match j, hj with
  | 0, _ => simp
  | 1, _ => simp
  | 2, _ => simp
  | j + 3, hj => exact absurd hj (by simp)

set_option maxRecDepth 100000 in
set_option maxHeartbeats 8000000 in
theorem l3Bytes_any {w : World} {N : Nat} {a : Option Addr} {len cap : Nat} {zs : List Int} (h : DX w N a len cap zs) :
    Calls Tryz.prog 75 #[.pointer (some ⟨N, 0, none⟩)] w fun e w' => (∃ v, e = .returned v ∧ RetY w' w.heap.size 4000 v) ∧ DX w' N a len cap zs ∧ w.grownBy w' (some N) := by
  have hlt := h.lt
  have H := hide h
  clear h
  go_enter Tryz.func75, Tryz.ntmps75
  go_wp2_with fail
  refine (l3Draw_any H.out).mono ?_
  rintro e w1 ⟨⟨r, g, c, q1, q2, q3, q4, rfl, hown⟩, hd1, hg1⟩
  have hz1 := hg1.size
  have hgl := hown.lt g rfl
  obtain ⟨w1b, hw1b⟩ : ∃ w1b, w1.alloc (Obj.cells #[.string r.m, .string r.p, .slice (some ⟨g, 0, none⟩) r.hs.length c, .string r.b] 39) = w1b := ⟨_, rfl⟩
  have bx : Below w1.heap.size w1 w1b := by rw [← hw1b]; exact (Below.refl _ _).alloc (Nat.le_refl _) _
  have BX : Hid (BoxR w1b w1.heap.size (some ⟨g, 0, none⟩) c r) := by rw [← hw1b]; exact BoxR.made w1 _ _ _ _
  have s1 : w1.heap.size < w1b.heap.size := by rw [← hw1b]; simp
  have hds := ((ownsH_hds hown rfl).below bx (Nat.le_refl _)).mono bx.size
  have HDs := hide hds
  have D1 : Hid (DX w1b N a len cap zs) := by rw [← hw1b]; exact hd1.alloc _
  have G1 := hide (grown_past hg1 (bx.mono hz1))
  have Q1 := hide q1
  obtain ⟨_, x0, x1, x2, x3⟩ := BX.out
  clear hown hd1 hg1 H bx q1
  go_wp2_with fail
  refine (put_drawnR (B := 0) Q1.out q2 q3 q4 HDs.out).mono ?_
  rintro e w2 ⟨⟨gb, n, cb, lb, rfl, hl, hln, hnc, hcm, hy⟩, b2⟩
  have hz2 := b2.size
  have D2 := hide (D1.out.other b2.size (fun k hk => b2.block k (by omega)))
  have G2 := hide (grown_past G1.out (b2.mono (by omega)))
  have Y2 := hide hy
  have BX2 := hide (BX.out.next b2)
  have HD2 := hide ((HDs.out.below b2 (Nat.le_refl _)).mono b2.size)
  clear hds D1 G1 hy b2 HDs BX x0 x1 x2 x3 hw1b
  go_wp2_with fail
  refine (l1OnceX D2.out 3 (by decide) (by decide)).mono ?_
  rintro e w5 ⟨⟨b, rfl⟩, hd5, hg5⟩
  have hz5 := hg5.size
  have hgb : w.heap.size ≤ gb ∧ gb < w5.heap.size := by have := Y2.out.bd; omega
  have D5 := hide hd5
  have G5 := hide (grown_trans G2.out hg5)
  have Y5 := hide ((Y2.out.same (hg5.block gb (by have := Y2.out.bd; omega) (by simp; omega))).base (show w.heap.size ≤ w1b.heap.size by omega))
  cases b
  case' false => clear BX2 HD2 D2 G2 Y2 hd5 hg5
  case' true =>
    have BX5 : Hid (BoxR w5 w1.heap.size (some ⟨g, 0, none⟩) c r) := by
      obtain ⟨p0, p1, p2, p3, p4⟩ := BX2.out
      have hb5 : w5.heap[w1.heap.size]? = w2.heap[w1.heap.size]? := hg5.block _ (by omega) (by simp; omega)
      exact ⟨by omega, (World.cell?_of_block (a := ⟨w1.heap.size, 0, none⟩) hb5).trans p1, (World.cell?_of_block (a := ⟨w1.heap.size, 1, none⟩) hb5).trans p2, (World.cell?_of_block (a := ⟨w1.heap.size, 2, none⟩) hb5).trans p3, (World.cell?_of_block (a := ⟨w1.heap.size, 3, none⟩) hb5).trans p4⟩
    obtain ⟨_, x0, x1, x2, x3⟩ := BX5.out
    have HD5 := hide (show Hds w5 w2.heap.size (some ⟨g, 0, none⟩) r.hs from ((HD2.out.mono (Nat.le_refl _)).grown hg5 (Nat.le_refl _) (by omega)))
    have Y0 := Y5
    clear Y5 BX2 HD2 D2 G2 Y2 hd5 hg5 Y0
    go_wp2_with fail
    go_region_law (first
      | (go_simp
         go_at_call 46
         refine (l1BelowX (w := w5.drew) (D5.out.other (Nat.le_refl _) (fun _ _ => rfl)) 4 (by decide) (by decide)).mono ?_
         rintro e w6 ⟨⟨k6, rfl, hk6⟩, hd6, hg6'⟩
         have hg6 := grown_drewR hg6'
         have hz6 := hg6.size
         have x60 := grown_cell hg6 (b := w1.heap.size) (by omega) (by omega) x0
         have x61 := grown_cell hg6 (b := w1.heap.size) (by omega) (by omega) x1
         have x62 := grown_cell hg6 (b := w1.heap.size) (by omega) (by omega) x2
         have x63 := grown_cell hg6 (b := w1.heap.size) (by omega) (by omega) x3
         have D6 := hide hd6
         have G6 := hide (grown_trans G5.out hg6)
         have HD6 := hide (HD5.out.grown hg6 (by omega) (by omega))
         have hn6 : ¬ w1.heap.size = w6.heap.size := by omega
         have hl6 : w1.heap.size < w6.heap.size := by omega
         clear hd6 hg6 hg6')
      | (go_simp
         go_at_call 21
         refine (putC_drawnR _ [(k6 : Int), 1, 2] 3 (Ints.three _ _ _ _ _) (by simp) Q1.out q2 q3 q4 ((HD6.out.alloc (by omega) _).mono (by simp; omega))).mono ?_
         rintro e w5 ⟨⟨gb, n, cb, lb, rfl, hl, hln, hnc, hcm, hy⟩, b7⟩
         have hz7 : w6.heap.size + 1 ≤ w5.heap.size := by have := b7.size; simp at this; omega
         have D7 := hide ((D6.out.alloc _).other b7.size (fun k hk => b7.block k (by simp; omega)))
         have G7 := hide (grown_past (grown_alloc G6.out _) (b7.mono (by simp; omega)))
         have Y7 := hide (hy.base (show w.heap.size ≤ _ by simp; omega))
         clear D5 G5 hgb hy b7 D6 G6 HD6 HD5 x60 x61 x62 x63 x0 x1 x2 x3
         have D5 := D7
         have G5 := G7
         have Y5 := Y7
         have hgb : w.heap.size ≤ gb ∧ gb < w5.heap.size := by have := Y7.out.bd; omega
         clear D7 G7 Y7))
  all_goals
    go_wp2_with fail
    refine (l1BelowX D5.out 8 (by decide) (by decide)).mono ?_
    rintro e w4 ⟨⟨k, rfl, hk⟩, hd4, hg4⟩
    have hz4 := hg4.size
    have D4 := hide hd4
    have G4 := hide (grown_trans G5.out hg4)
    have Y4 := hide (Y5.out.same (hg4.block gb hgb.2 (by simp; omega)))
    have hgb4 : w.heap.size ≤ gb ∧ gb < w4.heap.size := by omega
    have hw1 : IntKind.i64.wrap ((n : Int) + 1) = (n : Int) + 1 := by rw [IntKind.wrap_i64]; omega
    clear D5 G5 Y5 hd4 hg4
    by_cases k0 : k = 0
    · subst k0
      go_wp2_with fail
      refine (strNewM D4.out bytesD _ _ 13 _ 100 rfl rfl rfl (by decide) (by decide) (by decide)).mono ?_
      rintro e w6 ⟨⟨s, rfl, hs⟩, hd6, hg6⟩
      have hcv := Lib.run_convert_string_bytes (P := Tryz.prog) w6 9 22 5 s Tryz.underlying9 Tryz.underlying22 Tryz.underlying5
      have g6 := grown_trans G4.out hg6
      have hbw := below_bytesP w6 s
      have hlt6 := hd6.lt
      have HF : Hid ((∃ v, Ending.returned (.slice (some ⟨w6.heap.size, 0, none⟩) s.size (grownCap w6 s.size 0 5)) = .returned v ∧ RetY (Lib.bytesWorld w6 5 s) w.heap.size 4000 v) ∧ DX (Lib.bytesWorld w6 5 s) N a len cap zs ∧ w.grownBy (Lib.bytesWorld w6 5 s) (some N)) :=
        hide ⟨⟨_, rfl, _, by rw [Array.length_toList]; exact Nat.le_trans hs (by decide), (OwnY.made w6 s (by omega)).base g6.size⟩, hd6.other hbw.size (fun k hk => hbw.block k (by omega)), grown_past g6 (hbw.mono g6.size)⟩
      clear hd6 hg6 D4 G4 Y4 g6 hbw
      go_wp2
      go_ret
      exact HF.out
    · have k0' : ((k : Int) == 0) = false := by apply beq_eq_false_iff_ne.2; omega
      by_cases k1 : k = 1
      · subst k1
        go_wp2_with fail
        refine (l1BelowX D4.out ((n : Int) + 1) (by omega) (by omega)).mono ?_
        rintro e w5 ⟨⟨m, rfl, hm⟩, hd5, hg5⟩
        have hz5 := hg5.size
        have B5 := hide (grown_trans G4.out hg5)
        have y5 := Y4.out.same (hg5.block gb hgb4.2 (by simp; omega))
        have I5 := hide (Ins.start hd5 y5 (by omega))
        have hm' : m ≤ n := by omega
        have hmi : (m : Int) ≤ (n : Int) := by omega
        have hmc : (m : Int) ≤ (cb : Int) := by omega
        have hnci : (n : Int) ≤ (cb : Int) := by omega
        have Y5 := hide y5
        clear hd5 hg5 D4 G4 Y4 y5
        go_wp2_with fail
        have ht1 : (lb.take m).length = m := by rw [List.length_take]; omega
        have hd1 : (lb.drop m).length = n - m := by rw [List.length_drop]; omega
        have hlc : lb.length ≤ cb := by omega
        have hm3 : m ≤ 2000 := by omega
        go_region_law (first
          | (refine Ins.append I3.out rfl _ _ rfl g3 (m + 1) c3 (lb.take m ++ [x]) rfl O3.out _ (n - m) (n + 1) (cb - m) (lb.drop m) rfl (tail_some gb m cb) hd1 (fun h => h.back m cb hlc) (by omega) (by omega) ?_
             intro g4 c4 W4 o4 i4 gr4
             have O4 := hide o4
             have I4 := hide i4
             clear o4 i4 gr4)
          | (refine Ins.append (I2.out.alloc _) rfl _ _ rfl g1 m c1 (lb.take m) rfl (O2.out.alloc _) _ 1 (m + 1) 1 [x] rfl ⟨_, _, rfl⟩ rfl (fun _ => byt_one W2 x) rfl (by omega) ?_
             intro g3 c3 W3 o3 i3 gr3
             have O3 := hide o3
             have I3 := hide i3
             clear o3 i3 gr3)
          | (refine Ins.append (by first | exact (I5.out.alloc _).drew | exact ((I5.out.alloc _).alloc _).drew) rfl _ _ rfl _ 0 0 [] rfl (OwnY.bareAt (by first | exact heap_alloc_new _ _ | exact heap_first _ _ _ | exact heap_second _ _ _) (by first | exact Nat.le_refl _ | exact Nat.le_succ _)) _ m m cb (lb.take m) rfl ⟨_, _, rfl⟩ ht1 (fun h => h.front m) (Nat.zero_add _) (by omega) ?_
             intro g1 c1 W1 o1 i1 gr1
             have O1 := hide o1
             have I1 := hide i1
             have G1 := hide gr1
             clear o1 i1 gr1)
          | (go_simp
             go_at_call 48
             refine (Ins.int (by first | exact I1.out.alloc _ | exact I1.out) bytesI _ 3 7 _ (by first | exact I1.out.gr.size | exact Nat.le_refl _ | exact Nat.le_succ _) rfl rfl (by decide) (by decide) (by decide) (by first | exact heap_alloc_new _ _ | exact (G1.out.block _ (by first | (simp; done) | (simp; omega)) (by first | (simp; done) | (simp; omega))).trans (heap_first _ _ _) | exact (G1.out.block _ (by first | (simp; done) | (simp; omega)) (by first | (simp; done) | (simp; omega))).trans (heap_second _ _ _))).mono ?_
             rintro e W2 ⟨⟨x, rfl⟩, i2, gr2⟩
             have hwx := wrap_u8 x
             have o2 : OwnY W2 w5.heap.size (.slice (some ⟨g1, 0, none⟩) m c1) (lb.take m) := by
               have hb1 := O1.out.bd
               have hN1 := I1.out.hN
               first
                 | exact (O1.out.alloc _).same (gr2.block g1 (by simp; omega) (by simp; omega))
                 | exact O1.out.same (gr2.block g1 (by omega) (by simp; omega))
             have O2 := hide o2
             have I2 := hide i2
             clear o2 i2 gr2))
        all_goals
          have HF : Hid ((∃ v, Ending.returned (.slice (some ⟨g4, 0, none⟩) (n + 1) c4) = .returned v ∧ RetY W4 w.heap.size 4000 v) ∧ DX W4 N a len cap zs ∧ w.grownBy W4 (some N)) := hide ⟨⟨_, rfl, _, by rw [O4.out.bd.1]; omega, O4.out.base B5.out.size⟩, I4.out.dx, grown_trans B5.out I4.out.gr⟩
          go_wp2 <;>
          (go_ret
           exact HF.out)
      · have k1' : ((k : Int) == 1) = false := by apply beq_eq_false_iff_ne.2; omega
        by_cases k2 : k = 2
        · subst k2
          go_wp2_with fail
          refine (l1BelowX D4.out ((n : Int) + 1) (by omega) (by omega)).mono ?_
          rintro e w5 ⟨⟨m, rfl, hm⟩, hd5, hg5⟩
          have B5 := hide (grown_trans G4.out hg5)
          have y5 := Y4.out.same (hg5.block gb hgb4.2 (by simp; omega))
          have hmc : (m : Int) ≤ (cb : Int) := by omega
          have HF : Hid ((∃ v, Ending.returned (.slice (some ⟨gb, 0, none⟩) m cb) = .returned v ∧ RetY w5 w.heap.size 4000 v) ∧ DX w5 N a len cap zs ∧ w.grownBy w5 (some N)) := hide ⟨⟨_, rfl, _, by rw [List.length_take]; omega, y5.take m (by omega)⟩, hd5, B5.out⟩
          clear hd5 hg5 D4 G4 Y4 y5
          go_wp2
          go_ret
          exact HF.out
        · have k2' : ((k : Int) == 2) = false := by apply beq_eq_false_iff_ne.2; omega
          by_cases k3 : k = 3
          · subst k3
            go_wp2_with fail
            refine (l1OnceX D4.out 4 (by decide) (by decide)).mono ?_
            rintro e w6 ⟨⟨b, rfl⟩, hd6, hg6⟩
            have hz6 := hg6.size
            have D6 := hide hd6
            have G6 := hide (grown_trans G4.out hg6)
            have Y6 := hide (Y4.out.same (hg6.block gb hgb4.2 (by simp; omega)))
            clear hd6 hg6 D4 G4 Y4
            cases b
            · have HF : Hid ((∃ v, Ending.returned (.slice (some ⟨gb, 0, none⟩) n cb) = .returned v ∧ RetY w6 w.heap.size 4000 v) ∧ DX w6 N a len cap zs ∧ w.grownBy w6 (some N)) := hide ⟨⟨_, rfl, _, by omega, Y6.out⟩, D6.out, G6.out⟩
              go_wp2
              go_ret
              exact HF.out
            · go_wp2_with fail
              refine (l1BelowX D6.out 4 (by decide) (by decide)).mono ?_
              rintro e w7 ⟨⟨q, rfl, hq⟩, hd7, hg7⟩
              obtain ⟨n7, hn7⟩ : ∃ n7 : Nat, n7 = 399 + q := ⟨_, rfl⟩
              have hnb : n7 ≤ 500 := by omega
              have hw7 : IntKind.i64.wrap (399 + (q : Int)) = (n7 : Int) := by rw [IntKind.wrap_i64]; omega
              have hmk := run_make_row' (P := Tryz.prog) 22 5 (.int .u8 0) 1 Tryz.underlying22 info_u8b rfl .i64 .i64 n7 (by omega) (by omega) w7
              have g7 := grown_trans G6.out hg7
              have HF : Hid ((∃ v, Ending.returned (.slice (some ⟨w7.heap.size, 0, none⟩) n7 n7) = .returned v ∧ RetY (w7.alloc (.cells (madeCells #[.int .u8 0] n7) 5)) w.heap.size 4000 v) ∧ DX (w7.alloc (.cells (madeCells #[.int .u8 0] n7) 5)) N a len cap zs ∧ w.grownBy (w7.alloc (.cells (madeCells #[.int .u8 0] n7) 5)) (some N)) :=
                hide ⟨⟨_, rfl, _, by rw [List.length_replicate]; omega, (OwnY.zeros w7 n7 (by omega)).base g7.size⟩, hd7.alloc _, grown_alloc g7 _⟩
              clear hd7 hg7 D6 G6 Y6 g7 hn7
              go_wp2
              go_ret
              exact HF.out
          · have k3' : ((k : Int) == 3) = false := by apply beq_eq_false_iff_ne.2; omega
            have HF : Hid ((∃ v, Ending.returned (.slice (some ⟨gb, 0, none⟩) n cb) = .returned v ∧ RetY w4 w.heap.size 4000 v) ∧ DX w4 N a len cap zs ∧ w.grownBy w4 (some N)) := hide ⟨⟨_, rfl, _, by omega, Y4.out⟩, D4.out, G4.out⟩
            go_wp2
            go_ret
            exact HF.out
end Go.Proofs.YtanebchmeaomgaaGreatDoor
