/-
  Plain facts: a request comes back of its bytes: no program in sight.
  What an open wire does: requests are read as long as there are any.
  What Feed and FeedAll do.
  What the program's Feed and FeedAll do.
  What the program's putHead does.
  What the specification's l3HeadsText does; bytes that are made.
  What the program's putLines does.
  What the program's headsOk does.
  What the program's headsOk and ReqOk do.
  What the program's putAhead does.
  The library's table of powers of ten, as the row lists it; that it stays where only new memory is laid.
  What the program's NumText does.
-/
import Derived.Test.YtanebchmeaomgaaGreatDoorSameReqI
import Derived.Test.YtanebchmeaomgaaGreatDoorMathResp
import Derived.Test.YtanebchmeaomgaaGreatDoorMathPutC
import Derived.Deep.RegionLaw
import Derived.Test.YtanebchmeaomgaaGreatDoorMathGet
import Derived.Lib.SliceRun
import Derived.Test.YtanebchmeaomgaaGreatDoorMathSmall
import Derived.Deep.RegionHeld3
import Derived.Lib.ConvBytes
import Derived.Lib.ItoaLen
import Derived.Test.YtanebchmeaomgaaGreatDoorOwnBytes
import Derived.Test.YtanebchmeaomgaaGreatDoorRows
import Derived.Test.YtanebchmeaomgaaGreatDoorShelf
import Derived.WalkKit
import Derived.WalkLawsBesides
import Derived.Lib.AppendIntMem
import Derived.Stop.LaidErr
namespace Go.Proofs.YtanebchmeaomgaaGreatDoor.M

theorem low_kind : ∀ n : Fin 256, anyB ((UInt8.ofNat n.val).toNat : Int) [2, 4, 7] = true → lowB (UInt8.ofNat n.val) = UInt8.ofNat n.val := by decide +kernel
theorem low_sm {l : List UInt8} (h : allB l [2, 4, 7] = true) : lowL l = l := by
  unfold lowL
  rw [show l.map lowB = l.map id from List.map_congr_left fun c hc => ?_, List.map_id]
  have h1 : anyB (c.toNat : Int) [2, 4, 7] = true := by
    have := List.all_eq_true.1 h c hc
    simpa using this
  have h2 := low_kind ⟨c.toNat, c.toNat_lt⟩
  simp only [UInt8.ofNat_toNat] at h2
  exact h2 h1
theorem headS_line {h : Hd} (hb : hdB h = true) : headS (hdLine h) = some h := by
  obtain ⟨h1, h2, _, _, _, h6⟩ := hd_facts hb
  have hc : cut1 58 (hdLine h) = some (h.1.data.toList, 32 :: h.2.data.toList) := cut1_some.2 ⟨by simp [hdLine], h2⟩
  have hm : mkH h.1.data.toList (32 :: h.2.data.toList) = h := by
    unfold mkH
    rw [low_sm (sm_all h1).1, trimL_front 32 _ (by decide), h6]
    exact Prod.ext (bytesOf_self _) (bytesOf_self _)
  unfold headS
  rw [hc]
  simp only
  rw [hm, if_pos hb]
theorem headsS_lines : ∀ hs : List Hd, (∀ x ∈ hs, hdB x = true) → headsS (hs.map hdLine) = some hs := by
  intro hs
  induction hs with
  | nil => intro _; rfl
  | cons x hs ih =>
    intro h
    rw [List.map_cons, headsS, headS_line (h x (by simp))]
    simp only
    rw [ih (fun y hy => h y (by simp [hy]))]
    rfl
def topR (r : Rq) : List UInt8 := r.m.data.toList ++ (32 :: (r.p.data.toList ++ (32 :: proto)))
def linesR (r : Rq) (ts : List Hd) : List (List UInt8) := topR r :: (r.hs ++ ts).map hdLine
theorem frontL_flat (r : Rq) (ts : List Hd) : frontL r (hdsTxt ts) = flatE (linesR r ts) ++ [13, 10] := by
  unfold frontL linesR
  rw [flatE_cons, hdsTxt_flat, hdsTxt_flat]
  simp [flatE, crlf, topTxt, topR]
theorem req_parts {r : Rq} (h : reqB r = true) : methB r.m = true ∧ targB r.p = true ∧ (∀ x ∈ r.hs, hdFree x = true) ∧ r.hs.length ≤ 8 ∧ r.b.size ≤ 200 := by
  simp only [reqB, hdsB, Bool.and_eq_true, decide_eq_true_eq, List.all_eq_true] at h
  exact ⟨h.1, h.2.1, h.2.2.1.1, h.2.2.1.2, h.2.2.2⟩
theorem linesR_ok {r : Rq} {ts : List Hd} (h : reqB r = true) (ht : ∀ x ∈ ts, hdB x = true) : ∀ x ∈ linesR r ts, lineOk x := by
  obtain ⟨h1, h2, h3, _⟩ := req_parts h
  rw [← bytesOf_self r.m] at h1
  rw [← bytesOf_self r.p] at h2
  obtain ⟨a1, _, a3⟩ := meth_no h1
  obtain ⟨b1, _, _⟩ := targ_no h2
  intro x hx
  rcases List.mem_cons.1 hx with rfl | hx
  · refine ⟨fun e => a3 (List.append_eq_nil_iff.1 e).1, fun e => ?_⟩
    rcases List.mem_append.1 e with e | e
    · exact a1 e
    · rcases List.mem_cons.1 e with e | e
      · cases e
      · rcases List.mem_append.1 e with e | e
        · exact b1 e
        · revert e; decide
  · obtain ⟨y, hy, rfl⟩ := List.mem_map.1 hx
    rcases List.mem_append.1 hy with hy | hy
    · exact hdLine_ok (free_hd (h3 y hy)).1
    · exact hdLine_ok (ht y hy)
theorem readI_lines {r : Rq} {ts : List Hd} (h : reqB r = true) (ht : ∀ x ∈ ts, hdB x = true) : readI (flatE (linesR r ts)) = some (r.m, r.p, r.hs ++ ts) := by
  obtain ⟨h1, h2, h3, _⟩ := req_parts h
  have h1' := h1
  have h2' := h2
  rw [← bytesOf_self r.m] at h1'
  rw [← bytesOf_self r.p] at h2'
  obtain ⟨_, a2, _⟩ := meth_no h1'
  obtain ⟨_, b2, _⟩ := targ_no h2'
  have hall : ∀ x ∈ r.hs ++ ts, hdB x = true := fun x hx => by
    rcases List.mem_append.1 hx with hx | hx
    · exact (free_hd (h3 x hx)).1
    · exact ht x hx
  have hno : ∀ l ∈ (r.hs ++ ts).map hdLine, noEnd l := fun l hl => noEnd_of (linesR_ok h ht l (List.mem_cons_of_mem _ hl)).2
  unfold linesR
  rw [flatE_cons]
  have c1 : cut1 32 (topR r ++ 13 :: 10 :: flatE ((r.hs ++ ts).map hdLine)) = some (r.m.data.toList, r.p.data.toList ++ 32 :: (proto ++ 13 :: 10 :: flatE ((r.hs ++ ts).map hdLine))) := cut1_some.2 ⟨by simp [topR], a2⟩
  have c2 : cut1 32 (r.p.data.toList ++ 32 :: (proto ++ 13 :: 10 :: flatE ((r.hs ++ ts).map hdLine))) = some (r.p.data.toList, proto ++ 13 :: 10 :: flatE ((r.hs ++ ts).map hdLine)) := cut1_some.2 ⟨rfl, b2⟩
  have c3 : cut2 (proto ++ 13 :: 10 :: flatE ((r.hs ++ ts).map hdLine)) = some (proto, flatE ((r.hs ++ ts).map hdLine)) := cut2_app _ (noEnd_of (by decide))
  unfold readI
  rw [c1]
  simp only
  rw [if_pos h1', c2]
  simp only
  rw [if_pos h2', c3]
  simp only
  rw [if_pos trivial, headsI_lines _ _ hno (Nat.lt_succ_self _), headsS_lines _ hall]
  simp [bytesOf_self]
theorem front_end {r : Rq} {ts : List Hd} (h : reqB r = true) (ht : ∀ x ∈ ts, hdB x = true) (h4 : (frontL r (hdsTxt ts)).length ≤ 400) (q : List UInt8) : heL (frontL r (hdsTxt ts) ++ q) = ((frontL r (hdsTxt ts)).length : Int) := by
  obtain ⟨n, h1, h2⟩ := idx_lines q (linesR r ts) (by simp [linesR]) (linesR_ok h ht)
  have e : frontL r (hdsTxt ts) ++ q = flatE (linesR r ts) ++ (13 :: 10 :: q) := by rw [frontL_flat]; simp
  have hl : (frontL r (hdsTxt ts)).length = n + 4 := by rw [frontL_flat]; simp; omega
  rw [← e] at h1
  have h5 := idx_here (j := 400) h1 (by omega)
  unfold heL
  rw [h5, if_pos (by omega), hl]
  omega
theorem front_read {r : Rq} {ts : List Hd} (h : reqB r = true) (ht : ∀ x ∈ ts, hdB x = true) (q : List UInt8) : readI ((frontL r (hdsTxt ts) ++ q).take ((frontL r (hdsTxt ts)).length - 2)) = some (r.m, r.p, r.hs ++ ts) := by
  have : (frontL r (hdsTxt ts) ++ q).take ((frontL r (hdsTxt ts)).length - 2) = flatE (linesR r ts) := by
    rw [frontL_flat]; simp
  rw [this, readI_lines h ht]
theorem lens_free {hs : List Hd} (h : ∀ x ∈ hs, hdFree x = true) : lensOf hs = [] ∧ codsOf hs = [] ∧ othOf hs = hs := by
  refine ⟨List.filter_eq_nil_iff.2 fun x hx => ?_, List.filter_eq_nil_iff.2 fun x hx => ?_, List.filter_eq_self.2 fun x hx => ?_⟩
  · simp [(free_hd (h x hx)).2.1]
  · simp [(free_hd (h x hx)).2.2]
  · simp [(free_hd (h x hx)).2.1, (free_hd (h x hx)).2.2]
theorem lens_app (a b : List Hd) : lensOf (a ++ b) = lensOf a ++ lensOf b ∧ codsOf (a ++ b) = codsOf a ++ codsOf b ∧ othOf (a ++ b) = othOf a ++ othOf b := by simp [lensOf, codsOf, othOf]
theorem val_dec {n : Nat} (h : n ≤ 9999999) : hdB (lenH n) = true := by
  obtain ⟨_, h2, h3, _⟩ := dec_back n n (Nat.le_refl _)
  have h5 := dec_len 6 n (by omega)
  have hk : ∀ c ∈ Lib.decDigits n, 48 ≤ c.toNat ∧ c.toNat ≤ 57 := fun c hc => by
    have := List.all_eq_true.1 h2 c hc
    simp [anyB, isB] at this
    omega
  have hb : ∀ c ∈ Lib.decDigits n, bl c = false := fun c hc => by
    have := hk c hc
    simp [bl, isB]
    omega
  have hp : allB (Lib.decDigits n) [0] = true := List.all_eq_true.2 fun c hc => by
    have := hk c hc
    simp [anyB, isB]
    omega
  have ht : trimL (Lib.decDigits n) = Lib.decDigits n := trimL_done _ (by omega) (hb _ (List.getElem_mem _)) (hb _ (List.getElem_mem _))
  have hz : (bytesOf (Lib.decDigits n)).size = (Lib.decDigits n).length := by simp [bytesOf, ByteArray.size]
  have h7 : smB lenName.data.toList = true := by decide
  unfold hdB valB
  rw [Bool.and_eq_true, Bool.and_eq_true, Bool.and_eq_true, decide_eq_true_eq, decide_eq_true_eq]
  refine ⟨h7, ?_, hp, ht⟩
  show (bytesOf (Lib.decDigits n)).size ≤ 60
  omega
def chkH : Hd := (codName, ⟨#[99, 104, 117, 110, 107, 101, 100]⟩)
theorem chkH_ok : hdB chkH = true ∧ codOk chkH = true ∧ lensOf [chkH] = [] ∧ codsOf [chkH] = [chkH] ∧ othOf [chkH] = [] := by decide +kernel
theorem lenH_parts (n : Nat) : lensOf [lenH n] = [lenH n] ∧ codsOf [lenH n] = [] ∧ othOf [lenH n] = [] := by
  refine ⟨?_, ?_, ?_⟩
  · simp [lensOf, lenH]
  · have : ¬ lenName = codName := by decide
    simp [codsOf, lenH, this]
  · simp [othOf, lenH]
theorem lenH_num {n : Nat} (h : n ≤ 9999999) : numOk (lenH n) = true ∧ numOf (lenH n) = n := by
  have := parse_dec n 9999999 (by omega) (by omega)
  have e : (lenH n).2.data.toList = Lib.decDigits n := rfl
  unfold numOk numOf
  rw [e, this]
  exact ⟨rfl, by simp⟩
/-- A request comes back of what stands ahead of its body and of its body. -/
theorem round_any {r : Rq} {ts : List Hd} {rest : List UInt8} {n : Nat} (h : reqB r = true) (ht : ∀ x ∈ ts, hdB x = true) (h4 : (frontL r (hdsTxt ts)).length ≤ 400) (hf : frameC (r.hs ++ ts) = 0) (ho : othOf ts = [])
    (hb : bodyL (frontL r (hdsTxt ts) ++ rest) (frontL r (hdsTxt ts)).length (r.hs ++ ts) = (r.b.data.toList, n, 0)) : getR (frontL r (hdsTxt ts) ++ rest) = (r, n, 0) := by
  have he := front_end h ht h4 rest
  have hr := front_read h ht rest
  have e2 : (heL (frontL r (hdsTxt ts) ++ rest)).toNat = (frontL r (hdsTxt ts)).length := by rw [he]; simp
  rw [← e2] at hr hb
  have := getR_good (by rw [he]; omega) hr hf (by rw [hb])
  rw [this, hb, (lens_app _ _).2.2, ho, List.append_nil, (lens_free (req_parts h).2.2.1).2.2, bytesOf_self]
theorem bodyLine_ts (b : ByteArray) : bodyLine b = hdsTxt (if b.size = 0 then [] else [lenH b.size]) := by
  unfold bodyLine
  split
  · rfl
  · simp [hdsTxt, lenLine, hdTxt, lenTag, lenH, lenName, bytesOf]
/-- A request comes back of its bytes, whatever stands behind. -/
theorem putL_back {r : Rq} (h : putL r ≠ []) (q : List UInt8) : reqB r = true ∧ getR (putL r ++ q) = (r, (putL r).length, 0) := by
  unfold putL put0 at h ⊢
  rw [bodyLine_ts] at h ⊢
  by_cases hc : reqB r = true ∧ (frontL r (hdsTxt (if r.b.size = 0 then [] else [lenH r.b.size]))).length ≤ 400
  · rw [if_pos hc]
    refine ⟨hc.1, ?_⟩
    obtain ⟨_, _, p3, p4, p5⟩ := req_parts hc.1
    obtain ⟨f1, f2, f3⟩ := lens_free p3
    have eb : r.b.data.toList.length = r.b.size := Array.length_toList
    rw [List.append_assoc]
    by_cases hz : r.b.size = 0
    · rw [if_pos hz] at hc ⊢
      have h0 : r.b.data.toList = [] := List.length_eq_zero_iff.1 (by omega)
      refine round_any hc.1 (by simp) hc.2 ?_ rfl ?_
      · rw [List.append_nil]; unfold frameC; simp [f1, f2, f3]; omega
      · rw [List.append_nil]
        unfold bodyL chkF lenF
        rw [f1, f2, h0]
        simp
    · rw [if_neg hz] at hc ⊢
      obtain ⟨g1, g2, g3⟩ := lenH_parts r.b.size
      obtain ⟨n1, n2⟩ := lenH_num (n := r.b.size) (by omega)
      refine round_any hc.1 (by intro x hx; obtain rfl := List.mem_singleton.1 hx; exact val_dec (by omega)) hc.2 ?_ g3 ?_
      · unfold frameC
        rw [(lens_app _ _).1, (lens_app _ _).2.1, (lens_app _ _).2.2, f1, f2, f3, g1, g2, g3]
        simp [n1, n2]
        omega
      · unfold bodyL chkF lenF
        rw [(lens_app _ _).1, (lens_app _ _).2.1, f1, f2, g1, g2]
        simp only [List.nil_append, List.isEmpty_nil, Bool.not_true, n2]
        rw [if_neg (by decide), if_neg (by simp [eb]), List.drop_left' rfl, List.take_left' eb]
        simp [eb]
  · rw [if_neg hc] at h
    exact absurd rfl h
/-- A request comes back of its bytes in pieces, whatever stands behind. -/
theorem putC_back {r : Rq} {ns : List Int} (h : put0 r (hdsTxt [chkH]) (putCs ns r.b.data.toList) ≠ []) (q : List UInt8) : reqB r = true ∧ getR (put0 r (hdsTxt [chkH]) (putCs ns r.b.data.toList) ++ q) = (r, (put0 r (hdsTxt [chkH]) (putCs ns r.b.data.toList)).length, 0) := by
  unfold put0 at h ⊢
  by_cases hc : reqB r = true ∧ (frontL r (hdsTxt [chkH])).length ≤ 400
  · rw [if_pos hc]
    refine ⟨hc.1, ?_⟩
    obtain ⟨_, _, p3, p4, p5⟩ := req_parts hc.1
    obtain ⟨f1, f2, f3⟩ := lens_free p3
    have eb : r.b.data.toList.length = r.b.size := Array.length_toList
    obtain ⟨k1, k2, g1, g2, g3⟩ := chkH_ok
    rw [List.append_assoc]
    refine round_any hc.1 (by intro x hx; obtain rfl := List.mem_singleton.1 hx; exact k1) hc.2 ?_ g3 ?_
    · unfold frameC
      rw [(lens_app _ _).1, (lens_app _ _).2.1, (lens_app _ _).2.2, f1, f2, f3, g1, g2, g3]
      simp [k2]
      omega
    · have := chunks_back (frontL r (hdsTxt [chkH])) q ns r.b.data.toList (by omega)
      unfold bodyL chkF
      rw [(lens_app _ _).2.1, f2, g2]
      simp only [List.nil_append, List.isEmpty_cons, Bool.not_false, if_true]
      rw [this]
      simp
  · rw [if_neg hc] at h
    exact absurd rfl h
end Go.Proofs.YtanebchmeaomgaaGreatDoor.M
namespace Go.Proofs.YtanebchmeaomgaaGreatDoor
open Go.RowKit M
set_option linter.unusedVariables false

/-- How many bytes are not yet read. -/
def unreadLen (w : World) (N : Nat) : Nat := match w.cell? ⟨N, 0, none⟩ with | some (.slice _ n _) => n | _ => 0
theorem WireEx.unread {w : World} {N B : Nat} {uv rv : Value} {l : List UInt8} {bad : Int} {qs : List Rv} (h : WireEx w N B uv l bad rv qs) : unreadLen w N = l.length := by
  obtain ⟨a, c, rfl, _⟩ := h.buf.slice
  unfold unreadLen
  rw [(box3 h.box).1]
theorem WireEx.next {w w' : World} {N B : Nat} {uv rv : Value} {l : List UInt8} {bad : Int} {qs : List Rv} (h : WireEx w N B uv l bad rv qs) (hb : Below w.heap.size w w') : WireEx w' N B uv l bad rv qs :=
  ⟨(hb.block N h.lt).trans h.box, h.buf.next hb, h.row.next hb, h.apart, h.sep⟩
/-- One request more. -/
theorem WireEx.pushed {w w4 : World} {N B : Nat} {uv rv : Value} {l : List UInt8} {bad : Int} {qs : List Rv} {q : Rv} {g cap : Nat} (h : WireEx w N B uv l bad rv qs) (hBN : B ≤ N)
    (ho : RowsQ w4 B (.slice (some ⟨g, 0, none⟩) (qs.length + 1) cap) (qs ++ [q])) (hg : w.grownBy w4 rv.ownBlock) (hwh : rv.ownBlock = some g ∨ g = w.heap.size) (hq : ∀ x, uv.ownBlock = some x → q.2.ownBlock ≠ some x) (hqN : q.2.ownBlock ≠ some N) :
    w4.heap[N]? = some (Obj.cells #[uv, .int .i64 bad, rv] 114) ∧ WireEx (w4.setCell ⟨N, 2, none⟩ (.slice (some ⟨g, 0, none⟩) (qs.length + 1) cap)) N B uv l bad (.slice (some ⟨g, 0, none⟩) (qs.length + 1) cap) (qs ++ [q]) ∧ Below B w (w4.setCell ⟨N, 2, none⟩ (.slice (some ⟨g, 0, none⟩) (qs.length + 1) cap)) := by
  have hb4 : w4.heap[N]? = some (Obj.cells #[uv, .int .i64 bad, rv] 114) := (hg.block N h.lt (fun e => h.sep.r e.symm)).trans h.box
  have hgN : g ≠ N := by
    rintro rfl
    rcases hwh with e | e
    · exact h.sep.r e
    · have := h.lt; omega
  have sp : SepN N uv (.slice (some ⟨g, 0, none⟩) (qs.length + 1) cap) (qs ++ [q]) := ⟨h.sep.u, fun e => hgN (Option.some.inj e), fun p hp => by
    rcases List.mem_append.1 hp with hp | hp
    · exact h.sep.q p hp
    · simp at hp; subst hp; exact hqN⟩
  refine ⟨hb4, ⟨set_heap hb4 2 _, ?_, ho.of (fun x hx => Below.heap_setCell _ _ _ _ (sp.row x hx)), fun x hx => ⟨fun e => ?_, fun p hp => ?_⟩, sp⟩, ?_⟩
  · refine h.buf.of (fun x hx => ?_)
    have hx2 := h.buf.lt x hx
    rw [Below.heap_setCell _ _ _ _ (show x ≠ N from fun e => h.sep.u (by rw [hx, e]))]
    exact hg.block x hx2.2 (fun e => (h.apart x hx).1 e.symm)
  · have e' : g = x := Option.some.inj e
    subst e'
    rcases hwh with e | e
    · exact (h.apart g hx).1 e
    · have := (h.buf.lt g hx).2; omega
  · rcases List.mem_append.1 hp with hp | hp
    · exact (h.apart x hx).2 p hp
    · simp at hp; subst hp; exact hq x hx
  · exact (Below.grown (Below.refl B w) hg (by have := h.lt; omega) (fun k hk => (h.row.lt k (.inl hk)).1)).setCell (p := ⟨N, 2, none⟩) hBN _

set_option maxRecDepth 100000 in
set_option maxHeartbeats 4000000 in
theorem read_any (N B : Nat) (w : World) (l : List UInt8) (rs : List Rq) (mx : Int) (h : WireSt w N B l 0 rs) (hBN : B ≤ N) (hl : l.length ≤ 4194304) (hr : rs.length + l.length ≤ 100000000) (h0 : 0 < B) (hmx : w.cell? ⟨0, 0, none⟩ = some (.int .i64 mx)) :
    Calls Tryz.prog 77 #[.pointer (some ⟨N, 0, none⟩)] w fun e w' => (∃ v, e = .returned v) ∧ WireSt w' N B (drainL l).2.1 (drainL l).2.2 (rs ++ (drainL l).1) ∧ Below B w w' := by
  obtain ⟨uv, rv, qs, hE, hqs⟩ := h.ex
  have HE := hide hE
  have hql : qs.length = rs.length := by rw [← hqs, List.length_map]
  have HM := hide (fun (W : World) (hb : Below B w W) => (hb.cell (p := ⟨0, 0, none⟩) h0).trans hmx)
  subst hqs
  clear h hE hmx
  go_enter Tryz.func77, Tryz.ntmps77
  go_wp2
  go_loopw [] (fun wr => ∃ (uv rv : Value) (l' : List UInt8) (ps : List Rv), WireEx wr N B uv l' 0 rv ps ∧ ps.map Prod.fst ++ (drainL l').1 = qs.map Prod.fst ++ (drainL l).1 ∧ (drainL l').2 = (drainL l).2 ∧ ps.length + l'.length ≤ 100000000 ∧ l'.length ≤ 4194304 ∧ Below B w wr) (fun wr => unreadLen wr N)
  case atStart => exact ⟨uv, rv, l, qs, HE.out, rfl, rfl, by rw [hql]; simpa using hr, hl, Below.refl _ _⟩
  case round =>
    clear HE hql hr
    obtain ⟨uv, rv, l', ps, hE, hd1, hd2, hpl, hll, hbe⟩ := hrel
    have hN := hE.lt
    have HU := hide hE.unread
    have HT := hide (take_any N B wr uv rv l' 0 ps mx hE hBN hll (by omega) (HM.out wr hbe))
    have hgood : (getR l').2.2 = 0 → 0 < (getR l').2.1 ∧ (getR l').2.1 ≤ l'.length ∧ (getR l').1.hs.length ≤ 8 := fun hc => ⟨getR_pos hc, (getR_ok hc).2, (req_parts (getR_ok hc).1).2.2.2.1⟩
    have HGood := hide (fun hc => drain_good (l := l') hc)
    have HMore := hide (fun hc => drain_more (l := l') hc)
    have HBad := hide (fun hc hc' => drain_bad (l := l') hc hc')
    have HZero := hide (fun hc => (getR_bad (l := l') hc).2)
    obtain ⟨R, n, C, hR⟩ : ∃ R n C, getR l' = (R, n, C) := ⟨_, _, _, rfl⟩
    rw [hR] at HT hgood HGood HMore HBad HZero
    have HE := hide hE
    have HD1 := hide hd1
    have HD2 := hide hd2
    have HBe := hide hbe
    clear hE hd1 hd2 hbe hR
    go_wp2_with fail
    refine HT.out.mono ?_
    rintro e w1 ⟨⟨hv, rfl, hrow⟩, ⟨uv1, E1, hsame⟩, b1⟩
    obtain ⟨ah, ch, rfl, hdd⟩ := RowsH.hds hrow
    have hN1 := E1.lt
    obtain ⟨ar, cr, hrv, _⟩ := E1.row.rqs
    subst hrv
    obtain ⟨w2, hw2⟩ : ∃ w2, w1.alloc (Obj.cells #[.string R.m, .string R.p, .slice ah R.hs.length ch, .string R.b] 39) = w2 := ⟨_, rfl⟩
    have b2 : Below w1.heap.size w1 w2 := by rw [← hw2]; exact (Below.refl _ _).alloc (Nat.le_refl _) _
    have r2 : w2.heap[w1.heap.size]? = some (Obj.cells #[.string R.m, .string R.p, .slice ah R.hs.length ch, .string R.b] 39) := by rw [← hw2]; exact heap_alloc_new w1 _
    have s2 : w1.heap.size < w2.heap.size := by rw [← hw2]; simp
    have E2 := E1.next b2
    have c2 : Below B w w2 := (HBe.out.trans b1).trans (b2.mono (by omega))
    obtain ⟨x0, x1, x2, f0, f1, f2⟩ := box3 E2.box
    obtain ⟨p0, p1, p2, p3, _, _, _, _⟩ := ReqB.cells r2
    have hblk : ∀ x, (Value.slice ah R.hs.length ch).ownBlock = some x → wr.heap.size ≤ x := fun x hx => (RowsH.lt hrow x hx).1
    have hapU : ∀ x, uv1.ownBlock = some x → (Value.slice ah R.hs.length ch).ownBlock ≠ some x := fun x hx e => by
      have h1 := hblk x e
      have h2 := (HE.out.buf.lt x (hsame x hx)).2
      omega
    have hapR : ∀ v : Value, (∀ x, v.ownBlock = some x → x < wr.heap.size) → ApartV v (.slice ah R.hs.length ch) := fun v hv => by
      cases e : v.ownBlock with
      | none => exact .inl e
      | some x =>
        right
        intro e2
        have h1 := hblk x (by rw [← e2, e])
        have h2 := hv x e
        omega
    have hhN : (Value.slice ah R.hs.length ch).ownBlock ≠ some N := fun e => by have := hblk N e; omega
    have HHN := hide hhN
    have hrow2 : RowsH w2 B (.slice ah R.hs.length ch) R.hs := RowsH.base (ownsH_below hrow b2) (by omega)
    have hqa := hapR _ (fun x hx => (HE.out.row.lt x (.inl hx)).2)
    have hqs : ∀ p ∈ ps, ApartV p.2 (.slice ah R.hs.length ch) := fun p hp => hapR _ (fun x hx => (HE.out.row.lt x (.inr ⟨p, hp, hx⟩)).2)
    have EE := hide E2
    have HR2 := hide hrow2
    have HQA := hide hqa
    have HQS := hide hqs
    have HAU := hide hapU
    have HC2 := hide c2
    clear hhN HT hrow hdd b1 b2 r2 E1 E2 c2 hblk hapU hapR hrow2 hqa hqs hsame f0
    by_cases hC : C = 0
    · subst hC
      obtain ⟨hn1, hn2, hn3⟩ := hgood rfl
      have hDr := HGood.out rfl
      have HDr := hide hDr
      have bD : Below w2.heap.size w2 (w2.alloc (Obj.cells #[.string R.m, .string R.p, .slice ah R.hs.length ch, .string R.b] 39)).drew := ((Below.refl w2.heap.size w2).alloc (Nat.le_refl _) _).drew
      have x2a : (w2.alloc (Obj.cells #[.string R.m, .string R.p, .slice ah R.hs.length ch, .string R.b] 39)).cell? ⟨N, 2, none⟩ = some (.slice ar ps.length cr) := (bD.cell (p := ⟨N, 2, none⟩) (show N < w2.heap.size by omega)).trans x2
      have ED := hide (EE.out.next bD)
      have HRD := hide (ownsH_below HR2.out bD)
      have HCD := hide (HC2.out.trans (bD.mono (by omega)))
      have hlen1 : ps.length + 1 ≤ 1000000000 := by omega
      have hz3 : B ≤ (w2.alloc (Obj.cells #[.string R.m, .string R.p, .slice ah R.hs.length ch, .string R.b] 39)).drew.heap.size := by simp; omega
      have k0 : (w2.alloc (Obj.cells #[.string R.m, .string R.p, .slice ah R.hs.length ch, .string R.b] 39)).drew.cell? ⟨w2.heap.size, 0, none⟩ = some (.string R.m) := by simp
      have k1 : (w2.alloc (Obj.cells #[.string R.m, .string R.p, .slice ah R.hs.length ch, .string R.b] 39)).drew.cell? ⟨w2.heap.size, 1, none⟩ = some (.string R.p) := by simp
      have k2 : (w2.alloc (Obj.cells #[.string R.m, .string R.p, .slice ah R.hs.length ch, .string R.b] 39)).drew.cell? ⟨w2.heap.size, 2, none⟩ = some (.slice ah R.hs.length ch) := by simp
      have k3 : (w2.alloc (Obj.cells #[.string R.m, .string R.p, .slice ah R.hs.length ch, .string R.b] 39)).drew.cell? ⟨w2.heap.size, 3, none⟩ = some (.string R.b) := by simp
      have K0 := hide k0
      have K1 := hide k1
      have K2 := hide k2
      have K3 := hide k3
      clear hgood HGood HMore HBad HZero hDr bD k0 k1 k2 k3
      go_wp2_with fail
      go_region_law (refine step_append_req rfl _ _ rfl B (.slice ar ps.length cr) ps rfl ED.out.row w2.heap.size (R, .slice ah R.hs.length ch) rfl K0.out K1.out K2.out K3.out HRD.out HQA.out.symm HQS.out hlen1 hz3 ?_
                     intro g4 cap4 w4 ho hg hwh
                     obtain ⟨hb4, E4, B4⟩ := ED.out.pushed hBN ho hg hwh HAU.out HHN.out
                     obtain ⟨_, _, y2, _, _, e2⟩ := box3 hb4
                     have E5 := hide E4
                     have B5 := hide B4
                     clear ho hg hwh hb4 E4 B4)
      all_goals
        have hdl : (l'.drop n).length = l'.length - n := List.length_drop
        have hfin : ∃ (uv rv : Value) (l'' : List UInt8) (ps' : List Rv), WireEx (w4.setCell ⟨N, 2, none⟩ (.slice (some ⟨g4, 0, none⟩) (ps.length + 1) cap4)) N B uv l'' 0 rv ps' ∧ ps'.map Prod.fst ++ (drainL l'').1 = qs.map Prod.fst ++ (drainL l).1 ∧ (drainL l'').2 = (drainL l).2 ∧ ps'.length + l''.length ≤ 100000000 ∧ l''.length ≤ 4194304 ∧ Below B w (w4.setCell ⟨N, 2, none⟩ (.slice (some ⟨g4, 0, none⟩) (ps.length + 1) cap4)) := by
          refine ⟨_, _, _, _, E5.out, ?_, ?_, ?_, by omega, HCD.out.trans B5.out⟩
          · rw [← HD1.out, HDr.out]; simp
          · rw [← HD2.out, HDr.out]
          · rw [List.length_append]; simp only [List.length_cons, List.length_nil]; omega
        have hms : unreadLen (w4.setCell ⟨N, 2, none⟩ (.slice (some ⟨g4, 0, none⟩) (ps.length + 1) cap4)) N < unreadLen wr N := by
          rw [HU.out, E5.out.unread]; omega
        have HF := hide hfin
        have HMs := hide hms
        clear hfin hms hdl
        go_wp2
        exact ⟨HF.out, HMs.out⟩
    · have hn0 : n = 0 := HZero.out hC
      subst hn0
      by_cases hC1 : C = 1
      · subst hC1
        have hDr := HMore.out rfl
        have HDr := hide hDr
        have HFin : Hid (WireSt w2 N B (drainL l).2.1 (drainL l).2.2 (qs.map Prod.fst ++ (drainL l).1) ∧ Below B w w2) := by
          refine ⟨?_, HC2.out⟩
          rw [← HD1.out, ← HD2.out, HDr.out]
          simpa using EE.out.st
        clear hgood HGood HMore HBad HZero hDr HD1 HD2 HDr
        go_wp2
        refine bodyPost_ret (results_none rfl _ _ _) rfl ?_
        exact ⟨⟨_, rfl⟩, HFin.out⟩
      · have hDr := HBad.out hC hC1
        have HDr := hide hDr
        obtain ⟨w3, hw3⟩ : ∃ w3, w2.setCell ⟨N, 1, none⟩ (.int .i64 C) = w3 := ⟨_, rfl⟩
        have E3 : WireEx w3 N B uv1 l' C (.slice ar ps.length cr) ps := by
          rw [← hw3]
          exact EE.out.kept (fun k hk hkN => Below.heap_setCell _ _ _ _ hkN) (set_heap EE.out.box 1 _) EE.out.buf (fun g hg => hg)
        have c3 : Below B w w3 := by rw [← hw3]; exact HC2.out.setCell (p := ⟨N, 1, none⟩) hBN _
        have HDp := hide (drop_any N B w3 uv1 (.slice ar ps.length cr) l' C ps E3 hBN)
        have HC3 := hide c3
        have hCb : (C == 0) = false := by simpa using hC
        have hCb1 : (C == 1) = false := by simpa using hC1
        clear hgood HGood HMore HBad HZero hDr E3 c3
        go_wp2_with fail
        refine HDp.out.mono ?_
        rintro e w4 ⟨⟨v, rfl⟩, E4, b4⟩
        have HFin : Hid (WireSt w4 N B (drainL l).2.1 (drainL l).2.2 (qs.map Prod.fst ++ (drainL l).1) ∧ Below B w w4) := by
          refine ⟨?_, HC3.out.trans b4⟩
          rw [← HD1.out, ← HD2.out, HDr.out]
          simpa using E4.st
        clear E4 b4 HD1 HD2 HDr HDp
        go_wp2
        refine bodyPost_ret (results_none rfl _ _ _) rfl ?_
        exact ⟨⟨_, rfl⟩, HFin.out⟩
end Go.Proofs.YtanebchmeaomgaaGreatDoor
namespace Go.Proofs.YtanebchmeaomgaaGreatDoor
open Go.RowKit M
set_option linter.unusedVariables false

set_option maxHeartbeats 1000000 in
theorem feed_any (N B : Nat) (w : World) (l m : List UInt8) (bad : Int) (rs : List Rq) (mx : Int) (a : Option Addr) (c : Nat) (h : WireSt w N B l bad rs) (hBN : B ≤ N) (hy : Byt w B a m) (hs : l.length + m.length ≤ 4194304) (hr : rs.length + (l.length + m.length) ≤ 100000000) (h0 : 0 < B) (hmx : w.cell? ⟨0, 0, none⟩ = some (.int .i64 mx)) :
    Calls Tryz.prog 42 #[.pointer (some ⟨N, 0, none⟩), .slice a m.length c] w fun e w' => (∃ v, e = .returned v) ∧ WireSt w' N B (feedM l bad m).2.1 (feedM l bad m).2.2 (rs ++ (feedM l bad m).1) ∧ Below B w w' := by
  obtain ⟨uv, rv, qs, hE, hqs⟩ := h.ex
  obtain ⟨x0, x1, x2, f0, f1, f2⟩ := box3 hE.box
  clear x0 x2 f0 f1 f2 hE hqs
  by_cases hb : bad = 0
  · subst hb
    have HA := hide (add_any N B w l m 0 rs a c B h hBN hy hs)
    have HM := hide (fun (W : World) (hb : Below B w W) => (hb.cell (p := ⟨0, 0, none⟩) h0).trans hmx)
    have HF := hide (feedM_good l m)
    have hlen : (l ++ m).length = l.length + m.length := List.length_append
    clear h hy hmx
    go_enter Tryz.func42, Tryz.ntmps42
    go_wp2_with fail
    refine HA.out.mono ?_
    rintro e w1 ⟨⟨v, rfl⟩, s1, b1⟩
    have HR := hide (read_any N B w1 (l ++ m) rs mx s1 hBN (by omega) (by omega) h0 (HM.out w1 b1))
    have B1 := hide b1
    clear s1 b1 HA x1
    go_wp2_with fail
    refine HR.out.mono ?_
    rintro e w2 ⟨⟨v2, rfl⟩, s2, b2⟩
    have HZ : Hid (WireSt w2 N B (feedM l 0 m).2.1 (feedM l 0 m).2.2 (rs ++ (feedM l 0 m).1) ∧ Below B w w2) := by
      rw [HF.out]
      exact ⟨s2, B1.out.trans b2⟩
    clear s2 b2 HR
    go_wp2
    go_end0
    exact ⟨⟨_, rfl⟩, HZ.out⟩
  · have hbb : (bad != 0) = true := by simpa using hb
    have HZ : Hid (WireSt w N B (feedM l bad m).2.1 (feedM l bad m).2.2 (rs ++ (feedM l bad m).1)) := by
      rw [feedM_bad hb, List.append_nil]
      exact h
    clear h hb hy hmx
    go_enter Tryz.func42, Tryz.ntmps42
    go_wp2
    refine bodyPost_ret (results_none rfl _ _ _) rfl ?_
    exact ⟨⟨_, rfl⟩, HZ.out, Below.refl _ _⟩

set_option maxHeartbeats 1000000 in
theorem opened_any (w : World) (m : List UInt8) (bad : Int) (a : Option Addr) (c : Nat) (hy : Byt w w.heap.size a m) (hs : m.length ≤ 4194304) :
    Calls Tryz.prog 41 #[.agg #[.slice a m.length c, .int .i64 bad]] w fun e w' => (∃ N, e = .returned (.pointer (some ⟨N, 0, none⟩)) ∧ w.heap.size + 1 ≤ N ∧ WireSt w' N (w.heap.size + 1) m bad []) ∧ Below w.heap.size w w' := by
  obtain ⟨wz, hwz⟩ : ∃ wz, ((w.alloc (Obj.cells #[.slice a m.length c, .int .i64 bad] 27)).alloc (Obj.cells #[] 39)).alloc (Obj.cells #[.slice none 0 0, .int .i64 bad, .slice (some ⟨w.heap.size + 1, 0, none⟩) 0 0] 114) = wz := ⟨_, rfl⟩
  have b1 : Below w.heap.size w (w.alloc (Obj.cells #[.slice a m.length c, .int .i64 bad] 27)) := (Below.refl _ _).alloc (Nat.le_refl _) _
  have b2 : Below w.heap.size w ((w.alloc (Obj.cells #[.slice a m.length c, .int .i64 bad] 27)).alloc (Obj.cells #[] 39)) := b1.alloc (by simp) _
  have b3 : Below w.heap.size w wz := by rw [← hwz]; exact b2.alloc (by simp; omega) _
  have s3 : wz.heap.size = w.heap.size + 3 := by rw [← hwz]; simp
  have n0 : (w.alloc (Obj.cells #[.slice a m.length c, .int .i64 bad] 27)).heap.size = w.heap.size + 1 := by simp
  have n1 : ((w.alloc (Obj.cells #[.slice a m.length c, .int .i64 bad] 27)).alloc (Obj.cells #[] 39)).heap.size = w.heap.size + 2 := by simp
  have h0 : wz.heap[w.heap.size]? = some (Obj.cells #[.slice a m.length c, .int .i64 bad] 27) := by
    rw [← hwz, Below.heap_alloc _ _ _ (by rw [n1]; omega), Below.heap_alloc _ _ _ (by rw [n0]; omega)]
    exact heap_alloc_new w _
  have h1 : wz.heap[w.heap.size + 1]? = some (Obj.cells #[] 39) := by
    rw [← hwz, Below.heap_alloc _ _ _ (by rw [n1]; omega)]
    have := heap_alloc_new (w.alloc (Obj.cells #[.slice a m.length c, .int .i64 bad] 27)) (Obj.cells #[] 39)
    rwa [n0] at this
  have h2 : wz.heap[w.heap.size + 2]? = some (Obj.cells #[.slice none 0 0, .int .i64 bad, .slice (some ⟨w.heap.size + 1, 0, none⟩) 0 0] 114) := by
    have := heap_alloc_new ((w.alloc (Obj.cells #[.slice a m.length c, .int .i64 bad] 27)).alloc (Obj.cells #[] 39)) (Obj.cells #[.slice none 0 0, .int .i64 bad, .slice (some ⟨w.heap.size + 1, 0, none⟩) 0 0] 114)
    rw [n1] at this
    rw [← hwz]; exact this
  have st : WireSt wz.drew (w.heap.size + 2) (w.heap.size + 1) [] bad [] := ⟨_, _, [], h2, OwnO.nil _ _, RowsQ.bare (w := wz.drew) h1 (Nat.le_refl _), rfl, (fun g hg => by cases hg), ⟨(fun e => by cases e), (fun e => by have := Option.some.inj e; simp at this), (fun q hq => by cases hq)⟩⟩
  have HA := hide (add_any (w.heap.size + 2) (w.heap.size + 1) wz.drew [] m bad [] a c w.heap.size st (by omega) (hy.below (b3.drew) (Nat.le_refl _)) (by simpa using hs))
  have hc0 : wz.cell? ⟨w.heap.size, 0, none⟩ = some (.slice a m.length c) := by unfold World.cell?; rw [h0]; rfl
  have B3 := hide b3
  clear b1 b2 b3 s3 n0 n1 h0 h1 h2 st hy
  go_enter Tryz.func41, Tryz.ntmps41
  go_wp2_with fail
  try rw [hwz]
  go_region_held3 (fun W => W.cell? ⟨w.heap.size, 0, none⟩ = some (.slice a m.length c)) (first | exact hc0 | exact (b1.cell (p := ⟨w.heap.size, 0, none⟩) (Nat.lt_succ_self _)).trans hc0) ((go_at_call 76; refine HA.out.mono ?_; rintro e w1 ⟨⟨v, rfl⟩, s1, b1⟩))
  have HZ : Hid (WireSt w1 (w.heap.size + 2) (w.heap.size + 1) m bad [] ∧ Below w.heap.size w w1) := ⟨s1, B3.out.drew.trans (b1.mono (Nat.le_succ _))⟩
  clear s1 b1 HA B3
  go_wp2
  go_ret
  exact ⟨⟨_, rfl, Nat.le_succ _, HZ.out.1⟩, HZ.out.2⟩

set_option maxRecDepth 100000 in
set_option maxHeartbeats 1000000 in
/-- bytes.Clone of bytes of the call's own. -/
theorem cloneY_any (B : Nat) (v : Value) (l : List UInt8) (w : World) (h : OwnO w B v l) (hl : l.length ≤ 4194304) :
    Calls Tryz.prog 118 #[v] w fun e w' => (∃ v', e = .returned v' ∧ FreshY w' w.heap.size v' l) ∧ Below w.heap.size w w' := by
  have q22 : ∀ (w : World) (a : Option Addr) (n c n' c' : Nat), (binOp .eql 22 (.slice a n c) (.slice none n' c')).run Tryz.prog w = .ok (.bool a.isNone) w := fun w a n c n' c' => Lib.run_eql_slice_nil w _ _ a n c n' c' Tryz.underlying22
  obtain ⟨a, c, rfl, h1, h2, h3, h4, h5⟩ := h.slice
  cases a with
  | none =>
    obtain ⟨rfl, rfl⟩ := h3 rfl
    clear h h1 h2 h3 h4 h5 hl
    go_enter Tryz.func118, Tryz.ntmps118
    go_wp2
    go_ret
    exact ⟨⟨_, rfl, FreshY.nul _ _⟩, Below.refl _ _⟩
  | some x =>
    obtain ⟨g, o, sp⟩ := x
    obtain rfl : sp = none := h4 _ rfl
    have b0 : Below w.heap.size w (w.alloc (Obj.cells #[] 5)) := (Below.refl _ _).alloc (Nat.le_refl _) _
    have HY := hide (h5.below b0 (Nat.le_refl _))
    have B0 := hide b0
    clear h h1 h2 h3 h4 h5 b0
    go_enter Tryz.func118, Tryz.ntmps118
    go_wp2_with (at_builtin; refine wp_append_any rfl _ _ rfl w.heap.size _ [] rfl (OwnY.bare w) (some ⟨g, o, none⟩) l c w.heap.size rfl HY.out (by simp; omega) (by simp) ?_)
    intro v' w1 o1 g1 _
    have o1' : OwnY w1 w.heap.size v' l := o1
    have HF := hide o1'.fresh
    have HB := hide (B0.out.grown g1 (by simp) (fun k hk => by cases hk; exact Nat.le_refl _))
    clear o1 o1' g1
    go_wp2
    go_ret
    exact ⟨⟨_, rfl, HF.out⟩, HB.out⟩
set_option maxHeartbeats 400000 in
theorem left_any (N B : Nat) (w : World) (uv rv : Value) (l : List UInt8) (bad : Int) (qs : List Rv) (h : WireEx w N B uv l bad rv qs) (hl : l.length ≤ 4194304) :
    Calls Tryz.prog 78 #[.pointer (some ⟨N, 0, none⟩)] w fun e w' => (∃ v', e = .returned v' ∧ FreshY w' w.heap.size v' l) ∧ Below w.heap.size w w' := by
  obtain ⟨x0, _, _, _, _, _⟩ := box3 h.box
  have HC := hide (cloneY_any B uv l w h.buf hl)
  obtain ⟨a, c, rfl, _⟩ := h.buf.slice
  clear h
  go_enter Tryz.func78, Tryz.ntmps78
  go_wp2_with fail
  refine HC.out.mono ?_
  rintro e w1 ⟨⟨v, rfl, h1⟩, b1⟩
  have H1 := hide h1
  clear h1 HC
  go_wp2
  go_ret
  exact ⟨⟨_, rfl, H1.out⟩, b1⟩

theorem FreshY.base {w : World} {B C : Nat} {v : Value} {l : List UInt8} (h : FreshY w B v l) (hC : C ≤ B) : FreshY w C v l := by
  obtain ⟨a, c, rfl, h1, h2, h3, h4⟩ := h
  refine ⟨a, c, rfl, h1, h2, fun h0 => ?_, h4⟩
  obtain ⟨g, e, hB, hr⟩ := h3 h0
  exact ⟨g, e, Nat.le_trans hC hB, hr⟩
/-- What Feed hands back: a wire, and requests. -/
def FedIs (w : World) (B : Nat) (d : List Rq × List UInt8 × Int) (e : Ending) : Prop :=
  ∃ bv qv qs, e = .returned (.tuple #[.agg #[bv, .int .i64 d.2.2], qv]) ∧ FreshY w B bv d.2.1 ∧ RowsQ w B qv qs ∧ qs.map Prod.fst = d.1 ∧ (∀ g, 0 < d.2.1.length → bv.ownBlock = some g → qv.ownBlock ≠ some g ∧ ∀ q ∈ qs, q.2.ownBlock ≠ some g)
theorem results_closed (tmps : Array Value) (N : Nat) (W : World) (v0 v1 x : Value) (h2 : tmps.getD 2 undef = .pointer (some ⟨N, 0, none⟩)) (h3 : tmps.getD 3 undef = x) (hg : W.heap[N]? = some (Obj.cells #[v0, v1] 27)) :
    (results Tryz.f43 tmps).run Tryz.prog W = .ok (.tuple #[.agg #[v0, v1], x]) W := by
  have hl := run_loadVar_row (P := Tryz.prog) W N 27 27 #[v0, v1] (0, 0) _ hg Tryz.underlying27 rfl (by kernel_rfl)
  simp at h2 h3
  simp [results, Tryz.results43, h2, h3, asAddr, hl]
set_option maxRecDepth 100000 in
set_option maxHeartbeats 2000000 in
theorem closed_any (N B : Nat) (w : World) (l : List UInt8) (bad : Int) (rs : List Rq) (h : WireSt w N B l bad rs) (hBN : B ≤ N) (hl : l.length ≤ 4194304) :
    Calls Tryz.prog 43 #[.pointer (some ⟨N, 0, none⟩)] w fun e w' => FedIs w' B (rs, l, bad) e ∧ Below w.heap.size w w' := by
  obtain ⟨uv, rv, qs, hE, hqs⟩ := h.ex
  obtain ⟨w0, hw0⟩ : ∃ w0, w.alloc (Obj.cells #[.slice none 0 0, .int .i64 0] 27) = w0 := ⟨_, rfl⟩
  have c0 : Below w.heap.size w w0 := by rw [← hw0]; exact (Below.refl _ _).alloc (Nat.le_refl _) _
  have z0 : w0.heap[w.heap.size]? = some (Obj.cells #[.slice none 0 0, .int .i64 0] 27) := by rw [← hw0]; exact heap_alloc_new w _
  have s0 : w.heap.size < w0.heap.size := by rw [← hw0]; simp
  have hN := hE.lt
  have hMN : w.heap.size ≠ N := by omega
  have E0 := hE.next c0
  obtain ⟨au, cu, hu, _⟩ := hE.buf.slice
  obtain ⟨ar, cr, hv, _⟩ := hE.row.rqs
  subst hu
  subst hv
  subst hqs
  have E0d : WireEx w0.drew N B (.slice au l.length cu) l bad (.slice ar qs.length cr) qs := E0.next (Below.refl _ _).drew
  have HL := hide (left_any N B w0.drew _ _ l bad qs E0d hl)
  obtain ⟨x0, x1, x2, _, _, _⟩ := box3 E0.box
  have HE := hide E0
  have HLt := hide (fun g hg => (hE.row.lt g hg).2)
  have C0 := hide c0
  have Z0 := hide z0
  clear h hE E0 E0d c0 z0
  go_enter Tryz.func43, Tryz.ntmps43
  go_wp2_with fail
  try rw [hw0]
  go_region_held3 (fun W => W.cell? ⟨N, 1, none⟩ = some (.int .i64 bad) ∧ W.cell? ⟨N, 2, none⟩ = some (.slice ar qs.length cr)) (first | exact ⟨x1, x2⟩ | exact ⟨y1, y2⟩ | exact ⟨(World.cell?_setCell_other _ _ _ _ (fun e => hMN (congrArg Addr.block e))).trans ((World.cell?_setCell_other _ _ _ _ (fun e => hMN (congrArg Addr.block e))).trans y1), (World.cell?_setCell_other _ _ _ _ (fun e => hMN (congrArg Addr.block e))).trans ((World.cell?_setCell_other _ _ _ _ (fun e => hMN (congrArg Addr.block e))).trans y2)⟩) ((go_at_call 78; refine HL.out.mono ?_; rintro e w1 ⟨⟨v, rfl, ⟨av, cv, rfl, q1, q2, q3, q4⟩⟩, bq⟩; have y1 := (bq.cell (p := ⟨N, 1, none⟩) (show N < w0.heap.size by omega)).trans x1; have y2 := (bq.cell (p := ⟨N, 2, none⟩) (show N < w0.heap.size by omega)).trans x2; have z1 := (bq.block _ s0).trans Z0.out; obtain ⟨m0, m1, n0, n1⟩ := cells2 z1))
  all_goals
    have hz1 : w0.heap.size ≤ w1.heap.size := bq.size
    have F1 : FreshY w1 w0.heap.size (.slice av l.length cv) l := ⟨_, _, rfl, q1, q2, q3, q4⟩
    have R1 : RowsQ w1 B (.slice ar qs.length cr) qs := (HE.out.row.next (Below.refl _ _).drew).next bq
    have hb1 : Below w.heap.size w w1 := (C0.out.drew).trans (bq.mono (Nat.le_of_lt s0))
    have keep : ∀ v0 v1, ∀ k, k ≠ w.heap.size → ((w1.setCell ⟨w.heap.size, 0, none⟩ v0).setCell ⟨w.heap.size, 1, none⟩ v1).heap[k]? = w1.heap[k]? := fun v0 v1 k hk => by
      rw [Below.heap_setCell _ _ _ _ hk, Below.heap_setCell _ _ _ _ hk]
    have HZ : Hid (∀ v0 v1, FreshY ((w1.setCell ⟨w.heap.size, 0, none⟩ v0).setCell ⟨w.heap.size, 1, none⟩ v1) B (.slice av l.length cv) l ∧ RowsQ ((w1.setCell ⟨w.heap.size, 0, none⟩ v0).setCell ⟨w.heap.size, 1, none⟩ v1) B (.slice ar qs.length cr) qs ∧ Below w.heap.size w ((w1.setCell ⟨w.heap.size, 0, none⟩ v0).setCell ⟨w.heap.size, 1, none⟩ v1)) := by
      intro v0 v1
      refine ⟨?_, ?_, ?_⟩
      · refine FreshY.base (F1.same (by simp [World.setCell]) (fun k hk _ => keep v0 v1 k (by omega))) (by omega)
      · exact R1.of (fun g hg => keep v0 v1 g (by have := HLt.out g hg; omega))
      · exact (hb1.setCell (p := ⟨w.heap.size, 0, none⟩) (Nat.le_refl _) v0).setCell (p := ⟨w.heap.size, 1, none⟩) (Nat.le_refl _) v1
    have HP : Hid (∀ g, 0 < l.length → (Value.slice av l.length cv).ownBlock = some g → (Value.slice ar qs.length cr).ownBlock ≠ some g ∧ ∀ q ∈ qs, q.2.ownBlock ≠ some g) := by
      intro g h0 hg
      obtain ⟨g', e, hB', _⟩ := q3 h0
      subst e
      have e2 : g' = g := Option.some.inj hg
      subst e2
      have hg1 : w0.heap.size ≤ g' := hB'
      refine ⟨fun e => ?_, fun q hq e => ?_⟩
      · have := (HE.out.row.lt g' (.inl e)).2; omega
      · have := (HE.out.row.lt g' (.inr ⟨q, hq, e⟩)).2; omega
    have Z1 := hide z1
    clear q1 q2 q3 q4 F1 R1 hb1 keep bq hz1 HL
    go_wp2
    refine bodyPost_ret (results_closed _ w.heap.size _ _ _ _ rfl rfl (set2_heap Z1.out _ _)) rfl ?_
    obtain ⟨k1, k2, k3⟩ := HZ.out (.slice av l.length cv) (.int .i64 bad)
    exact ⟨⟨_, _, qs, rfl, k1, k2, rfl, HP.out⟩, k3⟩
end Go.Proofs.YtanebchmeaomgaaGreatDoor
namespace Go.Proofs.YtanebchmeaomgaaGreatDoor
open Go.RowKit M
set_option linter.unusedVariables false

theorem FedIs.store {w : World} {B C M : Nat} {d : List Rq × List UInt8 × Int} {e : Ending} (h : FedIs w B d e) (hM : M < B) (hC : C ≤ B) (v0 v1 : Value) : FedIs ((w.setCell ⟨M, 0, none⟩ v0).setCell ⟨M, 1, none⟩ v1) C d e := by
  obtain ⟨bv, qv, qs, rfl, h1, h2, h3, h4⟩ := h
  have keep : ∀ k, B ≤ k → k < w.heap.size → ((w.setCell ⟨M, 0, none⟩ v0).setCell ⟨M, 1, none⟩ v1).heap[k]? = w.heap[k]? := fun k hk _ => by
    have hkM : k ≠ M := by omega
    rw [Below.heap_setCell _ _ _ _ hkM, Below.heap_setCell _ _ _ _ hkM]
  exact ⟨bv, qv, qs, rfl, (h1.same (by simp [World.setCell]) keep).base hC, (h2.same keep).base hC, h3, h4⟩
theorem FedIs.next {w w' : World} {B : Nat} {d : List Rq × List UInt8 × Int} {e : Ending} (h : FedIs w B d e) (hb : Below w.heap.size w w') : FedIs w' B d e := by
  obtain ⟨bv, qv, qs, rfl, h1, h2, h3, h4⟩ := h
  exact ⟨bv, qv, qs, rfl, h1.next hb, h2.next hb, h3, h4⟩
theorem results_feed (tmps : Array Value) (N : Nat) (W : World) (v0 v1 x : Value) (h2 : tmps.getD 4 undef = .pointer (some ⟨N, 0, none⟩)) (h3 : tmps.getD 5 undef = x) (hg : W.heap[N]? = some (Obj.cells #[v0, v1] 27)) :
    (results Tryz.f10 tmps).run Tryz.prog W = .ok (.tuple #[.agg #[v0, v1], x]) W := by
  have hl := run_loadVar_row (P := Tryz.prog) W N 27 27 #[v0, v1] (0, 0) _ hg Tryz.underlying27 rfl (by kernel_rfl)
  simp at h2 h3
  simp [results, Tryz.results10, h2, h3, asAddr, hl]
theorem results_feedAll (tmps : Array Value) (N : Nat) (W : World) (v0 v1 x : Value) (h2 : tmps.getD 2 undef = .pointer (some ⟨N, 0, none⟩)) (h3 : tmps.getD 3 undef = x) (hg : W.heap[N]? = some (Obj.cells #[v0, v1] 27)) :
    (results Tryz.f8 tmps).run Tryz.prog W = .ok (.tuple #[.agg #[v0, v1], x]) W := by
  have hl := run_loadVar_row (P := Tryz.prog) W N 27 27 #[v0, v1] (0, 0) _ hg Tryz.underlying27 rfl (by kernel_rfl)
  simp at h2 h3
  simp [results, Tryz.results8, h2, h3, asAddr, hl]

set_option maxRecDepth 100000 in
set_option maxHeartbeats 2000000 in
theorem feedI_any (a : Option Addr) (l : List UInt8) (c : Nat) (bad : Int) (a2 : Option Addr) (m : List UInt8) (c2 : Nat) (mx : Int) (w : World) (hy : Byt w w.heap.size a l) (hy2 : Byt w w.heap.size a2 m) (hs : l.length + m.length ≤ 4194304) (h0 : 0 < w.heap.size) (hmx : w.cell? ⟨0, 0, none⟩ = some (.int .i64 mx)) :
    Calls Tryz.prog 10 #[.agg #[.slice a l.length c, .int .i64 bad], .slice a2 m.length c2] w fun e w' => FedIs w' w.heap.size (feedM l bad m) e ∧ Below w.heap.size w w' := by
  obtain ⟨w0, hw0⟩ : ∃ w0, (w.alloc (Obj.cells #[.slice a l.length c, .int .i64 bad] 27)).alloc (Obj.cells #[.slice none 0 0, .int .i64 0] 27) = w0 := ⟨_, rfl⟩
  have n0 : (w.alloc (Obj.cells #[.slice a l.length c, .int .i64 bad] 27)).heap.size = w.heap.size + 1 := by simp
  have c0 : Below w.heap.size w w0 := by rw [← hw0]; exact ((Below.refl _ _).alloc (Nat.le_refl _) _).alloc (by rw [n0]; omega) _
  have s0 : w0.heap.size = w.heap.size + 2 := by rw [← hw0]; simp
  have z0 : w0.heap[w.heap.size]? = some (Obj.cells #[.slice a l.length c, .int .i64 bad] 27) := by
    rw [← hw0, Below.heap_alloc _ _ _ (by rw [n0]; omega)]; exact heap_alloc_new w _
  have z1 : w0.heap[w.heap.size + 1]? = some (Obj.cells #[.slice none 0 0, .int .i64 0] 27) := by
    have := heap_alloc_new (w.alloc (Obj.cells #[.slice a l.length c, .int .i64 bad] 27)) (Obj.cells #[.slice none 0 0, .int .i64 0] 27)
    rw [n0] at this
    rw [← hw0]; exact this
  obtain ⟨x0, x1, _, _⟩ := cells2 z0
  have HO := hide (opened_any w0 l bad a c ((hy.below c0 (Nat.le_refl _)).mono c0.size) (by omega))
  have HM := hide (fun (W : World) (hb : Below w.heap.size w W) => (hb.cell (p := ⟨0, 0, none⟩) h0).trans hmx)
  have HY2 := hide hy2
  have C0 := hide c0
  have Z1 := hide z1
  have HF := hide (feedM_count l bad m)
  have S0 := hide s0
  clear hy hy2 hmx c0 z0 z1 n0 s0
  go_enter Tryz.func10, Tryz.ntmps10
  go_wp2_with fail
  try rw [hw0]
  refine HO.out.mono ?_
  rintro e w1 ⟨⟨N, rfl, hBN, st1⟩, b1⟩
  have c1 := C0.out.trans (b1.mono C0.out.size)
  have HFd := hide (feed_any N (w0.heap.size + 1) w1 l m bad [] mx a2 c2 st1 hBN ((HY2.out.below c1 (Nat.le_refl _)).mono (by have := S0.out; omega)) hs (by simp only [List.length_nil]; omega) (by have := S0.out; omega) (HM.out w1 c1))
  have C1 := hide c1
  have Z2 := hide ((b1.block _ (by have := S0.out; omega)).trans Z1.out)
  clear st1 b1 c1 HO x0 x1
  go_wp2_with fail
  refine HFd.out.mono ?_
  rintro e w2 ⟨⟨v, rfl⟩, st2, b2⟩
  rw [List.nil_append] at st2
  have c2' := C1.out.trans (b2.mono (by have := S0.out; omega))
  have Z3 := hide ((b2.block _ (by have := S0.out; omega)).trans Z2.out)
  have HCl := hide (closed_any N (w0.heap.size + 1) w2 _ _ _ st2 hBN (by have := HF.out; omega))
  have C2 := hide c2'
  have hN2 := st2.lt
  clear st2 b2 c2' HFd
  go_wp2_with fail
  refine HCl.out.mono ?_
  rintro e w3 ⟨hfed, b3⟩
  have c3 := C2.out.trans (b3.mono C2.out.size)
  have z4 := (b3.block _ (by have := S0.out; omega)).trans Z3.out
  have Z4 := hide z4
  have C3 := hide c3
  have HFe := hide hfed
  obtain ⟨bv, qv, qs, rfl, hfr, _⟩ := hfed
  obtain ⟨av, cv, rfl, _⟩ := hfr
  obtain ⟨m0, m1, n0, n1⟩ := cells2 z4
  clear hw0 HCl b3 c3 z4
  go_wp2
  refine bodyPost_ret (results_feed _ (w.heap.size + 1) _ _ _ _ rfl rfl (set2_heap Z4.out _ _)) rfl ?_
  refine ⟨HFe.out.store (M := w.heap.size + 1) (by have := S0.out; omega) (by have := S0.out; omega) _ _, ?_⟩
  exact (C3.out.setCell (p := ⟨w.heap.size + 1, 0, none⟩) (Nat.le_succ _) _).setCell (p := ⟨w.heap.size + 1, 1, none⟩) (Nat.le_succ _) _

set_option maxRecDepth 100000 in
set_option maxHeartbeats 2000000 in
theorem feedAllI_any (a : Option Addr) (ls : List (List UInt8)) (cap : Nat) (mx : Int) (w : World) (h : Bss w w.heap.size a ls) (hl : ls.length ≤ 1048576) (hs : sumB ls ≤ 4194304) (h0 : 0 < w.heap.size) (hmx : w.cell? ⟨0, 0, none⟩ = some (.int .i64 mx)) :
    Calls Tryz.prog 8 #[.slice a ls.length cap] w fun e w' => FedIs w' w.heap.size (feedsM ls [] 0) e ∧ Below w.heap.size w w' := by
  obtain ⟨w0, hw0⟩ : ∃ w0, w.alloc (Obj.cells #[.slice none 0 0, .int .i64 0] 27) = w0 := ⟨_, rfl⟩
  have c0 : Below w.heap.size w w0 := by rw [← hw0]; exact (Below.refl _ _).alloc (Nat.le_refl _) _
  have s0 : w.heap.size < w0.heap.size := by rw [← hw0]; simp
  have z0 : w0.heap[w.heap.size]? = some (Obj.cells #[.slice none 0 0, .int .i64 0] 27) := by rw [← hw0]; exact heap_alloc_new w _
  have HO := hide (opened_any w0 [] 0 none 0 (Byt.nil _ _ _) (by simp))
  have HM := hide (fun (W : World) (hb : Below w.heap.size w W) => (hb.cell (p := ⟨0, 0, none⟩) h0).trans hmx)
  have HB := hide h
  have C0 := hide c0
  have Z0 := hide z0
  have HCnt := hide (fun k => feedsM_all (ls.take k) [] 0)
  clear h hmx c0 z0
  go_enter Tryz.func8, Tryz.ntmps8
  go_wp2_with fail
  try rw [hw0]
  refine HO.out.mono ?_
  rintro e w1 ⟨⟨N, rfl, hBN, st1⟩, b1⟩
  have C1 := hide (C0.out.trans (b1.mono C0.out.size))
  have Z1 := hide ((b1.block _ s0).trans Z0.out)
  have ST1 := hide st1
  clear st1 b1 HO hw0
  go_wp2
  go_loopw [11] (fun i wr => ∃ k : Nat, k ≤ ls.length ∧ i = .int .i64 k ∧ WireSt wr N (w0.heap.size + 1) (feedsM (ls.take k) [] 0).2.1 (feedsM (ls.take k) [] 0).2.2 (feedsM (ls.take k) [] 0).1 ∧ Below w.heap.size w wr ∧ wr.heap[w.heap.size]? = some (Obj.cells #[.slice none 0 0, .int .i64 0] 27)) (fun i _ => ls.length - (intOf i).toNat)
  case atStart => exact ⟨0, Nat.zero_le _, rfl, ST1.out, C1.out, Z1.out⟩
  case round =>
    obtain ⟨k, hk, rfl, hst, hbe, hz⟩ := hrel
    have hcnt := (HCnt.out k).2
    simp only [List.length_nil, Nat.zero_add] at hcnt
    rw [sumB_flat] at hcnt
    by_cases hlt : k < ls.length
    · obtain ⟨b, o, rfl, hb, hc⟩ := HB.out (by omega)
      obtain ⟨aj, cj, hc1, hy, hlc, hcm⟩ := hc k hlt
      have hcx := (hbe.cell (p := ⟨b, o + k, none⟩) hb).trans hc1
      have h1 := sumB_snoc ls k hlt
      have h2 := sumB_le ls (k + 1)
      have HFd := hide (feed_any N (w0.heap.size + 1) wr _ ls[k] _ _ mx aj cj hst hBN ((hy.below hbe (Nat.le_refl _)).mono (by omega)) (by omega) (by omega) (by omega) (HM.out wr hbe))
      have HSn := hide (feedsM_snoc (ls.take k) ls[k] [] 0)
      rw [← List.take_succ_eq_append_getElem hlt] at HSn
      have HBe := hide hbe
      have HZ := hide hz
      clear hc hc1 hy hlc hcm hst hbe hz h1 h2 hcnt
      go_wp2_with fail
      refine HFd.out.mono ?_
      rintro e w2 ⟨⟨v, rfl⟩, st2, b2⟩
      have ST2 : Hid (WireSt w2 N (w0.heap.size + 1) (feedsM (ls.take (k + 1)) [] 0).2.1 (feedsM (ls.take (k + 1)) [] 0).2.2 (feedsM (ls.take (k + 1)) [] 0).1) := by
        rw [HSn.out]; exact st2
      have C2 := hide (HBe.out.trans (b2.mono (by omega)))
      have Z2 := hide ((b2.block _ (by omega)).trans HZ.out)
      clear st2 b2 HFd
      go_wp2
      go_roundw
      case rel => exact ⟨k + 1, by omega, by go_num, ST2.out, C2.out, Z2.out⟩
      case measure => simp [intOf]; omega
    · have hall : ls.take k = ls := List.take_of_length_le (by omega)
      have h2 := sumB_le ls k
      rw [hall] at hst hcnt
      have HCl := hide (closed_any N (w0.heap.size + 1) wr _ _ _ hst hBN (by omega))
      have HBe := hide hbe
      have HZ := hide hz
      have hNl := hst.lt
      clear hst hbe hz hcnt hall h2
      go_wp2_with fail
      refine HCl.out.mono ?_
      rintro e w3 ⟨hfed, b3⟩
      have z4 := (b3.block _ (by omega)).trans HZ.out
      have Z4 := hide z4
      have C3 := hide (HBe.out.trans (b3.mono HBe.out.size))
      have HFe := hide hfed
      obtain ⟨bv, qv, qs, rfl, hfr, _⟩ := hfed
      obtain ⟨av, cv, rfl, _⟩ := hfr
      obtain ⟨m0, m1, n0, n1⟩ := cells2 z4
      clear HCl b3 z4
      go_wp2
      refine bodyPost_ret (results_feedAll _ w.heap.size _ _ _ _ rfl rfl (set2_heap Z4.out _ _)) rfl ?_
      refine ⟨HFe.out.store (M := w.heap.size) (by omega) (by omega) _ _, ?_⟩
      exact (C3.out.setCell (p := ⟨w.heap.size, 0, none⟩) (Nat.le_refl _) _).setCell (p := ⟨w.heap.size, 1, none⟩) (Nat.le_refl _) _
end Go.Proofs.YtanebchmeaomgaaGreatDoor
namespace Go.Proofs.YtanebchmeaomgaaGreatDoor
open Go.RowKit M
set_option linter.unusedVariables false

theorem BoxH.of {w w' : World} {N : Nat} {x y : ByteArray} {r : Option Nat} (h : BoxH w N x y) (hg : w.grownBy w' r) (hN : some N ≠ r) : BoxH w' N x y := by
  have hb := hg.block N h.1 hN
  exact ⟨Nat.lt_of_lt_of_le h.1 hg.size, (World.cell?_of_block (a := ⟨N, 0, none⟩) hb).trans h.2.1, (World.cell?_of_block (a := ⟨N, 1, none⟩) hb).trans h.2.2⟩

set_option maxHeartbeats 1000000 in
theorem putHead_any (w : World) (B : Nat) (v : Value) (l : List UInt8) (x y : ByteArray) (h : OwnY w B v l) (hB : B ≤ w.heap.size) (hl : l.length ≤ 1073741824) (hx : x.size ≤ 1073741824) (hy : y.size ≤ 1073741824) :
    Calls Tryz.prog 132 #[v, .agg #[.string x, .string y]] w fun e w' => (∃ v', e = .returned v' ∧ OwnY w' B v' (l ++ hdTxt (x, y))) ∧ Below B w w' := by
  have hb0 : Below B w (w.alloc (Obj.cells #[Value.string x, Value.string y] 82)) := (Below.refl B w).alloc hB _
  have BH0 := hide (BoxH.made w x y 82)
  have C0 := hide hb0
  have HO := hide (h.next ((Below.refl w.heap.size w).alloc (Nat.le_refl _) (Obj.cells #[Value.string x, Value.string y] 82)))
  have hne : Hid (v.ownBlock ≠ some w.heap.size) := fun e => by have := h.lt _ e; omega
  clear hb0 h
  go_enter Tryz.func132, Tryz.ntmps132
  go_wp2_with (at_builtin; refine wp_append_text rfl _ _ rfl B v l rfl HO.out x rfl ?c1 ?c2 ?_)
  case c1 => omega
  case c2 => simp; omega
  intro v1 w1 ho1 hg1 hb1
  have n0 : v.ownBlock ≠ some w.heap.size := hne.out
  have n1 : v1.ownBlock ≠ some w.heap.size := by
    rcases hb1 with e | e
    · rw [e]; exact n0
    · rw [e]; simp
  have c1 := C0.out.trans (HO.out.grown (by simp; omega) hg1)
  have x1 := BH0.out.of hg1 (fun e => n0 e.symm)
  have BH1 := hide x1
  have N1 := hide n1
  obtain ⟨_, x10, x11⟩ := x1
  have z1 := hg1.size
  simp at z1
  clear hg1 hb1 n0 n1
  go_wp2_with (at_builtin; refine wp_append_text rfl _ _ rfl B v1 (l ++ x.data.toList) rfl ho1 ⟨#[58, 32]⟩ rfl ?c1 ?c2 ?_)
  case c1 => have e : x.data.toList.length = x.size := Array.length_toList; have e2 : (⟨#[58, 32]⟩ : ByteArray).size = 2 := rfl; rw [List.length_append]; omega
  case c2 => omega
  intro v2 w2 ho2 hg2 hb2
  have n2 : v2.ownBlock ≠ some w.heap.size := by
    rcases hb2 with e | e
    · rw [e]; exact N1.out
    · rw [e]; simp; omega
  have c2 := c1.trans (ho1.grown (by omega) hg2)
  have x2 := BH1.out.of hg2 (fun e => N1.out e.symm)
  have BH2 := hide x2
  have N2 := hide n2
  obtain ⟨_, x20, x21⟩ := x2
  have z2 := hg2.size
  clear hg2 hb2 n2 x10 x11 ho1
  go_wp2_with (at_builtin; refine wp_append_text rfl _ _ rfl B v2 _ rfl ho2 y rfl ?c1 ?c2 ?_)
  case c1 => have e : x.data.toList.length = x.size := Array.length_toList; rw [List.length_append, List.length_append]; simp only [List.length_cons, List.length_nil]; omega
  case c2 => omega
  intro v3 w3 ho3 hg3 hb3
  have c3 := c2.trans (ho2.grown (by omega) hg3)
  have z3 := hg3.size
  clear hg3 hb3 x20 x21 ho2
  go_wp2_with (at_builtin; refine wp_append_text rfl _ _ rfl B v3 _ rfl ho3 ⟨#[13, 10]⟩ rfl ?c1 ?c2 ?_)
  case c1 => have e : x.data.toList.length = x.size := Array.length_toList; have e2 : y.data.toList.length = y.size := Array.length_toList; have e3 : (⟨#[13, 10]⟩ : ByteArray).size = 2 := rfl; simp only [List.length_append, List.length_cons]; omega
  case c2 => omega
  intro v4 w4 ho4 hg4 hb4
  have c4 := c3.trans (ho3.grown (by omega) hg4)
  have HO4 : Hid (OwnY w4 B v4 (l ++ hdTxt (x, y))) := by
    show OwnY w4 B v4 (l ++ hdTxt (x, y))
    have e : l ++ hdTxt (x, y) = l ++ (x.data.toList ++ 58 :: 32 :: (y.data.toList ++ [13, 10])) := by simp [hdTxt, crlf]
    rw [e]; exact ho4
  clear ho4 hg4 hb4 ho3
  go_wp2
  go_ret
  exact ⟨⟨v4, rfl, HO4.out⟩, c4⟩
end Go.Proofs.YtanebchmeaomgaaGreatDoor
namespace Go.Proofs.YtanebchmeaomgaaGreatDoor
open Go.RowKit M
set_option linter.unusedVariables false

theorem ret_string {a b : ByteArray} (h : a = b) : Ending.returned (.string a) = .returned (.string b) := by rw [h]

theorem join_head (l : List UInt8) (x y : ByteArray) : bytesOf l ++ x ++ ⟨#[58, 32]⟩ ++ y ++ ⟨#[13, 10]⟩ = bytesOf (l ++ hdTxt (x, y)) := by
  apply ByteArray.ext
  simp [bytesOf, hdTxt, crlf]

set_option maxHeartbeats 1000000 in
theorem l3HeadsText_any (a : Option Addr) (hs : List Hd) (cap B : Nat) (w : World) (h : Hds w B a hs) (hl : hs.length ≤ 1048576) (hsum : sumH hs ≤ 1048576) :
    Calls Tryz.prog 90 #[.slice a hs.length cap] w fun e w' => e = .returned (.string (bytesOf (hdsTxt hs))) ∧ ∃ n, w' = w.drewN n := by
  go_enter Tryz.func90, Tryz.ntmps90
  go_wp2
  go_loopw [3, 4] (fun s i wr => ∃ (k n : Nat) (t : ByteArray), k ≤ hs.length ∧ i = .int .i64 k ∧ s = .string t ∧ t = bytesOf (hdsTxt (hs.take k)) ∧ wr = w.drewN n) (fun _ i _ => hs.length - (intOf i).toNat)
  case atStart => exact ⟨0, 0, _, Nat.zero_le _, rfl, rfl, rfl, rfl⟩
  case round =>
    obtain ⟨k, n, t, hk, rfl, rfl, ht, rfl⟩ := hrel
    have htz : t.size ≤ 8388608 := by
      rw [ht, bytesOf_size, hdsTxt_len]
      have := sumH_take hs k
      rw [List.length_take]; omega
    have HT := hide ht
    clear ht
    by_cases hlt : k < hs.length
    · obtain ⟨b, o, rfl, hb, hc⟩ := h (by omega)
      have hcx := (hc k hlt).1
      have hcy := (hc k hlt).2
      have HS : Hid (hdsTxt (hs.take (k + 1)) = hdsTxt (hs.take k) ++ hdTxt hs[k]) := hdsTxt_snoc hs k hlt
      have hz1 : (hs[k]).1.size ≤ 1048576 := Nat.le_trans (sumH_mem hs _ (List.getElem_mem hlt)).1 hsum
      have hz2 : (hs[k]).2.size ≤ 1048576 := Nat.le_trans (sumH_mem hs _ (List.getElem_mem hlt)).2 hsum
      have hq1 : ¬ (9223372036854775807 < t.size + (hs[k]).1.size) := by omega
      have hq2 : ¬ (9223372036854775807 < t.size + (hs[k]).1.size + 2) := by omega
      have hq3 : ¬ (9223372036854775807 < t.size + (hs[k]).1.size + 2 + (hs[k]).2.size) := by omega
      have hq4 : ¬ (9223372036854775807 < t.size + (hs[k]).1.size + 2 + (hs[k]).2.size + 2) := by omega
      clear hc
      go_wp2
      go_quiet (fail)
      go_wp2
      go_roundw
      case rel => exact ⟨k + 1, n + nq, _, by omega, by go_num, rfl, by rw [HS.out, HT.out]; exact join_head _ _ _, rfl⟩
      case measure => simp [intOf]; omega
    · go_wp2
      go_ret
      exact ⟨ret_string (by rw [HT.out, List.take_of_length_le (by omega)]), n, rfl⟩

theorem below_bytesP (w : World) (s : ByteArray) : Below w.heap.size w (Lib.bytesWorld w 5 s) :=
  ⟨rfl, rfl, rfl, by rw [Lib.bytesWorld_size]; omega, fun k hk => Lib.bytesWorld_at_old w 5 s k hk⟩
theorem byt_bytes (w : World) (s : ByteArray) : Byt (Lib.bytesWorld w 5 s) (w.heap.size + 1) (some ⟨w.heap.size, 0, none⟩) s.data.toList := fun _ =>
  ⟨w.heap.size, 0, rfl, Nat.lt_succ_self _, fun j hj => by
    have e : s.data.toList.length = s.size := Array.length_toList
    rw [Nat.zero_add, Lib.bytesWorld_cell w 5 s j (by omega)]
    simp [List.getD, List.getElem?_eq_getElem hj]⟩

theorem len_line (n : Nat) : (⟨#[99, 111, 110, 116, 101, 110, 116, 45, 108, 101, 110, 103, 116, 104, 58, 32]⟩ : ByteArray) ++ ⟨(Lib.decDigits n).toArray⟩ ++ ⟨#[13, 10]⟩ = bytesOf (lenLine n) := by
  apply ByteArray.ext
  simp [bytesOf, lenLine, lenTag, crlf]

theorem dec_len (n : Nat) (h : n ≤ 1048576) : (Lib.decDigits n).length ≤ 20 := by
  rw [Lib.decDigits_length]
  exact Lib.nDigits_le20 n (by omega)
end Go.Proofs.YtanebchmeaomgaaGreatDoor
namespace Go.Proofs.YtanebchmeaomgaaGreatDoor
open Go.RowKit M
set_option linter.unusedVariables false

set_option maxRecDepth 100000 in
set_option maxHeartbeats 4000000 in
theorem putLines_any (top : ByteArray) (a : Option Addr) (hs : List Hd) (cap B : Nat) (a2 : Option Addr) (hs2 : List Hd) (cap2 B2 : Nat) (w : World) (h : Hds w B a hs) (hB : B ≤ w.heap.size) (h2 : Hds w B2 a2 hs2) (hB2 : B2 ≤ w.heap.size) (ht : top.size ≤ 4194000) (hl : hs.length ≤ 1048576) (hsum : sumH hs ≤ 1048576) (hl2 : hs2.length ≤ 16) (hsum2 : sumH hs2 ≤ 1048576) :
    Calls Tryz.prog 87 #[.string top, .slice a hs.length cap, .slice a2 hs2.length cap2] w fun e w' => (∃ v, e = .returned v ∧ OwnY w' w.heap.size v (linesTxt top.data.toList hs hs2) ∧ (linesTxt top.data.toList hs hs2).length ≤ 33554432) ∧ Below w.heap.size w w' := by
  have HH := hide h
  have HH2 := hide h2
  clear h h2
  obtain ⟨sx, hsx⟩ : ∃ sx, top ++ (⟨#[13, 10]⟩ : ByteArray) = sx := ⟨_, rfl⟩
  have hcv := Lib.run_convert_string_bytes (P := Tryz.prog) w 9 22 5 sx Tryz.underlying9 Tryz.underlying22 Tryz.underlying5
  have hsz : sx.size ≤ 4194304 := by
    rw [← hsx]
    simp only [ByteArray.size_append]
    have e3 : (⟨#[13, 10]⟩ : ByteArray).size = 2 := rfl
    omega
  have HSX : Hid (sx.data.toList = top.data.toList ++ crlf) := by
    show sx.data.toList = top.data.toList ++ crlf
    rw [← hsx]
    simp [crlf]
  have HO1 := hide (OwnY.made w sx (by omega))
  go_enter Tryz.func87, Tryz.ntmps87
  go_wp2
  clear hcv hsx
  go_loopw [7, 17] (fun bv i wr => ∃ (k : Nat) (l : List UInt8), k ≤ hs.length ∧ i = .int .i64 k ∧ l = top.data.toList ++ crlf ++ hdsTxt (hs.take k) ∧ OwnY wr w.heap.size bv l ∧ Below w.heap.size w wr) (fun _ i _ => hs.length - (intOf i).toNat)
  case atStart => exact ⟨0, sx.data.toList, Nat.zero_le _, rfl, by rw [HSX.out]; simp [hdsTxt], HO1.out, below_bytesP w sx⟩
  case round =>
    obtain ⟨k, l, hk, rfl, hL, ho, hbe⟩ := hrel
    have hlz : l.length ≤ 16777216 := by
      have e : sx.data.toList.length = sx.size := Array.length_toList
      rw [hL, List.length_append, ← HSX.out, e, hdsTxt_len]
      have := sumH_take hs k
      rw [List.length_take]; omega
    have HL := hide hL
    clear hL
    by_cases hlt : k < hs.length
    · obtain ⟨b, o, rfl, hb, hc⟩ := HH.out.below hbe hB (by omega)
      have hcx := (hc k hlt).1
      have hcy := (hc k hlt).2
      have HS : Hid (hdsTxt (hs.take (k + 1)) = hdsTxt (hs.take k) ++ hdTxt hs[k]) := hdsTxt_snoc hs k hlt
      have hz1 : (hs[k]).1.size ≤ 1048576 := Nat.le_trans (sumH_mem hs _ (List.getElem_mem hlt)).1 hsum
      have hz2 : (hs[k]).2.size ≤ 1048576 := Nat.le_trans (sumH_mem hs _ (List.getElem_mem hlt)).2 hsum
      have ba : Below wr.heap.size wr (wr.alloc (Obj.cells #[.string hs[k].1, .string hs[k].2] 82)) := (Below.refl _ _).alloc (Nat.le_refl _) _
      have HP := hide (putHead_any _ w.heap.size u7 l hs[k].1 hs[k].2 (ho.next ba) (Nat.le_trans hbe.size ba.size) (by omega) (by omega) (by omega))
      have ca := hide (hbe.trans (ba.mono hbe.size))
      clear hc ho ba
      go_wp2_with fail
      refine HP.out.mono ?_
      rintro e w2 ⟨⟨v2, rfl, ho2⟩, b2⟩
      have c2 := ca.out.trans b2
      have HO2 := hide ho2
      clear ho2 HP
      go_wp2
      go_roundw
      case rel => exact ⟨k + 1, _, by omega, by go_num, by rw [HS.out, HL.out, List.append_assoc], HO2.out, c2⟩
      case measure => simp [intOf]; omega
    · have HL2 : Hid (l = top.data.toList ++ crlf ++ hdsTxt hs) := by
        show l = _
        rw [HL.out, List.take_of_length_le (by omega)]
      have HO3 := hide ho
      clear ho HL
      go_wp2
      go_loopw [7, 27] (fun bv i wr2 => ∃ (j : Nat) (l2 : List UInt8), j ≤ hs2.length ∧ i = .int .i64 j ∧ l2 = top.data.toList ++ crlf ++ hdsTxt hs ++ hdsTxt (hs2.take j) ∧ OwnY wr2 w.heap.size bv l2 ∧ Below w.heap.size w wr2) (fun _ i _ => hs2.length - (intOf i).toNat)
      case atStart => exact ⟨0, l, Nat.zero_le _, rfl, by rw [HL2.out]; simp [hdsTxt], HO3.out, hbe⟩
      case round =>
        clear hbe HO3 hlz
        obtain ⟨j, l2, hj, rfl, hL, ho, hbe⟩ := hrel
        have hlz : l2.length ≤ 16777216 := by
          have e : sx.data.toList.length = sx.size := Array.length_toList
          rw [hL, List.length_append, List.length_append, ← HSX.out, e, hdsTxt_len, hdsTxt_len]
          have := sumH_take hs2 j
          rw [List.length_take]; omega
        have HL := hide hL
        clear hL
        by_cases hlt2 : j < hs2.length
        · obtain ⟨b, o, rfl, hb, hc⟩ := HH2.out.below hbe hB2 (by omega)
          have hcx := (hc j hlt2).1
          have hcy := (hc j hlt2).2
          have HS : Hid (hdsTxt (hs2.take (j + 1)) = hdsTxt (hs2.take j) ++ hdTxt hs2[j]) := hdsTxt_snoc hs2 j hlt2
          have hz1 : (hs2[j]).1.size ≤ 1048576 := Nat.le_trans (sumH_mem hs2 _ (List.getElem_mem hlt2)).1 hsum2
          have hz2 : (hs2[j]).2.size ≤ 1048576 := Nat.le_trans (sumH_mem hs2 _ (List.getElem_mem hlt2)).2 hsum2
          have ba : Below wr.heap.size wr (wr.alloc (Obj.cells #[.string hs2[j].1, .string hs2[j].2] 82)) := (Below.refl _ _).alloc (Nat.le_refl _) _
          have HP := hide (putHead_any _ w.heap.size u7 l2 hs2[j].1 hs2[j].2 (ho.next ba) (Nat.le_trans hbe.size ba.size) (by omega) (by omega) (by omega))
          have ca := hide (hbe.trans (ba.mono hbe.size))
          clear hc ho ba
          go_wp2_with fail
          refine HP.out.mono ?_
          rintro e w2 ⟨⟨v2, rfl, ho2⟩, b2⟩
          have c2 := ca.out.trans b2
          have HO2 := hide ho2
          clear ho2 HP
          go_wp2
          go_roundw
          case rel => exact ⟨j + 1, _, by omega, by go_num, by rw [HS.out, HL.out, List.append_assoc], HO2.out, c2⟩
          case measure => simp [intOf]; omega
        · have HO3 := hide ho
          go_wp2_with (at_builtin; refine wp_append_text rfl _ _ rfl w.heap.size u7 l2 rfl HO3.out ⟨#[13, 10]⟩ rfl ?c1 ?c2 ?_)
          case c1 => have e2 : (⟨#[13, 10]⟩ : ByteArray).size = 2 := rfl; omega
          case c2 => exact hbe.size
          intro v4 w4 ho4 hg4 hb4
          have c4 := hbe.trans (HO3.out.grown hbe.size hg4)
          have HE4 : l2 ++ (⟨#[13, 10]⟩ : ByteArray).data.toList = linesTxt top.data.toList hs hs2 := by
            show l2 ++ [13, 10] = linesTxt top.data.toList hs hs2
            rw [HL.out, List.take_of_length_le (by omega)]
            simp [linesTxt, crlf]
          have hLz : (linesTxt top.data.toList hs hs2).length ≤ 33554432 := by
            rw [← HE4, List.length_append]
            have e : (⟨#[13, 10]⟩ : ByteArray).data.toList.length = 2 := rfl
            omega
          rw [HE4] at ho4
          have HO4 := hide ho4
          clear HE4 ho4 hg4 hb4 ho
          go_wp2
          go_ret
          exact ⟨⟨_, rfl, HO4.out, hLz⟩, c4⟩
end Go.Proofs.YtanebchmeaomgaaGreatDoor
namespace Go.Proofs.YtanebchmeaomgaaGreatDoor
open Go.RowKit M
set_option linter.unusedVariables false

set_option maxHeartbeats 2000000 in
theorem headsOk_any (a : Option Addr) (hs : List Hd) (cap B : Nat) (w : World) (h : Hds w B a hs) (hB : B ≤ w.heap.size) (hsh : ShortH hs) (hz : ∀ x ∈ hs, x.2.size ≤ 281474976710656) (hl : hs.length ≤ maxLen) :
    Calls Tryz.prog 131 #[.slice a hs.length cap] w fun e w' => e = .returned (.bool (hdsB hs)) ∧ Below w.heap.size w w' := by
  unfold maxLen at hl
  by_cases h8 : hs.length ≤ 8
  · have h8' : ¬ (8 : Int) < hs.length := by omega
    go_enter Tryz.func131, Tryz.ntmps131
    go_wp2
    go_loopw [10] (fun i wr => ∃ k : Nat, k ≤ hs.length ∧ i = .int .i64 k ∧ (hs.take k).all hdFree = true ∧ Below w.heap.size w wr) (fun i _ => hs.length - (intOf i).toNat)
    case atStart => exact ⟨0, Nat.zero_le _, rfl, rfl, Below.refl _ _⟩
    case round =>
      obtain ⟨k, hk, rfl, hn, hbe⟩ := hrel
      have HN : Hid ((hs.take k).all hdFree = true) := hn; clear hn
      by_cases hlt : k < hs.length
      · obtain ⟨b, o, rfl, hb, hc⟩ := (h.below hbe hB) (by omega)
        have hcx := (hc k hlt).1
        have hcy := (hc k hlt).2
        have hsz := hsh.at k hlt
        have hzk := hz _ (List.getElem_mem hlt)
        clear hc
        have BH0 := hide (BoxH.made wr hs[k].1 hs[k].2 82)
        have c0 := hbe.alloc hbe.size (Obj.cells #[Value.string hs[k].1, Value.string hs[k].2] 82)
        have C0 := hide c0
        clear c0
        cases h1 : hdB hs[k]
        · have HE : Hid (hdsB hs = false) := hdsB_not hs k hlt (by simp [hdFree, h1])
          go_wp2_with fail
          refine (headOk_any hs[k].1 hs[k].2 _ hsz.1 hsz.2 hzk).mono ?_
          rintro e w1 ⟨rfl, b1⟩
          rw [show hdB (hs[k].1, hs[k].2) = false from h1]
          have c1 := C0.out.trans (b1.mono C0.out.size)
          go_wp2
          go_ret
          exact ⟨ret_bool HE.out.symm, c1⟩
        · go_wp2_with fail
          refine (headOk_any hs[k].1 hs[k].2 _ hsz.1 hsz.2 hzk).mono ?_
          rintro e w1 ⟨rfl, b1⟩
          rw [show hdB (hs[k].1, hs[k].2) = true from h1]
          have c1 := C0.out.trans (b1.mono C0.out.size)
          have BH1 := hide (BH0.out.next b1)
          have x1 := BH1.out
          obtain ⟨_, x10, x11⟩ := x1
          by_cases h3 : hs[k].1 = lenName
          · have HE : Hid (hdsB hs = false) := hdsB_not hs k hlt (by simp [hdFree, h3])
            have HD := hide (decide_eq_true h3)
            clear h3
            go_wp2_with fail
            refine (tellsLength_any hs[k].1 hs[k].2 w1).mono ?_
            rintro e w2 ⟨rfl, b2⟩
            rw [HD.out]
            have c2 := c1.trans (b2.mono c1.size)
            go_wp2
            go_ret
            exact ⟨ret_bool HE.out.symm, c2⟩
          · have HD := hide (decide_eq_false h3)
            go_wp2_with fail
            refine (tellsLength_any hs[k].1 hs[k].2 w1).mono ?_
            rintro e w2 ⟨rfl, b2⟩
            rw [HD.out]
            have c2 := c1.trans (b2.mono c1.size)
            have x2 := BH1.out.next b2
            obtain ⟨_, x20, x21⟩ := x2
            by_cases h4 : hs[k].1 = codName
            · have HE : Hid (hdsB hs = false) := hdsB_not hs k hlt (by simp [hdFree, h4])
              have HD4 := hide (decide_eq_true h4)
              clear h3 h4
              go_wp2_with fail
              refine (tellsCoding_any hs[k].1 hs[k].2 w2).mono ?_
              rintro e w3 ⟨rfl, b3⟩
              rw [HD4.out]
              go_wp2
              go_ret
              exact ⟨ret_bool HE.out.symm, c2.trans (b3.mono c2.size)⟩
            · have HE : Hid ((hs.take (k + 1)).all hdFree = true) := hdsB_snoc hs k hlt HN.out (by simp [hdFree, h1, h3, h4])
              have HD4 := hide (decide_eq_false h4)
              clear h3 h4
              go_wp2_with fail
              refine (tellsCoding_any hs[k].1 hs[k].2 w2).mono ?_
              rintro e w3 ⟨rfl, b3⟩
              rw [HD4.out]
              have c3 := c2.trans (b3.mono c2.size)
              go_wp2
              go_roundw
              case rel => exact ⟨k + 1, by omega, by go_num, HE.out, c3⟩
              case measure => simp [intOf]; omega
      · have HE : Hid (hdsB hs = true) := by
          show hdsB hs = true
          rw [hdsB_all hs k hlt HN.out]; simp [h8]
        go_wp2
        go_ret
        exact ⟨ret_bool HE.out.symm, hbe⟩
  · have HE := hide (hdsB_long hs h8)
    go_enter Tryz.func131, Tryz.ntmps131
    go_wp2
    go_ret
    exact ⟨ret_bool HE.out.symm, Below.refl _ _⟩
end Go.Proofs.YtanebchmeaomgaaGreatDoor
namespace Go.Proofs.YtanebchmeaomgaaGreatDoor
open Go.RowKit M
set_option linter.unusedVariables false

/-- Short enough for a copy of each text. -/
def FitR (r : Rq) : Prop := ShortR r ∧ ∀ x ∈ r.hs, x.2.size ≤ 281474976710656

set_option maxHeartbeats 2000000 in
theorem reqOk_any (a : Option Addr) (r : Rq) (cap B : Nat) (w : World) (h : Hds w B a r.hs) (hB : B ≤ w.heap.size) (hfit : FitR r) :
    Calls Tryz.prog 86 #[.agg #[.string r.m, .string r.p, .slice a r.hs.length cap, .string r.b]] w fun e w' => e = .returned (.bool (reqB r)) ∧ Below w.heap.size w w' := by
  obtain ⟨⟨q1, q2, q3, q4, q5⟩, q6⟩ := hfit
  have HM : Hid (methB r.m = false → reqB r = false) := reqB_m
  have HP : Hid (targB r.p = false → reqB r = false) := reqB_p
  have HH : Hid (hdsB r.hs = false → reqB r = false) := reqB_h
  have HA : Hid (methB r.m = true → targB r.p = true → hdsB r.hs = true → reqB r = decide ((r.b.size : Int) ≤ 200)) := reqB_b
  have q3' := q3
  unfold maxLen at q3'
  have hb0 : Below w.heap.size w (w.alloc (Obj.cells #[Value.string r.m, Value.string r.p, Value.slice a r.hs.length cap, Value.string r.b] 39)) := (Below.refl _ _).alloc (Nat.le_refl _) _
  have BX0 := hide (BoxR.made w a cap r 39)
  have HD := hide h
  have C0 := hide hb0
  obtain ⟨z, hz⟩ : ∃ z, reqB r = z := ⟨_, rfl⟩
  rw [hz] at HM HP HH HA ⊢
  clear hz h hb0
  cases h1 : methB r.m
  · have hz := HM.out h1
    subst hz
    go_enter Tryz.func86, Tryz.ntmps86
    go_wp2_with fail
    refine (methodOk_any r.m _ q1).mono ?_
    rintro e w1 ⟨rfl, b1⟩
    rw [h1]
    have c1 := C0.out.trans (b1.mono C0.out.size)
    go_wp2
    go_ret
    exact ⟨rfl, c1⟩
  · cases h2 : targB r.p
    · have hz := HP.out h2
      subst hz
      go_enter Tryz.func86, Tryz.ntmps86
      go_wp2_with fail
      refine (methodOk_any r.m _ q1).mono ?_
      rintro e w1 ⟨rfl, b1⟩
      rw [h1]
      have c1 := C0.out.trans (b1.mono C0.out.size)
      have BX1 := hide (BX0.out.next b1)
      have x1 := BX1.out
      obtain ⟨_, x10, x11, x12, x13⟩ := x1
      go_wp2_with fail
      refine (targetOk_any r.p w1 q2).mono ?_
      rintro e w2 ⟨rfl, b2⟩
      rw [h2]
      have c2 := c1.trans (b2.mono c1.size)
      go_wp2
      go_ret
      exact ⟨rfl, c2⟩
    · cases h3 : hdsB r.hs
      · have hz := HH.out h3
        subst hz
        go_enter Tryz.func86, Tryz.ntmps86
        go_wp2_with fail
        refine (methodOk_any r.m _ q1).mono ?_
        rintro e w1 ⟨rfl, b1⟩
        rw [h1]
        have c1 := C0.out.trans (b1.mono C0.out.size)
        have BX1 := hide (BX0.out.next b1)
        have x1 := BX1.out
        obtain ⟨_, x10, x11, x12, x13⟩ := x1
        go_wp2_with fail
        refine (targetOk_any r.p w1 q2).mono ?_
        rintro e w2 ⟨rfl, b2⟩
        rw [h2]
        have c2 := c1.trans (b2.mono c1.size)
        have BX2 := hide (BX1.out.next b2)
        clear x10 x11 x12 x13
        have x2 := BX2.out
        obtain ⟨_, x20, x21, x22, x23⟩ := x2
        go_wp2_with fail
        refine (headsOk_any a r.hs cap B w2 (HD.out.below c2 hB) (Nat.le_trans hB c2.size) q5 q6 q4).mono ?_
        rintro e w3 ⟨rfl, b3⟩
        rw [h3]
        have c3 := c2.trans (b3.mono c2.size)
        go_wp2
        go_ret
        exact ⟨rfl, c3⟩
      · have hz := HA.out h1 h2 h3
        subst hz
        go_enter Tryz.func86, Tryz.ntmps86
        go_wp2_with fail
        refine (methodOk_any r.m _ q1).mono ?_
        rintro e w1 ⟨rfl, b1⟩
        rw [h1]
        have c1 := C0.out.trans (b1.mono C0.out.size)
        have BX1 := hide (BX0.out.next b1)
        have x1 := BX1.out
        obtain ⟨_, x10, x11, x12, x13⟩ := x1
        go_wp2_with fail
        refine (targetOk_any r.p w1 q2).mono ?_
        rintro e w2 ⟨rfl, b2⟩
        rw [h2]
        have c2 := c1.trans (b2.mono c1.size)
        have BX2 := hide (BX1.out.next b2)
        clear x10 x11 x12 x13
        have x2 := BX2.out
        obtain ⟨_, x20, x21, x22, x23⟩ := x2
        go_wp2_with fail
        refine (headsOk_any a r.hs cap B w2 (HD.out.below c2 hB) (Nat.le_trans hB c2.size) q5 q6 q4).mono ?_
        rintro e w3 ⟨rfl, b3⟩
        rw [h3]
        have c3 := c2.trans (b3.mono c2.size)
        have BX3 := BX2.out.next b3
        clear x20 x21 x22 x23
        obtain ⟨_, x30, x31, x32, x33⟩ := BX3
        go_wp2
        go_ret
        exact ⟨rfl, c3⟩
end Go.Proofs.YtanebchmeaomgaaGreatDoor
namespace Go.Proofs.YtanebchmeaomgaaGreatDoor
open Go.RowKit M
set_option linter.unusedVariables false

set_option maxRecDepth 100000 in
set_option maxHeartbeats 4000000 in
theorem putAhead_no (a : Option Addr) (r : Rq) (cap B : Nat) (a2 : Option Addr) (n2 cap2 : Nat) (w : World) (h : Hds w B a r.hs) (hB : B ≤ w.heap.size) (hfit : FitR r) (hr : reqB r = false) :
    Calls Tryz.prog 54 #[.agg #[.string r.m, .string r.p, .slice a r.hs.length cap, .string r.b], .slice a2 n2 cap2] w fun e w' => e = .returned (.tuple #[.slice none 0 0, .bool false]) ∧ Below w.heap.size w w' := by
  have HB0 : Hid (Below w.heap.size w (w.alloc (Obj.cells #[Value.string r.m, Value.string r.p, Value.slice a r.hs.length cap, Value.string r.b] 39))) := (Below.refl _ _).alloc (Nat.le_refl _) _
  have HX0 := hide (BoxR.made w a cap r 39)
  have HH := hide h
  have HF := hide hfit
  clear h hfit
  go_enter Tryz.func54, Tryz.ntmps54
  go_wp2_with fail
  refine (reqOk_any a r cap B _ (HH.out.below HB0.out hB) (Nat.le_trans hB HB0.out.size) HF.out).mono ?_
  rintro e w1 ⟨rfl, b1⟩
  rw [hr]
  have c1 := HB0.out.trans (b1.mono HB0.out.size)
  go_wp2
  go_ret2
  exact ⟨rfl, c1⟩

set_option maxRecDepth 100000 in
set_option maxHeartbeats 4000000 in
theorem putAhead_yes (a : Option Addr) (r : Rq) (cap B : Nat) (a2 : Option Addr) (hs2 : List Hd) (cap2 : Nat) (w : World) (h : Hds w B a r.hs) (hB : B ≤ w.heap.size) (h2 : Hds w w.heap.size a2 hs2) (hfit : FitR r) (hl : r.hs.length ≤ 1048576) (hsum : sumH r.hs ≤ 1048576) (hl2 : hs2.length ≤ 16) (hsum2 : sumH hs2 ≤ 1048576) (h1 : r.m.size ≤ 1048576) (h2p : r.p.size ≤ 1048576) (hr : reqB r = true) :
    Calls Tryz.prog 54 #[.agg #[.string r.m, .string r.p, .slice a r.hs.length cap, .string r.b], .slice a2 hs2.length cap2] w fun e w' => (∃ v, e = .returned (.tuple #[v, .bool (decide ((frontL r (hdsTxt hs2)).length ≤ 400))]) ∧ OwnY w' w.heap.size v (frontL r (hdsTxt hs2)) ∧ (frontL r (hdsTxt hs2)).length ≤ 33554432) ∧ Below w.heap.size w w' := by
  have HB0 : Hid (Below w.heap.size w (w.alloc (Obj.cells #[Value.string r.m, Value.string r.p, Value.slice a r.hs.length cap, Value.string r.b] 39))) := (Below.refl _ _).alloc (Nat.le_refl _) _
  have HX0 := hide (BoxR.made w a cap r 39)
  have HH := hide h
  have HH2 := hide h2
  have HF := hide hfit
  clear h h2 hfit
  go_enter Tryz.func54, Tryz.ntmps54
  go_wp2_with fail
  refine (reqOk_any a r cap B _ (HH.out.below HB0.out hB) (Nat.le_trans hB HB0.out.size) HF.out).mono ?_
  rintro e w1 ⟨rfl, b1⟩
  rw [hr]
  have c1 := HB0.out.trans (b1.mono HB0.out.size)
  have BX1 := hide (HX0.out.next b1)
  have x1 := BX1.out
  obtain ⟨hlt1, x10, x11, x12, x13⟩ := x1
  obtain ⟨sx, hsx⟩ : ∃ sx, r.m ++ (⟨#[32]⟩ : ByteArray) ++ r.p ++ ⟨#[32]⟩ ++ ⟨#[72, 84, 84, 80, 47, 49, 46, 49]⟩ = sx := ⟨_, rfl⟩
  have hsz : sx.size ≤ 2200000 := by
    rw [← hsx]
    simp only [ByteArray.size_append]
    have e1 : (⟨#[32]⟩ : ByteArray).size = 1 := rfl
    have e2 : (⟨#[72, 84, 84, 80, 47, 49, 46, 49]⟩ : ByteArray).size = 8 := rfl
    omega
  have HSX : Hid (linesTxt sx.data.toList r.hs hs2 = frontL r (hdsTxt hs2)) := by
    show linesTxt sx.data.toList r.hs hs2 = frontL r (hdsTxt hs2)
    rw [← hsx]
    simp [linesTxt, frontL, topTxt, proto, crlf]
  have HP := hide (putLines_any sx a r.hs cap B a2 hs2 cap2 w.heap.size w1 (HH.out.below c1 hB) (Nat.le_trans hB c1.size) (HH2.out.below c1 (Nat.le_refl _)) c1.size (by omega) hl hsum hl2 hsum2)
  rw [HSX.out] at HP
  obtain ⟨L, hL⟩ : ∃ L, frontL r (hdsTxt hs2) = L := ⟨_, rfl⟩
  rw [hL] at HP
  have HLf := hide hL
  have C1 := hide c1
  clear hL hsz HSX
  go_wp2_with fail
  try rw [hsx]
  refine HP.out.mono ?_
  rintro e w2 ⟨⟨v2, rfl, o2, z2⟩, b2⟩
  have HO2 := hide o2
  obtain ⟨g4, k4, hv4, _, _, _, _, _⟩ := o2.byt
  subst hv4
  have C2 := hide (C1.out.trans (b2.mono C1.out.size))
  clear HP o2 b2 hsx x10 x11 x12 x13
  go_wp2
  refine bodyPost_ret (v := .tuple #[.slice (some ⟨g4, 0, none⟩) L.length k4, .bool (decide ((L.length : Int) ≤ 400))]) (by simp [results, Tryz.results54, go_sem]) rfl ?_
  rw [HLf.out]
  refine ⟨⟨_, ?_, HO2.out.base C1.out.size, z2⟩, C2.out⟩
  have e : decide ((L.length : Int) ≤ 400) = decide (L.length ≤ 400) := by
    by_cases h4 : L.length ≤ 400
    · rw [decide_eq_true h4, decide_eq_true (by omega)]
    · rw [decide_eq_false h4, decide_eq_false (by omega)]
  rw [e]
end Go.Proofs.YtanebchmeaomgaaGreatDoor
namespace Go.Proofs.YtanebchmeaomgaaGreatDoor
open Go.RowKit

theorem pow_glob : Tryz.prog.globalNamed "internal/strconv.uint64pow10" = some 1 := by kernel_rfl
theorem pow_data : (Rows.laid_internal_strconv_uint64pow10 : DataW Unit) = Lib.tabData .u64 Lib.pow10Tab := by kernel_rfl

def PowTab (w : World) : Prop := Lib.TabIs Tryz.prog w "internal/strconv.uint64pow10" .u64 Lib.pow10Tab

theorem PowTab.lt {w : World} (h : PowTab w) : 1 < w.heap.size := by
  have h' : w.var? Tryz.prog "internal/strconv.uint64pow10" = some _ := h
  unfold World.var? at h'
  rw [pow_glob] at h'
  simp only [Option.bind_some] at h'
  rcases Nat.lt_or_ge 1 w.heap.size with h1 | h1
  · exact h1
  · rw [Array.getElem?_eq_none h1] at h'
    simp at h'

theorem PowTab.below {w w' : World} (h : PowTab w) (hb : Below w.heap.size w w') : PowTab w' := var?_below hb pow_glob h.lt h

theorem powTab_of {W : World} {rest : List (String × DataW Unit)} (h : laidMet Tryz.prog (("internal/strconv.uint64pow10", Rows.laid_internal_strconv_uint64pow10) :: rest) W) : PowTab W := by
  rw [pow_data] at h
  exact Lib.tabIs_of_head pow_glob (t := 239) (n := 20) (e := 224) (by kernel_rfl) (by kernel_rfl) (by kernel_rfl) (by kernel_rfl) (by kernel_rfl) h
end Go.Proofs.YtanebchmeaomgaaGreatDoor
namespace Go.Proofs.YtanebchmeaomgaaGreatDoor
open Go.RowKit M

theorem itoa_pos (m : Nat) : Lib.itoa (m : Int) = Lib.decDigits m := by
  unfold Lib.itoa
  rw [if_neg (by omega), Int.toNat_natCast]

theorem itoa_calls (m : Nat) (w : World) (hn : (m : Int) ≤ 9223372036854775807) (ht : PowTab w) :
    Calls Tryz.prog 85 #[.int .i64 m] w fun e w' => e = .returned (.string ⟨(Lib.decDigits m).toArray⟩) ∧ Below w.heap.size w w' := by
  refine (Tryz.strconv_Itoa (m : Int) (by omega) hn w ht).mono ?_
  rintro e w' ⟨rfl, k, os, rfl⟩
  rw [itoa_pos]
  exact ⟨rfl, Lib.below_grow _ w (Nat.le_refl _) k os⟩

set_option maxHeartbeats 400000 in
theorem numText_any (n : Int) (w : World) (hn : n ≤ 9223372036854775807) (ht : PowTab w) :
    Calls Tryz.prog 53 #[.int .i64 n] w fun e w' => e = .returned (.string ⟨(Lib.decDigits n.toNat).toArray⟩) ∧ Below w.heap.size w w' := by
  by_cases h : n < 0
  · have e : n.toNat = 0 := by omega
    have e0 : max n 0 = ((0 : Nat) : Int) := by omega
    rw [e]
    go_enter Tryz.func53, Tryz.ntmps53
    go_wp2_with fail
    rw [show (0 : Int) = ((0 : Nat) : Int) from rfl]
    refine (itoa_calls 0 w (by omega) ht).mono ?_
    rintro e w' ⟨rfl, hb⟩
    go_wp2
    go_ret
    exact ⟨rfl, hb⟩
  · obtain ⟨m, rfl⟩ := Int.eq_ofNat_of_zero_le (by omega : 0 ≤ n)
    rw [Int.toNat_natCast]
    go_enter Tryz.func53, Tryz.ntmps53
    go_wp2_with fail
    refine (itoa_calls m w hn ht).mono ?_
    rintro e w' ⟨rfl, hb⟩
    go_wp2
    go_ret
    exact ⟨rfl, hb⟩
end Go.Proofs.YtanebchmeaomgaaGreatDoor
