/-
  What both sides' TagText does.
  TagAt on both sides.
  TagAt on both sides, over views.
  A help of the laws, by program (tools/gen_help.py): Szz of String.
  A help of the laws, by program (tools/gen_help.py): Sz1 of Prop.
  A help of the laws, by program (tools/gen_help.py): Szz of Prop.
  A help of the laws, by program (tools/gen_help.py): Sz1 of Res.
  A help of the laws, by program (tools/gen_help.py): Szz of Res.
  A help of the laws, by program (tools/gen_help.py): Sz1 of Lock.
  A help of the laws, by program (tools/gen_help.py): Szz of Lock.
  A help of the laws, by program (tools/gen_help.py): Szz of Int.
  A help of the laws, by program (tools/gen_help.py): Sz1 of Srv.
-/
import Derived.Test.YtcgljeagjchobaaDoorNumText
import Derived.Test.YtcgljeagjchobaaDoorSpecTagT
import Derived.Test.YtcgljeagjchobaaDoorMathTag
import Derived.Test.YtcgljeagjchobaaDoorMathBack
import Derived.Test.YtcgljeagjchobaaDoorTurn
import Derived.Test.YtcgljeagjchobaaDoorSvIn
import Derived.Test.YtcgljeagjchobaaDoorGenBox
import Derived.Test.YtcgljeagjchobaaDoorGenLockV
import Derived.Test.YtcgljeagjchobaaDoorSpecFind
import Derived.Test.YtcgljeagjchobaaDoorGenSrv
import Derived.OpenShut
import Derived.Test.YtcgljeagjchobaaDoorRows
import Derived.WalkKit
import Derived.WalkSpells
import Derived.WalkLawsBesides
import Derived.Deep.Light
import Derived.Deep.QuietTactic
import Derived.Deep.RegionHeld3
namespace Go.Proofs.YtcgljeagjchobaaDoor
open Go.RowKit M
set_option linter.unusedVariables false

theorem tagText_any (n : Int) (w : World) (hn : n ≤ 9223372036854775807) (ht : PowTab w) :
    Calls Tryd.prog 20 #[.int .i64 n] w fun e w' => e = .returned (.string (bytesOf (tagL (verL n)))) ∧ Below w.heap.size w w' := by
  have HN := hide (numText_any n w hn ht)
  have HR := hide (verL_cat n)
  obtain ⟨d, hd⟩ : ∃ d : ByteArray, (⟨(Lib.decDigits n.toNat).toArray⟩ : ByteArray) = d := ⟨_, rfl⟩
  have hds : d.size ≤ 100 := by
    rw [← hd]
    show (bytesOf (Lib.decDigits n.toNat)).size ≤ 100
    rw [bytesOf_size]
    have := dec_len 18 n.toNat (by omega)
    omega
  rw [hd] at HN HR
  clear hd
  go_enter Tryd.func20, Tryd.ntmps20
  go_wp2_with fail
  refine HN.out.mono ?_
  rintro e w1 ⟨rfl, b1⟩
  go_wp2
  go_ret
  rw [HR.out]
  exact ⟨rfl, b1⟩
end Go.Proofs.YtcgljeagjchobaaDoor
namespace Go.Proofs.YtcgljeagjchobaaDoor
open Go.RowKit M
set_option linter.unusedVariables false

def tagV (n : Int) : ByteArray := bytesOf (tagL (verL n))
def tagAtT (x : Sv) (p : List ByteArray) : ByteArray := if p.length = 0 then tagV 0 else match x.t[(findI x.t p).toNat]? with | none => ⟨#[]⟩ | some r => if findI x.t p < 0 then ⟨#[]⟩ else tagV r.ve
def tagAtB (x : Sv) (p : List ByteArray) : Bool := decide (p.length = 0) || decide (0 ≤ findI x.t p)
theorem tagAt_root (x : Sv) (p : List ByteArray) (h : p.length = 0) : tagAtT x p = tagV 0 ∧ tagAtB x p = true := by simp [tagAtT, tagAtB, h]
theorem tagAt_none (x : Sv) (p : List ByteArray) (h : ¬ p.length = 0) (h2 : findI x.t p = -1) : tagAtT x p = ⟨#[]⟩ ∧ tagAtB x p = false := by
  simp only [tagAtT, tagAtB, h, h2, if_false, decide_false, Bool.false_or]
  refine ⟨?_, by decide⟩
  split <;> rfl
theorem tagAt_some (x : Sv) (p : List ByteArray) (h : ¬ p.length = 0) (k : Nat) (hk : k < x.t.length) (h2 : findI x.t p = (k : Nat)) : tagAtT x p = tagV x.t[k].ve ∧ tagAtB x p = true := by
  have e1 : ¬ ((k : Int) < 0) := by omega
  have e2 : (0 : Int) ≤ (k : Int) := by omega
  simp only [tagAtT, tagAtB, h, h2, if_false, decide_false, Bool.false_or, Int.toNat_natCast, List.getElem?_eq_getElem hk, e1, decide_eq_true e2, and_self]

set_option maxRecDepth 100000 in
set_option maxHeartbeats 4000000 in
theorem specTagAt_any (x : Sv) (p : List ByteArray) (ta : Option Addr) (tc : Nat) (la : Option Addr) (lc : Nat) (da : Option Addr) (dc : Nat) (ua : Option Addr) (uc B : Nat) (a : Option Addr) (cap D : Nat) (w : World) (h : SvIn w B x ta tc la lc da dc ua uc) (hB : B ≤ w.heap.size) (hs : SvSmall x) (hp : Strs w D a p) (hD : D ≤ w.heap.size) (hpl : p.length ≤ maxLen) (hv : ∀ r ∈ x.t, r.ve ≤ 9223372036854775807) :
    Calls Tryd.prog 6 #[.agg #[.slice ta x.t.length tc, .slice la x.l.length lc, .int .i64 x.now, .int .i64 x.ver, .slice da x.dr.length dc, .slice ua x.us.length uc], .slice a p.length cap] w fun e w' => e = .returned (.tuple #[.string (tagAtT x p), .bool (tagAtB x p)]) ∧ Below w.heap.size w w' := by
  have K0 := hide (show Below w.heap.size w (w.alloc (Obj.cells #[.slice ta x.t.length tc, .slice la x.l.length lc, .int .i64 x.now, .int .i64 x.ver, .slice da x.dr.length dc, .slice ua x.us.length uc] 35)) from (Below.refl _ _).alloc (Nat.le_refl _) _)
  have X0 := hide (BoxV.made w [.slice ta x.t.length tc, .slice la x.l.length lc, .int .i64 x.now, .int .i64 x.ver, .slice da x.dr.length dc, .slice ua x.us.length uc] 35)
  have HT := hide (fun W (hb : Below w.heap.size w W) => h.th.below hb hB)
  have HF := hide (fun W (hb : Below w.heap.size w W) => (specFind_any ta x.t tc B a p cap D W (h.th.below hb hB) (hp.below hb hD) (Nat.le_trans h.tl.1 h.tl.2.1) hpl).mono (fun e w2 (q : _ ∧ _) => (⟨q.1, q.2 W.heap.size⟩ : _ ∧ Below W.heap.size W w2)))
  have HG := hide (fun (n : Int) (W : World) (hb : Below w.heap.size w W) (hn : n ≤ 9223372036854775807) => specTagText_any n W hn)
  have hm : x.t.length ≤ 1048576 := hs.tlen
  have HV := hide hv
  by_cases h0 : p.length = 0
  · obtain ⟨r1, r2⟩ := tagAt_root x p h0
    rw [r1, r2]
    have hi : (p.length : Int) = 0 := by omega
    clear h hs hp hv r1 r2 HF HT HV
    have HQ := hide (HG.out 0 _ K0.out (by decide))
    obtain ⟨d, hd⟩ : ∃ d : ByteArray, tagV 0 = d := ⟨_, rfl⟩
    unfold tagV at hd
    rw [hd] at HQ
    unfold tagV
    rw [hd]
    clear hd h0 HG
    go_enter Tryd.func6, Tryd.ntmps6
    go_wp2_with fail
    refine HQ.out.mono ?_
    rintro e w1 ⟨rfl, b1⟩
    have K1 := hide (K0.out.trans (b1.mono K0.out.size))
    clear b1
    go_wp2
    go_ret2
    exact ⟨rfl, K1.out⟩
  have hi : ¬ (p.length : Int) = 0 := by omega
  rcases findI_cases x.t p with h2 | ⟨k, hk, h2, _⟩
  · obtain ⟨r1, r2⟩ := tagAt_none x p h0 h2
    rw [r1, r2]
    rw [h2] at HF
    have x0 := (X0.out.2 0 _ rfl).1
    clear h hs hp hv r1 r2 HV HG h0 HT h2
    go_enter Tryd.func6, Tryd.ntmps6
    go_wp2_with fail
    refine (HF.out _ K0.out).mono ?_
    rintro e w1 ⟨rfl, b1⟩
    have K1 := hide (K0.out.trans (b1.mono K0.out.size))
    clear b1 x0
    go_wp2
    go_ret2
    exact ⟨rfl, K1.out⟩
  · obtain ⟨r1, r2⟩ := tagAt_some x p h0 k hk h2
    rw [r1, r2]
    rw [h2] at HF
    have x0 := (X0.out.2 0 _ rfl).1
    obtain ⟨d, hd⟩ : ∃ d : ByteArray, tagV x.t[k].ve = d := ⟨_, rfl⟩
    rw [hd]
    unfold tagV at hd
    have HD := hide hd
    clear hd
    have hk0 : ¬ ((k : Int) < 0) := by omega
    have hk1 : (k : Int) < (x.t.length : Int) := by omega
    have hk2 : (0 : Int) ≤ (k : Int) := by omega
    clear h hs hp hv r1 r2 h0 h2
    go_enter Tryd.func6, Tryd.ntmps6
    go_wp2_with fail
    refine (HF.out _ K0.out).mono ?_
    rintro e w1 ⟨rfl, b1⟩
    have K1 := hide (K0.out.trans (b1.mono K0.out.size))
    have X1 := hide (X0.out.next b1)
    clear b1 x0 K0 X0 HF
    have x1 := (X1.out.2 0 _ rfl).1
    obtain ⟨b, o, hta, hbB, hc⟩ := HT.out _ K1.out (by omega)
    obtain ⟨pa, pc, qa, qc, hat, hin⟩ := hc k hk
    subst hta
    have c3 := hat.2.2.2.1
    have HQ := hide (HG.out x.t[k].ve _ K1.out (HV.out _ (List.getElem_mem hk)))
    rw [HD.out] at HQ
    clear HD hc hat hin HG HV HT hbB
    go_wp2_with fail
    refine HQ.out.mono ?_
    rintro e w2 ⟨rfl, b2⟩
    have K2 := hide (K1.out.trans (b2.mono K1.out.size))
    clear b2
    go_wp2
    go_ret2
    exact ⟨rfl, K2.out⟩

set_option maxRecDepth 100000 in
set_option maxHeartbeats 4000000 in
theorem tagAt_any (x : Sv) (p : List ByteArray) (ta : Option Addr) (tc : Nat) (la : Option Addr) (lc : Nat) (da : Option Addr) (dc : Nat) (ua : Option Addr) (uc B : Nat) (a : Option Addr) (cap D : Nat) (w : World) (h : SvIn w B x ta tc la lc da dc ua uc) (hB : B ≤ w.heap.size) (hs : SvSmall x) (hp : Strs w D a p) (hD : D ≤ w.heap.size) (hpl : p.length ≤ maxLen) (hv : ∀ r ∈ x.t, r.ve ≤ 9223372036854775807) (ht : PowTab w) :
    Calls Tryd.prog 9 #[.agg #[.slice ta x.t.length tc, .slice la x.l.length lc, .int .i64 x.now, .int .i64 x.ver, .slice da x.dr.length dc, .slice ua x.us.length uc], .slice a p.length cap] w fun e w' => e = .returned (.tuple #[.string (tagAtT x p), .bool (tagAtB x p)]) ∧ Below w.heap.size w w' := by
  have K0 := hide (show Below w.heap.size w (w.alloc (Obj.cells #[.slice ta x.t.length tc, .slice la x.l.length lc, .int .i64 x.now, .int .i64 x.ver, .slice da x.dr.length dc, .slice ua x.us.length uc] 35)) from (Below.refl _ _).alloc (Nat.le_refl _) _)
  have X0 := hide (BoxV.made w [.slice ta x.t.length tc, .slice la x.l.length lc, .int .i64 x.now, .int .i64 x.ver, .slice da x.dr.length dc, .slice ua x.us.length uc] 35)
  have HT := hide (fun W (hb : Below w.heap.size w W) => h.th.below hb hB)
  have HF := hide (fun W (hb : Below w.heap.size w W) => findRes_any ta x.t tc B a p cap D W (h.th.below hb hB) (hp.below hb hD) (Nat.le_trans h.tl.1 h.tl.2.1) hpl (Nat.le_trans hB hb.size) (Nat.le_trans hD hb.size))
  have HG := hide (fun (n : Int) (W : World) (hb : Below w.heap.size w W) (hn : n ≤ 9223372036854775807) => tagText_any n W hn (ht.below hb))
  have hm : x.t.length ≤ 1048576 := hs.tlen
  have HV := hide hv
  by_cases h0 : p.length = 0
  · obtain ⟨r1, r2⟩ := tagAt_root x p h0
    rw [r1, r2]
    have hi : (p.length : Int) = 0 := by omega
    clear h hs hp hv r1 r2 HF HT HV
    have HQ := hide (HG.out 0 _ K0.out (by decide))
    obtain ⟨d, hd⟩ : ∃ d : ByteArray, tagV 0 = d := ⟨_, rfl⟩
    unfold tagV at hd
    rw [hd] at HQ
    unfold tagV
    rw [hd]
    clear hd h0 HG
    go_enter Tryd.func9, Tryd.ntmps9
    go_wp2_with fail
    refine HQ.out.mono ?_
    rintro e w1 ⟨rfl, b1⟩
    have K1 := hide (K0.out.trans (b1.mono K0.out.size))
    clear b1
    go_wp2
    go_ret2
    exact ⟨rfl, K1.out⟩
  have hi : ¬ (p.length : Int) = 0 := by omega
  rcases findI_cases x.t p with h2 | ⟨k, hk, h2, _⟩
  · obtain ⟨r1, r2⟩ := tagAt_none x p h0 h2
    rw [r1, r2]
    rw [h2] at HF
    have x0 := (X0.out.2 0 _ rfl).1
    clear h hs hp hv r1 r2 HV HG h0 HT h2
    go_enter Tryd.func9, Tryd.ntmps9
    go_wp2_with fail
    refine (HF.out _ K0.out).mono ?_
    rintro e w1 ⟨rfl, b1⟩
    have K1 := hide (K0.out.trans (b1.mono K0.out.size))
    clear b1 x0
    go_wp2
    go_ret2
    exact ⟨rfl, K1.out⟩
  · obtain ⟨r1, r2⟩ := tagAt_some x p h0 k hk h2
    rw [r1, r2]
    rw [h2] at HF
    have x0 := (X0.out.2 0 _ rfl).1
    obtain ⟨d, hd⟩ : ∃ d : ByteArray, tagV x.t[k].ve = d := ⟨_, rfl⟩
    rw [hd]
    unfold tagV at hd
    have HD := hide hd
    clear hd
    have hk0 : ¬ ((k : Int) < 0) := by omega
    have hk1 : (k : Int) < (x.t.length : Int) := by omega
    have hk2 : (0 : Int) ≤ (k : Int) := by omega
    clear h hs hp hv r1 r2 h0 h2
    go_enter Tryd.func9, Tryd.ntmps9
    go_wp2_with fail
    refine (HF.out _ K0.out).mono ?_
    rintro e w1 ⟨rfl, b1⟩
    have K1 := hide (K0.out.trans (b1.mono K0.out.size))
    have X1 := hide (X0.out.next b1)
    clear b1 x0 K0 X0 HF
    have x1 := (X1.out.2 0 _ rfl).1
    obtain ⟨b, o, hta, hbB, hc⟩ := HT.out _ K1.out (by omega)
    obtain ⟨pa, pc, qa, qc, hat, hin⟩ := hc k hk
    subst hta
    have c3 := hat.2.2.2.1
    have HQ := hide (HG.out x.t[k].ve _ K1.out (HV.out _ (List.getElem_mem hk)))
    rw [HD.out] at HQ
    clear HD hc hat hin HG HV HT hbB
    go_wp2_with fail
    refine HQ.out.mono ?_
    rintro e w2 ⟨rfl, b2⟩
    have K2 := hide (K1.out.trans (b2.mono K1.out.size))
    clear b2
    go_wp2
    go_ret2
    exact ⟨rfl, K2.out⟩
end Go.Proofs.YtcgljeagjchobaaDoor
namespace Go.Proofs.YtcgljeagjchobaaDoor
open Go.RowKit M
set_option linter.unusedVariables false

theorem ve_wf {x : Sv} (ok : okR (dSv x)) : ∀ r ∈ x.t, r.ve ≤ 9223372036854775807 := fun r hr => by
  have h1 := okR_mem ok (.l (x.t.map dRs)) (by simp [dSv])
  have h2 := (okRs_mem _ h1.1 (dRs r) (List.mem_map_of_mem hr)).1
  have h3 : (Lit.int .i64 r.ve).wf = true := okR_mem h2 (.c (.int .i64 r.ve)) (by simp [dRs])
  have := bounds_i64 h3
  omega
theorem specTagAt_gen (x : Sv) (p : List ByteArray) (u0 u1 u4 u5 v : Value) (W : World) (h0 : View W W.heap.size u0 (.l (x.t.map dRs))) (h1 : View W W.heap.size u1 (.l (x.l.map dLk))) (h4 : View W W.heap.size u4 (.l (x.dr.map dI))) (h5 : View W W.heap.size u5 (.l (x.us.map dI))) (hv : View W W.heap.size v (.l (p.map dS))) (hsz : szR (dSv x) ≤ 1048576) (ok : okR (dSv x)) :
    Calls Tryd.prog 6 #[.agg #[u0, u1, .int .i64 x.now, .int .i64 x.ver, u4, u5], v] W fun e w' => e = .returned (.tuple #[.string (tagAtT x p), .bool (tagAtB x p)]) ∧ Below W.heap.size W w' := by
  obtain ⟨ta, tc, la, lc, da, dc, ua, uc, rfl, rfl, rfl, rfl, h⟩ := svIn_of_view h0 h1 h4 h5
  obtain ⟨a, cap, rfl, k1, k2, k3, k4⟩ := strs_of_view hv
  exact specTagAt_any x p ta tc la lc da dc ua uc W.heap.size a cap W.heap.size W h (Nat.le_refl _) (sv_small hsz) k4 (Nat.le_refl _) (Nat.le_trans k1 k2) (ve_wf ok)
theorem tagAt_gen (x : Sv) (p : List ByteArray) (u0 u1 u4 u5 v : Value) (W : World) (h0 : View W W.heap.size u0 (.l (x.t.map dRs))) (h1 : View W W.heap.size u1 (.l (x.l.map dLk))) (h4 : View W W.heap.size u4 (.l (x.dr.map dI))) (h5 : View W W.heap.size u5 (.l (x.us.map dI))) (hv : View W W.heap.size v (.l (p.map dS))) (hsz : szR (dSv x) ≤ 1048576) (ok : okR (dSv x)) (ht : PowTab W) :
    Calls Tryd.prog 9 #[.agg #[u0, u1, .int .i64 x.now, .int .i64 x.ver, u4, u5], v] W fun e w' => e = .returned (.tuple #[.string (tagAtT x p), .bool (tagAtB x p)]) ∧ Below W.heap.size W w' := by
  obtain ⟨ta, tc, la, lc, da, dc, ua, uc, rfl, rfl, rfl, rfl, h⟩ := svIn_of_view h0 h1 h4 h5
  obtain ⟨a, cap, rfl, k1, k2, k3, k4⟩ := strs_of_view hv
  exact tagAt_any x p ta tc la lc da dc ua uc W.heap.size a cap W.heap.size W h (Nat.le_refl _) (sv_small hsz) k4 (Nat.le_refl _) (Nat.le_trans k1 k2) (ve_wf ok) ht
end Go.Proofs.YtcgljeagjchobaaDoor
namespace Go.Proofs.YtcgljeagjchobaaDoor
open Go.RowKit M
set_option linter.unusedVariables false

set_option maxRecDepth 100000 in
set_option maxHeartbeats 4000000 in
theorem szStringS_gen (l : List ByteArray) (v : Value) (left B : Nat) (w : World) (h : View w B v (.l (l.map dS))) (hB : B ≤ w.heap.size) (hok : okF (.l (l.map dS))) (hleft : left ≤ 1048576) :
    Calls Tryd.prog 5 #[v, .int .i64 left] w fun e w' => (∃ z : Int, e = .returned (.int .i64 z) ∧ (z < 0 ∨ ∃ m : Nat, z = m ∧ szRs (l.map dS) + m = left)) ∧ Below w.heap.size w w' := by
  obtain ⟨a, cap, rfl, hl, hm, _, hat⟩ := h.rows 1 (fun _ => rfl)
  have hl2 : l.length ≤ maxLen := Nat.le_trans hl hm
  unfold maxLen at hl2
  by_cases hlt0 : left < l.length
  · go_enter Tryd.func5, Tryd.ntmps5
    go_wp2
    go_ret
    exact ⟨⟨_, rfl, .inl (by omega)⟩, Below.refl _ _⟩
  · have HAT := hide hat
    have HOK := hide hok.1
    clear h hat hok
    go_enter Tryd.func5, Tryd.ntmps5
    go_wp2
    go_loopw [1, 5] (fun lv i wr => ∃ k m : Nat, k ≤ l.length ∧ i = .int .i64 k ∧ lv = .int .i64 m ∧ Hid (szRs ((l.take k).map dS) + (l.length - k) + m = left) ∧ Below w.heap.size w wr) (fun _ i _ => l.length - (intOf i).toNat)
    case atStart => exact ⟨0, left - l.length, Nat.zero_le _, rfl, by congr 1; omega, (by show _ = _; simp [szRs]; omega), Below.refl _ _⟩
    case round =>
      obtain ⟨k, m, hk, rfl, rfl, HM, hbe⟩ := hrel
      by_cases hlt : k < l.length
      · obtain ⟨b, o, C, rfl, hb, hc⟩ := HAT.out (by omega)
        have hck := hc k hlt
        have HS2 := hide (szAtF_next dS l k hlt)
        have hbw : b < w.heap.size := Nat.lt_of_lt_of_le hb hB
        have hm1 : m ≤ 1048576 := by have := HM.out; omega
        have hokx := (okRs_mem _ HOK.out _ (List.mem_map_of_mem (f := dS) (List.getElem_mem hlt))).1
        obtain ⟨x, hx⟩ : ∃ x, l[k] = x := ⟨_, rfl⟩
        rw [hx] at hck HS2 hokx
        clear hx hc
        have c0 : wr.cell? ⟨b, o + k, none⟩ = some (.string x) := by
          obtain ⟨c, v⟩ := hck 0 (.c (.string x)) rfl
          rw [v.inv] at c
          simp only [Nat.mul_one, Nat.add_zero] at c
          exact (hbe.cell (p := ⟨b, o + k, none⟩) hbw).trans c
        clear hck
        have s0 : x.size ≤ maxLen := okR_mem hokx (.c (.string x)) (by simp [dS])
        unfold maxLen at s0
        by_cases q : m < x.size
        · go_wp2
          go_ret
          exact ⟨⟨_, rfl, .inl (by omega)⟩, hbe⟩
        · go_wp2
          go_roundw
          case rel => exact ⟨k + 1, m - x.size, by omega, by go_num, by first | go_num | (congr 1; omega), (by show _ = _; rw [HS2.out]; have := HM.out; simp only [dS, szR, szF, szV]; omega), hbe⟩
          case measure => simp [intOf]; omega
      · have HM2 := HM.out
        rw [List.take_of_length_le (by omega)] at HM2
        have HM3 := hide HM2
        clear HM2
        go_wp2
        go_ret
        exact ⟨⟨m, rfl, .inr ⟨m, rfl, by have := HM3.out; omega⟩⟩, hbe⟩
end Go.Proofs.YtcgljeagjchobaaDoor
namespace Go.Proofs.YtcgljeagjchobaaDoor
open Go.RowKit M
set_option linter.unusedVariables false

set_option maxRecDepth 100000 in
set_option maxHeartbeats 4000000 in
theorem szProp_gen (x : Pp) (left B : Nat) (w : World) (hB : B ≤ w.heap.size) (hok : okR (dPp x)) (hleft : left ≤ 1048576) :
    Calls Tryd.prog 42 #[.agg #[.string x.1, .string x.2.1, .string x.2.2], .int .i64 left] w fun e w' => (∃ z : Int, e = .returned (.int .i64 z) ∧ (z < 0 ∨ ∃ m : Nat, z = m ∧ szR (dPp x) + m = left)) ∧ Below w.heap.size w w' := by
  have K0 := hide (show Below w.heap.size w (w.alloc (Obj.cells #[.string x.1, .string x.2.1, .string x.2.2] 75)) from (Below.refl _ _).alloc (Nat.le_refl _) _)
  have X0 := hide (BoxV.made w [.string x.1, .string x.2.1, .string x.2.2] 75)
  have hsum : szR (dPp x) = (x.1).size + (x.2.1).size + (x.2.2).size := by simp [dPp, szR, szF, szV]; try omega
  have HS := hide hsum
  clear hsum
  have s0 : (x.1).size ≤ maxLen := okR_mem hok (.c (.string (x.1))) (by simp [dPp])
  have s1 : (x.2.1).size ≤ maxLen := okR_mem hok (.c (.string (x.2.1))) (by simp [dPp])
  have s2 : (x.2.2).size ≤ maxLen := okR_mem hok (.c (.string (x.2.2))) (by simp [dPp])
  unfold maxLen at s0 s1 s2
  clear hok
  go_enter Tryd.func42, Tryd.ntmps42
  by_cases q0 : left < (x.1).size
  · go_wp2
    go_ret
    exact ⟨⟨_, rfl, .inl (by omega)⟩, K0.out⟩
  obtain ⟨m0, hm0⟩ : ∃ m : Nat, (x.1).size + m = left := ⟨left - (x.1).size, by omega⟩
  have e0 : (left : Int) - ((x.1).size : Int) = (m0 : Int) := by omega
  have hn0 : m0 ≤ 1048576 := by omega
  have E0 := hide hm0
  clear hm0 q0
  by_cases q1 : m0 < (x.2.1).size
  · go_wp2
    go_ret
    exact ⟨⟨_, rfl, .inl (by omega)⟩, K0.out⟩
  obtain ⟨m1, hm1⟩ : ∃ m : Nat, (x.2.1).size + m = m0 := ⟨m0 - (x.2.1).size, by omega⟩
  have e1 : (m0 : Int) - ((x.2.1).size : Int) = (m1 : Int) := by omega
  have hn1 : m1 ≤ 1048576 := by omega
  have E1 := hide hm1
  clear hm1 q1
  by_cases q2 : m1 < (x.2.2).size
  · go_wp2
    go_ret
    exact ⟨⟨_, rfl, .inl (by omega)⟩, K0.out⟩
  obtain ⟨m2, hm2⟩ : ∃ m : Nat, (x.2.2).size + m = m1 := ⟨m1 - (x.2.2).size, by omega⟩
  have e2 : (m1 : Int) - ((x.2.2).size : Int) = (m2 : Int) := by omega
  have hn2 : m2 ≤ 1048576 := by omega
  have E2 := hide hm2
  clear hm2 q2
  go_wp2
  go_ret
  exact ⟨⟨_, rfl, .inr ⟨m2, rfl, by rw [HS.out]; have := E0.out; have := E1.out; have := E2.out; omega⟩⟩, K0.out⟩
end Go.Proofs.YtcgljeagjchobaaDoor
namespace Go.Proofs.YtcgljeagjchobaaDoor
open Go.RowKit M
set_option linter.unusedVariables false

set_option maxRecDepth 100000 in
set_option maxHeartbeats 4000000 in
theorem szPropS_gen (l : List Pp) (v : Value) (left B : Nat) (w : World) (h : View w B v (.l (l.map dPp))) (hB : B ≤ w.heap.size) (hok : okF (.l (l.map dPp))) (hleft : left ≤ 1048576) :
    Calls Tryd.prog 37 #[v, .int .i64 left] w fun e w' => (∃ z : Int, e = .returned (.int .i64 z) ∧ (z < 0 ∨ ∃ m : Nat, z = m ∧ szRs (l.map dPp) + m = left)) ∧ Below w.heap.size w w' := by
  obtain ⟨a, cap, rfl, hl, hm, _, hat⟩ := h.rows 3 (fun _ => rfl)
  have hl2 : l.length ≤ maxLen := Nat.le_trans hl hm
  unfold maxLen at hl2
  by_cases hlt0 : left < l.length
  · go_enter Tryd.func37, Tryd.ntmps37
    go_wp2
    go_ret
    exact ⟨⟨_, rfl, .inl (by omega)⟩, Below.refl _ _⟩
  · have HAT := hide hat
    have HOK := hide hok.1
    clear h hat hok
    go_enter Tryd.func37, Tryd.ntmps37
    go_wp2
    go_loopw [1, 5] (fun lv i wr => ∃ k m : Nat, k ≤ l.length ∧ i = .int .i64 k ∧ lv = .int .i64 m ∧ Hid (szRs ((l.take k).map dPp) + (l.length - k) + m = left) ∧ Below w.heap.size w wr) (fun _ i _ => l.length - (intOf i).toNat)
    case atStart => exact ⟨0, left - l.length, Nat.zero_le _, rfl, by congr 1; omega, (by show _ = _; simp [szRs]; omega), Below.refl _ _⟩
    case round =>
      obtain ⟨k, m, hk, rfl, rfl, HM, hbe⟩ := hrel
      by_cases hlt : k < l.length
      · obtain ⟨b, o, C, rfl, hb, hc⟩ := HAT.out (by omega)
        have hck := hc k hlt
        have HS2 := hide (szAtF_next dPp l k hlt)
        have hbw : b < w.heap.size := Nat.lt_of_lt_of_le hb hB
        have hm1 : m ≤ 1048576 := by have := HM.out; omega
        have hokx := (okRs_mem _ HOK.out _ (List.mem_map_of_mem (f := dPp) (List.getElem_mem hlt))).1
        obtain ⟨x, hx⟩ : ∃ x, l[k] = x := ⟨_, rfl⟩
        rw [hx] at hck HS2 hokx
        clear hx hc
        have c0 : wr.cell? ⟨b, o + k * 3, none⟩ = some (.string x.1) := by
          obtain ⟨c, v⟩ := hck 0 (.c (.string x.1)) rfl
          rw [v.inv] at c
          simp only [Nat.add_zero] at c
          exact (hbe.cell (p := ⟨b, o + k * 3, none⟩) hbw).trans c
        have c1 : wr.cell? ⟨b, o + k * 3 + 1, none⟩ = some (.string x.2.1) := by
          obtain ⟨c, v⟩ := hck 1 (.c (.string x.2.1)) rfl
          rw [v.inv] at c
          exact (hbe.cell (p := ⟨b, o + k * 3 + 1, none⟩) hbw).trans c
        have c2 : wr.cell? ⟨b, o + k * 3 + 2, none⟩ = some (.string x.2.2) := by
          obtain ⟨c, v⟩ := hck 2 (.c (.string x.2.2)) rfl
          rw [v.inv] at c
          exact (hbe.cell (p := ⟨b, o + k * 3 + 2, none⟩) hbw).trans c
        clear hck
        have HC := hide (szProp_gen x m B wr (Nat.le_trans hB hbe.size) hokx hm1)
        clear hokx
        go_wp2_with fail
        refine HC.out.mono ?_
        rintro e w1 ⟨⟨z, rfl, hz⟩, hb1⟩
        have c9 := hbe.trans (hb1.mono hbe.size)
        rcases hz with hz | ⟨m', rfl, hm'⟩
        · go_wp2
          go_ret
          exact ⟨⟨_, rfl, .inl (by omega)⟩, c9⟩
        · have HM' := hide hm'
          clear hm'
          go_wp2
          go_roundw
          case rel => exact ⟨k + 1, m', by omega, by go_num, rfl, (by show _ = _; rw [HS2.out]; have := HM.out; have := HM'.out; omega), c9⟩
          case measure => simp [intOf]; omega
      · have HM2 := HM.out
        rw [List.take_of_length_le (by omega)] at HM2
        have HM3 := hide HM2
        clear HM2
        go_wp2
        go_ret
        exact ⟨⟨m, rfl, .inr ⟨m, rfl, by have := HM3.out; omega⟩⟩, hbe⟩
end Go.Proofs.YtcgljeagjchobaaDoor
namespace Go.Proofs.YtcgljeagjchobaaDoor
open Go.RowKit M
set_option linter.unusedVariables false

set_option maxRecDepth 100000 in
set_option maxHeartbeats 4000000 in
theorem szRes_gen (x : Rs) (u0 u4 : Value) (left B : Nat) (w : World) (h0 : View w B u0 (.l (x.pa.map dS))) (h4 : View w B u4 (.l (x.ps.map dPp))) (hB : B ≤ w.heap.size) (hok : okR (dRs x)) (hleft : left ≤ 1048576) :
    Calls Tryd.prog 25 #[.agg #[u0, .bool x.co, .string x.bo, .int .i64 x.ve, u4], .int .i64 left] w fun e w' => (∃ z : Int, e = .returned (.int .i64 z) ∧ (z < 0 ∨ ∃ m : Nat, z = m ∧ szR (dRs x) + m = left)) ∧ Below w.heap.size w w' := by
  have K0 := hide (show Below w.heap.size w (w.alloc (Obj.cells #[u0, .bool x.co, .string x.bo, .int .i64 x.ve, u4] 58)) from (Below.refl _ _).alloc (Nat.le_refl _) _)
  have X0 := hide (BoxV.made w [u0, .bool x.co, .string x.bo, .int .i64 x.ve, u4] 58)
  have hsum : szR (dRs x) = szRs (x.pa.map dS) + (x.bo).size + szRs (x.ps.map dPp) := by simp [dRs, szR, szF, szV]; try omega
  have HS := hide hsum
  clear hsum
  have s0 : okF (.l (x.pa.map dS)) := okR_mem hok _ (by simp [dRs])
  have s2 : (x.bo).size ≤ maxLen := okR_mem hok (.c (.string (x.bo))) (by simp [dRs])
  have s4 : okF (.l (x.ps.map dPp)) := okR_mem hok _ (by simp [dRs])
  unfold maxLen at s2
  have S0 := hide s0
  clear s0
  have S4 := hide s4
  clear s4
  clear hok
  go_enter Tryd.func25, Tryd.ntmps25
  have HQ := hide (szStringS_gen (x.pa) u0 left B _ (h0.stays K0.out hB) (Nat.le_trans hB K0.out.size) S0.out hleft)
  go_wp2_with fail
  refine HQ.out.mono ?_
  rintro e w1 ⟨⟨z, rfl, hz⟩, b1⟩
  have K1 := hide (K0.out.trans (b1.mono K0.out.size))
  have X1 := hide (X0.out.next b1)
  clear HQ b1 K0 X0
  rcases hz with hz | ⟨m0, rfl, hm0⟩
  · go_wp2
    go_ret
    exact ⟨⟨_, rfl, .inl (by omega)⟩, K1.out⟩
  have hn0 : m0 ≤ 1048576 := by omega
  have E0 := hide hm0
  clear hm0
  have c2 := (X1.out.2 2 _ rfl).1
  by_cases q2 : m0 < (x.bo).size
  · go_wp2
    go_ret
    exact ⟨⟨_, rfl, .inl (by omega)⟩, K1.out⟩
  obtain ⟨m2, hm2⟩ : ∃ m : Nat, (x.bo).size + m = m0 := ⟨m0 - (x.bo).size, by omega⟩
  have e2 : (m0 : Int) - ((x.bo).size : Int) = (m2 : Int) := by omega
  have hn2 : m2 ≤ 1048576 := by omega
  have E2 := hide hm2
  clear hm2 q2
  have c4 := (X1.out.2 4 _ rfl).1
  have HQ := hide (szPropS_gen (x.ps) u4 m2 B _ (h4.stays K1.out hB) (Nat.le_trans hB K1.out.size) S4.out hn2)
  go_wp2_with fail
  refine HQ.out.mono ?_
  rintro e w2 ⟨⟨z, rfl, hz⟩, b2⟩
  have K2 := hide (K1.out.trans (b2.mono K1.out.size))
  have X2 := hide (X1.out.next b2)
  clear HQ b2 K1 X1 c4
  rcases hz with hz | ⟨m4, rfl, hm4⟩
  · go_wp2
    go_ret
    exact ⟨⟨_, rfl, .inl (by omega)⟩, K2.out⟩
  have hn4 : m4 ≤ 1048576 := by omega
  have E4 := hide hm4
  clear hm4
  go_wp2
  go_ret
  exact ⟨⟨_, rfl, .inr ⟨m4, rfl, by rw [HS.out]; have := E0.out; have := E2.out; have := E4.out; omega⟩⟩, K2.out⟩
end Go.Proofs.YtcgljeagjchobaaDoor
namespace Go.Proofs.YtcgljeagjchobaaDoor
open Go.RowKit M
set_option linter.unusedVariables false

set_option maxRecDepth 100000 in
set_option maxHeartbeats 4000000 in
theorem szResS_gen (l : List Rs) (v : Value) (left B : Nat) (w : World) (h : View w B v (.l (l.map dRs))) (hB : B ≤ w.heap.size) (hok : okF (.l (l.map dRs))) (hleft : left ≤ 1048576) :
    Calls Tryd.prog 12 #[v, .int .i64 left] w fun e w' => (∃ z : Int, e = .returned (.int .i64 z) ∧ (z < 0 ∨ ∃ m : Nat, z = m ∧ szRs (l.map dRs) + m = left)) ∧ Below w.heap.size w w' := by
  obtain ⟨a, cap, rfl, hl, hm, _, hat⟩ := h.rows 5 (fun _ => rfl)
  have hl2 : l.length ≤ maxLen := Nat.le_trans hl hm
  unfold maxLen at hl2
  by_cases hlt0 : left < l.length
  · go_enter Tryd.func12, Tryd.ntmps12
    go_wp2
    go_ret
    exact ⟨⟨_, rfl, .inl (by omega)⟩, Below.refl _ _⟩
  · have HAT := hide hat
    have HOK := hide hok.1
    clear h hat hok
    go_enter Tryd.func12, Tryd.ntmps12
    go_wp2
    go_loopw [1, 5] (fun lv i wr => ∃ k m : Nat, k ≤ l.length ∧ i = .int .i64 k ∧ lv = .int .i64 m ∧ Hid (szRs ((l.take k).map dRs) + (l.length - k) + m = left) ∧ Below w.heap.size w wr) (fun _ i _ => l.length - (intOf i).toNat)
    case atStart => exact ⟨0, left - l.length, Nat.zero_le _, rfl, by congr 1; omega, (by show _ = _; simp [szRs]; omega), Below.refl _ _⟩
    case round =>
      obtain ⟨k, m, hk, rfl, rfl, HM, hbe⟩ := hrel
      by_cases hlt : k < l.length
      · obtain ⟨b, o, C, rfl, hb, hc⟩ := HAT.out (by omega)
        have hck := hc k hlt
        have HS2 := hide (szAtF_next dRs l k hlt)
        have hbw : b < w.heap.size := Nat.lt_of_lt_of_le hb hB
        have hm1 : m ≤ 1048576 := by have := HM.out; omega
        have hokx := (okRs_mem _ HOK.out _ (List.mem_map_of_mem (f := dRs) (List.getElem_mem hlt))).1
        obtain ⟨x, hx⟩ : ∃ x, l[k] = x := ⟨_, rfl⟩
        rw [hx] at hck HS2 hokx
        clear hx hc
        obtain ⟨c0, v0⟩ := hck 0 (.l (x.pa.map dS)) rfl
        simp only [Nat.add_zero] at c0
        have c0 := (hbe.cell (p := ⟨b, o + k * 5, none⟩) hbw).trans c0
        have c1 : wr.cell? ⟨b, o + k * 5 + 1, none⟩ = some (.bool x.co) := by
          obtain ⟨c, v⟩ := hck 1 (.c (.bool x.co)) rfl
          rw [v.inv] at c
          exact (hbe.cell (p := ⟨b, o + k * 5 + 1, none⟩) hbw).trans c
        have c2 : wr.cell? ⟨b, o + k * 5 + 2, none⟩ = some (.string x.bo) := by
          obtain ⟨c, v⟩ := hck 2 (.c (.string x.bo)) rfl
          rw [v.inv] at c
          exact (hbe.cell (p := ⟨b, o + k * 5 + 2, none⟩) hbw).trans c
        have c3 : wr.cell? ⟨b, o + k * 5 + 3, none⟩ = some (.int .i64 x.ve) := by
          obtain ⟨c, v⟩ := hck 3 (.c (.int .i64 x.ve)) rfl
          rw [v.inv] at c
          exact (hbe.cell (p := ⟨b, o + k * 5 + 3, none⟩) hbw).trans c
        obtain ⟨c4, v4⟩ := hck 4 (.l (x.ps.map dPp)) rfl
        have c4 := (hbe.cell (p := ⟨b, o + k * 5 + 4, none⟩) hbw).trans c4
        clear hck
        have HC := hide (szRes_gen x (C k 0) (C k 4) m B wr (v0.stays hbe hB) (v4.stays hbe hB) (Nat.le_trans hB hbe.size) hokx hm1)
        clear hokx v0 v4
        go_wp2_with fail
        refine HC.out.mono ?_
        rintro e w1 ⟨⟨z, rfl, hz⟩, hb1⟩
        have c9 := hbe.trans (hb1.mono hbe.size)
        rcases hz with hz | ⟨m', rfl, hm'⟩
        · go_wp2
          go_ret
          exact ⟨⟨_, rfl, .inl (by omega)⟩, c9⟩
        · have HM' := hide hm'
          clear hm'
          go_wp2
          go_roundw
          case rel => exact ⟨k + 1, m', by omega, by go_num, rfl, (by show _ = _; rw [HS2.out]; have := HM.out; have := HM'.out; omega), c9⟩
          case measure => simp [intOf]; omega
      · have HM2 := HM.out
        rw [List.take_of_length_le (by omega)] at HM2
        have HM3 := hide HM2
        clear HM2
        go_wp2
        go_ret
        exact ⟨⟨m, rfl, .inr ⟨m, rfl, by have := HM3.out; omega⟩⟩, hbe⟩
end Go.Proofs.YtcgljeagjchobaaDoor
namespace Go.Proofs.YtcgljeagjchobaaDoor
open Go.RowKit M
set_option linter.unusedVariables false

set_option maxRecDepth 100000 in
set_option maxHeartbeats 4000000 in
theorem szLock_gen (x : Lk) (u1 : Value) (left B : Nat) (w : World) (h1 : View w B u1 (.l (x.pa.map dS))) (hB : B ≤ w.heap.size) (hok : okR (dLk x)) (hleft : left ≤ 1048576) :
    Calls Tryd.prog 26 #[.agg #[.int .i64 x.tk, u1, .bool x.de, .bool x.sh, .int .i64 x.un], .int .i64 left] w fun e w' => (∃ z : Int, e = .returned (.int .i64 z) ∧ (z < 0 ∨ ∃ m : Nat, z = m ∧ szR (dLk x) + m = left)) ∧ Below w.heap.size w w' := by
  have K0 := hide (show Below w.heap.size w (w.alloc (Obj.cells #[.int .i64 x.tk, u1, .bool x.de, .bool x.sh, .int .i64 x.un] 61)) from (Below.refl _ _).alloc (Nat.le_refl _) _)
  have X0 := hide (BoxV.made w [.int .i64 x.tk, u1, .bool x.de, .bool x.sh, .int .i64 x.un] 61)
  have hsum : szR (dLk x) = szRs (x.pa.map dS) := by simp [dLk, szR, szF, szV]
  have HS := hide hsum
  clear hsum
  have s1 : okF (.l (x.pa.map dS)) := okR_mem hok _ (by simp [dLk])
  have S1 := hide s1
  clear s1
  clear hok
  go_enter Tryd.func26, Tryd.ntmps26
  have HQ := hide (szStringS_gen (x.pa) u1 left B _ (h1.stays K0.out hB) (Nat.le_trans hB K0.out.size) S1.out hleft)
  go_wp2_with fail
  refine HQ.out.mono ?_
  rintro e w1 ⟨⟨z, rfl, hz⟩, b1⟩
  have K1 := hide (K0.out.trans (b1.mono K0.out.size))
  have X1 := hide (X0.out.next b1)
  clear HQ b1 K0 X0
  rcases hz with hz | ⟨m1, rfl, hm1⟩
  · go_wp2
    go_ret
    exact ⟨⟨_, rfl, .inl (by omega)⟩, K1.out⟩
  have hn1 : m1 ≤ 1048576 := by omega
  have E1 := hide hm1
  clear hm1
  go_wp2
  go_ret
  exact ⟨⟨_, rfl, .inr ⟨m1, rfl, by rw [HS.out]; have := E1.out; omega⟩⟩, K1.out⟩
end Go.Proofs.YtcgljeagjchobaaDoor
namespace Go.Proofs.YtcgljeagjchobaaDoor
open Go.RowKit M
set_option linter.unusedVariables false

set_option maxRecDepth 100000 in
set_option maxHeartbeats 4000000 in
theorem szLockS_gen (l : List Lk) (v : Value) (left B : Nat) (w : World) (h : View w B v (.l (l.map dLk))) (hB : B ≤ w.heap.size) (hok : okF (.l (l.map dLk))) (hleft : left ≤ 1048576) :
    Calls Tryd.prog 13 #[v, .int .i64 left] w fun e w' => (∃ z : Int, e = .returned (.int .i64 z) ∧ (z < 0 ∨ ∃ m : Nat, z = m ∧ szRs (l.map dLk) + m = left)) ∧ Below w.heap.size w w' := by
  obtain ⟨a, cap, rfl, hl, hm, _, hat⟩ := h.rows 5 (fun _ => rfl)
  have hl2 : l.length ≤ maxLen := Nat.le_trans hl hm
  unfold maxLen at hl2
  by_cases hlt0 : left < l.length
  · go_enter Tryd.func13, Tryd.ntmps13
    go_wp2
    go_ret
    exact ⟨⟨_, rfl, .inl (by omega)⟩, Below.refl _ _⟩
  · have HAT := hide hat
    have HOK := hide hok.1
    clear h hat hok
    go_enter Tryd.func13, Tryd.ntmps13
    go_wp2
    go_loopw [1, 5] (fun lv i wr => ∃ k m : Nat, k ≤ l.length ∧ i = .int .i64 k ∧ lv = .int .i64 m ∧ Hid (szRs ((l.take k).map dLk) + (l.length - k) + m = left) ∧ Below w.heap.size w wr) (fun _ i _ => l.length - (intOf i).toNat)
    case atStart => exact ⟨0, left - l.length, Nat.zero_le _, rfl, by congr 1; omega, (by show _ = _; simp [szRs]; omega), Below.refl _ _⟩
    case round =>
      obtain ⟨k, m, hk, rfl, rfl, HM, hbe⟩ := hrel
      by_cases hlt : k < l.length
      · obtain ⟨b, o, C, rfl, hb, hc⟩ := HAT.out (by omega)
        have hck := hc k hlt
        have HS2 := hide (szAtF_next dLk l k hlt)
        have hbw : b < w.heap.size := Nat.lt_of_lt_of_le hb hB
        have hm1 : m ≤ 1048576 := by have := HM.out; omega
        have hokx := (okRs_mem _ HOK.out _ (List.mem_map_of_mem (f := dLk) (List.getElem_mem hlt))).1
        obtain ⟨x, hx⟩ : ∃ x, l[k] = x := ⟨_, rfl⟩
        rw [hx] at hck HS2 hokx
        clear hx hc
        have c0 : wr.cell? ⟨b, o + k * 5, none⟩ = some (.int .i64 x.tk) := by
          obtain ⟨c, v⟩ := hck 0 (.c (.int .i64 x.tk)) rfl
          rw [v.inv] at c
          simp only [Nat.add_zero] at c
          exact (hbe.cell (p := ⟨b, o + k * 5, none⟩) hbw).trans c
        obtain ⟨c1, v1⟩ := hck 1 (.l (x.pa.map dS)) rfl
        have c1 := (hbe.cell (p := ⟨b, o + k * 5 + 1, none⟩) hbw).trans c1
        have c2 : wr.cell? ⟨b, o + k * 5 + 2, none⟩ = some (.bool x.de) := by
          obtain ⟨c, v⟩ := hck 2 (.c (.bool x.de)) rfl
          rw [v.inv] at c
          exact (hbe.cell (p := ⟨b, o + k * 5 + 2, none⟩) hbw).trans c
        have c3 : wr.cell? ⟨b, o + k * 5 + 3, none⟩ = some (.bool x.sh) := by
          obtain ⟨c, v⟩ := hck 3 (.c (.bool x.sh)) rfl
          rw [v.inv] at c
          exact (hbe.cell (p := ⟨b, o + k * 5 + 3, none⟩) hbw).trans c
        have c4 : wr.cell? ⟨b, o + k * 5 + 4, none⟩ = some (.int .i64 x.un) := by
          obtain ⟨c, v⟩ := hck 4 (.c (.int .i64 x.un)) rfl
          rw [v.inv] at c
          exact (hbe.cell (p := ⟨b, o + k * 5 + 4, none⟩) hbw).trans c
        clear hck
        have HC := hide (szLock_gen x (C k 1) m B wr (v1.stays hbe hB) (Nat.le_trans hB hbe.size) hokx hm1)
        clear hokx v1
        go_wp2_with fail
        refine HC.out.mono ?_
        rintro e w1 ⟨⟨z, rfl, hz⟩, hb1⟩
        have c9 := hbe.trans (hb1.mono hbe.size)
        rcases hz with hz | ⟨m', rfl, hm'⟩
        · go_wp2
          go_ret
          exact ⟨⟨_, rfl, .inl (by omega)⟩, c9⟩
        · have HM' := hide hm'
          clear hm'
          go_wp2
          go_roundw
          case rel => exact ⟨k + 1, m', by omega, by go_num, rfl, (by show _ = _; rw [HS2.out]; have := HM.out; have := HM'.out; omega), c9⟩
          case measure => simp [intOf]; omega
      · have HM2 := HM.out
        rw [List.take_of_length_le (by omega)] at HM2
        have HM3 := hide HM2
        clear HM2
        go_wp2
        go_ret
        exact ⟨⟨m, rfl, .inr ⟨m, rfl, by have := HM3.out; omega⟩⟩, hbe⟩
end Go.Proofs.YtcgljeagjchobaaDoor
namespace Go.Proofs.YtcgljeagjchobaaDoor
open Go.RowKit M
set_option linter.unusedVariables false

set_option maxRecDepth 100000 in
set_option maxHeartbeats 4000000 in
theorem szIntS_gen (l : List Int) (v : Value) (left B : Nat) (w : World) (h : View w B v (.l (l.map dI))) (hB : B ≤ w.heap.size) (hok : okF (.l (l.map dI))) (hleft : left ≤ 1048576) :
    Calls Tryd.prog 14 #[v, .int .i64 left] w fun e w' => (∃ z : Int, e = .returned (.int .i64 z) ∧ (z < 0 ∨ ∃ m : Nat, z = m ∧ szRs (l.map dI) + m = left)) ∧ Below w.heap.size w w' := by
  obtain ⟨a, cap, rfl, hl, hm, _, hat⟩ := h.rows 1 (fun _ => rfl)
  have hl2 : l.length ≤ maxLen := Nat.le_trans hl hm
  unfold maxLen at hl2
  by_cases hlt0 : left < l.length
  · go_enter Tryd.func14, Tryd.ntmps14
    go_wp2
    go_ret
    exact ⟨⟨_, rfl, .inl (by omega)⟩, Below.refl _ _⟩
  · have hs := szRs_flat dI (fun _ => by simp [dI, szR, szF, szV]) l
    go_enter Tryd.func14, Tryd.ntmps14
    go_wp2
    go_ret
    exact ⟨⟨_, rfl, .inr ⟨left - l.length, by omega, by omega⟩⟩, Below.refl _ _⟩
end Go.Proofs.YtcgljeagjchobaaDoor
namespace Go.Proofs.YtcgljeagjchobaaDoor
open Go.RowKit M
set_option linter.unusedVariables false

set_option maxRecDepth 100000 in
set_option maxHeartbeats 4000000 in
theorem szSrv_gen (x : Sv) (u0 u1 u4 u5 : Value) (left B : Nat) (w : World) (h0 : View w B u0 (.l (x.t.map dRs))) (h1 : View w B u1 (.l (x.l.map dLk))) (h4 : View w B u4 (.l (x.dr.map dI))) (h5 : View w B u5 (.l (x.us.map dI))) (hB : B ≤ w.heap.size) (hok : okR (dSv x)) (hleft : left ≤ 1048576) :
    Calls Tryd.prog 4 #[.agg #[u0, u1, .int .i64 x.now, .int .i64 x.ver, u4, u5], .int .i64 left] w fun e w' => (∃ z : Int, e = .returned (.int .i64 z) ∧ (z < 0 ∨ ∃ m : Nat, z = m ∧ szR (dSv x) + m = left)) ∧ Below w.heap.size w w' := by
  have K0 := hide (show Below w.heap.size w (w.alloc (Obj.cells #[u0, u1, .int .i64 x.now, .int .i64 x.ver, u4, u5] 26)) from (Below.refl _ _).alloc (Nat.le_refl _) _)
  have X0 := hide (BoxV.made w [u0, u1, .int .i64 x.now, .int .i64 x.ver, u4, u5] 26)
  have hsum : szR (dSv x) = szRs (x.t.map dRs) + szRs (x.l.map dLk) + szRs (x.dr.map dI) + szRs (x.us.map dI) := by simp [dSv, szR, szF, szV]; try omega
  have HS := hide hsum
  clear hsum
  have s0 : okF (.l (x.t.map dRs)) := okR_mem hok _ (by simp [dSv])
  have s1 : okF (.l (x.l.map dLk)) := okR_mem hok _ (by simp [dSv])
  have s4 : okF (.l (x.dr.map dI)) := okR_mem hok _ (by simp [dSv])
  have s5 : okF (.l (x.us.map dI)) := okR_mem hok _ (by simp [dSv])
  have S0 := hide s0
  clear s0
  have S1 := hide s1
  clear s1
  have S4 := hide s4
  clear s4
  have S5 := hide s5
  clear s5
  clear hok
  go_enter Tryd.func4, Tryd.ntmps4
  have HQ := hide (szResS_gen (x.t) u0 left B _ (h0.stays K0.out hB) (Nat.le_trans hB K0.out.size) S0.out hleft)
  go_wp2_with fail
  refine HQ.out.mono ?_
  rintro e w1 ⟨⟨z, rfl, hz⟩, b1⟩
  have K1 := hide (K0.out.trans (b1.mono K0.out.size))
  have X1 := hide (X0.out.next b1)
  clear HQ b1 K0 X0
  rcases hz with hz | ⟨m0, rfl, hm0⟩
  · go_wp2
    go_ret
    exact ⟨⟨_, rfl, .inl (by omega)⟩, K1.out⟩
  have hn0 : m0 ≤ 1048576 := by omega
  have E0 := hide hm0
  clear hm0
  have c1 := (X1.out.2 1 _ rfl).1
  have HQ := hide (szLockS_gen (x.l) u1 m0 B _ (h1.stays K1.out hB) (Nat.le_trans hB K1.out.size) S1.out hn0)
  go_wp2_with fail
  refine HQ.out.mono ?_
  rintro e w2 ⟨⟨z, rfl, hz⟩, b2⟩
  have K2 := hide (K1.out.trans (b2.mono K1.out.size))
  have X2 := hide (X1.out.next b2)
  clear HQ b2 K1 X1 c1
  rcases hz with hz | ⟨m1, rfl, hm1⟩
  · go_wp2
    go_ret
    exact ⟨⟨_, rfl, .inl (by omega)⟩, K2.out⟩
  have hn1 : m1 ≤ 1048576 := by omega
  have E1 := hide hm1
  clear hm1
  have c4 := (X2.out.2 4 _ rfl).1
  have HQ := hide (szIntS_gen (x.dr) u4 m1 B _ (h4.stays K2.out hB) (Nat.le_trans hB K2.out.size) S4.out hn1)
  go_wp2_with fail
  refine HQ.out.mono ?_
  rintro e w3 ⟨⟨z, rfl, hz⟩, b3⟩
  have K3 := hide (K2.out.trans (b3.mono K2.out.size))
  have X3 := hide (X2.out.next b3)
  clear HQ b3 K2 X2 c4
  rcases hz with hz | ⟨m4, rfl, hm4⟩
  · go_wp2
    go_ret
    exact ⟨⟨_, rfl, .inl (by omega)⟩, K3.out⟩
  have hn4 : m4 ≤ 1048576 := by omega
  have E4 := hide hm4
  clear hm4
  have c5 := (X3.out.2 5 _ rfl).1
  have HQ := hide (szIntS_gen (x.us) u5 m4 B _ (h5.stays K3.out hB) (Nat.le_trans hB K3.out.size) S5.out hn4)
  go_wp2_with fail
  refine HQ.out.mono ?_
  rintro e w4 ⟨⟨z, rfl, hz⟩, b4⟩
  have K4 := hide (K3.out.trans (b4.mono K3.out.size))
  have X4 := hide (X3.out.next b4)
  clear HQ b4 K3 X3 c5
  rcases hz with hz | ⟨m5, rfl, hm5⟩
  · go_wp2
    go_ret
    exact ⟨⟨_, rfl, .inl (by omega)⟩, K4.out⟩
  have hn5 : m5 ≤ 1048576 := by omega
  have E5 := hide hm5
  clear hm5
  go_wp2
  go_ret
  exact ⟨⟨_, rfl, .inr ⟨m5, rfl, by rw [HS.out]; have := E0.out; have := E1.out; have := E4.out; have := E5.out; omega⟩⟩, K4.out⟩
end Go.Proofs.YtcgljeagjchobaaDoor
