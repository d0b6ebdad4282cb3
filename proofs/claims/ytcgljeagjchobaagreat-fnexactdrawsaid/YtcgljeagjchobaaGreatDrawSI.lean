/-
  What impl.Srv's draw and impl.Draw do.
-/
import Derived.Test.YtcgljeagjchobaaGreatTurned
namespace Go.Proofs.YtcgljeagjchobaaGreat
open Go.RowKit M
set_option linter.unusedVariables false

/-- One more number is drawn. -/
def drawS (x : Sv) (n : Int) : Sv := { x with dr := if x.dr.length < 20 then x.dr ++ [n] else x.dr }

theorem SrvV.drawn {w w1 : World} {lo N : Nat} {x : Sv} {u0 u1 u4 u5 v : Value} {dr : List Int} (h : SrvV w lo N x u0 u1 u4 u5) (hb : Below w.heap.size w w1) (hN : N < w.heap.size) (ho : Own w1 v (.l (dr.map dI)) (IvG w.heap.size w1.heap.size)) (hlo : lo ≤ N) : SrvV (w1.setCell ⟨N, 4, none⟩ v) lo w1.heap.size { x with dr := dr } u0 u1 v u5 := by
  have hz := hb.size
  obtain ⟨l0, h0, l1, h1, l4, h4, l5, h5, ⟨a, a1, a2⟩, ⟨b, b1, b2⟩, ⟨c, c1, c2⟩, ⟨d, d1, d2⟩, r1, r2, r3, r4, r5, r6⟩ := h
  exact ⟨l0, h0, l1, h1, w.heap.size, w1.heap.size, l5, h5, ⟨(a.next hb).setCell _ _ (fun e => by have h := e.2; dsimp only at h; omega), a1, by omega⟩, ⟨(b.next hb).setCell _ _ (fun e => by have h := e.2; dsimp only at h; omega), b1, by omega⟩, ⟨ho.setCell _ _ (fun e => by have h := e.1; dsimp only at h; omega), by omega, Nat.le_refl _⟩, ⟨(d.next hb).setCell _ _ (fun e => by have h := e.2; dsimp only at h; omega), d1, by omega⟩, r1, .inl (by omega), r3, .inl (by omega), r5, .inr (by omega)⟩

set_option maxRecDepth 100000 in
set_option maxHeartbeats 4000000 in
theorem drawM_any (x : Sv) (n : Int) (N lo : Nat) (u0 u1 u4 u5 : Value) (w W : World) (hK : Below w.heap.size w W) (hwN : w.heap.size ≤ N) (hlo : lo ≤ N) (hX : BoxV W N [u0, u1, .int .i64 x.now, .int .i64 x.ver, u4, u5]) (hV : SrvV W lo N x u0 u1 u4 u5) :
    Calls Tryz.prog 49 #[.pointer (some ⟨N, 0, none⟩), .int .i64 n] W fun e w' => (∃ v, e = .returned v) ∧ (∃ (a0 : Option Addr) (c0 : Nat) (a1 : Option Addr) (c1 : Nat) (a4 : Option Addr) (c4 : Nat) (a5 : Option Addr) (c5 : Nat), BoxV w' N [.slice a0 (drawS x n).t.length c0, .slice a1 (drawS x n).l.length c1, .int .i64 (drawS x n).now, .int .i64 (drawS x n).ver, .slice a4 (drawS x n).dr.length c4, .slice a5 (drawS x n).us.length c5] ∧ SrvV w' lo w'.heap.size (drawS x n) (.slice a0 (drawS x n).t.length c0) (.slice a1 (drawS x n).l.length c1) (.slice a4 (drawS x n).dr.length c4) (.slice a5 (drawS x n).us.length c5)) ∧ (∀ R vs, R < N → BoxV W R vs → BoxV w' R vs) ∧ Below w.heap.size w w' := by
  obtain ⟨V0, V1, V4, V5⟩ := hV.views (Nat.le_refl _)
  obtain ⟨a0, c0, rfl, _⟩ := V0.rows 5 (fun _ => rfl)
  obtain ⟨a1, c1, rfl, _⟩ := V1.rows 5 (fun _ => rfl)
  obtain ⟨a4, c4, rfl, k1, k2, k3, hI⟩ := ints_of_view V4
  obtain ⟨a5, c5, rfl, _⟩ := V5.rows 1 (fun _ => rfl)
  clear V0 V1 V4 V5
  have hN := hX.1
  obtain ⟨x4, g4⟩ := hX.2 4 _ rfl
  by_cases hlt : x.dr.length < 20
  · have hi : (x.dr.length : Int) < 20 := by omega
    have HD := hide (show drawS x n = { x with dr := x.dr ++ [n] } by unfold drawS; rw [if_pos hlt])
    have HW := hide (withI_any a4 x.dr c4 N n W hI (Nat.le_of_lt hN) (by omega))
    have HX := hide hX
    have HV := hide hV
    have HK := hide hK
    rw [HD.out]
    clear hX hV hK hI HD k1 k2 k3 hlt
    go_enter Tryz.func49, Tryz.ntmps49
    go_wp2_with fail
    obtain ⟨g, hg⟩ : ∃ g, W.heap.size = g := ⟨_, rfl⟩
    have HW2 := hide HW.out
    rw [hg] at HW2
    have HG := hide hg
    clear hg
    refine HW2.out.mono ?_
    rintro e w1 ⟨⟨rfl, ho⟩, b1, z1⟩
    have b1 : Below W.heap.size W w1 := by rw [HG.out]; exact b1
    have ho2 : Own w1 (.slice (some ⟨g, 0, none⟩) (x.dr.length + 1) (x.dr.length + 1)) (.l ((x.dr ++ [n]).map dI)) (IvG W.heap.size w1.heap.size) := ho.wide (fun y hy => by subst hy; exact ⟨Nat.le_of_eq HG.out, z1⟩)
    have X1 := HX.out.next b1
    obtain ⟨y4, g4'⟩ := X1.2 4 _ rfl
    have XE := hide (X1.set 4 (by simp) (.slice (some ⟨g, 0, none⟩) (x.dr.length + 1) (x.dr.length + 1)))
    have VE := hide (HV.out.drawn b1 hN ho2 hlo)
    have KE := hide ((HK.out.trans (b1.mono HK.out.size)).setCell (p := ⟨N, 4, none⟩) hwN (.slice (some ⟨g, 0, none⟩) (x.dr.length + 1) (x.dr.length + 1)))
    have KR := hide (show ∀ R vs, R < N → BoxV W R vs → BoxV (w1.setCell ⟨N, 4, none⟩ (.slice (some ⟨g, 0, none⟩) (x.dr.length + 1) (x.dr.length + 1))) R vs from fun R vs hR hb => (hb.next b1).other _ _ (fun e => by dsimp only at e; omega))
    clear ho ho2 b1 z1 X1 HX HV HK HW HW2 x4 g4
    go_wp2
    go_end0
    have hl : (x.dr ++ [n]).length = x.dr.length + 1 := by simp
    refine ⟨⟨_, rfl⟩, ⟨a0, c0, a1, c1, some ⟨g, 0, none⟩, x.dr.length + 1, a5, c5, ?_, ?_⟩, KR.out, KE.out⟩
    · rw [hl]
      exact XE.out
    · rw [hl]
      have e : (w1.setCell ⟨N, 4, none⟩ (.slice (some ⟨g, 0, none⟩) (x.dr.length + 1) (x.dr.length + 1))).heap.size = w1.heap.size := by simp
      rw [e]
      exact VE.out
  · have hi : ¬ (x.dr.length : Int) < 20 := by omega
    have HD := hide (show drawS x n = x by unfold drawS; rw [if_neg hlt])
    have HX := hide hX
    have HV := hide hV
    have HK := hide hK
    rw [HD.out]
    clear hX hV hK hI HD k1 k2 k3 hlt
    go_enter Tryz.func49, Tryz.ntmps49
    go_wp2
    go_end0
    exact ⟨⟨_, rfl⟩, ⟨a0, c0, a1, c1, a4, c4, a5, c5, HX.out, HV.out.wide (Nat.le_refl _) (Nat.le_of_lt hN)⟩, fun R vs _ h => h, HK.out⟩

set_option maxHeartbeats 2000000 in
theorem drawFn_any (x : Sv) (n : Int) (N M lo : Nat) (u0 u1 u4 u5 : Value) (w W : World) (hM : W.cell? ⟨M, 0, none⟩ = some (.int .i64 n)) (hK : Below w.heap.size w W) (hwN : w.heap.size ≤ N) (hlo : lo ≤ N) (hX : BoxV W N [u0, u1, .int .i64 x.now, .int .i64 x.ver, u4, u5]) (hV : SrvV W lo N x u0 u1 u4 u5) :
    Calls Tryz.prog 48 #[.pointer (some ⟨N, 0, none⟩), .pointer (some ⟨M, 0, none⟩)] W fun e w' => (∃ v, e = .returned v) ∧ (∃ (a0 : Option Addr) (c0 : Nat) (a1 : Option Addr) (c1 : Nat) (a4 : Option Addr) (c4 : Nat) (a5 : Option Addr) (c5 : Nat), BoxV w' N [.slice a0 (drawS x n).t.length c0, .slice a1 (drawS x n).l.length c1, .int .i64 (drawS x n).now, .int .i64 (drawS x n).ver, .slice a4 (drawS x n).dr.length c4, .slice a5 (drawS x n).us.length c5] ∧ SrvV w' lo w'.heap.size (drawS x n) (.slice a0 (drawS x n).t.length c0) (.slice a1 (drawS x n).l.length c1) (.slice a4 (drawS x n).dr.length c4) (.slice a5 (drawS x n).us.length c5)) ∧ (∀ R vs, R < N → BoxV W R vs → BoxV w' R vs) ∧ Below w.heap.size w w' := by
  have HQ := hide (drawM_any x n N lo u0 u1 u4 u5 w W hK hwN hlo hX hV)
  generalize drawS x n = y at *
  clear hK hX hV
  go_enter Tryz.func48, Tryz.ntmps48
  go_wp2_with fail
  refine HQ.out.mono ?_
  rintro e w1 ⟨⟨v, rfl⟩, h1⟩
  have H1 := hide h1
  clear h1
  go_wp2
  go_end0
  exact ⟨⟨_, rfl⟩, H1.out⟩
end Go.Proofs.YtcgljeagjchobaaGreat
