/-
  A row of lists whose first list has got one more.
  Append onto a row that the call owns, as a step of a drawn region.
  A number that is picked of a list.
-/
import Derived.Test.YtmgikfeknmbpbaaGreatDoorDrawIf
import Derived.Test.YtmgikfeknmbpbaaGreatDoorGenRow
import Derived.Test.YtmgikfeknmbpbaaGreatDoorProg
import Derived.Deep.RegionHeld3
import Derived.Test.YtmgikfeknmbpbaaGreatDoorMathNum
namespace Go.Proofs.YtmgikfeknmbpbaaGreatDoor
open Go.RowKit M
set_option linter.unusedVariables false

theorem own_at {w : World} {s : Sl} {x : List (List Lf)} {S : Nat → Prop} (h : Own w s.v (.l x) S) : S s.b := by
  obtain ⟨v, hv⟩ : ∃ v, s.v = v := ⟨_, rfl⟩
  rw [hv] at h
  obtain ⟨y, hy⟩ : ∃ y, Lf.l x = y := ⟨_, rfl⟩
  rw [hy] at h
  cases h with
  | c v S => cases hy
  | nil S => unfold Sl.v at hv; cases hv
  | row b o cap K rows C Sf S hS =>
    unfold Sl.v at hv
    have e : s.b = b := by injection hv with e1; injection e1 with e2; injection e2
    rw [e]; exact hS

theorem RowsF.turn0 {w w1 : World} {B g n c H g' n' c' : Nat} {s0 : Sl} {sr : List Sl} {c0 : List Cn} {cr : List (List Cn)} {t : Cn} (h : RowsF w B g n c H (s0 :: sr) (c0 :: cr)) (hB : B ≤ w.heap.size)
    (ho : OwnG 57 3 ciC w1 B (.slice (some ⟨g', 0, none⟩) n' c') (c0 ++ [t])) (hg : w.grownBy w1 (some s0.b)) (hat : g' = s0.b ∨ g' = w.heap.size) :
    Own (w1.setCell ⟨g, 0, none⟩ (.slice (some ⟨g', 0, none⟩) n' c')) (.slice (some ⟨g, 0, none⟩) n c) (.l (((c0 ++ [t]) :: cr).map dCs)) (IvG B w1.heap.size) := by
  obtain ⟨f1, f2, f3⟩ := h.f (by simp) (by simp)
  have f2 : s0.b < H := f2
  have f3 : s0.b ≠ g := f3
  obtain ⟨lo, hi, h5⟩ := h.r.bl
  obtain ⟨e1, e2, e3, e4, e5, e6, e7⟩ := h.r.own.row ciS_len
  have hlen : sr.length = cr.length := by have := h.r.len; simpa using this
  have hgH := h.r.gH
  have htop := h.r.top
  have hsz := hg.size
  have hb0 := own_at (h5 0 (by simp) (by simp)).1
  have hb0 : lo 0 ≤ s0.b ∧ s0.b < hi 0 := hb0
  have hg0 := (h5 0 (by simp) (by simp)).2.2.2.1
  have hgg : g' ≠ g := by rcases hat with e | e <;> omega
  have hg1 := World.ownsRow.lt ho g' rfl
  have hblk : ∀ i, i < w.heap.size → i ≠ s0.b → w1.heap[i]? = w.heap[i]? := fun i hi hne => hg.block i hi (fun e => hne (by have := Option.some.inj e; first | exact this | exact this.symm))
  obtain ⟨w2, hw2⟩ : ∃ W, w1.setCell ⟨g, 0, none⟩ (.slice (some ⟨g', 0, none⟩) n' c') = W := ⟨_, rfl⟩
  have hoth : ∀ i, i ≠ g → w2.heap[i]? = w1.heap[i]? := fun i hi => by rw [← hw2]; exact heap_ne _ _ _ _ (by show i ≠ g; exact hi)
  have hz2 : w2.heap.size = w1.heap.size := by rw [← hw2]; simp
  have hcg : ∀ j, w1.cell? ⟨g, j, none⟩ = w.cell? ⟨g, j, none⟩ := fun j => World.cell?_of_block (a := ⟨g, j, none⟩) (hblk g e5 (fun e => f3 e.symm))
  have hfg : ∀ j, w2.frozen? ⟨g, j, none⟩ = false := fun j => by
    rw [← hw2, World.frozen?_setCell]
    have := e6 j
    simp only [World.frozen?, hblk g e5 (fun e => f3 e.symm)] at this ⊢
    exact this
  have ho2 : OwnG 57 3 ciC w2 B (.slice (some ⟨g', 0, none⟩) n' c') (c0 ++ [t]) := ho.keepB (hoth g' hgg)
  have hn : n = (((c0 ++ [t]) :: cr).map dCs).length := by rw [List.length_map]; have := h.r.num.1; simpa using this
  rw [hw2, hn]
  refine .row g 0 c 1 _ (fun j i => match j with | 0 => .slice (some ⟨g', 0, none⟩) n' c' | j + 1 => match sr[j]? with | some s => s.v | none => .bool false) (fun j i y => j < cr.length + 1 ∧ i = 0 ∧ match j with | 0 => y = g' | j + 1 => IvG (lo (j + 1)) (hi (j + 1)) y) _ ⟨e4, by omega⟩ (by omega) (by rw [← hn]; exact e2) e3 (fun r hr => by obtain ⟨x, _, rfl⟩ := List.mem_map.1 hr; rfl) (fun j i x hx => ?_) (fun j i x hx => ?_) (fun j i y hy => ?_) (fun j i j' i' y hne hy hy' => ?_)
  · unfold cellAt at hx
    by_cases hj : j < ((c0 ++ [t]) :: cr).length
    · rw [map_at dCs _ j hj] at hx
      match i, hx with
      | 0, hx =>
        refine ⟨?_, hfg _⟩
        match j, hj with
        | 0, _ => rw [← hw2]; exact World.cell?_setCell_same _ _ _ ((hcg 0).trans (e7 0 (by simp) 0 _ rfl))
        | j + 1, hj =>
          have hs : j < sr.length := by have : j + 1 < cr.length + 1 := (by simpa using hj); omega
          show w2.cell? ⟨g, 0 + (j + 1) * 1 + 0, none⟩ = some (match sr[j]? with | some s => s.v | none => .bool false)
          rw [List.getElem?_eq_getElem hs, ← hw2, World.cell?_setCell_other _ _ _ _ (by intro e; have := congrArg Addr.off e; simp at this; try omega), show 0 + (j + 1) * 1 + 0 = j + 1 by omega, hcg]
          have := e7 (j + 1) (by simp; omega) 0 _ rfl
          simpa using this
      | i + 1, hx => cases hx
    · rw [List.getElem?_eq_none (by simp at hj ⊢; omega)] at hx; cases hx
  · unfold cellAt at hx
    by_cases hj : j < ((c0 ++ [t]) :: cr).length
    · rw [map_at dCs _ j hj] at hx
      match i, hx with
      | 0, hx =>
        match j, hj, hx with
        | 0, _, hx =>
          cases hx
          exact (own_of_conds ho2).wide (fun y hy => ⟨by omega, rfl, hy⟩)
        | j + 1, hj, hx =>
          have hj' : j < cr.length := by have : j + 1 < cr.length + 1 := (by simpa using hj); omega
          have hs : j < sr.length := by omega
          cases hx
          have q := h5 (j + 1) (by simp; omega) (by simp; omega)
          have q1 : Own w sr[j].v (.l (cr[j].map dCn)) (IvG (lo (j + 1)) (hi (j + 1))) := q.1
          have q5 := q.2.2.2.2 0 (by omega)
          have q3 := q.2.2.1
          have q4 := q.2.2.2.1
          show Own w2 (match sr[j]? with | some s => s.v | none => .bool false) _ _
          rw [List.getElem?_eq_getElem hs]
          refine (q1.keep (by omega) (fun b o hb hz => ?_) (fun b o hb hz => ?_)).wide (fun y hy => ⟨by omega, rfl, hy⟩)
          all_goals
            have := hb.1
            have := hb.2
            have e : w2.heap[b]? = w.heap[b]? := (hoth b (by omega)).trans (hblk b hz (by omega))
            simp only [World.cell?, World.frozen?, e]
      | i + 1, hx => cases hx
    · rw [List.getElem?_eq_none (by simp at hj ⊢; omega)] at hx; cases hx
  · obtain ⟨hj, _, h1⟩ := hy
    match j, hj, h1 with
    | 0, _, h1 =>
      have h1 : y = g' := h1
      exact ⟨⟨by omega, by omega⟩, by omega⟩
    | j + 1, hj, h1 =>
      have h1 : lo (j + 1) ≤ y ∧ y < hi (j + 1) := h1
      obtain ⟨_, q2, q3, q4, _⟩ := h5 (j + 1) (by simp; omega) (by simp; omega)
      exact ⟨⟨by omega, by omega⟩, by omega⟩
  · obtain ⟨hj, i0, h1⟩ := hy
    obtain ⟨hj', i0', h1'⟩ := hy'
    have hne : j ≠ j' := by rcases hne with e | e; exact e; exact absurd (i0.trans i0'.symm) e
    match j, j', hj, hj', h1, h1', hne with
    | 0, 0, _, _, _, _, hne => exact hne rfl
    | 0, j' + 1, hj, hj', h1, h1', _ =>
      have h1 : y = g' := h1
      have h1' : lo (j' + 1) ≤ y ∧ y < hi (j' + 1) := h1'
      obtain ⟨_, q2, q3, q4, q5⟩ := h5 (j' + 1) (by simp; omega) (by simp; omega)
      have := q5 0 (by omega)
      rcases hat with e | e <;> omega
    | j + 1, 0, hj, hj', h1, h1', _ =>
      have h1' : y = g' := h1'
      have h1 : lo (j + 1) ≤ y ∧ y < hi (j + 1) := h1
      obtain ⟨_, q2, q3, q4, q5⟩ := h5 (j + 1) (by simp; omega) (by simp; omega)
      have := q5 0 (by omega)
      rcases hat with e | e <;> omega
    | j + 1, j' + 1, hj, hj', h1, h1', hne =>
      have h1 : lo (j + 1) ≤ y ∧ y < hi (j + 1) := h1
      have h1' : lo (j' + 1) ≤ y ∧ y < hi (j' + 1) := h1'
      rcases Nat.lt_or_gt_of_ne (show j ≠ j' from fun e => hne (by rw [e])) with e | e
      · have := (h5 (j' + 1) (by simp; omega) (by simp; omega)).2.2.2.2 (j + 1) (by omega)
        omega
      · have := (h5 (j + 1) (by simp; omega) (by simp; omega)).2.2.2.2 (j' + 1) (by omega)
        omega
end Go.Proofs.YtmgikfeknmbpbaaGreatDoor
namespace Go.Proofs.YtmgikfeknmbpbaaGreatDoor
open Go.RowKit
set_option linter.unusedVariables false

theorem step_append_gen {α : Type} {cs : α → List Value} {K0 : Nat} {tE : TypeId} {ops : Array Oper} {o : Oper} {a : Act} {w : World} {K : Act → World → Prop} {Q : Exit → Act → World → Prop} {E : Prop} (T : TypeId) (hu : Tryz.prog.underlying T = some (.slice tE)) (zero : Value) (bytes : Nat) (hinfo : (Tryz.prog.info? tE).map (fun i => (i.zero, i.size, i.bytes)) = some (some zero, K0, bytes)) (hz : zero.cells.size = K0) (hK0 : 0 < K0) (hby : bytes ≤ 512) (hgd : o.guard = none) (s x : Operand)
    (ho : o.op = .call { callee := .builtin .append, args := #[s, x], argTypes := #[T, T] })
    (B : Nat) (v : Value) (l : List α) (hs : a.eval s = v) (hown : OwnG tE K0 cs w B v l) (hK : ∀ x, (cs x).length = K0)
    (N : Nat) (t : α) (hx : a.eval x = .slice (some ⟨N, 0, none⟩) 1 1) (hc : ∀ i v, (cs t)[i]? = some v → w.cell? ⟨N, i, none⟩ = some v) (h1 : ∀ v ∈ cs t, v.oneCell' = true) (hlen : l.length + 1 ≤ 100000000000) (hB : B ≤ w.heap.size)
    (h : ∀ g n cap w', n = (l ++ [t]).length → OwnG tE K0 cs w' B (.slice (some ⟨g, 0, none⟩) n cap) (l ++ [t]) → Below B w w' → w.grownBy w' v.ownBlock → (v.ownBlock = some g ∨ g = w.heap.size) → K (a.put o.dst (.slice (some ⟨g, 0, none⟩) n cap)) w') :
    if Region.wanted o (yielded ops a.tmps) = true then Oper.wp Tryz.prog o a w K Q else E := by
  have hw : Region.wanted o (yielded ops a.tmps) = true := by simp [Region.wanted, hgd]
  rw [if_pos hw]
  obtain ⟨i0, hi, hz0, hz1, hz2⟩ := info_parts hinfo
  obtain ⟨v', w', hr, ho', hg, _, hat⟩ := run_append_own_at (P := Tryz.prog) (w := w) B T o.type tE i0 _ K0 bytes hu hi hz0 hz1 hz2 hz hK0 v l.length _ hown ⟨N, 0, none⟩ 1 1 (cs t) (by rw [hK]; omega) (fun j u hj => by rw [add_pick, Nat.zero_add]; exact hc j u hj) h1 (by unfold maxLen; omega) (by
    have := Nat.mul_le_mul hlen hby
    omega) hB
  unfold Oper.wp execOp
  simp only [ho, resolve, invoke, builtin, Sem.run_bind, Sem.run_pure, Result.andThen_ok, List.map_toArray, List.map_cons, List.map_nil, hs, hx, hr]
  obtain ⟨g, cap, rfl⟩ : ∃ g cap, v' = .slice (some ⟨g, 0, none⟩) (l.length + 1) cap := by
    rcases ho'.2 with ⟨_, h0⟩ | ⟨g, cap, cur, hv, _⟩
    · omega
    · exact ⟨g, cap, hv⟩
  refine h g (l.length + 1) cap w' (by simp) ?_ (below_grownG hown hB hg) hg (by
    rcases hat with e | e
    · exact .inl e.symm
    · exact .inr (Option.some.inj e))
  unfold OwnG
  rw [List.flatMap_append, show [t].flatMap cs = cs t by simp, show (l ++ [t]).length = l.length + 1 by simp]
  exact ho'
end Go.Proofs.YtmgikfeknmbpbaaGreatDoor
namespace Go.Proofs.YtmgikfeknmbpbaaGreatDoor
open Go.RowKit M

set_option maxHeartbeats 400000 in
theorem l1Int_any (N M : Nat) (a : Option Addr) (len cap n : Nat) (zs ls : List Int) (c : St) (w : World) (hc : Cur w N (.slice a len cap) c) (hd : CodeAt w a len zs) (hbN : 0 < len → ∀ b off, a = some ⟨b, off, none⟩ → b < N) (hlen : len ≤ 1048576) (hn : 0 < n) (hn2 : n ≤ 256) (hMN : M ≠ N)
    (hls : ∀ j, j < n → w.cell? ⟨M, j, none⟩ = some (.int .i64 (ls.getD j 0))) :
    Calls Tryz.prog 37 #[.pointer (some ⟨N, 0, none⟩), .slice (some ⟨M, 0, none⟩) n n] w fun e w' => e = .returned (.int .i64 (ls.getD (pick zs len c n) 0)) ∧ Cur w' N (.slice a len cap) (belowS len c n) ∧ w.grownBy w' (some N) := by
  have HB : Hid (Calls Tryz.prog 24 #[.pointer (some ⟨N, 0, none⟩), .int .i64 (n : Int)] w fun e w' => e = .returned (.int .i64 (belowV zs len c n)) ∧ Cur w' N (.slice a len cap) (belowS len c n) ∧ w.grownBy w' (some N)) :=
    l1Below_any N a len cap zs c n w hc hd hbN hlen (by omega) (by omega)
  have HL : Hid (∀ j, j < n → w.cell? ⟨M, j, none⟩ = some (.int .i64 (ls.getD j 0))) := hls
  have hp := pick_lt zs len c n hn
  have ep : belowV zs len c n = (pick zs len c n : Int) := by
    have := belowV_bd zs len c n (by omega)
    unfold pick
    omega
  rw [ep] at HB
  clear hbN hc hd hls ep
  generalize pick zs len c n = p at *
  go_enter Tryz.func37, Tryz.ntmps37
  go_wp2_with fail
  refine HB.out.mono ?_
  rintro e w1 ⟨rfl, hc1, hg1⟩
  have hcx : w1.cell? ⟨M, p, none⟩ = some (.int .i64 (ls.getD p 0)) := hg1.cell (HL.out p hp) (by simpa using hMN)
  have HC1 : Hid (Cur w1 N (.slice a len cap) (belowS len c n)) := hc1
  have HG1 : Hid (w.grownBy w1 (some N)) := hg1
  clear hc1 hg1 HL
  go_wp2
  go_ret
  exact ⟨rfl, HC1.out, HG1.out⟩

end Go.Proofs.YtmgikfeknmbpbaaGreatDoor
