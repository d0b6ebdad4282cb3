/-
  Slices of things: what they hold, and that it stays.
-/
import Derived.Test.YtcgljeagjchobaaProps
import Derived.Test.YtcgljeagjchobaaGenSrv
import Derived.Test.YtcgljeagjchobaaRowT
namespace Go.Proofs.Ytcgljeagjchobaa
open Go.RowKit M
set_option linter.unusedVariables false

/-- A thing at a place: its five cells. -/
def RsAt (w : World) (b o : Nat) (r : Rs) (pa : Option Addr) (pc : Nat) (qa : Option Addr) (qc : Nat) : Prop :=
  w.cell? ⟨b, o, none⟩ = some (.slice pa r.pa.length pc) ∧ w.cell? ⟨b, o + 1, none⟩ = some (.bool r.co) ∧ w.cell? ⟨b, o + 2, none⟩ = some (.string r.bo) ∧ w.cell? ⟨b, o + 3, none⟩ = some (.int .i64 r.ve) ∧ w.cell? ⟨b, o + 4, none⟩ = some (.slice qa r.ps.length qc)
/-- What its two slices hold, in blocks below B. -/
structure RsIn (w : World) (B : Nat) (r : Rs) (pa : Option Addr) (pc : Nat) (qa : Option Addr) (qc : Nat) : Prop where
  ph : Strs w B pa r.pa
  qh : Pps w B qa r.ps
  pl : r.pa.length ≤ pc
  ql : r.ps.length ≤ qc
  pm : pc ≤ maxLen
  qm : qc ≤ maxLen
  pn : pa = none → pc = 0
  qn : qa = none → qc = 0
/-- What a slice of things holds, in blocks below B. -/
def Rss (w : World) (B : Nat) (a : Option Addr) (rs : List Rs) : Prop :=
  0 < rs.length → ∃ b o, a = some ⟨b, o, none⟩ ∧ b < B ∧ ∀ j (hj : j < rs.length), ∃ pa pc qa qc, RsAt w b (o + j * 5) rs[j] pa pc qa qc ∧ RsIn w B rs[j] pa pc qa qc

theorem RsAt.of {w w' : World} {b o : Nat} {r : Rs} {pa : Option Addr} {pc : Nat} {qa : Option Addr} {qc : Nat} (h : RsAt w b o r pa pc qa qc) (e : ∀ o', w'.cell? ⟨b, o', none⟩ = w.cell? ⟨b, o', none⟩) : RsAt w' b o r pa pc qa qc := by
  unfold RsAt at *
  simp only [e]
  exact h
theorem Strs.of {w w' : World} {B : Nat} {a : Option Addr} {ss : List ByteArray} (h : Strs w B a ss) (e : ∀ b o, b < B → w'.cell? ⟨b, o, none⟩ = w.cell? ⟨b, o, none⟩) : Strs w' B a ss := fun h0 => by
  obtain ⟨b, o, ea, hb, hc⟩ := h h0
  exact ⟨b, o, ea, hb, fun j hj => (e b _ hb).trans (hc j hj)⟩
theorem RsIn.of {w w' : World} {B : Nat} {r : Rs} {pa : Option Addr} {pc : Nat} {qa : Option Addr} {qc : Nat} (h : RsIn w B r pa pc qa qc) (e : ∀ b o, b < B → w'.cell? ⟨b, o, none⟩ = w.cell? ⟨b, o, none⟩) : RsIn w' B r pa pc qa qc :=
  ⟨h.ph.of e, h.qh.of e, h.pl, h.ql, h.pm, h.qm, h.pn, h.qn⟩
theorem RsIn.mono {w : World} {B C : Nat} {r : Rs} {pa : Option Addr} {pc : Nat} {qa : Option Addr} {qc : Nat} (h : RsIn w B r pa pc qa qc) (hB : B ≤ C) : RsIn w C r pa pc qa qc :=
  ⟨h.ph.mono hB, h.qh.mono hB, h.pl, h.ql, h.pm, h.qm, h.pn, h.qn⟩
theorem RsIn.below {w w' : World} {B C : Nat} {r : Rs} {pa : Option Addr} {pc : Nat} {qa : Option Addr} {qc : Nat} (h : RsIn w B r pa pc qa qc) (hb : Below C w w') (hB : B ≤ C) : RsIn w' B r pa pc qa qc :=
  h.of (fun b o hbB => hb.cell (p := ⟨b, o, none⟩) (Nat.lt_of_lt_of_le hbB hB))
theorem Rss.of {w w' : World} {B : Nat} {a : Option Addr} {rs : List Rs} (h : Rss w B a rs) (e : ∀ b o, b < B → w'.cell? ⟨b, o, none⟩ = w.cell? ⟨b, o, none⟩) : Rss w' B a rs := fun h0 => by
  obtain ⟨b, o, ea, hb, hc⟩ := h h0
  refine ⟨b, o, ea, hb, fun j hj => ?_⟩
  obtain ⟨pa, pc, qa, qc, h1, h2⟩ := hc j hj
  exact ⟨pa, pc, qa, qc, h1.of (fun o' => e b o' hb), h2.of e⟩
theorem Rss.below {w w' : World} {B C : Nat} {a : Option Addr} {rs : List Rs} (h : Rss w B a rs) (hb : Below C w w') (hB : B ≤ C) : Rss w' B a rs :=
  h.of (fun b o hbB => hb.cell (p := ⟨b, o, none⟩) (Nat.lt_of_lt_of_le hbB hB))
theorem Rss.mono {w : World} {B C : Nat} {a : Option Addr} {rs : List Rs} (h : Rss w B a rs) (hB : B ≤ C) : Rss w C a rs := fun h0 => by
  obtain ⟨b, o, e, hbB, hc⟩ := h h0
  refine ⟨b, o, e, Nat.lt_of_lt_of_le hbB hB, fun j hj => ?_⟩
  obtain ⟨pa, pc, qa, qc, h1, h2⟩ := hc j hj
  exact ⟨pa, pc, qa, qc, h1, h2.mono hB⟩
theorem Rss.nil (w : World) (B : Nat) (a : Option Addr) : Rss w B a [] := fun h => absurd h (Nat.lt_irrefl _)
theorem Rss.drew {w : World} {B : Nat} {a : Option Addr} {rs : List Rs} (h : Rss w B a rs) : Rss w.drew B a rs := h.of (fun _ _ _ => rfl)
theorem Pps.drew {w : World} {B : Nat} {a : Option Addr} {ps : List Pp} (h : Pps w B a ps) : Pps w.drew B a ps := h.of (fun _ _ _ => rfl)
theorem Strs.drew {w : World} {B : Nat} {a : Option Addr} {ss : List ByteArray} (h : Strs w B a ss) : Strs w.drew B a ss := h.of (fun _ _ _ => rfl)
theorem RsIn.drew {w : World} {B : Nat} {r : Rs} {pa : Option Addr} {pc : Nat} {qa : Option Addr} {qc : Nat} (h : RsIn w B r pa pc qa qc) : RsIn w.drew B r pa pc qa qc := h.of (fun _ _ _ => rfl)

/-- All its parts short enough. -/
structure ShortRs (r : Rs) : Prop where
  pl : r.pa.length ≤ maxLen
  ps : Short r.pa
  bo : r.bo.size ≤ maxLen
  ql : r.ps.length ≤ maxLen
  qs : ShortPs r.ps
def ShortT (rs : List Rs) : Prop := ∀ r ∈ rs, ShortRs r
theorem ShortT.at {rs : List Rs} (h : ShortT rs) (k : Nat) (hk : k < rs.length) : ShortRs rs[k] := h _ (List.getElem_mem hk)

/-- The value of a thing. -/
def rsV (r : Rs) (pa : Option Addr) (pc : Nat) (qa : Option Addr) (qc : Nat) : Value := .agg #[.slice pa r.pa.length pc, .bool r.co, .string r.bo, .int .i64 r.ve, .slice qa r.ps.length qc]

theorem RowS.setCell {w : World} {g : Nat} {ms : List ByteArray} (h : RowS w g ms) (p : Addr) (v : Value) (hp : p.block ≠ g) : RowS (w.setCell p v) g ms := by
  refine ⟨by simpa using h.1, fun j hj => ⟨?_, ?_⟩⟩
  · rw [World.cell?_setCell_other _ _ _ _ (fun e => hp (congrArg Addr.block e))]; exact (h.2 j hj).1
  · rw [World.frozen?_setCell]; exact (h.2 j hj).2
theorem RowP.setCell {w : World} {g : Nat} {ps : List Pp} (h : RowP w g ps) (p : Addr) (v : Value) (hp : p.block ≠ g) : RowP (w.setCell p v) g ps :=
  h.of (by simpa using h.1) (fun o => World.cell?_setCell_other _ _ _ _ (fun e => hp (congrArg Addr.block e))) (fun o => World.frozen?_setCell _ _ _ _)

/-- A row of things that one call made: each slice in a block of its own; all from lo on and below hi. -/
structure OwnR (w : World) (lo hi g : Nat) (rs : List Rs) (pb qb : Nat → Nat) : Prop where
  gl : lo ≤ g
  gh : g < hi
  gs : g < w.heap.size
  fz : ∀ i, w.frozen? ⟨g, i, none⟩ = false
  cl : ∀ j (hj : j < rs.length), RsAt w g (j * 5) rs[j] (some ⟨pb j, 0, none⟩) rs[j].pa.length (some ⟨qb j, 0, none⟩) rs[j].ps.length
  rp : ∀ j (hj : j < rs.length), RowS w (pb j) rs[j].pa
  rq : ∀ j (hj : j < rs.length), RowP w (qb j) rs[j].ps
  bnd : ∀ j, j < rs.length → lo ≤ pb j ∧ pb j < qb j ∧ qb j < hi ∧ pb j ≠ g ∧ qb j ≠ g
  ord : ∀ i j, i < j → j < rs.length → pb i ≠ pb j ∧ pb i ≠ qb j ∧ qb i ≠ pb j ∧ qb i ≠ qb j

theorem OwnR.of {w w' : World} {lo hi g : Nat} {rs : List Rs} {pb qb : Nat → Nat} (h : OwnR w lo hi g rs pb qb) (hz : w.heap.size ≤ w'.heap.size) (e : ∀ b o, lo ≤ b → b < hi → b < w.heap.size → w'.cell? ⟨b, o, none⟩ = w.cell? ⟨b, o, none⟩) (f : ∀ b o, lo ≤ b → b < hi → b < w.heap.size → w'.frozen? ⟨b, o, none⟩ = w.frozen? ⟨b, o, none⟩) : OwnR w' lo hi g rs pb qb := by
  refine ⟨h.gl, h.gh, Nat.lt_of_lt_of_le h.gs hz, fun i => by rw [f g i h.gl h.gh h.gs]; exact h.fz i, fun j hj => (h.cl j hj).of (fun o' => e g o' h.gl h.gh h.gs), fun j hj => ?_, fun j hj => ?_, h.bnd, h.ord⟩
  · obtain ⟨b1, b2, b3, _, _⟩ := h.bnd j hj
    have hp := (h.rp j hj).1
    refine ⟨Nat.lt_of_lt_of_le hp hz, fun i hi => ?_⟩
    rw [e _ _ b1 (by omega) hp, f _ _ b1 (by omega) hp]
    exact (h.rp j hj).2 i hi
  · obtain ⟨b1, b2, b3, _, _⟩ := h.bnd j hj
    have hp := (h.rq j hj).1
    exact (h.rq j hj).of (Nat.lt_of_lt_of_le hp hz) (fun o => e _ o (by omega) b3 hp) (fun o => f _ o (by omega) b3 hp)
theorem OwnR.below {w w' : World} {lo hi g : Nat} {rs : List Rs} {pb qb : Nat → Nat} (h : OwnR w lo hi g rs pb qb) (hb : Below w.heap.size w w') : OwnR w' lo hi g rs pb qb :=
  h.of hb.size (fun b o _ _ hz => hb.cell (p := ⟨b, o, none⟩) hz) (fun b o _ _ hz => hb.frozen (p := ⟨b, o, none⟩) hz)
theorem OwnR.rss {w : World} {lo hi g C : Nat} {rs : List Rs} {pb qb : Nat → Nat} (h : OwnR w lo hi g rs pb qb) (hs : ∀ r ∈ rs, r.pa.length ≤ maxLen ∧ r.ps.length ≤ maxLen) (hC : hi ≤ C) : Rss w C (some ⟨g, 0, none⟩) rs := fun _ => by
  refine ⟨g, 0, rfl, Nat.lt_of_lt_of_le h.gh hC, fun j hj => ⟨_, _, _, _, by rw [Nat.zero_add]; exact h.cl j hj, ?_⟩⟩
  obtain ⟨b1, b2, b3, _, _⟩ := h.bnd j hj
  have := hs _ (List.getElem_mem hj)
  exact ⟨(h.rp j hj).strs' (by omega), (h.rq j hj).pps (by omega), Nat.le_refl _, Nat.le_refl _, this.1, this.2, (fun e => by cases e), (fun e => by cases e)⟩
theorem OwnR.nil (w : World) (lo hi g : Nat) (hl : lo ≤ g) (hh : g < hi) (hs : g < w.heap.size) (fz : ∀ i, w.frozen? ⟨g, i, none⟩ = false) : OwnR w lo hi g [] (fun _ => 0) (fun _ => 0) :=
  ⟨hl, hh, hs, fz, fun j hj => absurd hj (Nat.not_lt_zero _), fun j hj => absurd hj (Nat.not_lt_zero _), fun j hj => absurd hj (Nat.not_lt_zero _), fun j hj => absurd hj (Nat.not_lt_zero _), fun i j _ hj => absurd hj (Nat.not_lt_zero _)⟩

theorem info_res : (Try.prog.info? 53).map (fun i => (i.zero, i.size, i.bytes)) = some (some (.agg #[.slice none 0 0, .bool false, .string ByteArray.empty, .int .i64 0, .slice none 0 0]), 5, 80) := by kernel_rfl
end Go.Proofs.Ytcgljeagjchobaa
