/-
  Slices of locks: what they hold, and that it stays.
-/
import Derived.Test.YtcgljeagjchobaaGenSrv
import Derived.Test.YtcgljeagjchobaaRowT
import Derived.Test.YtcgljeagjchobaaTurn
namespace Go.Proofs.Ytcgljeagjchobaa
open Go.RowKit M
set_option linter.unusedVariables false

theorem bcellL {B : Nat} {W w1 : World} (hb : Below B W w1) : (∀ b o, b < B → w1.cell? ⟨b, o, none⟩ = W.cell? ⟨b, o, none⟩) ∧ (∀ b o, b < B → w1.frozen? ⟨b, o, none⟩ = W.frozen? ⟨b, o, none⟩) :=
  ⟨fun b o h => hb.cell (p := ⟨b, o, none⟩) h, fun b o h => hb.frozen (p := ⟨b, o, none⟩) h⟩
theorem below_drewL {w w' : World} {n : Nat} (hb : Below n w w') : Below n w w'.drew := ⟨hb.1, hb.2, hb.3, hb.4, hb.5⟩

/-- A lock at a place: its five cells. -/
def LkAt (w : World) (b o : Nat) (r : Lk) (pa : Option Addr) (pc : Nat) : Prop :=
  w.cell? ⟨b, o, none⟩ = some (.int .i64 r.tk) ∧ w.cell? ⟨b, o + 1, none⟩ = some (.slice pa r.pa.length pc) ∧ w.cell? ⟨b, o + 2, none⟩ = some (.bool r.de) ∧ w.cell? ⟨b, o + 3, none⟩ = some (.bool r.sh) ∧ w.cell? ⟨b, o + 4, none⟩ = some (.int .i64 r.un)
/-- What its slice holds, in a block below B. -/
structure LkIn (w : World) (B : Nat) (r : Lk) (pa : Option Addr) (pc : Nat) : Prop where
  ph : Strs w B pa r.pa
  pl : r.pa.length ≤ pc
  pm : pc ≤ maxLen
  pn : pa = none → pc = 0
/-- What a slice of locks holds, in blocks below B. -/
def Lks (w : World) (B : Nat) (a : Option Addr) (rs : List Lk) : Prop :=
  0 < rs.length → ∃ b o, a = some ⟨b, o, none⟩ ∧ b < B ∧ ∀ j (hj : j < rs.length), ∃ pa pc, LkAt w b (o + j * 5) rs[j] pa pc ∧ LkIn w B rs[j] pa pc

theorem LkAt.of {w w' : World} {b o : Nat} {r : Lk} {pa : Option Addr} {pc : Nat} (h : LkAt w b o r pa pc) (e : ∀ o', w'.cell? ⟨b, o', none⟩ = w.cell? ⟨b, o', none⟩) : LkAt w' b o r pa pc := by
  unfold LkAt at *
  simp only [e]
  exact h
theorem Strs.ofL {w w' : World} {B : Nat} {a : Option Addr} {ss : List ByteArray} (h : Strs w B a ss) (e : ∀ b o, b < B → w'.cell? ⟨b, o, none⟩ = w.cell? ⟨b, o, none⟩) : Strs w' B a ss := fun h0 => by
  obtain ⟨b, o, ea, hb, hc⟩ := h h0
  exact ⟨b, o, ea, hb, fun j hj => (e b _ hb).trans (hc j hj)⟩
theorem LkIn.of {w w' : World} {B : Nat} {r : Lk} {pa : Option Addr} {pc : Nat} (h : LkIn w B r pa pc) (e : ∀ b o, b < B → w'.cell? ⟨b, o, none⟩ = w.cell? ⟨b, o, none⟩) : LkIn w' B r pa pc :=
  ⟨h.ph.ofL e, h.pl, h.pm, h.pn⟩
theorem LkIn.mono {w : World} {B C : Nat} {r : Lk} {pa : Option Addr} {pc : Nat} (h : LkIn w B r pa pc) (hB : B ≤ C) : LkIn w C r pa pc :=
  ⟨h.ph.mono hB, h.pl, h.pm, h.pn⟩
theorem LkIn.below {w w' : World} {B C : Nat} {r : Lk} {pa : Option Addr} {pc : Nat} (h : LkIn w B r pa pc) (hb : Below C w w') (hB : B ≤ C) : LkIn w' B r pa pc :=
  h.of (fun b o hbB => hb.cell (p := ⟨b, o, none⟩) (Nat.lt_of_lt_of_le hbB hB))
theorem LkIn.len {w : World} {B : Nat} {r : Lk} {pa : Option Addr} {pc : Nat} (h : LkIn w B r pa pc) : r.pa.length ≤ maxLen := Nat.le_trans h.pl h.pm
theorem Lks.of {w w' : World} {B : Nat} {a : Option Addr} {rs : List Lk} (h : Lks w B a rs) (e : ∀ b o, b < B → w'.cell? ⟨b, o, none⟩ = w.cell? ⟨b, o, none⟩) : Lks w' B a rs := fun h0 => by
  obtain ⟨b, o, ea, hb, hc⟩ := h h0
  refine ⟨b, o, ea, hb, fun j hj => ?_⟩
  obtain ⟨pa, pc, h1, h2⟩ := hc j hj
  exact ⟨pa, pc, h1.of (fun o' => e b o' hb), h2.of e⟩
theorem Lks.below {w w' : World} {B C : Nat} {a : Option Addr} {rs : List Lk} (h : Lks w B a rs) (hb : Below C w w') (hB : B ≤ C) : Lks w' B a rs :=
  h.of (fun b o hbB => hb.cell (p := ⟨b, o, none⟩) (Nat.lt_of_lt_of_le hbB hB))
theorem Lks.mono {w : World} {B C : Nat} {a : Option Addr} {rs : List Lk} (h : Lks w B a rs) (hB : B ≤ C) : Lks w C a rs := fun h0 => by
  obtain ⟨b, o, e, hbB, hc⟩ := h h0
  refine ⟨b, o, e, Nat.lt_of_lt_of_le hbB hB, fun j hj => ?_⟩
  obtain ⟨pa, pc, h1, h2⟩ := hc j hj
  exact ⟨pa, pc, h1, h2.mono hB⟩
theorem Lks.nil (w : World) (B : Nat) (a : Option Addr) : Lks w B a [] := fun h => absurd h (Nat.lt_irrefl _)
theorem Lks.drew {w : World} {B : Nat} {a : Option Addr} {rs : List Lk} (h : Lks w B a rs) : Lks w.drew B a rs := h.of (fun _ _ _ => rfl)
theorem Lks.take {w : World} {B : Nat} {a : Option Addr} {rs : List Lk} (h : Lks w B a rs) (k : Nat) : Lks w B a (rs.take k) := fun h0 => by
  have hl : (rs.take k).length ≤ rs.length := by rw [List.length_take]; omega
  obtain ⟨b, o, e, hbB, hc⟩ := h (by omega)
  refine ⟨b, o, e, hbB, fun j hj => ?_⟩
  obtain ⟨pa, pc, h1, h2⟩ := hc j (by omega)
  rw [List.getElem_take]
  exact ⟨pa, pc, h1, h2⟩
theorem LkIn.drew {w : World} {B : Nat} {r : Lk} {pa : Option Addr} {pc : Nat} (h : LkIn w B r pa pc) : LkIn w.drew B r pa pc := h.of (fun _ _ _ => rfl)

/-- Its path short enough. -/
structure ShortLk (r : Lk) : Prop where
  pl : r.pa.length ≤ maxLen
  ps : Short r.pa
def ShortK (rs : List Lk) : Prop := ∀ r ∈ rs, ShortLk r
theorem ShortK.at {rs : List Lk} (h : ShortK rs) (k : Nat) (hk : k < rs.length) : ShortLk rs[k] := h _ (List.getElem_mem hk)

/-- The value of a lock. -/
abbrev lkV (r : Lk) (pa : Option Addr) (pc : Nat) : Value := .agg #[.int .i64 r.tk, .slice pa r.pa.length pc, .bool r.de, .bool r.sh, .int .i64 r.un]

theorem RowS.setCellL {w : World} {g : Nat} {ms : List ByteArray} (h : RowS w g ms) (p : Addr) (v : Value) (hp : p.block ≠ g) : RowS (w.setCell p v) g ms := by
  refine ⟨by simpa using h.1, fun j hj => ⟨?_, ?_⟩⟩
  · rw [World.cell?_setCell_other _ _ _ _ (fun e => hp (congrArg Addr.block e))]; exact (h.2 j hj).1
  · rw [World.frozen?_setCell]; exact (h.2 j hj).2

/-- A row of locks that one call made: each path in a block of its own; all from lo on and below hi. -/
structure OwnL (w : World) (lo hi g : Nat) (rs : List Lk) (pb : Nat → Nat) : Prop where
  gl : lo ≤ g
  gh : g < hi
  gs : g < w.heap.size
  fz : ∀ i, w.frozen? ⟨g, i, none⟩ = false
  cl : ∀ j (hj : j < rs.length), ∃ pc, LkAt w g (j * 5) rs[j] (some ⟨pb j, 0, none⟩) pc ∧ rs[j].pa.length ≤ pc ∧ pc ≤ maxLen
  rp : ∀ j (hj : j < rs.length), RowS w (pb j) rs[j].pa
  bnd : ∀ j, j < rs.length → lo ≤ pb j ∧ pb j < hi ∧ pb j ≠ g
  ord : ∀ i j, i < j → j < rs.length → pb i ≠ pb j

theorem OwnL.of {w w' : World} {lo hi g : Nat} {rs : List Lk} {pb : Nat → Nat} (h : OwnL w lo hi g rs pb) (hz : w.heap.size ≤ w'.heap.size) (e : ∀ b o, lo ≤ b → b < hi → b < w.heap.size → w'.cell? ⟨b, o, none⟩ = w.cell? ⟨b, o, none⟩) (f : ∀ b o, lo ≤ b → b < hi → b < w.heap.size → w'.frozen? ⟨b, o, none⟩ = w.frozen? ⟨b, o, none⟩) : OwnL w' lo hi g rs pb := by
  refine ⟨h.gl, h.gh, Nat.lt_of_lt_of_le h.gs hz, fun i => by rw [f g i h.gl h.gh h.gs]; exact h.fz i, fun j hj => ?_, fun j hj => ?_, h.bnd, h.ord⟩
  · obtain ⟨pc, h1, h2⟩ := h.cl j hj
    exact ⟨pc, h1.of (fun o' => e g o' h.gl h.gh h.gs), h2⟩
  · obtain ⟨b1, b2, b3⟩ := h.bnd j hj
    have hp := (h.rp j hj).1
    refine ⟨Nat.lt_of_lt_of_le hp hz, fun i hi => ?_⟩
    rw [e _ _ b1 (by omega) hp, f _ _ b1 (by omega) hp]
    exact (h.rp j hj).2 i hi
theorem OwnL.below {w w' : World} {lo hi g : Nat} {rs : List Lk} {pb : Nat → Nat} (h : OwnL w lo hi g rs pb) (hb : Below w.heap.size w w') : OwnL w' lo hi g rs pb :=
  h.of hb.size (fun b o _ _ hz => hb.cell (p := ⟨b, o, none⟩) hz) (fun b o _ _ hz => hb.frozen (p := ⟨b, o, none⟩) hz)
theorem OwnL.lks {w : World} {lo hi g C : Nat} {rs : List Lk} {pb : Nat → Nat} (h : OwnL w lo hi g rs pb) (hC : hi ≤ C) : Lks w C (some ⟨g, 0, none⟩) rs := fun _ => by
  refine ⟨g, 0, rfl, Nat.lt_of_lt_of_le h.gh hC, fun j hj => ?_⟩
  obtain ⟨b1, b2, b3⟩ := h.bnd j hj
  obtain ⟨pc, h1, h2, h3⟩ := h.cl j hj
  exact ⟨_, pc, by rw [Nat.zero_add]; exact h1, ⟨(h.rp j hj).strs' (by omega), h2, h3, fun e => by cases e⟩⟩
theorem OwnL.nil (w : World) (lo hi g : Nat) (hl : lo ≤ g) (hh : g < hi) (hs : g < w.heap.size) (fz : ∀ i, w.frozen? ⟨g, i, none⟩ = false) : OwnL w lo hi g [] (fun _ => 0) :=
  ⟨hl, hh, hs, fz, fun j hj => absurd hj (Nat.not_lt_zero _), fun j hj => absurd hj (Nat.not_lt_zero _), fun j hj => absurd hj (Nat.not_lt_zero _), fun i j _ hj => absurd hj (Nat.not_lt_zero _)⟩
theorem OwnL.wide {w : World} {lo hi g lo' hi' : Nat} {rs : List Lk} {pb : Nat → Nat} (h : OwnL w lo hi g rs pb) (h1 : lo' ≤ lo) (h2 : hi ≤ hi') : OwnL w lo' hi' g rs pb :=
  ⟨Nat.le_trans h1 h.gl, Nat.lt_of_lt_of_le h.gh h2, h.gs, h.fz, h.cl, h.rp, fun j hj => by obtain ⟨a, b, c⟩ := h.bnd j hj; exact ⟨by omega, by omega, c⟩, h.ord⟩

theorem info_lock : (Try.prog.info? 57).map (fun i => (i.zero, i.size, i.bytes)) = some (some (.agg #[.int .i64 0, .slice none 0 0, .bool false, .bool false, .int .i64 0]), 5, 48) := by kernel_rfl
end Go.Proofs.Ytcgljeagjchobaa
