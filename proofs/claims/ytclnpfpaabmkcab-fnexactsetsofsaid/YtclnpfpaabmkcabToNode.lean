/-
  What the laws' own helps on nodes do: copies.
-/
import Derived.Test.YtclnpfpaabmkcabLawNode
namespace Go.Proofs.Ytclnpfpaabmkcab
open Go.RowKit M
set_option linter.unusedVariables false

def ToS (K : Nat) : Prop := ∀ (ks : List Nd) (a : Option Addr) (cap B : Nat) (w : World), cntL ks < K → Nds w B a ks → B ≤ w.heap.size → ks.length + szL ks ≤ 1048576 →
    Calls Try.prog 75 #[.slice a ks.length cap] w fun e w' => (∃ g : Nat, e = .returned (.slice (some ⟨g, 0, none⟩) ks.length ks.length) ∧ OwnK w' (some ⟨g, 0, none⟩) ks (Ivl w.heap.size w'.heap.size)) ∧ Below w.heap.size w w'

set_option maxHeartbeats 1000000 in
theorem toNode_of (K : Nat) (ih : ToS K) (n : Nd) (a : Option Addr) (cap B : Nat) (w : World) (hn : cntL n.ks < K) (h : Nds w B a n.ks) (hB : B ≤ w.heap.size) (hs : n.szN ≤ 1048576) :
    Calls Try.prog 31 #[.agg #[.string n.ns, .string n.nm, .string n.tx, .slice a n.ks.length cap]] w fun e w' => (∃ g : Nat, e = .returned (.agg #[.string n.ns, .string n.nm, .string n.tx, .slice (some ⟨g, 0, none⟩) n.ks.length n.ks.length]) ∧ OwnK w' (some ⟨g, 0, none⟩) n.ks (Ivl w.heap.size w'.heap.size)) ∧ Below w.heap.size w w' := by
  rw [szN_ks] at hs
  obtain ⟨ra, rb, rc, ks⟩ := n
  simp only [Nd.ns, Nd.nm, Nd.tx, Nd.ks] at *
  have HH : Hid (Nds w B a ks) := h
  have HI : Hid (ToS K) := ih
  clear h ih
  go_enter Try.func31, Try.ntmps31
  go_wp2_with fail
  have hb0 : Below w.heap.size w (((w.alloc (Obj.cells #[Value.string ra, Value.string rb, Value.string rc, Value.slice a ks.length cap] 52)).alloc (Obj.cells #[Value.string { data := #[] }, Value.string { data := #[] }, Value.string { data := #[] }, Value.slice none 0 0] 59)).alloc (Obj.cells #[Value.string ra, Value.string rb, Value.string rc, Value.slice none 0 0] 59)) := (((Below.refl _ _).alloc (Nat.le_refl _) _).alloc (by simp) _).alloc (by simp; omega) _
  refine (HI.out ks a cap B _ hn (HH.out.stays hb0 hB) (by simp; omega) (by omega)).mono ?_
  rintro e w1 ⟨⟨g, rfl, hd1⟩, hb1⟩
  have HD1 := hide hd1
  have HB1 : Hid (Below w.heap.size w w1) := hb0.trans (hb1.mono hb0.size)
  obtain ⟨hc, hf⟩ := bcellN hb1
  clear hd1 hb0
  go_wp2
  refine bodyPost_ret (v := .agg #[.string ra, .string rb, .string rc, .slice (some ⟨g, 0, none⟩) ks.length ks.length]) (by simp [results, Try.results31, go_sem, hc]) rfl ⟨⟨_, rfl, ?_⟩, ?_⟩
  · have h6 := ((((HD1.out.setCell ⟨w.heap.size + 1 + 1, 3, none⟩ (Value.slice (some ⟨g, 0, none⟩) ks.length ks.length) (by simp [Ivl]; omega)).setCell ⟨w.heap.size + 1, 0, none⟩ (Value.string ra) (by simp [Ivl]; omega)).setCell ⟨w.heap.size + 1, 1, none⟩ (Value.string rb) (by simp [Ivl]; omega)).setCell ⟨w.heap.size + 1, 2, none⟩ (Value.string rc) (by simp [Ivl]; omega)).setCell ⟨w.heap.size + 1, 3, none⟩ (Value.slice (some ⟨g, 0, none⟩) ks.length ks.length) (by simp [Ivl]; omega)
    refine OwnK.wide h6 (fun x hx => ?_)
    unfold Ivl at hx ⊢
    simp at hx ⊢
    omega
  · exact ((((HB1.out.setCell (by simp; omega) _).setCell (by simp) _).setCell (by simp) _).setCell (by simp) _).setCell (by simp) _

theorem info_node : (Try.prog.info? 59).map (fun i => (i.zero, i.size, i.bytes)) = some (some (.agg #[.string ByteArray.empty, .string ByteArray.empty, .string ByteArray.empty, .slice none 0 0]), 4, 72) := by kernel_rfl

theorem run_make_nodes (n : Nat) (hn : n ≤ 1048576) (w : World) :
    (Instr.makeSlice 57 (.int .i64 (n : Int)) (.int .i64 (n : Int))).run Try.prog w = .ok (.slice (some ⟨w.heap.size, 0, none⟩) n n) (w.alloc (.cells (madeCells #[.string ByteArray.empty, .string ByteArray.empty, .string ByteArray.empty, .slice none 0 0] (n * 4)) 59)) := by
  obtain ⟨i, hi, hz, hs, hb⟩ := info_parts info_node
  have hr := run_make (P := Try.prog) w 57 59 i _ Try.underlying57 hi hz .i64 .i64 n n (by omega) (Int.le_refl _) (by rw [hb]; omega) (by omega)
  simp only [Int.toNat_natCast, hs] at hr
  exact hr

/-- What is made so far. -/
structure MadeK (w : World) (g L : Nat) (ks : List Nd) (k : Nat) : Prop where
  row : ∃ F : Nat → Value, w.rowIs g 59 (ks.length * 4) F ∧ ∃ (aj : Nat → Option Addr) (cj : Nat → Nat) (h : Nat → Nat), g < h 0 ∧ h k ≤ w.heap.size ∧ (∀ j, j < k → h j ≤ h (j + 1)) ∧
    ∀ j (hj : j < ks.length), j < k → F (j * 4) = .string ks[j].ns ∧ F (j * 4 + 1) = .string ks[j].nm ∧ F (j * 4 + 2) = .string ks[j].tx ∧ F (j * 4 + 3) = .slice (aj j) ks[j].ks.length (cj j) ∧ OwnK w (aj j) ks[j].ks (Ivl (h j) (h (j + 1)))

theorem chain {h : Nat → Nat} {k : Nat} (hm : ∀ j, j < k → h j ≤ h (j + 1)) : ∀ i j, i ≤ j → j ≤ k → h i ≤ h j := by
  intro i j hij
  induction j with
  | zero => intro _; have : i = 0 := by omega
            subst this; exact Nat.le_refl _
  | succ j ih =>
    intro hj
    by_cases e : i = j + 1
    · subst e; exact Nat.le_refl _
    · exact Nat.le_trans (ih (by omega) (by omega)) (hm j (by omega))

theorem MadeK.done {w : World} {g L : Nat} {ks : List Nd} {k : Nat} (m : MadeK w g L ks k) (hk : k = ks.length) (hL : L ≤ g) : OwnK w (some ⟨g, 0, none⟩) ks (Ivl L w.heap.size) := by
  subst hk
  obtain ⟨F, hr, aj, cj, h, h0, hk, hm, hj⟩ := m.row
  refine .row g 0 ks aj cj (fun j => Ivl (h j) (h (j + 1))) _ ⟨hL, hr.lt⟩ (fun j hjl => ?_) (fun i => hr.frozen i) (fun j hjl => (hj j hjl hjl).2.2.2.2) (fun j x hjl hx => ?_) (fun i j x hij hjl hx hy => ?_)
  · obtain ⟨e0, e1, e2, e3, _⟩ := hj j hjl hjl
    simp only [Nat.zero_add]
    exact ⟨by rw [hr.cell (by omega), e0], by rw [hr.cell (by omega), e1], by rw [hr.cell (by omega), e2], by rw [hr.cell (by omega), e3]⟩
  · unfold Ivl at hx ⊢
    have h1 := chain hm 0 j (Nat.zero_le _) (by omega)
    have h2 := chain hm (j + 1) ks.length (by omega) (Nat.le_refl _)
    omega
  · simp only [Ivl] at hx hy
    have h1 := chain hm (i + 1) j (by omega) (by omega)
    omega

theorem MadeK.next {w w1 : World} {g L C : Nat} {ks : List Nd} {k : Nat} (m : MadeK w g L ks k) (hb : Below w.heap.size w w1) (hk : k < ks.length) (a : Option Addr) (c : Nat) (ho : OwnK w1 a ks[k].ks (Ivl w.heap.size w1.heap.size)) :
    MadeK ((((w1.setCell ⟨g, k * 4, none⟩ (.string ks[k].ns)).setCell ⟨g, k * 4 + 1, none⟩ (.string ks[k].nm)).setCell ⟨g, k * 4 + 2, none⟩ (.string ks[k].tx)).setCell ⟨g, k * 4 + 3, none⟩ (.slice a ks[k].ks.length c)) g L ks (k + 1) := by
  obtain ⟨F, hr, aj, cj, h, h0, hkk, hm, hj⟩ := m.row
  have hz := hb.size
  have hr1 := hr.of_block (w' := w1) (hb.block _ hr.lt)
  have hg := hr.lt
  have hmono := chain hm
  refine ⟨⟨_, (((hr1.set (k * 4) (.string ks[k].ns)).set (k * 4 + 1) (.string ks[k].nm)).set (k * 4 + 2) (.string ks[k].tx)).set (k * 4 + 3) (.slice a ks[k].ks.length c), fun i => if i = k then a else aj i, fun i => if i = k then c else cj i, fun i => if i = k + 1 then w1.heap.size else h i, ?_, ?_, ?_, ?_⟩⟩
  · simpa using h0
  · simp
  · intro j hjk
    by_cases e : j = k
    · subst e; simp; omega
    · simp only [show ¬ j = k + 1 by omega, show ¬ j + 1 = k + 1 by omega, if_false]
      exact hm j (by omega)
  · intro j hjl hjk
    have put : ∀ (S : Nat → Prop) (a' : Option Addr) (ks' : List Nd), OwnK w1 a' ks' S → ¬ S g → OwnK ((((w1.setCell ⟨g, k * 4, none⟩ (.string ks[k].ns)).setCell ⟨g, k * 4 + 1, none⟩ (.string ks[k].nm)).setCell ⟨g, k * 4 + 2, none⟩ (.string ks[k].tx)).setCell ⟨g, k * 4 + 3, none⟩ (.slice a ks[k].ks.length c)) a' ks' S :=
      fun S a' ks' h' hS => (((h'.setCell _ _ hS).setCell _ _ hS).setCell _ _ hS).setCell _ _ hS
    by_cases e : j = k
    · subst e
      refine ⟨?_, ?_, ?_, ?_, ?_⟩
      · simp
      · simp
      · simp
      · simp
      · simp only [if_true, show ¬ j = j + 1 by omega, if_false]
        exact (put _ _ _ ho (by simp only [Ivl]; omega)).wide (fun x hx => by unfold Ivl at *; omega)
    · obtain ⟨e0, e1, e2, e3, e4⟩ := hj j hjl (by omega)
      have h1 := hmono 0 j (by omega) (by omega)
      have h2 := hmono (j + 1) k (by omega) (Nat.le_refl _)
      refine ⟨?_, ?_, ?_, ?_, ?_⟩
      · simp only [show ¬ j * 4 = k * 4 + 3 by omega, show ¬ j * 4 = k * 4 + 2 by omega, show ¬ j * 4 = k * 4 + 1 by omega, show ¬ j * 4 = k * 4 by omega, if_false]; exact e0
      · simp only [show ¬ j * 4 + 1 = k * 4 + 3 by omega, show ¬ j * 4 + 1 = k * 4 + 2 by omega, show ¬ j * 4 + 1 = k * 4 + 1 by omega, show ¬ j * 4 + 1 = k * 4 by omega, if_false]; exact e1
      · simp only [show ¬ j * 4 + 2 = k * 4 + 3 by omega, show ¬ j * 4 + 2 = k * 4 + 2 by omega, show ¬ j * 4 + 2 = k * 4 + 1 by omega, show ¬ j * 4 + 2 = k * 4 by omega, if_false]; exact e2
      · simp only [show ¬ j * 4 + 3 = k * 4 + 3 by omega, show ¬ j * 4 + 3 = k * 4 + 2 by omega, show ¬ j * 4 + 3 = k * 4 + 1 by omega, show ¬ j * 4 + 3 = k * 4 by omega, e, if_false]; exact e3
      · simp only [e, show ¬ j = k + 1 by omega, show ¬ j + 1 = k + 1 by omega, if_false]
        exact put _ _ _ (e4.stays hb (fun x hx => by unfold Ivl at hx; omega)) (by simp only [Ivl]; omega)

set_option maxHeartbeats 1000000 in
theorem toNodeS_all : ∀ K, ToS K := by
  intro K
  induction K with
  | zero => intro ks a cap B w hn; exact absurd hn (Nat.not_lt_zero _)
  | succ K ih =>
    intro ks a cap B w hn h hB hsz
    have HI : Hid (ToS K) := ih
    clear ih
    have hmk := run_make_nodes ks.length (by omega) w
    go_enter Try.func75, Try.ntmps75
    go_wp2
    clear hmk
    go_loopw [4] (fun i wr => ∃ k : Nat, k ≤ ks.length ∧ i = .int .i64 k ∧ MadeK wr w.heap.size w.heap.size ks k ∧ Below w.heap.size w wr) (fun i _ => ks.length - (intOf i).toNat)
    case atStart =>
      refine ⟨0, Nat.zero_le _, rfl, ?_, (Below.refl _ _).alloc (Nat.le_refl _) _⟩
      have hr := World.rowIs_alloc w (madeCells #[.string ByteArray.empty, .string ByteArray.empty, .string ByteArray.empty, .slice none 0 0] (ks.length * 4)) 59 (fun i => ((madeCells #[.string ByteArray.empty, .string ByteArray.empty, .string ByteArray.empty, .slice none 0 0] (ks.length * 4))[i]?).getD (.string ByteArray.empty)) (fun i hi => by rw [Array.getElem?_eq_getElem hi]; rfl)
      rw [size_madeCells] at hr
      exact ⟨⟨_, hr, fun _ => none, fun _ => 0, fun _ => w.heap.size + 1, Nat.lt_succ_self _, by simp, fun j hj => absurd hj (Nat.not_lt_zero _), fun j _ hj => absurd hj (Nat.not_lt_zero _)⟩⟩
    case round =>
      obtain ⟨k, hk, rfl, hrow, hbe⟩ := hrel
      by_cases hlt : k < ks.length
      · obtain ⟨b, o, rfl, hb, hc⟩ := (h.stays hbe hB).at (by omega)
        obtain ⟨ak, ck, hc0, hc1, hc2, hc3, hkk⟩ := hc k hlt
        clear hc
        have hcn : cntL (ks[k]).ks < K := by have := cntL_at ks k hlt; omega
        have hks : (ks[k]).szN ≤ 1048576 := by have := szL_mem ks _ (List.getElem_mem hlt); omega
        go_wp2_with fail
        refine (toNode_of K HI.out ks[k] ak ck B wr hcn hkk (Nat.le_trans hB hbe.size) hks).mono ?_
        rintro e w1 ⟨⟨g, rfl, ho⟩, hb1⟩
        have c1 := hbe.trans (hb1.mono hbe.size)
        have HR := hide (hrow.next (C := 0) hb1 hlt (some ⟨g, 0, none⟩) (ks[k]).ks.length ho)
        obtain ⟨F, hr, _⟩ := hrow.row
        have hr1 := hr.of_block (w' := w1) (hb1.block _ hr.lt)
        have hd0 := hr1.cell (i := k * 4) (by omega)
        have hd1 := hr1.cell (i := k * 4 + 1) (by omega)
        have hd2 := hr1.cell (i := k * 4 + 2) (by omega)
        have hd3 := hr1.cell (i := k * 4 + 3) (by omega)
        have hf0 := hr1.frozen (k * 4)
        have hf1 := hr1.frozen (k * 4 + 1)
        have hf2 := hr1.frozen (k * 4 + 2)
        have hf3 := hr1.frozen (k * 4 + 3)
        clear hr hr1 hrow
        go_wp2
        go_roundw
        case rel => exact ⟨k + 1, by omega, by go_num, HR.out, (((c1.setCell (Nat.le_refl _) _).setCell (Nat.le_refl _) _).setCell (Nat.le_refl _) _).setCell (Nat.le_refl _) _⟩
        case measure => simp [intOf]; omega
      · go_wp2
        go_ret
        exact ⟨⟨_, rfl, hrow.done (by omega) (Nat.le_refl _)⟩, hbe⟩

theorem toNode_any (n : Nd) (a : Option Addr) (cap B : Nat) (w : World) (h : Nds w B a n.ks) (hB : B ≤ w.heap.size) (hs : n.szN ≤ 1048576) :
    Calls Try.prog 31 #[.agg #[.string n.ns, .string n.nm, .string n.tx, .slice a n.ks.length cap]] w fun e w' => (∃ g : Nat, e = .returned (.agg #[.string n.ns, .string n.nm, .string n.tx, .slice (some ⟨g, 0, none⟩) n.ks.length n.ks.length]) ∧ OwnK w' (some ⟨g, 0, none⟩) n.ks (Ivl w.heap.size w'.heap.size)) ∧ Below w.heap.size w w' :=
  toNode_of (cntL n.ks + 1) (toNodeS_all _) n a cap B w (Nat.lt_succ_self _) h hB hs
end Go.Proofs.Ytclnpfpaabmkcab
