/-
  The draw of a piece: it is right, plain and short.
-/
import Derived.Test.YtcgmokjnjmefpaaGreatDoorMathBack7
import Derived.Test.YtcgmokjnjmefpaaGreatDoorRowsP
import Derived.Test.YtcgmokjnjmefpaaGreatDoorDrawO
import Derived.Test.YtcgmokjnjmefpaaGreatDoorHide
namespace Go.Proofs.YtcgmokjnjmefpaaGreatDoor
open Go.RowKit M
set_option linter.unusedVariables false

theorem strNewP {w : World} {N : Nat} {a : Option Addr} {len cap : Nat} {zs : List Int} (h : DX w N a len cap zs) (P : ByteArray → Prop) (ss : List ByteArray) (C : Array Value) (T : TypeId) (n M : Nat) (hM : M = w.heap.size) (hC : C = (ss.map Value.string).toArray) (hn : ss.length = n) (h0 : 0 < n) (h1 : n ≤ 256) (hP : ∀ s ∈ ss, P s) :
    Calls Tryz.prog 43 #[.pointer (some ⟨N, 0, none⟩), .slice (some ⟨M, 0, none⟩) n n] (w.alloc (.cells C T)) fun e w' => (∃ s : ByteArray, e = .returned (.string s) ∧ P s) ∧ DX w' N a len cap zs ∧ w.grownBy w' (some N) := by
  obtain ⟨c, h⟩ := h
  refine (strNew h ss C T n M hM hC hn h0 h1).mono ?_
  rintro e w1 ⟨rfl, hd, hg⟩
  refine ⟨⟨_, rfl, ?_⟩, ⟨_, hd⟩, hg⟩
  have hl : pick zs len c n < ss.length := by rw [hn]; exact pick_lt zs len c n h0
  rw [List.getD_eq_getElem?_getD, List.getElem?_eq_getElem hl]
  exact hP _ (List.getElem_mem hl)
theorem onceX7 {w : World} {N : Nat} {a : Option Addr} {len cap : Nat} {zs : List Int} (h : DX w N a len cap zs) (n : Int) (hn : 0 < n) (hn2 : n ≤ 1000000) :
    Calls Tryz.prog 69 #[.pointer (some ⟨N, 0, none⟩), .int .i64 n] w fun e w' => (∃ b : Bool, e = .returned (.bool b)) ∧ DX w' N a len cap zs ∧ w.grownBy w' (some N) := by
  obtain ⟨c, h⟩ := h
  refine (l1Once_any N a len cap zs c n w h.cur h.code h.bN h.hlen hn hn2).mono ?_
  rintro e w1 ⟨rfl, hc1, hg1⟩
  exact ⟨⟨_, rfl⟩, ⟨_, h.grown hg1 hc1⟩, hg1⟩

/-- The block B holds this piece, and may be written. -/
def Box5 (w : World) (B : Nat) (p : Pce) : Prop := B < w.heap.size ∧ (∀ i, w.frozen? ⟨B, i, none⟩ = false) ∧ w.cell? ⟨B, 0, none⟩ = some (.int .i64 p.k) ∧ w.cell? ⟨B, 1, none⟩ = some (.string p.name) ∧ w.cell? ⟨B, 2, none⟩ = some (.string p.ns) ∧ w.cell? ⟨B, 3, none⟩ = some (.bool p.has) ∧ w.cell? ⟨B, 4, none⟩ = some (.string p.s)
theorem Box5.same {w w' : World} {B : Nat} {p : Pce} (h : Box5 w B p) (hs : w.heap.size ≤ w'.heap.size) (hb : w'.heap[B]? = w.heap[B]?) : Box5 w' B p := by
  have hc : ∀ o, w'.cell? ⟨B, o, none⟩ = w.cell? ⟨B, o, none⟩ := fun o => World.cell?_of_block (a := ⟨B, o, none⟩) hb
  have hf : ∀ o, w'.frozen? ⟨B, o, none⟩ = w.frozen? ⟨B, o, none⟩ := fun o => World.frozen?_of_block (a := ⟨B, o, none⟩) hb
  obtain ⟨h0, h1, h2, h3, h4, h5, h6⟩ := h
  exact ⟨Nat.lt_of_lt_of_le h0 hs, fun i => (hf i).trans (h1 i), (hc _).trans h2, (hc _).trans h3, (hc _).trans h4, (hc _).trans h5, (hc _).trans h6⟩
theorem Box5.made (w : World) (p : Pce) (T : TypeId) : Box5 (w.alloc (Obj.cells #[.int .i64 p.k, .string p.name, .string p.ns, .bool p.has, .string p.s] T)) w.heap.size p := ⟨by simp, fun i => by simp, by simp, by simp, by simp, by simp, by simp⟩
theorem Box5.alloc {w : World} {B : Nat} {p : Pce} (h : Box5 w B p) (o : Obj) : Box5 (w.alloc o) B p := h.same (by simp) (by rw [Lib.alloc_old w _ B h.1])
theorem Box5.grown {w w' : World} {B N : Nat} {p : Pce} (h : Box5 w B p) (hg : w.grownBy w' (some N)) (hN : B ≠ N) : Box5 w' B p := h.same hg.size (hg.block B h.1 (by simp; omega))

def zeroP : Pce := ⟨0, noB, noB, false, noB⟩
/-- What is drawn. -/
def DrawnP (p : Pce) : Prop := GoodP p ∧ plainP p ∧ p.name.size ≤ 20 ∧ p.ns.size ≤ 20 ∧ p.s.size ≤ 20
def txtD : List ByteArray := [⟨#[97]⟩, ⟨#[97, 38, 98]⟩, ⟨#[60, 62]⟩, ⟨#[34]⟩, ⟨#[32]⟩, ⟨#[120, 32, 121]⟩]
def nmD : List ByteArray := [⟨#[97]⟩, ⟨#[98]⟩, ⟨#[112, 114, 111, 112]⟩, ⟨#[120, 45, 49]⟩]
def nsD : List ByteArray := [⟨#[]⟩, ⟨#[68, 65, 86, 58]⟩, ⟨#[97, 60, 98]⟩, ⟨#[34, 113]⟩]
def TxtP (s : ByteArray) : Prop := s.data.toList ≠ [] ∧ allB s.data.toList [0] = true ∧ s.size ≤ 20
def NmP (s : ByteArray) : Prop := smB s.data.toList = true ∧ allB s.data.toList [0] = true ∧ s.size ≤ 20
def NsP (s : ByteArray) : Prop := allB s.data.toList [0] = true ∧ s.size ≤ 20
theorem txtD_ok : ∀ s ∈ txtD, TxtP s := by
  intro s hs
  simp only [txtD, List.mem_cons, List.not_mem_nil, or_false] at hs
  rcases hs with rfl | rfl | rfl | rfl | rfl | rfl <;> exact ⟨by decide, by decide, by decide⟩
theorem nmD_ok : ∀ s ∈ nmD, NmP s := by
  intro s hs
  simp only [nmD, List.mem_cons, List.not_mem_nil, or_false] at hs
  rcases hs with rfl | rfl | rfl | rfl <;> exact ⟨by decide, by decide, by decide⟩
theorem nsD_ok : ∀ s ∈ nsD, NsP s := by
  intro s hs
  simp only [nsD, List.mem_cons, List.not_mem_nil, or_false] at hs
  rcases hs with rfl | rfl | rfl | rfl <;> exact ⟨by decide, by decide⟩
theorem nb20 : noB.size ≤ 20 := by decide
theorem plain_no : allB noB.data.toList [0] = true := rfl
theorem drawn_text {s : ByteArray} (h : TxtP s) : DrawnP ⟨4, noB, noB, false, s⟩ := ⟨.inr (.inr ⟨rfl, rfl, rfl, rfl, h.1⟩), ⟨plain_no, plain_no, h.2.1⟩, nb20, nb20, h.2.2⟩
theorem drawn_close {n : ByteArray} (h : NmP n) : DrawnP ⟨2, n, noB, false, noB⟩ := ⟨.inl ⟨rfl, h.1, rfl, rfl, rfl⟩, ⟨h.2.1, plain_no, plain_no⟩, h.2.2, nb20, nb20⟩
theorem drawn_bare {n : ByteArray} {k : Int} (hk : k = 1 ∨ k = 3) (h : NmP n) : DrawnP ⟨k, n, noB, false, noB⟩ := ⟨.inr (.inl ⟨hk, h.1, nb20, fun _ => rfl, rfl⟩), ⟨h.2.1, plain_no, plain_no⟩, h.2.2, nb20, nb20⟩
theorem drawn_space {n s : ByteArray} {k : Int} (hk : k = 1 ∨ k = 3) (h : NmP n) (hs : NsP s) : DrawnP ⟨k, n, s, true, noB⟩ := ⟨.inr (.inl ⟨hk, h.1, hs.2, (fun e => by cases e), rfl⟩), ⟨h.2.1, hs.1, plain_no⟩, h.2.2, hs.2, nb20⟩
theorem below_sets5 {C : Nat} {w w' : World} (h : Below C w w') (N : Nat) (hN : C ≤ N) (v0 v1 v2 v3 v4 : Value) : Below C w (((((w'.setCell ⟨N, 0, none⟩ v0).setCell ⟨N, 1, none⟩ v1).setCell ⟨N, 2, none⟩ v2).setCell ⟨N, 3, none⟩ v3).setCell ⟨N, 4, none⟩ v4) :=
  ((((h.setCell (p := ⟨N, 0, none⟩) hN _).setCell (p := ⟨N, 1, none⟩) hN _).setCell (p := ⟨N, 2, none⟩) hN _).setCell (p := ⟨N, 3, none⟩) hN _).setCell (p := ⟨N, 4, none⟩) hN _

set_option maxRecDepth 100000 in
set_option maxHeartbeats 1500000 in
theorem l7Draw_any {w : World} {N : Nat} {a : Option Addr} {len cap : Nat} {zs : List Int} (h : DX w N a len cap zs) :
    Calls Tryz.prog 74 #[.pointer (some ⟨N, 0, none⟩)] w fun e w' => (∃ p, e = .returned (.agg #[.int .i64 p.k, .string p.name, .string p.ns, .bool p.has, .string p.s]) ∧ DrawnP p) ∧ DX w' N a len cap zs ∧ w.grownBy w' (some N) := by
  have hlt := h.lt
  have R0 := hide (show Box5 (w.alloc (Obj.cells #[.int .i64 0, .string ⟨#[]⟩, .string ⟨#[]⟩, .bool false, .string ⟨#[]⟩] 62)) w.heap.size zeroP from Box5.made w zeroP 62)
  have D0 := hide (h.alloc (Obj.cells #[.int .i64 0, .string ⟨#[]⟩, .string ⟨#[]⟩, .bool false, .string ⟨#[]⟩] 62))
  have G0 := hide (grown_alloc (grown_refl w (some N)) (Obj.cells #[.int .i64 0, .string ⟨#[]⟩, .string ⟨#[]⟩, .bool false, .string ⟨#[]⟩] 62))
  have HZ0 := hide (show (w.alloc (Obj.cells #[.int .i64 0, .string ⟨#[]⟩, .string ⟨#[]⟩, .bool false, .string ⟨#[]⟩] 62)).heap.size = w.heap.size + 1 by simp)
  clear h
  go_enter Tryz.func74, Tryz.ntmps74
  go_wp2_with fail
  refine (l1BelowX D0.out 4 (by decide) (by decide)).mono ?_
  rintro e w1 ⟨⟨k, rfl, hk⟩, hd1, hg1⟩
  have hz1 : w.heap.size + 1 ≤ w1.heap.size := by have := hg1.size; rw [HZ0.out] at this; exact this
  have R1' := hide (R0.out.grown hg1 (by omega))
  have D1' := hide hd1
  have G1' := hide (grown_trans G0.out hg1)
  clear R0 D0 G0 HZ0 hd1 hg1
  have hPR : w.heap.size < w1.heap.size := by omega
  have hNP : N < w1.heap.size := by omega
  have hcase : k = 0 ∨ k = 1 ∨ k = 2 ∨ k = 3 := by omega
  clear hk
  rcases hcase with rfl | rfl | rfl | rfl
  · have R1 := hide (R1'.out.alloc (Obj.cells #[.int .i64 1, .string ⟨#[]⟩, .string ⟨#[]⟩, .bool false, .string ⟨#[]⟩] 62))
    have P1 := hide (show Box5 (w1.alloc (Obj.cells #[.int .i64 1, .string ⟨#[]⟩, .string ⟨#[]⟩, .bool false, .string ⟨#[]⟩] 62)) w1.heap.size ⟨1, noB, noB, false, noB⟩ from Box5.made w1 ⟨1, noB, noB, false, noB⟩ 62)
    have D1 := hide (D1'.out.alloc (Obj.cells #[.int .i64 1, .string ⟨#[]⟩, .string ⟨#[]⟩, .bool false, .string ⟨#[]⟩] 62))
    have G1 := hide (grown_alloc G1'.out (Obj.cells #[.int .i64 1, .string ⟨#[]⟩, .string ⟨#[]⟩, .bool false, .string ⟨#[]⟩] 62))
    have hPl := P1.out.1
    have hsz2 := G1.out.size
    clear R1' D1' G1'
    go_wp2_with fail
    refine (strNewP D1.out NmP nmD _ _ 4 _ (by simp) rfl rfl (by decide) (by decide) nmD_ok).mono ?_
    rintro e w3 ⟨⟨x, rfl, hx⟩, hd, hg⟩
    have R_w3 := hide (R1.out.grown hg (by omega))
    have P_w3 := hide (P1.out.grown hg (by omega))
    have D_w3 := hide hd
    have G_w3 := hide (grown_trans G1.out hg)
    have Hx := hide hx
    clear hd hg hx
    clear R1 D1 G1 P1 hPl hsz2
    obtain ⟨fp, p0, p1, p2, p3, p4⟩ : (∀ i, w3.frozen? ⟨w1.heap.size, i, none⟩ = false) ∧ w3.cell? ⟨w1.heap.size, 0, none⟩ = some (.int .i64 1) ∧ w3.cell? ⟨w1.heap.size, 1, none⟩ = some (.string ⟨#[]⟩) ∧ w3.cell? ⟨w1.heap.size, 2, none⟩ = some (.string ⟨#[]⟩) ∧ w3.cell? ⟨w1.heap.size, 3, none⟩ = some (.bool false) ∧ w3.cell? ⟨w1.heap.size, 4, none⟩ = some (.string ⟨#[]⟩) := P_w3.out.2
    have hP3 := P_w3.out.1
    have P4 : Hid (Box5 (w3.setCell ⟨w1.heap.size, 1, none⟩ (.string x)) w1.heap.size ⟨1, x, noB, false, noB⟩) := by
      refine ⟨by simpa using hP3, fun i => by rw [World.frozen?_setCell]; exact fp i, ?_, ?_, ?_, ?_, ?_⟩
      · rw [World.cell?_setCell_other _ _ _ _ (fun e => by cases e)]; exact p0
      · rw [World.cell?_setCell_same _ _ _ p1]
      · rw [World.cell?_setCell_other _ _ _ _ (fun e => by cases e)]; exact p2
      · rw [World.cell?_setCell_other _ _ _ _ (fun e => by cases e)]; exact p3
      · rw [World.cell?_setCell_other _ _ _ _ (fun e => by cases e)]; exact p4
    have b4 : Below w1.heap.size w3 (w3.setCell ⟨w1.heap.size, 1, none⟩ (.string x)) := (Below.refl w1.heap.size w3).setCell (p := ⟨w1.heap.size, 1, none⟩) (Nat.le_refl _) _
    have R4 := hide (R_w3.out.same b4.size (b4.block _ hPR))
    have D4 := hide (D_w3.out.other b4.size (fun j hj => b4.block j (by omega)))
    have G4 := hide (grown_past G_w3.out (b4.mono (by omega)))
    obtain ⟨w4, hw4⟩ : ∃ w4, w3.setCell ⟨w1.heap.size, 1, none⟩ (.string x) = w4 := ⟨_, rfl⟩
    rw [hw4] at P4 R4 D4 G4
    clear R_w3 P_w3 D_w3 G_w3 b4
    have hP4 := P4.out.1
    obtain ⟨fq, q0, q1, q2, q3, q4⟩ : (∀ i, w4.frozen? ⟨w1.heap.size, i, none⟩ = false) ∧ w4.cell? ⟨w1.heap.size, 0, none⟩ = some (.int .i64 1) ∧ w4.cell? ⟨w1.heap.size, 1, none⟩ = some (.string x) ∧ w4.cell? ⟨w1.heap.size, 2, none⟩ = some (.string ⟨#[]⟩) ∧ w4.cell? ⟨w1.heap.size, 3, none⟩ = some (.bool false) ∧ w4.cell? ⟨w1.heap.size, 4, none⟩ = some (.string ⟨#[]⟩) := P4.out.2
    go_wp2_with fail
    refine (onceX7 D4.out 2 (by decide) (by decide)).mono ?_
    rintro e w5 ⟨⟨b, rfl⟩, hd, hg⟩
    have R5 := hide (R4.out.grown hg (by omega))
    have P5 := hide (P4.out.grown hg (by omega))
    have D5 := hide hd
    have G5 := hide (grown_trans G4.out hg)
    clear hd hg fq q0 q1 q2 q3 q4 hw4 R4 D4 G4 P4 fp p0 p1 p2 p3 p4
    have hP5 := P5.out.1
    cases b
    · obtain ⟨fp, p0, p1, p2, p3, p4⟩ : (∀ i, w5.frozen? ⟨w1.heap.size, i, none⟩ = false) ∧ w5.cell? ⟨w1.heap.size, 0, none⟩ = some (.int .i64 1) ∧ w5.cell? ⟨w1.heap.size, 1, none⟩ = some (.string x) ∧ w5.cell? ⟨w1.heap.size, 2, none⟩ = some (.string ⟨#[]⟩) ∧ w5.cell? ⟨w1.heap.size, 3, none⟩ = some (.bool false) ∧ w5.cell? ⟨w1.heap.size, 4, none⟩ = some (.string ⟨#[]⟩) := P5.out.2
      obtain ⟨hRl, fr, r0, r1, r2, r3, r4⟩ : w.heap.size < w5.heap.size ∧ (∀ i, w5.frozen? ⟨w.heap.size, i, none⟩ = false) ∧ w5.cell? ⟨w.heap.size, 0, none⟩ = some (.int .i64 0) ∧ w5.cell? ⟨w.heap.size, 1, none⟩ = some (.string ⟨#[]⟩) ∧ w5.cell? ⟨w.heap.size, 2, none⟩ = some (.string ⟨#[]⟩) ∧ w5.cell? ⟨w.heap.size, 3, none⟩ = some (.bool false) ∧ w5.cell? ⟨w.heap.size, 4, none⟩ = some (.string ⟨#[]⟩) := R5.out
      go_wp2
      refine bodyPost_ret (v := .agg #[.int .i64 1, .string x, .string ⟨#[]⟩, .bool false, .string ⟨#[]⟩]) (by simp [results, Tryz.results74, go_sem, r0, r1, r2, r3, r4]) rfl ⟨⟨⟨1, x, ⟨#[]⟩, false, ⟨#[]⟩⟩, rfl, drawn_bare (by decide) Hx.out⟩, ?_, ?_⟩
      · have hb9 := below_sets5 (Below.refl w.heap.size w5) w.heap.size (Nat.le_refl _) (.int .i64 1) (.string x) (.string ⟨#[]⟩) (.bool false) (.string ⟨#[]⟩)
        exact D5.out.other hb9.size (fun j hj => hb9.block j (by omega))
      · exact grown_past G5.out (below_sets5 (Below.refl w.heap.size w5) w.heap.size (Nat.le_refl _) _ _ _ _ _)
    · obtain ⟨fp, p0, p1, p2, p3, p4⟩ : (∀ i, w5.frozen? ⟨w1.heap.size, i, none⟩ = false) ∧ w5.cell? ⟨w1.heap.size, 0, none⟩ = some (.int .i64 1) ∧ w5.cell? ⟨w1.heap.size, 1, none⟩ = some (.string x) ∧ w5.cell? ⟨w1.heap.size, 2, none⟩ = some (.string ⟨#[]⟩) ∧ w5.cell? ⟨w1.heap.size, 3, none⟩ = some (.bool false) ∧ w5.cell? ⟨w1.heap.size, 4, none⟩ = some (.string ⟨#[]⟩) := P5.out.2
      have b6 : Below w1.heap.size w5 (w5.setCell ⟨w1.heap.size, 3, none⟩ (.bool true)) := (Below.refl w1.heap.size w5).setCell (p := ⟨w1.heap.size, 3, none⟩) (Nat.le_refl _) _
      have P6 : Hid (Box5 (w5.setCell ⟨w1.heap.size, 3, none⟩ (.bool true)) w1.heap.size ⟨1, x, noB, true, noB⟩) := by
        refine ⟨by simpa using hP5, fun i => by rw [World.frozen?_setCell]; exact fp i, ?_, ?_, ?_, ?_, ?_⟩
        · rw [World.cell?_setCell_other _ _ _ _ (fun e => by cases e)]; exact p0
        · rw [World.cell?_setCell_other _ _ _ _ (fun e => by cases e)]; exact p1
        · rw [World.cell?_setCell_other _ _ _ _ (fun e => by cases e)]; exact p2
        · rw [World.cell?_setCell_same _ _ _ p3]
        · rw [World.cell?_setCell_other _ _ _ _ (fun e => by cases e)]; exact p4
      have R6 := hide (R5.out.same b6.size (b6.block _ hPR))
      have D6 := hide (D5.out.other b6.size (fun j hj => b6.block j (by omega)))
      have G6 := hide (grown_past G5.out (b6.mono (by omega)))
      obtain ⟨w6, hw6⟩ : ∃ w6, w5.setCell ⟨w1.heap.size, 3, none⟩ (.bool true) = w6 := ⟨_, rfl⟩
      rw [hw6] at P6 R6 D6 G6
      clear R5 P5 D5 G5 b6
      go_wp2_with fail
      refine (strNewP D6.out NsP nsD _ _ 4 _ rfl rfl rfl (by decide) (by decide) nsD_ok).mono ?_
      rintro e w7 ⟨⟨y, rfl, hy⟩, hd, hg⟩
      have R_w7 := hide (R6.out.grown hg (by omega))
      have P_w7 := hide (P6.out.grown hg (by omega))
      have D_w7 := hide hd
      have G_w7 := hide (grown_trans G6.out hg)
      have Hy := hide hy
      clear hd hg hy
      clear fp p0 p1 p2 p3 p4 hw6 R6 D6 G6 P6
      have hP7 := P_w7.out.1
      obtain ⟨fp, p0, p1, p2, p3, p4⟩ : (∀ i, w7.frozen? ⟨w1.heap.size, i, none⟩ = false) ∧ w7.cell? ⟨w1.heap.size, 0, none⟩ = some (.int .i64 1) ∧ w7.cell? ⟨w1.heap.size, 1, none⟩ = some (.string x) ∧ w7.cell? ⟨w1.heap.size, 2, none⟩ = some (.string ⟨#[]⟩) ∧ w7.cell? ⟨w1.heap.size, 3, none⟩ = some (.bool true) ∧ w7.cell? ⟨w1.heap.size, 4, none⟩ = some (.string ⟨#[]⟩) := P_w7.out.2
      obtain ⟨hRl, fr, r0, r1, r2, r3, r4⟩ : w.heap.size < w7.heap.size ∧ (∀ i, w7.frozen? ⟨w.heap.size, i, none⟩ = false) ∧ w7.cell? ⟨w.heap.size, 0, none⟩ = some (.int .i64 0) ∧ w7.cell? ⟨w.heap.size, 1, none⟩ = some (.string ⟨#[]⟩) ∧ w7.cell? ⟨w.heap.size, 2, none⟩ = some (.string ⟨#[]⟩) ∧ w7.cell? ⟨w.heap.size, 3, none⟩ = some (.bool false) ∧ w7.cell? ⟨w.heap.size, 4, none⟩ = some (.string ⟨#[]⟩) := R_w7.out
      go_wp2
      refine bodyPost_ret (v := .agg #[.int .i64 1, .string x, .string y, .bool true, .string ⟨#[]⟩]) (by simp [results, Tryz.results74, go_sem, r0, r1, r2, r3, r4]) rfl ⟨⟨⟨1, x, y, true, ⟨#[]⟩⟩, rfl, drawn_space (by decide) Hx.out Hy.out⟩, ?_, ?_⟩
      · have hb9 := below_sets5 ((Below.refl w.heap.size w7).setCell (p := ⟨w1.heap.size, 2, none⟩) (by simp; omega) (.string y)) w.heap.size (Nat.le_refl _) (.int .i64 1) (.string x) (.string y) (.bool true) (.string ⟨#[]⟩)
        exact D_w7.out.other hb9.size (fun j hj => hb9.block j (by omega))
      · exact grown_past G_w7.out (below_sets5 ((Below.refl w.heap.size w7).setCell (p := ⟨w1.heap.size, 2, none⟩) (by simp; omega) (.string y)) w.heap.size (Nat.le_refl _) _ _ _ _ _)
  · have R1 := hide (R1'.out.alloc (Obj.cells #[.int .i64 2, .string ⟨#[]⟩, .string ⟨#[]⟩, .bool false, .string ⟨#[]⟩] 62))
    have P1 := hide (show Box5 (w1.alloc (Obj.cells #[.int .i64 2, .string ⟨#[]⟩, .string ⟨#[]⟩, .bool false, .string ⟨#[]⟩] 62)) w1.heap.size ⟨2, noB, noB, false, noB⟩ from Box5.made w1 ⟨2, noB, noB, false, noB⟩ 62)
    have D1 := hide (D1'.out.alloc (Obj.cells #[.int .i64 2, .string ⟨#[]⟩, .string ⟨#[]⟩, .bool false, .string ⟨#[]⟩] 62))
    have G1 := hide (grown_alloc G1'.out (Obj.cells #[.int .i64 2, .string ⟨#[]⟩, .string ⟨#[]⟩, .bool false, .string ⟨#[]⟩] 62))
    have hPl := P1.out.1
    have hsz2 := G1.out.size
    clear R1' D1' G1'
    go_wp2_with fail
    refine (strNewP D1.out NmP nmD _ _ 4 _ (by simp) rfl rfl (by decide) (by decide) nmD_ok).mono ?_
    rintro e w3 ⟨⟨x, rfl, hx⟩, hd, hg⟩
    have R_w3 := hide (R1.out.grown hg (by omega))
    have P_w3 := hide (P1.out.grown hg (by omega))
    have D_w3 := hide hd
    have G_w3 := hide (grown_trans G1.out hg)
    have Hx := hide hx
    clear hd hg hx
    clear R1 D1 G1 P1 hPl hsz2
    obtain ⟨fp, p0, p1, p2, p3, p4⟩ : (∀ i, w3.frozen? ⟨w1.heap.size, i, none⟩ = false) ∧ w3.cell? ⟨w1.heap.size, 0, none⟩ = some (.int .i64 2) ∧ w3.cell? ⟨w1.heap.size, 1, none⟩ = some (.string ⟨#[]⟩) ∧ w3.cell? ⟨w1.heap.size, 2, none⟩ = some (.string ⟨#[]⟩) ∧ w3.cell? ⟨w1.heap.size, 3, none⟩ = some (.bool false) ∧ w3.cell? ⟨w1.heap.size, 4, none⟩ = some (.string ⟨#[]⟩) := P_w3.out.2
    have hP3 := P_w3.out.1
    obtain ⟨hRl, fr, r0, r1, r2, r3, r4⟩ : w.heap.size < w3.heap.size ∧ (∀ i, w3.frozen? ⟨w.heap.size, i, none⟩ = false) ∧ w3.cell? ⟨w.heap.size, 0, none⟩ = some (.int .i64 0) ∧ w3.cell? ⟨w.heap.size, 1, none⟩ = some (.string ⟨#[]⟩) ∧ w3.cell? ⟨w.heap.size, 2, none⟩ = some (.string ⟨#[]⟩) ∧ w3.cell? ⟨w.heap.size, 3, none⟩ = some (.bool false) ∧ w3.cell? ⟨w.heap.size, 4, none⟩ = some (.string ⟨#[]⟩) := R_w3.out
    go_wp2
    refine bodyPost_ret (v := .agg #[.int .i64 2, .string x, .string ⟨#[]⟩, .bool false, .string ⟨#[]⟩]) (by simp [results, Tryz.results74, go_sem, r0, r1, r2, r3, r4]) rfl ⟨⟨⟨2, x, ⟨#[]⟩, false, ⟨#[]⟩⟩, rfl, drawn_close Hx.out⟩, ?_, ?_⟩
    · have hb9 := below_sets5 ((Below.refl w.heap.size w3).setCell (p := ⟨w1.heap.size, 1, none⟩) (by simp; omega) (.string x)) w.heap.size (Nat.le_refl _) (.int .i64 2) (.string x) (.string ⟨#[]⟩) (.bool false) (.string ⟨#[]⟩)
      exact D_w3.out.other hb9.size (fun j hj => hb9.block j (by omega))
    · exact grown_past G_w3.out (below_sets5 ((Below.refl w.heap.size w3).setCell (p := ⟨w1.heap.size, 1, none⟩) (by simp; omega) (.string x)) w.heap.size (Nat.le_refl _) _ _ _ _ _)
  · have R1 := hide (R1'.out.alloc (Obj.cells #[.int .i64 3, .string ⟨#[]⟩, .string ⟨#[]⟩, .bool false, .string ⟨#[]⟩] 62))
    have P1 := hide (show Box5 (w1.alloc (Obj.cells #[.int .i64 3, .string ⟨#[]⟩, .string ⟨#[]⟩, .bool false, .string ⟨#[]⟩] 62)) w1.heap.size ⟨3, noB, noB, false, noB⟩ from Box5.made w1 ⟨3, noB, noB, false, noB⟩ 62)
    have D1 := hide (D1'.out.alloc (Obj.cells #[.int .i64 3, .string ⟨#[]⟩, .string ⟨#[]⟩, .bool false, .string ⟨#[]⟩] 62))
    have G1 := hide (grown_alloc G1'.out (Obj.cells #[.int .i64 3, .string ⟨#[]⟩, .string ⟨#[]⟩, .bool false, .string ⟨#[]⟩] 62))
    have hPl := P1.out.1
    have hsz2 := G1.out.size
    clear R1' D1' G1'
    go_wp2_with fail
    refine (strNewP D1.out NmP nmD _ _ 4 _ (by simp) rfl rfl (by decide) (by decide) nmD_ok).mono ?_
    rintro e w3 ⟨⟨x, rfl, hx⟩, hd, hg⟩
    have R_w3 := hide (R1.out.grown hg (by omega))
    have P_w3 := hide (P1.out.grown hg (by omega))
    have D_w3 := hide hd
    have G_w3 := hide (grown_trans G1.out hg)
    have Hx := hide hx
    clear hd hg hx
    clear R1 D1 G1 P1 hPl hsz2
    obtain ⟨fp, p0, p1, p2, p3, p4⟩ : (∀ i, w3.frozen? ⟨w1.heap.size, i, none⟩ = false) ∧ w3.cell? ⟨w1.heap.size, 0, none⟩ = some (.int .i64 3) ∧ w3.cell? ⟨w1.heap.size, 1, none⟩ = some (.string ⟨#[]⟩) ∧ w3.cell? ⟨w1.heap.size, 2, none⟩ = some (.string ⟨#[]⟩) ∧ w3.cell? ⟨w1.heap.size, 3, none⟩ = some (.bool false) ∧ w3.cell? ⟨w1.heap.size, 4, none⟩ = some (.string ⟨#[]⟩) := P_w3.out.2
    have hP3 := P_w3.out.1
    have P4 : Hid (Box5 (w3.setCell ⟨w1.heap.size, 1, none⟩ (.string x)) w1.heap.size ⟨3, x, noB, false, noB⟩) := by
      refine ⟨by simpa using hP3, fun i => by rw [World.frozen?_setCell]; exact fp i, ?_, ?_, ?_, ?_, ?_⟩
      · rw [World.cell?_setCell_other _ _ _ _ (fun e => by cases e)]; exact p0
      · rw [World.cell?_setCell_same _ _ _ p1]
      · rw [World.cell?_setCell_other _ _ _ _ (fun e => by cases e)]; exact p2
      · rw [World.cell?_setCell_other _ _ _ _ (fun e => by cases e)]; exact p3
      · rw [World.cell?_setCell_other _ _ _ _ (fun e => by cases e)]; exact p4
    have b4 : Below w1.heap.size w3 (w3.setCell ⟨w1.heap.size, 1, none⟩ (.string x)) := (Below.refl w1.heap.size w3).setCell (p := ⟨w1.heap.size, 1, none⟩) (Nat.le_refl _) _
    have R4 := hide (R_w3.out.same b4.size (b4.block _ hPR))
    have D4 := hide (D_w3.out.other b4.size (fun j hj => b4.block j (by omega)))
    have G4 := hide (grown_past G_w3.out (b4.mono (by omega)))
    obtain ⟨w4, hw4⟩ : ∃ w4, w3.setCell ⟨w1.heap.size, 1, none⟩ (.string x) = w4 := ⟨_, rfl⟩
    rw [hw4] at P4 R4 D4 G4
    clear R_w3 P_w3 D_w3 G_w3 b4
    have hP4 := P4.out.1
    obtain ⟨fq, q0, q1, q2, q3, q4⟩ : (∀ i, w4.frozen? ⟨w1.heap.size, i, none⟩ = false) ∧ w4.cell? ⟨w1.heap.size, 0, none⟩ = some (.int .i64 3) ∧ w4.cell? ⟨w1.heap.size, 1, none⟩ = some (.string x) ∧ w4.cell? ⟨w1.heap.size, 2, none⟩ = some (.string ⟨#[]⟩) ∧ w4.cell? ⟨w1.heap.size, 3, none⟩ = some (.bool false) ∧ w4.cell? ⟨w1.heap.size, 4, none⟩ = some (.string ⟨#[]⟩) := P4.out.2
    go_wp2_with fail
    refine (onceX7 D4.out 2 (by decide) (by decide)).mono ?_
    rintro e w5 ⟨⟨b, rfl⟩, hd, hg⟩
    have R5 := hide (R4.out.grown hg (by omega))
    have P5 := hide (P4.out.grown hg (by omega))
    have D5 := hide hd
    have G5 := hide (grown_trans G4.out hg)
    clear hd hg fq q0 q1 q2 q3 q4 hw4 R4 D4 G4 P4 fp p0 p1 p2 p3 p4
    have hP5 := P5.out.1
    cases b
    · obtain ⟨fp, p0, p1, p2, p3, p4⟩ : (∀ i, w5.frozen? ⟨w1.heap.size, i, none⟩ = false) ∧ w5.cell? ⟨w1.heap.size, 0, none⟩ = some (.int .i64 3) ∧ w5.cell? ⟨w1.heap.size, 1, none⟩ = some (.string x) ∧ w5.cell? ⟨w1.heap.size, 2, none⟩ = some (.string ⟨#[]⟩) ∧ w5.cell? ⟨w1.heap.size, 3, none⟩ = some (.bool false) ∧ w5.cell? ⟨w1.heap.size, 4, none⟩ = some (.string ⟨#[]⟩) := P5.out.2
      obtain ⟨hRl, fr, r0, r1, r2, r3, r4⟩ : w.heap.size < w5.heap.size ∧ (∀ i, w5.frozen? ⟨w.heap.size, i, none⟩ = false) ∧ w5.cell? ⟨w.heap.size, 0, none⟩ = some (.int .i64 0) ∧ w5.cell? ⟨w.heap.size, 1, none⟩ = some (.string ⟨#[]⟩) ∧ w5.cell? ⟨w.heap.size, 2, none⟩ = some (.string ⟨#[]⟩) ∧ w5.cell? ⟨w.heap.size, 3, none⟩ = some (.bool false) ∧ w5.cell? ⟨w.heap.size, 4, none⟩ = some (.string ⟨#[]⟩) := R5.out
      go_wp2
      refine bodyPost_ret (v := .agg #[.int .i64 3, .string x, .string ⟨#[]⟩, .bool false, .string ⟨#[]⟩]) (by simp [results, Tryz.results74, go_sem, r0, r1, r2, r3, r4]) rfl ⟨⟨⟨3, x, ⟨#[]⟩, false, ⟨#[]⟩⟩, rfl, drawn_bare (by decide) Hx.out⟩, ?_, ?_⟩
      · have hb9 := below_sets5 (Below.refl w.heap.size w5) w.heap.size (Nat.le_refl _) (.int .i64 3) (.string x) (.string ⟨#[]⟩) (.bool false) (.string ⟨#[]⟩)
        exact D5.out.other hb9.size (fun j hj => hb9.block j (by omega))
      · exact grown_past G5.out (below_sets5 (Below.refl w.heap.size w5) w.heap.size (Nat.le_refl _) _ _ _ _ _)
    · obtain ⟨fp, p0, p1, p2, p3, p4⟩ : (∀ i, w5.frozen? ⟨w1.heap.size, i, none⟩ = false) ∧ w5.cell? ⟨w1.heap.size, 0, none⟩ = some (.int .i64 3) ∧ w5.cell? ⟨w1.heap.size, 1, none⟩ = some (.string x) ∧ w5.cell? ⟨w1.heap.size, 2, none⟩ = some (.string ⟨#[]⟩) ∧ w5.cell? ⟨w1.heap.size, 3, none⟩ = some (.bool false) ∧ w5.cell? ⟨w1.heap.size, 4, none⟩ = some (.string ⟨#[]⟩) := P5.out.2
      have b6 : Below w1.heap.size w5 (w5.setCell ⟨w1.heap.size, 3, none⟩ (.bool true)) := (Below.refl w1.heap.size w5).setCell (p := ⟨w1.heap.size, 3, none⟩) (Nat.le_refl _) _
      have P6 : Hid (Box5 (w5.setCell ⟨w1.heap.size, 3, none⟩ (.bool true)) w1.heap.size ⟨3, x, noB, true, noB⟩) := by
        refine ⟨by simpa using hP5, fun i => by rw [World.frozen?_setCell]; exact fp i, ?_, ?_, ?_, ?_, ?_⟩
        · rw [World.cell?_setCell_other _ _ _ _ (fun e => by cases e)]; exact p0
        · rw [World.cell?_setCell_other _ _ _ _ (fun e => by cases e)]; exact p1
        · rw [World.cell?_setCell_other _ _ _ _ (fun e => by cases e)]; exact p2
        · rw [World.cell?_setCell_same _ _ _ p3]
        · rw [World.cell?_setCell_other _ _ _ _ (fun e => by cases e)]; exact p4
      have R6 := hide (R5.out.same b6.size (b6.block _ hPR))
      have D6 := hide (D5.out.other b6.size (fun j hj => b6.block j (by omega)))
      have G6 := hide (grown_past G5.out (b6.mono (by omega)))
      obtain ⟨w6, hw6⟩ : ∃ w6, w5.setCell ⟨w1.heap.size, 3, none⟩ (.bool true) = w6 := ⟨_, rfl⟩
      rw [hw6] at P6 R6 D6 G6
      clear R5 P5 D5 G5 b6
      go_wp2_with fail
      refine (strNewP D6.out NsP nsD _ _ 4 _ rfl rfl rfl (by decide) (by decide) nsD_ok).mono ?_
      rintro e w7 ⟨⟨y, rfl, hy⟩, hd, hg⟩
      have R_w7 := hide (R6.out.grown hg (by omega))
      have P_w7 := hide (P6.out.grown hg (by omega))
      have D_w7 := hide hd
      have G_w7 := hide (grown_trans G6.out hg)
      have Hy := hide hy
      clear hd hg hy
      clear fp p0 p1 p2 p3 p4 hw6 R6 D6 G6 P6
      have hP7 := P_w7.out.1
      obtain ⟨fp, p0, p1, p2, p3, p4⟩ : (∀ i, w7.frozen? ⟨w1.heap.size, i, none⟩ = false) ∧ w7.cell? ⟨w1.heap.size, 0, none⟩ = some (.int .i64 3) ∧ w7.cell? ⟨w1.heap.size, 1, none⟩ = some (.string x) ∧ w7.cell? ⟨w1.heap.size, 2, none⟩ = some (.string ⟨#[]⟩) ∧ w7.cell? ⟨w1.heap.size, 3, none⟩ = some (.bool true) ∧ w7.cell? ⟨w1.heap.size, 4, none⟩ = some (.string ⟨#[]⟩) := P_w7.out.2
      obtain ⟨hRl, fr, r0, r1, r2, r3, r4⟩ : w.heap.size < w7.heap.size ∧ (∀ i, w7.frozen? ⟨w.heap.size, i, none⟩ = false) ∧ w7.cell? ⟨w.heap.size, 0, none⟩ = some (.int .i64 0) ∧ w7.cell? ⟨w.heap.size, 1, none⟩ = some (.string ⟨#[]⟩) ∧ w7.cell? ⟨w.heap.size, 2, none⟩ = some (.string ⟨#[]⟩) ∧ w7.cell? ⟨w.heap.size, 3, none⟩ = some (.bool false) ∧ w7.cell? ⟨w.heap.size, 4, none⟩ = some (.string ⟨#[]⟩) := R_w7.out
      go_wp2
      refine bodyPost_ret (v := .agg #[.int .i64 3, .string x, .string y, .bool true, .string ⟨#[]⟩]) (by simp [results, Tryz.results74, go_sem, r0, r1, r2, r3, r4]) rfl ⟨⟨⟨3, x, y, true, ⟨#[]⟩⟩, rfl, drawn_space (by decide) Hx.out Hy.out⟩, ?_, ?_⟩
      · have hb9 := below_sets5 ((Below.refl w.heap.size w7).setCell (p := ⟨w1.heap.size, 2, none⟩) (by simp; omega) (.string y)) w.heap.size (Nat.le_refl _) (.int .i64 3) (.string x) (.string y) (.bool true) (.string ⟨#[]⟩)
        exact D_w7.out.other hb9.size (fun j hj => hb9.block j (by omega))
      · exact grown_past G_w7.out (below_sets5 ((Below.refl w.heap.size w7).setCell (p := ⟨w1.heap.size, 2, none⟩) (by simp; omega) (.string y)) w.heap.size (Nat.le_refl _) _ _ _ _ _)
  · have R1 := hide (R1'.out.alloc (Obj.cells #[.int .i64 4, .string ⟨#[]⟩, .string ⟨#[]⟩, .bool false, .string ⟨#[]⟩] 62))
    have P1 := hide (show Box5 (w1.alloc (Obj.cells #[.int .i64 4, .string ⟨#[]⟩, .string ⟨#[]⟩, .bool false, .string ⟨#[]⟩] 62)) w1.heap.size ⟨4, noB, noB, false, noB⟩ from Box5.made w1 ⟨4, noB, noB, false, noB⟩ 62)
    have D1 := hide (D1'.out.alloc (Obj.cells #[.int .i64 4, .string ⟨#[]⟩, .string ⟨#[]⟩, .bool false, .string ⟨#[]⟩] 62))
    have G1 := hide (grown_alloc G1'.out (Obj.cells #[.int .i64 4, .string ⟨#[]⟩, .string ⟨#[]⟩, .bool false, .string ⟨#[]⟩] 62))
    have hPl := P1.out.1
    have hsz2 := G1.out.size
    clear R1' D1' G1'
    go_wp2_with fail
    refine (strNewP D1.out TxtP txtD _ _ 6 _ (by simp) rfl rfl (by decide) (by decide) txtD_ok).mono ?_
    rintro e w3 ⟨⟨x, rfl, hx⟩, hd, hg⟩
    have R_w3 := hide (R1.out.grown hg (by omega))
    have P_w3 := hide (P1.out.grown hg (by omega))
    have D_w3 := hide hd
    have G_w3 := hide (grown_trans G1.out hg)
    have Hx := hide hx
    clear hd hg hx
    clear R1 D1 G1 P1 hPl hsz2
    obtain ⟨fp, p0, p1, p2, p3, p4⟩ : (∀ i, w3.frozen? ⟨w1.heap.size, i, none⟩ = false) ∧ w3.cell? ⟨w1.heap.size, 0, none⟩ = some (.int .i64 4) ∧ w3.cell? ⟨w1.heap.size, 1, none⟩ = some (.string ⟨#[]⟩) ∧ w3.cell? ⟨w1.heap.size, 2, none⟩ = some (.string ⟨#[]⟩) ∧ w3.cell? ⟨w1.heap.size, 3, none⟩ = some (.bool false) ∧ w3.cell? ⟨w1.heap.size, 4, none⟩ = some (.string ⟨#[]⟩) := P_w3.out.2
    have hP3 := P_w3.out.1
    obtain ⟨hRl, fr, r0, r1, r2, r3, r4⟩ : w.heap.size < w3.heap.size ∧ (∀ i, w3.frozen? ⟨w.heap.size, i, none⟩ = false) ∧ w3.cell? ⟨w.heap.size, 0, none⟩ = some (.int .i64 0) ∧ w3.cell? ⟨w.heap.size, 1, none⟩ = some (.string ⟨#[]⟩) ∧ w3.cell? ⟨w.heap.size, 2, none⟩ = some (.string ⟨#[]⟩) ∧ w3.cell? ⟨w.heap.size, 3, none⟩ = some (.bool false) ∧ w3.cell? ⟨w.heap.size, 4, none⟩ = some (.string ⟨#[]⟩) := R_w3.out
    go_wp2
    refine bodyPost_ret (v := .agg #[.int .i64 4, .string ⟨#[]⟩, .string ⟨#[]⟩, .bool false, .string x]) (by simp [results, Tryz.results74, go_sem, r0, r1, r2, r3, r4]) rfl ⟨⟨⟨4, ⟨#[]⟩, ⟨#[]⟩, false, x⟩, rfl, drawn_text Hx.out⟩, ?_, ?_⟩
    · have hb9 := below_sets5 ((Below.refl w.heap.size w3).setCell (p := ⟨w1.heap.size, 4, none⟩) (by simp; omega) (.string x)) w.heap.size (Nat.le_refl _) (.int .i64 4) (.string ⟨#[]⟩) (.string ⟨#[]⟩) (.bool false) (.string x)
      exact D_w3.out.other hb9.size (fun j hj => hb9.block j (by omega))
    · exact grown_past G_w3.out (below_sets5 ((Below.refl w.heap.size w3).setCell (p := ⟨w1.heap.size, 4, none⟩) (by simp; omega) (.string x)) w.heap.size (Nat.le_refl _) _ _ _ _ _)
end Go.Proofs.YtcgmokjnjmefpaaGreatDoor
