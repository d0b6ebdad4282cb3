/-
  Lists of what must be that are drawn: spec.l14Draw.
-/
import Derived.Test.YtmgikfeknmbpbaaGreatDoorMathNum
import Derived.Test.YtmgikfeknmbpbaaGreatDoorTurn
import Derived.Test.YtmgikfeknmbpbaaGreatDoorSpecParseIf
import Derived.Deep.Onto
namespace Go.Proofs.YtmgikfeknmbpbaaGreatDoor
open Go.RowKit M
set_option linter.unusedVariables false

/-- A small one. -/
def SmC (c : Cn) : Prop := c.tg.size ≤ 200 ∧ -1000000 ≤ c.tk ∧ c.tk ≤ 1000000
/-- Few lists, of few small ones. -/
def FewI (m k : Nat) (ls : List (List Cn)) : Prop := ls.length ≤ m ∧ ∀ cs ∈ ls, cs.length ≤ k ∧ ∀ c ∈ cs, SmC c
theorem FewI.snoc {m k : Nat} {ls : List (List Cn)} {cs : List Cn} (h : FewI m k ls) (h1 : cs.length ≤ k) (h2 : ∀ c ∈ cs, SmC c) : FewI (m + 1) k (ls ++ [cs]) :=
  ⟨by rw [List.length_append]; have := h.1; simp; omega, fun x hx => by
    rcases List.mem_append.1 hx with e | e
    · exact h.2 x e
    · obtain rfl := List.mem_singleton.1 e; exact ⟨h1, h2⟩⟩
theorem turn_of_grown {w w' : World} {N : Nat} (h : w.grownBy w' (some N)) : Turn (At N) w w' := ⟨h.os, h.tape, h.output, h.size, fun i hi hS => h.block i hi (fun e => hS (Option.some.inj e))⟩
theorem RowsO.grown {tS : TypeId} {w w' : World} {B g n c H N : Nat} {ss : List Sl} {ls : List (List Cn)} (h : RowsO tS w B g n c H ss ls) (t : w.grownBy w' (some N)) (hN : N < B) : RowsO tS w' B g n c H ss ls := h.turn (turn_of_grown t) hN
theorem OwnG.grown {α : Type} {cs : α → List Value} {K : Nat} {tE : TypeId} {w w' : World} {B N g n c : Nat} {l : List α} (h : OwnG tE K cs w B (.slice (some ⟨g, 0, none⟩) n c) l) (t : w.grownBy w' (some N)) (hN : N < B) : OwnG tE K cs w' B (.slice (some ⟨g, 0, none⟩) n c) l := h.turnN (turn_of_grown t) hN
theorem infoCd : (Tryz.prog.info? 57).map (fun i => (i.zero, i.size, i.bytes)) = some (some (.agg #[.bool false, .int .i64 0, .string { data := #[] }]), 3, 32) := by kernel_rfl
theorem infoSd : (Tryz.prog.info? 41).map (fun i => (i.zero, i.size, i.bytes)) = some (some (.slice none 0 0), 1, 24) := by kernel_rfl
theorem BoxV.grownD {w w' : World} {b N : Nat} {vs : List Value} (h : BoxV w b vs) (hg : w.grownBy w' (some N)) (hN : b ≠ N) : BoxV w' b vs := h.turn (turn_of_grown hg) hN

theorem RowsO.keepH {tS : TypeId} {w w' : World} {B g n c H : Nat} {ss : List Sl} {ls : List (List Cn)} (h : RowsO tS w B g n c H ss ls) (hz : w.heap.size ≤ w'.heap.size) (e : ∀ i, i < H → w'.heap[i]? = w.heap[i]?) : RowsO tS w' B g n c H ss ls := by
  obtain ⟨lo, hi, h5⟩ := h.bl
  refine ⟨h.own.keepB (e g h.gH), h.len, Nat.le_trans h.top hz, h.gH, lo, hi, fun j hj hs => ⟨(h5 j hj hs).1.keep hz (fun b o hb _ => ?_) (fun b o hb _ => ?_), (h5 j hj hs).2⟩⟩
  · have := e b (by have h1 := hb.2; have h2 := (h5 j hj hs).2.2.1; omega)
    simp only [World.cell?, this]
  · have := e b (by have h1 := hb.2; have h2 := (h5 j hj hs).2.2.1; omega)
    simp only [World.frozen?, this]
theorem heap_ne (w : World) (p : Addr) (v : Value) (i : Nat) (h : i ≠ p.block) : (w.setCell p v).heap[i]? = w.heap[i]? := Below.heap_setCell _ _ _ _ h
theorem DX.setAbove {w : World} {N : Nat} {a : Option Addr} {len cap : Nat} {zs : List Int} (h : DX w N a len cap zs) (p : Addr) (v : Value) (hp : N < p.block) : DX (w.setCell p v) N a len cap zs :=
  h.other (by simp) (fun k hk => heap_ne w p v k (by omega))
/-- The first of the lists has its own room, apart from the row's block. -/
def FstO (w : World) (B g H : Nat) (ss : List Sl) (ls : List (List Cn)) : Prop := ∀ (h1 : 0 < ss.length) (h2 : 0 < ls.length), OwnG 57 3 ciC w B (.slice (some ⟨ss[0].b, 0, none⟩) ss[0].n ss[0].c) ls[0] ∧ ss[0].b < H ∧ ss[0].b ≠ g
structure RowsF (w : World) (B g n c H : Nat) (ss : List Sl) (ls : List (List Cn)) : Prop where
  r : RowsO 41 w B g n c H ss ls
  f : FstO w B g H ss ls
theorem RowsF.keepI {w w' : World} {B g n c H : Nat} {ss : List Sl} {ls : List (List Cn)} (h : RowsF w B g n c H ss ls) (hr : RowsO 41 w' B g n c H ss ls) (e : ∀ i, B ≤ i → i < H → w'.heap[i]? = w.heap[i]?) : RowsF w' B g n c H ss ls :=
  ⟨hr, fun h1 h2 => by
    obtain ⟨f1, f2, f3⟩ := h.f h1 h2
    exact ⟨f1.keepB (e _ (World.ownsRow.lt f1 _ rfl).1 f2), f2, f3⟩⟩
theorem RowsF.made (w : World) (B : Nat) (hB : B ≤ w.heap.size) : RowsF (w.alloc (Obj.cells #[] 41)) B w.heap.size 0 0 (w.heap.size + 1) [] [] := ⟨RowsO.made _ w B hB, fun h1 => absurd h1 (Nat.not_lt_zero _)⟩
theorem RowsF.grown {w w' : World} {B g n c H N : Nat} {ss : List Sl} {ls : List (List Cn)} (h : RowsF w B g n c H ss ls) (t : w.grownBy w' (some N)) (hN : N < B) : RowsF w' B g n c H ss ls :=
  h.keepI (h.r.grown t hN) (fun i h1 h2 => t.block i (Nat.lt_of_lt_of_le h2 h.r.top) (fun e => by have := Option.some.inj e; omega))
theorem RowsF.next {w w' : World} {B g n c H : Nat} {ss : List Sl} {ls : List (List Cn)} (h : RowsF w B g n c H ss ls) (t : Below w.heap.size w w') : RowsF w' B g n c H ss ls :=
  h.keepI (h.r.next t) (fun i h1 h2 => t.block i (Nat.lt_of_lt_of_le h2 h.r.top))
theorem RowsF.keepH {w w' : World} {B g n c H : Nat} {ss : List Sl} {ls : List (List Cn)} (h : RowsF w B g n c H ss ls) (hz : w.heap.size ≤ w'.heap.size) (e : ∀ i, i < H → w'.heap[i]? = w.heap[i]?) : RowsF w' B g n c H ss ls :=
  h.keepI (h.r.keepH hz e) (fun i _ h2 => e i h2)
theorem RowsF.top {w : World} {B g n c H : Nat} {ss : List Sl} {ls : List (List Cn)} (h : RowsF w B g n c H ss ls) : H ≤ w.heap.size := h.r.top
theorem RowsF.len {w : World} {B g n c H : Nat} {ss : List Sl} {ls : List (List Cn)} (h : RowsF w B g n c H ss ls) : ss.length = ls.length := h.r.len
theorem RowsF.own {w : World} {B g n c H : Nat} {ss : List Sl} {ls : List (List Cn)} (h : RowsF w B g n c H ss ls) : OwnG 41 1 ciS w B (.slice (some ⟨g, 0, none⟩) n c) ss := h.r.own
theorem RowsF.snoc {w w' : World} {B g n c H g' n' c' : Nat} {ss : List Sl} {ls : List (List Cn)} {s : Sl} {cs : List Cn} (h : RowsF w B g n c H ss ls)
    (ho : OwnG 41 1 ciS w' B (.slice (some ⟨g', 0, none⟩) n' c') (ss ++ [s])) (hg : w.grownBy w' (some g)) (hat : g' = g ∨ g' = w.heap.size) (lo hi : Nat) (hs : Own w s.v (.l (cs.map dCn)) (IvG lo hi)) (hl : H ≤ lo) (hh : hi ≤ w.heap.size)
    (hoc : OwnG 57 3 ciC w lo (.slice (some ⟨s.b, 0, none⟩) s.n s.c) cs) : RowsF w' B g' n' c' w'.heap.size (ss ++ [s]) (ls ++ [cs]) := by
  have hB := h.r.num.2.2.2
  have hgH := h.r.gH
  have htop := h.r.top
  have hsz := hg.size
  obtain e | ⟨s0, r, e⟩ : ss = [] ∨ ∃ s0 r, ss = s0 :: r := by cases ss <;> simp
  · have hls : ls = [] := List.eq_nil_of_length_eq_zero (by rw [← h.r.len, e]; rfl)
    subst e hls
    refine ⟨h.r.snoc ho hg hat lo hi hs hl hh, fun h1 h2 => ?_⟩
    have hlt := World.ownsRow.lt hoc s.b rfl
    refine ⟨?_, ?_, ?_⟩
    · exact World.ownsRow.mono (hoc.keepB (hg.block _ hlt.2 (fun e => by have := Option.some.inj e; omega))) (by omega)
    · show s.b < w'.heap.size; omega
    · show s.b ≠ g'
      rcases hat with rfl | rfl <;> omega
  · obtain ⟨c0, q, e2⟩ : ∃ c0 q, ls = c0 :: q := by
      have := h.r.len
      cases ls with
      | nil => rw [e] at this; simp at this
      | cons a b => exact ⟨a, b, rfl⟩
    subst e e2
    refine ⟨h.r.snoc ho hg hat lo hi hs hl hh, fun h1 h2 => ?_⟩
    obtain ⟨f1, f2, f3⟩ := h.f (by simp) (by simp)
    refine ⟨?_, ?_, ?_⟩
    · exact OwnG.keepB f1 (hg.block _ (World.ownsRow.lt f1 _ rfl).2 (fun e => f3 (by have := Option.some.inj e; first | exact this | exact this.symm)))
    · have : (s0 :: r)[0].b < w'.heap.size := by omega
      exact this
    · show (s0 :: r)[0].b ≠ g'
      rcases hat with rfl | rfl
      · exact f3
      · omega
/-- What l14Draw hands back. -/
def DrawnI (B : Nat) (e : Ending) (w' : World) : Prop := ∃ (ls : List (List Cn)) (g n c H : Nat) (ss : List Sl), e = .returned (.slice (some ⟨g, 0, none⟩) n c) ∧ FewI 2 2 ls ∧ 1 ≤ ls.length ∧ RowsF w' B g n c H ss ls

set_option maxRecDepth 100000 in
set_option maxHeartbeats 8000000 in
theorem l14Draw_any {w : World} {N : Nat} {a : Option Addr} {len cap : Nat} {zs : List Int} (h : DX w N a len cap zs) :
    Calls Tryz.prog 23 #[.pointer (some ⟨N, 0, none⟩)] w fun e w' => DrawnI w.heap.size e w' ∧ DX w' N a len cap zs ∧ w.grownBy w' (some N) := by
  have hNl := h.lt
  have DA := hide (h.alloc (Obj.cells #[] 41))
  have RA := hide (RowsF.made w w.heap.size (Nat.le_refl _))
  have GA := hide (grown_alloc (grown_refl w (some N)) (Obj.cells #[] 41))
  obtain ⟨wA, hwA⟩ : ∃ wA, w.alloc (Obj.cells #[] 41) = wA := ⟨_, rfl⟩
  rw [hwA] at DA RA GA
  clear h
  go_enter Tryz.func23, Tryz.ntmps23
  go_wp2_with fail
  clear hwA
  refine (l1BelowX DA.out 2 (by decide) (by decide)).mono ?_
  rintro e w1 ⟨⟨k1, rfl, hk1⟩, dx1, g1⟩
  have D1 := hide dx1
  have G1 := hide (grown_trans GA.out g1)
  have R1 := hide (RA.out.grown g1 hNl)
  clear dx1 g1 DA GA RA
  go_wp2
  go_loopw [3, 4] (fun v i wr => ∃ (k m : Nat) (ls : List (List Cn)) (g n c H : Nat) (ss : List Sl), i = .int .i64 k ∧ v = .slice (some ⟨g, 0, none⟩) n c ∧ m + k ≤ 2 ∧ (k = 0 → 1 ≤ m) ∧ Hid (ls.length = m ∧ FewI m 2 ls) ∧ Hid (RowsF wr w.heap.size g n c H ss ls) ∧ Hid (DX wr N a len cap zs) ∧ Hid (w.grownBy wr (some N))) (fun _ i _ => (intOf i).toNat)
  case atStart => exact ⟨1 + k1, 0, [], _, _, _, _, [], by go_num, rfl, by omega, by omega, hide ⟨rfl, Nat.le_refl _, fun x hx => by cases hx⟩, R1, D1, G1⟩
  case round =>
    obtain ⟨k, m, ls, g, n, c, H, ss, rfl, rfl, hmk, hm1, HL, HR, HD, HG⟩ := hrel
    by_cases h0 : 0 < k
    · have h0' : (0 : Int) < k := by omega
      have hzG := HG.out.size
      have DB := hide (HD.out.alloc (Obj.cells #[] 57))
      have RB := hide (HR.out.next ((Below.refl _ _).alloc (Nat.le_refl _) (Obj.cells #[] 57)))
      have GB := hide (grown_alloc HG.out (Obj.cells #[] 57))
      have OB := hide (OwnG.made (tE := 57) (K := 3) (cs := ciC) wr wr.heap.size (Nat.le_refl _))
      have hzB : (wr.alloc (Obj.cells #[] 57)).heap.size = wr.heap.size + 1 := by simp
      obtain ⟨wB, hwB⟩ : ∃ wB, wr.alloc (Obj.cells #[] 57) = wB := ⟨_, rfl⟩
      rw [hwB] at DB RB GB OB hzB
      have HTOP := hide HR.out.top
      have hNr : N < wr.heap.size := HD.out.lt
      clear HR HD HG
      go_wp2_with fail
      clear hwB
      refine (l1BelowX DB.out 2 (by decide) (by decide)).mono ?_
      rintro e w2 ⟨⟨k2, rfl, hk2⟩, dx2, g2⟩
      have D2 := hide dx2
      have G2 := hide (grown_trans GB.out g2)
      have R2 := hide (RB.out.grown g2 hNl)
      have O2 := hide (OB.out.grown g2 hNr)
      have hz2 : wr.heap.size ≤ w2.heap.size := by have := g2.size; omega
      clear dx2 g2 DB RB GB OB hzB
      obtain ⟨L, hL⟩ : ∃ L, wr.heap.size = L := ⟨_, rfl⟩
      obtain ⟨g0, hg0⟩ : ∃ g0, wr.heap.size = g0 := ⟨_, rfl⟩
      have O2 := hide (show OwnG 57 3 ciC w2 L (.slice (some ⟨wr.heap.size, 0, none⟩) 0 0) [] by rw [← hL]; exact O2.out)
      rw [hL] at hz2 HTOP hNr
      have hLW : w.heap.size ≤ L := by omega
      clear hL hg0 hzG
      go_wp2
      go_loopw [5, 6] (fun v i wr => ∃ (j q : Nat) (cs : List Cn) (g2 n2 c2 : Nat), i = .int .i64 j ∧ v = .slice (some ⟨g2, 0, none⟩) n2 c2 ∧ q + j ≤ 2 ∧ Hid (cs.length = q ∧ ∀ c ∈ cs, SmC c) ∧ Hid (OwnG 57 3 ciC wr L (.slice (some ⟨g2, 0, none⟩) n2 c2) cs) ∧ Hid (RowsF wr w.heap.size g n c H ss ls) ∧ Hid (DX wr N a len cap zs) ∧ Hid (w.grownBy wr (some N)) ∧ L ≤ wr.heap.size) (fun _ i _ => (intOf i).toNat)
      case atStart => exact ⟨1 + k2, 0, [], _, _, _, by go_num, rfl, by omega, hide ⟨rfl, fun x hx => by cases hx⟩, O2, R2, D2, G2, hz2⟩
      case round =>
        obtain ⟨j, q, cs, g2, n2, c2, rfl, rfl, hqj, HC, HO, HR, HD, HG, hzr⟩ := hrel
        by_cases hj : 0 < j
        · have hj' : (0 : Int) < j := by omega
          have hHr := HR.out.top
          go_wp2_with fail
          refine (l1OnceQ HD.out 4 (by decide) (by decide)).mono ?_
          rintro e w3 ⟨⟨no, rfl⟩, dx3, g3⟩
          have D3 := hide (dx3.alloc (Obj.cells #[.bool no, .int .i64 0, .string { data := #[] }] 57))
          have G3 := hide (grown_alloc (grown_trans HG.out g3) (Obj.cells #[.bool no, .int .i64 0, .string { data := #[] }] 57))
          have R3 := hide ((HR.out.grown g3 hNl).next ((Below.refl _ _).alloc (Nat.le_refl _) (Obj.cells #[.bool no, .int .i64 0, .string { data := #[] }] 57)))
          have hg2 : g2 < w3.heap.size := (World.ownsRow.lt (HO.out.grown g3 hNr) g2 rfl).2
          have O3 := hide ((HO.out.grown g3 hNr).next ((Below.refl _ _).alloc (Nat.le_refl _) (Obj.cells #[.bool no, .int .i64 0, .string { data := #[] }] 57)))
          have X3 := hide (BoxV.made w3 [.bool no, .int .i64 0, .string { data := #[] }] 57)
          have hz3 : L ≤ w3.heap.size := by have := g3.size; omega
          have hH3 : H ≤ w3.heap.size := by have := g3.size; omega
          have HG3 := hide (show w.heap.size ≤ w3.heap.size by have h1 := HG.out.size; have h2 := g3.size; omega)
          clear dx3 g3 HD HG HR HO
          go_wp2_with fail
          refine (l1OnceQ D3.out 3 (by decide) (by decide)).mono ?_
          rintro e w4 ⟨⟨tg, rfl⟩, dx4, g4⟩
          have D4 := hide dx4
          have G4 := hide (grown_trans G3.out g4)
          have R4 := hide (R3.out.grown g4 hNl)
          have O4 := hide (O3.out.grown g4 hNr)
          have X4 := hide (X3.out.grownD g4 (by omega))
          have hz4 : w3.heap.size < w4.heap.size := by have := g4.size; simp at this; omega
          clear dx4 g4 D3 G3 R3 O3 X3
          cases tg
          · go_wp2_with fail
            refine (l1BelowX D4.out 9 (by decide) (by decide)).mono ?_
            rintro e w5 ⟨⟨kt, rfl, hkt⟩, dx5, g5⟩
            have X5 := X4.out.grownD g5 (by omega)
            have D5 := dx5
            have G5 := grown_trans G4.out g5
            have R5 := R4.out.grown g5 hNl
            have O5 := O4.out.grown g5 hNr
            have hz5 := g5.size
            obtain ⟨u1, f1⟩ := X5.2 1 _ rfl
            clear dx5 g5 D4 G4 R4 O4 X4
            have X6 := hide (X5.set 1 (by simp) (.int .i64 (1 + (kt : Int))))
            have D6 := hide (D5.setAbove ⟨w3.heap.size, 1, none⟩ (.int .i64 (1 + (kt : Int))) (by show N < w3.heap.size; omega))
            have G6 := hide (grown_setQ (k := 1) (p := w3.heap.size) G5 (.int .i64 (1 + (kt : Int))) (by have := HG3.out; omega))
            have R6 := hide (R5.keepH (w' := w5.setCell ⟨w3.heap.size, 1, none⟩ (.int .i64 (1 + (kt : Int)))) (by simp) (fun i hi => heap_ne _ _ _ _ (by show i ≠ w3.heap.size; omega)))
            have O6 := hide (O5.keepB (heap_ne w5 ⟨w3.heap.size, 1, none⟩ (.int .i64 (1 + (kt : Int))) g2 (by show g2 ≠ w3.heap.size; omega)))
            obtain ⟨w6, hw6⟩ : ∃ W, w5.setCell ⟨w3.heap.size, 1, none⟩ (.int .i64 (1 + (kt : Int))) = W := ⟨_, rfl⟩
            rw [hw6] at X6 D6 G6 R6 O6
            have hz6 : L ≤ w6.heap.size := by rw [← hw6]; simp; omega
            have hH6 : H ≤ w6.heap.size := by rw [← hw6]; simp; omega
            clear X5 D5 G5 R5 O5
            have hC5 : ∀ c ∈ cs ++ [(⟨no, 1 + (kt : Int), ⟨#[]⟩⟩ : Cn)], SmC c := fun y hy => by
              rcases List.mem_append.1 hy with e | e
              · exact HC.out.2 y e
              · obtain rfl := List.mem_singleton.1 e; exact ⟨by show (0 : Nat) ≤ 200; omega, by show (-1000000 : Int) ≤ 1 + kt; omega, by show 1 + (kt : Int) ≤ 1000000; omega⟩
            have HCE := hide (show (cs ++ [(⟨no, 1 + (kt : Int), ⟨#[]⟩⟩ : Cn)]).length = q + 1 ∧ ∀ c ∈ cs ++ [(⟨no, 1 + (kt : Int), ⟨#[]⟩⟩ : Cn)], SmC c from ⟨by rw [List.length_append, HC.out.1]; rfl, hC5⟩)
            have hln : cs.length + 1 ≤ 100000000000 := by have := HC.out.1; omega
            have bA := (Below.refl w6.heap.size w6).alloc (Nat.le_refl _) (Obj.cells #[.bool no, .int .i64 (1 + (kt : Int)), .string (⟨#[]⟩)] 57)
            have O7 := hide (O6.out.next bA)
            have R7 := hide (R6.out.next bA)
            have D7 := hide (D6.out.below bA)
            have G7 := hide (grown_belowQ G6.out bA G6.out.size)
            have hz7 : L ≤ (w6.alloc (Obj.cells #[.bool no, .int .i64 (1 + (kt : Int)), .string (⟨#[]⟩)] 57)).heap.size := by have := bA.size; omega
            have hN7 := D7.out.lt
            have y0 := (X6.out.2 0 _ rfl).1
            have y1 := (X6.out.2 1 _ rfl).1
            have y2 := (X6.out.2 2 _ rfl).1
            clear hC5 bA D6 G6 R6 O6
            go_wp2_with (at_builtin; refine wp_append_gen 41 Tryz.underlying41 (.agg #[.bool false, .int .i64 0, .string { data := #[] }]) 32 infoCd rfl (by decide) (by decide) rfl _ _ rfl L _ cs rfl O7.out ciC_len _ (⟨no, 1 + (kt : Int), ⟨#[]⟩⟩ : Cn) rfl (fun i v hv => by match i with | 0 => (cases hv; simp) | 1 => (cases hv; simp) | 2 => (cases hv; simp) | i + 3 => cases hv) (ciC_one _) hln hz7 ?_)
            intro g9 n9 c9 w9 hn9 hO9 hb9 hg9 _
            have O9 := hide hO9
            have R9 := hide (R7.out.keepH hb9.size (fun i hi => hb9.block i (by have := HTOP.out; omega)))
            have D9 := hide (D7.out.other hb9.size (fun i hi => hb9.block i (by omega)))
            have G9 := hide (grown_belowQ G7.out hb9 (by omega))
            have hz9 : L ≤ w9.heap.size := by have := hb9.size; omega
            clear hO9 hb9 hg9 hn9 O7 R7 D7 G7
            go_wp2
            go_roundw
            case rel => exact ⟨j - 1, q + 1, _, g9, n9, c9, by go_num, rfl, by omega, HCE, O9, R9, D9, G9, hz9⟩
            case measure => simp [intOf]; omega
          · go_wp2_with fail
            refine (l1BelowX D4.out 4 (by decide) (by decide)).mono ?_
            rintro e w5a ⟨⟨kt, rfl, hkt⟩, dx5, g5⟩
            have X5a := hide (X4.out.grownD g5 (by omega))
            have D5a := hide dx5
            have G5a := hide (grown_trans G4.out g5)
            have R5a := hide (R4.out.grown g5 hNl)
            have O5a := hide (O4.out.grown g5 hNr)
            have hz5a := g5.size
            have hTT := specTagText_any (kt : Int) w5a (by omega)
            have hts : (bytesOf (tagL (verL (kt : Int)))).size ≤ 200 := by
              rw [bytesOf_size]
              simp only [tagL, verL, List.length_cons, List.length_append, List.length_nil]
              have := dec_len 18 (kt : Int).toNat (by omega)
              omega
            obtain ⟨tt, htt⟩ : ∃ z, bytesOf (tagL (verL (kt : Int))) = z := ⟨_, rfl⟩
            rw [htt] at hTT hts
            have HTT := hide hTT
            clear hTT htt dx5 g5 D4 G4 R4 O4 X4
            go_wp2_with fail
            refine HTT.out.mono ?_
            rintro e w5 ⟨rfl, b5⟩
            have X5 := X5a.out.next b5
            have D5 := D5a.out.below b5
            have G5 := grown_belowQ G5a.out b5 G5a.out.size
            have R5 := R5a.out.next b5
            have O5 := O5a.out.next b5
            have hz5 := b5.size
            obtain ⟨u2, f2⟩ := X5.2 2 _ rfl
            clear b5 HTT D5a G5a R5a O5a X5a
            have X6 := hide (X5.set 2 (by simp) (.string tt))
            have D6 := hide (D5.setAbove ⟨w3.heap.size, 2, none⟩ (.string tt) (by show N < w3.heap.size; omega))
            have G6 := hide (grown_setQ (k := 2) (p := w3.heap.size) G5 (.string tt) (by have := HG3.out; omega))
            have R6 := hide (R5.keepH (w' := w5.setCell ⟨w3.heap.size, 2, none⟩ (.string tt)) (by simp) (fun i hi => heap_ne _ _ _ _ (by show i ≠ w3.heap.size; omega)))
            have O6 := hide (O5.keepB (heap_ne w5 ⟨w3.heap.size, 2, none⟩ (.string tt) g2 (by show g2 ≠ w3.heap.size; omega)))
            obtain ⟨w6, hw6⟩ : ∃ W, w5.setCell ⟨w3.heap.size, 2, none⟩ (.string tt) = W := ⟨_, rfl⟩
            rw [hw6] at X6 D6 G6 R6 O6
            have hz6 : L ≤ w6.heap.size := by rw [← hw6]; simp; omega
            have hH6 : H ≤ w6.heap.size := by rw [← hw6]; simp; omega
            clear X5 D5 G5 R5 O5
            have hC5 : ∀ c ∈ cs ++ [(⟨no, 0, tt⟩ : Cn)], SmC c := fun y hy => by
              rcases List.mem_append.1 hy with e | e
              · exact HC.out.2 y e
              · obtain rfl := List.mem_singleton.1 e; exact ⟨hts, by show (-1000000 : Int) ≤ 0; omega, by show (0 : Int) ≤ 1000000; omega⟩
            have HCE := hide (show (cs ++ [(⟨no, 0, tt⟩ : Cn)]).length = q + 1 ∧ ∀ c ∈ cs ++ [(⟨no, 0, tt⟩ : Cn)], SmC c from ⟨by rw [List.length_append, HC.out.1]; rfl, hC5⟩)
            have hln : cs.length + 1 ≤ 100000000000 := by have := HC.out.1; omega
            have bA := (Below.refl w6.heap.size w6).alloc (Nat.le_refl _) (Obj.cells #[.bool no, .int .i64 (0), .string (tt)] 57)
            have O7 := hide (O6.out.next bA)
            have R7 := hide (R6.out.next bA)
            have D7 := hide (D6.out.below bA)
            have G7 := hide (grown_belowQ G6.out bA G6.out.size)
            have hz7 : L ≤ (w6.alloc (Obj.cells #[.bool no, .int .i64 (0), .string (tt)] 57)).heap.size := by have := bA.size; omega
            have hN7 := D7.out.lt
            have y0 := (X6.out.2 0 _ rfl).1
            have y1 := (X6.out.2 1 _ rfl).1
            have y2 := (X6.out.2 2 _ rfl).1
            clear hC5 bA D6 G6 R6 O6
            go_wp2_with (at_builtin; refine wp_append_gen 41 Tryz.underlying41 (.agg #[.bool false, .int .i64 0, .string { data := #[] }]) 32 infoCd rfl (by decide) (by decide) rfl _ _ rfl L _ cs rfl O7.out ciC_len _ (⟨no, 0, tt⟩ : Cn) rfl (fun i v hv => by match i with | 0 => (cases hv; simp) | 1 => (cases hv; simp) | 2 => (cases hv; simp) | i + 3 => cases hv) (ciC_one _) hln hz7 ?_)
            intro g9 n9 c9 w9 hn9 hO9 hb9 hg9 _
            have O9 := hide hO9
            have R9 := hide (R7.out.keepH hb9.size (fun i hi => hb9.block i (by have := HTOP.out; omega)))
            have D9 := hide (D7.out.other hb9.size (fun i hi => hb9.block i (by omega)))
            have G9 := hide (grown_belowQ G7.out hb9 (by omega))
            have hz9 : L ≤ w9.heap.size := by have := hb9.size; omega
            clear hO9 hb9 hg9 hn9 O7 R7 D7 G7
            go_wp2
            go_roundw
            case rel => exact ⟨j - 1, q + 1, _, g9, n9, c9, by go_num, rfl, by omega, HCE, O9, R9, D9, G9, hz9⟩
            case measure => simp [intOf]; omega
        · have hj0 : ¬ (0 : Int) < j := by omega
          have hHr := HR.out.top
          have bA := (Below.refl wr.heap.size wr).alloc (Nat.le_refl _) (Obj.cells #[.slice (some ⟨g2, 0, none⟩) n2 c2] 41)
          have hr2 := HO.out.row ciC_len
          have HNL := hide ((own_of_conds (HO.out.next bA)).wide (T := IvG L wr.heap.size) (fun y hy => by subst hy; exact ⟨hr2.2.2.2.1, hr2.2.2.2.2.1⟩))
          have HOC := hide (HO.out.next bA)
          have P3 := hide (HR.out.next bA)
          have HO3 := hide P3.out.own
          have D3 := hide (HD.out.below bA)
          have G3 := hide (grown_belowQ HG.out bA HG.out.size)
          have hz3 := bA.size
          have hzw := G3.out.size
          have hln : ss.length + 1 ≤ 100000000000 := by have h1 := P3.out.len; have h2 := HL.out.1; omega
          have HLE := hide (show (ls ++ [cs]).length = m + 1 ∧ FewI (m + 1) 2 (ls ++ [cs]) from ⟨by rw [List.length_append, HL.out.1]; rfl, HL.out.2.snoc (by have := HC.out.1; omega) HC.out.2⟩)
          clear bA hr2 HR HD HG HO
          go_wp2_with (at_builtin; refine wp_append_gen 24 Tryz.underlying24 (.slice none 0 0) 24 infoSd rfl (by decide) (by decide) rfl _ _ rfl w.heap.size _ ss rfl HO3.out ciS_len _ (⟨g2, n2, c2⟩ : Sl) rfl (fun i v hv => by match i with | 0 => (cases hv; simp [Sl.v]) | i + 1 => cases hv) (ciS_one _) hln hzw ?_)
          intro g9 n9 c9 w9 hn9 hO9 hb9 hg9 hat
          have R9 := hide (P3.out.snoc hO9 hg9 (by rcases hat with e2 | e2; exact .inl (Option.some.inj e2).symm; exact .inr (by rw [e2]; simp)) L wr.heap.size HNL.out HTOP.out hz3 HOC.out)
          have D9 := hide (D3.out.other hb9.size (fun i hi => hb9.block i (by omega)))
          have G9 := hide (grown_belowQ G3.out hb9 (by omega))
          clear hO9 hb9 hg9 hn9 hat P3 HO3 D3 G3 HNL
          go_wp2
          go_roundw
          case rel => exact ⟨k - 1, m + 1, _, g9, n9, c9, w9.heap.size, _, by go_num, rfl, by omega, by omega, HLE, R9, D9, G9⟩
          case measure => simp [intOf]; omega
    · have h0' : ¬ (0 : Int) < k := by omega
      have hk0 : k = 0 := by omega
      have hm2 := hm1 hk0
      clear hk0 hm1
      go_wp2
      go_ret
      exact ⟨⟨ls, g, n, c, H, ss, rfl, ⟨by have := HL.out.1; omega, HL.out.2.2⟩, by have := HL.out.1; omega, HR.out⟩, HD.out, HG.out⟩
end Go.Proofs.YtmgikfeknmbpbaaGreatDoor
