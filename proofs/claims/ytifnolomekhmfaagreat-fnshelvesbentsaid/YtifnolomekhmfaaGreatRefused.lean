/-
  What (impl.turn).refused does.
-/
import Derived.Test.YtifnolomekhmfaaGreatLooks
import Derived.Test.YtifnolomekhmfaaGreatRowsW
import Derived.Test.YtifnolomekhmfaaGreatIsColl
import Derived.Test.YtifnolomekhmfaaGreatSpecSmall
import Derived.Deep.RegionHeld3
namespace Go.Proofs.YtifnolomekhmfaaGreat
open Go.RowKit M
set_option linter.unusedVariables false

/-- Why a turn is refused, from each look on; 0: it is not. -/
def ref4 (st cs : List Rs) : Int := if 12 < st.length + cs.length then 507 else 0
def ref3 (st cs : List Rs) : Int := if cs.any longP = true then 413 else ref4 st cs
def ref2 (rs : List Rs) (p : List ByteArray) (st cs : List Rs) : Int := if collB rs (aboveL p) = false then 409 else if cs.any badP = true then 409 else ref3 st cs
def ref1 (rs : List Rs) (p : List ByteArray) (st cs : List Rs) : Int := if collB rs p = true then 405 else ref2 rs p st cs
def ref0 (rs : List Rs) (p : List ByteArray) (st cs : List Rs) : Int := if thereB rs p = true then 405 else ref1 rs p st cs

/-- What a turn's four parts hold. -/
structure TurnH (w : World) (B : Nat) (a : Option Addr) (rs : List Rs) (b : Option Addr) (p : List ByteArray) (s : Option Addr) (st : List Rs) (c : Option Addr) (cs : List Rs) : Prop where
  ta : Rss w B a rs
  tp : Strs w B b p
  ts : Rss w B s st
  tc : Rss w B c cs
theorem TurnH.below {w w' : World} {B C : Nat} {a : Option Addr} {rs : List Rs} {b : Option Addr} {p : List ByteArray} {s : Option Addr} {st : List Rs} {c : Option Addr} {cs : List Rs} (h : TurnH w B a rs b p s st c cs) (hb : Below C w w') (hB : B ≤ C) : TurnH w' B a rs b p s st c cs :=
  ⟨h.ta.below hb hB, h.tp.below hb hB, h.ts.below hb hB, h.tc.below hb hB⟩
theorem TurnH.mono {w : World} {B C : Nat} {a : Option Addr} {rs : List Rs} {b : Option Addr} {p : List ByteArray} {s : Option Addr} {st : List Rs} {c : Option Addr} {cs : List Rs} (h : TurnH w B a rs b p s st c cs) (hB : B ≤ C) : TurnH w C a rs b p s st c cs :=
  ⟨h.ta.mono hB, h.tp.mono hB, h.ts.mono hB, h.tc.mono hB⟩
/-- How long a turn's parts are. -/
structure TurnZ (rs : List Rs) (p : List ByteArray) (capb : Nat) (st cs : List Rs) : Prop where
  rl : rs.length ≤ 1048576
  pl : p.length ≤ 1048576
  pz : ∀ x ∈ p, x.size ≤ 281474976710656
  pc : p.length ≤ capb
  pm : capb ≤ maxLen
  sl : st.length ≤ 1048576
  cl : cs.length ≤ 1048576
  cs : ShortT cs
theorem belowD {n : Nat} {w w' : World} (h : Below n w w') : Below n w w'.drew := ⟨h.os, h.tape, h.output, h.size, h.block⟩
set_option maxRecDepth 100000 in
set_option maxHeartbeats 8000000 in
theorem refused2_any (a : Option Addr) (rs : List Rs) (cap : Nat) (b o : Nat) (p : List ByteArray) (capb : Nat) (s : Option Addr) (st : List Rs) (caps : Nat) (c : Option Addr) (cs : List Rs) (capc B : Nat) (w : World) (h : TurnH w B a rs (some ⟨b, o, none⟩) p s st c cs) (hB : B ≤ w.heap.size) (hz : TurnZ rs p capb st cs) :
    Calls Tryz.prog 112 #[.agg #[.slice a rs.length cap, .slice (some ⟨b, o, none⟩) p.length capb, .slice s st.length caps, .slice c cs.length capc], .int .i64 2] w fun e w' => e = .returned (.int .i64 (ref2 rs p st cs)) ∧ Below w.heap.size w w' := by
  have hlm : rs.length ≤ maxLen := by have := hz.rl; unfold maxLen; omega
  have hpm : p.length ≤ maxLen := by have := hz.pl; unfold maxLen; omega
  have hcm : cs.length ≤ maxLen := by have := hz.cl; unfold maxLen; omega
  have hsl := hz.sl
  have hcl := hz.cl
  have hb0 := (Below.refl w.heap.size w).alloc (Nat.le_refl _) (Obj.cells #[.slice a rs.length cap, .slice (some ⟨b, o, none⟩) p.length capb, .slice s st.length caps, .slice c cs.length capc] 74)
  have q0 : (w.alloc (Obj.cells #[.slice a rs.length cap, .slice (some ⟨b, o, none⟩) p.length capb, .slice s st.length caps, .slice c cs.length capc] 74)).cell? ⟨w.heap.size, 0, none⟩ = some (.slice a rs.length cap) := by simp
  have q1 : (w.alloc (Obj.cells #[.slice a rs.length cap, .slice (some ⟨b, o, none⟩) p.length capb, .slice s st.length caps, .slice c cs.length capc] 74)).cell? ⟨w.heap.size, 1, none⟩ = some (.slice (some ⟨b, o, none⟩) p.length capb) := by simp
  have q2 : (w.alloc (Obj.cells #[.slice a rs.length cap, .slice (some ⟨b, o, none⟩) p.length capb, .slice s st.length caps, .slice c cs.length capc] 74)).cell? ⟨w.heap.size, 2, none⟩ = some (.slice s st.length caps) := by simp
  have q3 : (w.alloc (Obj.cells #[.slice a rs.length cap, .slice (some ⟨b, o, none⟩) p.length capb, .slice s st.length caps, .slice c cs.length capc] 74)).cell? ⟨w.heap.size, 3, none⟩ = some (.slice c cs.length capc) := by simp
  have hw0 : w.heap.size < (w.alloc (Obj.cells #[.slice a rs.length cap, .slice (some ⟨b, o, none⟩) p.length capb, .slice s st.length caps, .slice c cs.length capc] 74)).heap.size := by simp
  obtain ⟨w0, hw⟩ : ∃ w0, w.alloc (Obj.cells #[.slice a rs.length cap, .slice (some ⟨b, o, none⟩) p.length capb, .slice s st.length caps, .slice c cs.length capc] 74) = w0 := ⟨_, rfl⟩
  rw [hw] at hb0 q0 q1 q2 q3 hw0
  have HB0 := hide hb0
  have hh := h.below hb0 hB
  have hBB : B ≤ w0.heap.size := Nat.le_trans hB hb0.size
  have HBX := hide (fun W (D : Below w0.heap.size w0 W) => show W.cell? ⟨w.heap.size, 0, none⟩ = some (.slice a rs.length cap) ∧ W.cell? ⟨w.heap.size, 1, none⟩ = some (.slice (some ⟨b, o, none⟩) p.length capb) ∧ W.cell? ⟨w.heap.size, 2, none⟩ = some (.slice s st.length caps) ∧ W.cell? ⟨w.heap.size, 3, none⟩ = some (.slice c cs.length capc) from ⟨(D.cell (p := ⟨w.heap.size, 0, none⟩) hw0).trans q0, (D.cell (p := ⟨w.heap.size, 1, none⟩) hw0).trans q1, (D.cell (p := ⟨w.heap.size, 2, none⟩) hw0).trans q2, (D.cell (p := ⟨w.heap.size, 3, none⟩) hw0).trans q3⟩)
  have HTH := hide (fun W (D : Below w0.heap.size w0 W) => isThere_any a rs cap B (some ⟨b, o, none⟩) p capb B W (hh.ta.below D hBB) (hh.tp.below D hBB) hlm hpm (Nat.le_trans hBB D.size) (Nat.le_trans hBB D.size))
  have HCL := hide (fun W (D : Below w0.heap.size w0 W) => isColl_any a rs cap B (some ⟨b, o, none⟩) p capb B W (hh.ta.below D hBB) (hh.tp.below D hBB) hlm hpm (Nat.le_trans hBB D.size) (Nat.le_trans hBB D.size))
  have HAB := hide (fun W (D : Below w0.heap.size w0 W) => above_any b o p capb B W (hh.tp.below D hBB) (Nat.le_trans hBB D.size) hz.pl hz.pz hz.pc hz.pm)
  have HCA := hide (fun W g cc (D : Below w0.heap.size w0 W) (x : RowS W g (aboveL p)) => isColl_any a rs cap B (some ⟨g, 0, none⟩) (aboveL p) cc W.heap.size W (hh.ta.below D hBB) (x.strs' x.1) hlm (by rw [aboveL_len]; omega) (Nat.le_trans hBB D.size) (Nat.le_refl _))
  have HDP := hide (fun W (D : Below w0.heap.size w0 W) => goesDeep_any a (some ⟨b, o, none⟩) s c rs.length p.length st.length cap capb caps capc cs B W (hh.tc.below D hBB) hz.cs hcm (Nat.le_trans hBB D.size))
  have HLG := hide (fun W (D : Below w0.heap.size w0 W) => longBody_any a (some ⟨b, o, none⟩) s c rs.length p.length st.length cap capb caps capc cs B W (hh.tc.below D hBB) hz.cs hcm (Nat.le_trans hBB D.size))
  have R0 := hide (show ref0 rs p st cs = if thereB rs p = true then 405 else ref1 rs p st cs from rfl)
  have R1 := hide (show ref1 rs p st cs = if collB rs p = true then 405 else ref2 rs p st cs from rfl)
  have R2 := hide (show ref2 rs p st cs = if collB rs (aboveL p) = false then 409 else if cs.any badP = true then 409 else ref3 st cs from rfl)
  have R3 := hide (show ref3 st cs = if cs.any longP = true then 413 else ref4 st cs from rfl)
  have R4 := hide (show ref4 st cs = if 12 < st.length + cs.length then 507 else 0 from rfl)
  generalize ref0 rs p st cs = r0 at *
  generalize ref1 rs p st cs = r1 at *
  generalize ref2 rs p st cs = r2 at *
  generalize ref3 st cs = r3 at *
  generalize ref4 st cs = r4 at *
  generalize thereB rs p = z0 at *
  generalize collB rs p = z1 at *
  generalize collB rs (aboveL p) = z2 at *
  generalize cs.any badP = z3 at *
  generalize cs.any longP = z4 at *
  clear hh h hb0
  cases z2
  · skip
    go_enter Tryz.func112, Tryz.ntmps112
    have DD := belowD (Below.refl w0.heap.size w0)
    have K0 := HBX.out w0.drew DD
    have XA := hide (HAB.out w0.drew DD)
    go_wp2
    refine wp_region_held_drew (S := (fun W => W.cell? ⟨w.heap.size, 0, none⟩ = some (.slice a rs.length cap) ∧ W.cell? ⟨w.heap.size, 1, none⟩ = some (.slice (some ⟨b, o, none⟩) p.length capb) ∧ W.cell? ⟨w.heap.size, 2, none⟩ = some (.slice s st.length caps) ∧ W.cell? ⟨w.heap.size, 3, none⟩ = some (.slice c cs.length capc))) (by kernel_rfl) K0 (fun hHeld => ?_)
    simp only [List.size_toArray, List.length_cons, List.length_nil, Nat.reduceAdd, Array.replicate_succ, Array.replicate_zero, List.push_toArray, List.nil_append, List.cons_append]
    refine wpAnyH_take (i := 0) (v := ?_) rfl (by kernel_rfl) (by kernel_rfl) (by kernel_rfl) (fun _ _ _ h => h) (Or.inl ⟨by rfl, ?_⟩) (by assumption) ?_
    rotate_left
    · intro w hSw; (try dsimp only at hSw); go_simp; try with_reducible rfl
    simp only [Act.put, List.getElem_toArray, List.getElem_cons_zero, List.setIfInBounds_toArray, List.set_cons_zero]
    refine wpAnyH_take (i := 1) (v := ?_) rfl (by kernel_rfl) (by kernel_rfl) (by kernel_rfl) (fun _ _ _ h => h) (Or.inl ⟨by rfl, ?_⟩) (by assumption) ?_
    rotate_left
    · intro w hSw; (try dsimp only at hSw); go_simp; try with_reducible rfl
    simp only [Act.put, List.getElem_toArray, List.getElem_cons_succ, List.getElem_cons_zero, List.setIfInBounds_toArray, List.set_cons_succ, List.set_cons_zero]
    refine wpAnyH_take (i := 2) (v := ?_) rfl (by kernel_rfl) (by kernel_rfl) (by kernel_rfl) (fun _ _ _ h => h) (Or.inl ⟨by rfl, ?_⟩) (by assumption) ?_
    rotate_left
    · intro w hSw; (try dsimp only at hSw); go_simp; try with_reducible rfl
    simp only [Act.put, List.getElem_toArray, List.getElem_cons_succ, List.getElem_cons_zero, List.setIfInBounds_toArray, List.set_cons_succ, List.set_cons_zero]
    refine wpAnyH_take (i := 3) (v := ?_) rfl (by kernel_rfl) (by kernel_rfl) (by kernel_rfl) (fun _ _ _ h => h) (Or.inl ⟨by rfl, ?_⟩) (by assumption) ?_
    rotate_left
    · intro w hSw; (try dsimp only at hSw); go_simp; try with_reducible rfl
    simp only [Act.put, List.getElem_toArray, List.getElem_cons_succ, List.getElem_cons_zero, List.setIfInBounds_toArray, List.set_cons_succ, List.set_cons_zero]
    refine wpAnyH_ready (rs := [4]) (by kernel_rfl) (by simp) ?_
    refine AllReadyH.cons rfl (fun K hK => ?_) AllReadyH.nil
    go_simp
    refine XA.out.mono ?_
    rintro e wA ⟨rfl, rA, bA⟩
    have DA := DD.trans (bA.mono DD.size)
    have KA := hide (HBX.out wA DA)
    have XB := hide (HCA.out wA w0.drew.heap.size (aboveL p).length DA rA)
    refine hK.out _ _ KA.out (fun hHeld2 => ?_)
    clear hK K hHeld
    have hHeld := hHeld2
    clear hHeld2
    simp only [List.setIfInBounds_toArray, List.set_cons_succ, List.set_cons_zero]
    refine wpAnyH_ready (rs := [5]) (by kernel_rfl) (by simp) ?_
    refine AllReadyH.cons rfl (fun K hK => ?_) AllReadyH.nil
    go_simp
    refine XB.out.mono ?_
    rintro e wB ⟨rfl, bB⟩
    have DB := DA.trans (bB.mono DA.size)
    have KB := hide (HBX.out wB DB)
    have XC := hide (HDP.out wB DB)
    refine hK.out _ _ KB.out (fun hHeld2 => ?_)
    clear hK K hHeld
    have hHeld := hHeld2
    clear hHeld2
    simp only [List.setIfInBounds_toArray, List.set_cons_succ, List.set_cons_zero]
    refine wpAnyH_take (i := 6) (v := .bool true) rfl (by kernel_rfl) (by kernel_rfl) (by kernel_rfl) (fun _ _ _ h => h) (Or.inl ⟨by rfl, ?_⟩) (by assumption) ?_
    · intro w hSw; (try dsimp only at hSw); go_simp
    simp only [Act.put, List.getElem_toArray, List.getElem_cons_succ, List.getElem_cons_zero, List.setIfInBounds_toArray, List.set_cons_succ, List.set_cons_zero]
    refine wpAnyH_take (i := 7) (v := .bool true) rfl (by kernel_rfl) (by kernel_rfl) (by kernel_rfl) (fun _ _ _ h => h) (Or.inl ⟨by rfl, ?_⟩) (by assumption) ?_
    · intro w hSw; (try dsimp only at hSw); go_simp
    simp only [Act.put, List.getElem_toArray, List.getElem_cons_succ, List.getElem_cons_zero, List.setIfInBounds_toArray, List.set_cons_succ, List.set_cons_zero]
    refine wpAnyH_take (i := 8) (v := undef) rfl (by kernel_rfl) (by kernel_rfl) (by kernel_rfl) (fun _ _ _ h => h) (Or.inr ⟨by rfl, rfl⟩) (by assumption) ?_
    simp only [Act.put, List.getElem_toArray, List.getElem_cons_succ, List.getElem_cons_zero, List.setIfInBounds_toArray, List.set_cons_succ, List.set_cons_zero]
    refine wpAnyH_take (i := 9) (v := undef) rfl (by kernel_rfl) (by kernel_rfl) (by kernel_rfl) (fun _ _ _ h => h) (Or.inr ⟨by rfl, rfl⟩) (by assumption) ?_
    simp only [Act.put, List.getElem_toArray, List.getElem_cons_succ, List.getElem_cons_zero, List.setIfInBounds_toArray, List.set_cons_succ, List.set_cons_zero]
    refine wpAnyH_take (i := 10) (v := .bool true) rfl (by kernel_rfl) (by kernel_rfl) (by kernel_rfl) (fun _ _ _ h => h) (Or.inl ⟨by rfl, ?_⟩) (by assumption) ?_
    · intro w hSw; (try dsimp only at hSw); go_simp
    simp only [Act.put, List.getElem_toArray, List.getElem_cons_succ, List.getElem_cons_zero, List.setIfInBounds_toArray, List.set_cons_succ, List.set_cons_zero]
    refine wpAnyH_done (by kernel_rfl) ?_ _
    clear hHeld K0 XA KA XB KB XC
    have c9 := HB0.out.trans (DB.mono HB0.out.size)
    have HE := hide (show r2 = 409 from R2.out.trans (if_pos (by trivial)))
    go_wp2
    go_ret
    exact ⟨by rw [HE.out]; rfl, c9⟩
  · skip
    cases z3
    · skip
      cases z4
      · skip
        by_cases h12 : 12 < st.length + cs.length
        · skip
          go_enter Tryz.func112, Tryz.ntmps112
          have DD := belowD (Below.refl w0.heap.size w0)
          have K0 := HBX.out w0.drew DD
          have XA := hide (HAB.out w0.drew DD)
          go_wp2
          refine wp_region_held_drew (S := (fun W => W.cell? ⟨w.heap.size, 0, none⟩ = some (.slice a rs.length cap) ∧ W.cell? ⟨w.heap.size, 1, none⟩ = some (.slice (some ⟨b, o, none⟩) p.length capb) ∧ W.cell? ⟨w.heap.size, 2, none⟩ = some (.slice s st.length caps) ∧ W.cell? ⟨w.heap.size, 3, none⟩ = some (.slice c cs.length capc))) (by kernel_rfl) K0 (fun hHeld => ?_)
          simp only [List.size_toArray, List.length_cons, List.length_nil, Nat.reduceAdd, Array.replicate_succ, Array.replicate_zero, List.push_toArray, List.nil_append, List.cons_append]
          refine wpAnyH_take (i := 0) (v := ?_) rfl (by kernel_rfl) (by kernel_rfl) (by kernel_rfl) (fun _ _ _ h => h) (Or.inl ⟨by rfl, ?_⟩) (by assumption) ?_
          rotate_left
          · intro w hSw; (try dsimp only at hSw); go_simp; try with_reducible rfl
          simp only [Act.put, List.getElem_toArray, List.getElem_cons_zero, List.setIfInBounds_toArray, List.set_cons_zero]
          refine wpAnyH_take (i := 1) (v := ?_) rfl (by kernel_rfl) (by kernel_rfl) (by kernel_rfl) (fun _ _ _ h => h) (Or.inl ⟨by rfl, ?_⟩) (by assumption) ?_
          rotate_left
          · intro w hSw; (try dsimp only at hSw); go_simp; try with_reducible rfl
          simp only [Act.put, List.getElem_toArray, List.getElem_cons_succ, List.getElem_cons_zero, List.setIfInBounds_toArray, List.set_cons_succ, List.set_cons_zero]
          refine wpAnyH_take (i := 2) (v := ?_) rfl (by kernel_rfl) (by kernel_rfl) (by kernel_rfl) (fun _ _ _ h => h) (Or.inl ⟨by rfl, ?_⟩) (by assumption) ?_
          rotate_left
          · intro w hSw; (try dsimp only at hSw); go_simp; try with_reducible rfl
          simp only [Act.put, List.getElem_toArray, List.getElem_cons_succ, List.getElem_cons_zero, List.setIfInBounds_toArray, List.set_cons_succ, List.set_cons_zero]
          refine wpAnyH_take (i := 3) (v := ?_) rfl (by kernel_rfl) (by kernel_rfl) (by kernel_rfl) (fun _ _ _ h => h) (Or.inl ⟨by rfl, ?_⟩) (by assumption) ?_
          rotate_left
          · intro w hSw; (try dsimp only at hSw); go_simp; try with_reducible rfl
          simp only [Act.put, List.getElem_toArray, List.getElem_cons_succ, List.getElem_cons_zero, List.setIfInBounds_toArray, List.set_cons_succ, List.set_cons_zero]
          refine wpAnyH_ready (rs := [4]) (by kernel_rfl) (by simp) ?_
          refine AllReadyH.cons rfl (fun K hK => ?_) AllReadyH.nil
          go_simp
          refine XA.out.mono ?_
          rintro e wA ⟨rfl, rA, bA⟩
          have DA := DD.trans (bA.mono DD.size)
          have KA := hide (HBX.out wA DA)
          have XB := hide (HCA.out wA w0.drew.heap.size (aboveL p).length DA rA)
          refine hK.out _ _ KA.out (fun hHeld2 => ?_)
          clear hK K hHeld
          have hHeld := hHeld2
          clear hHeld2
          simp only [List.setIfInBounds_toArray, List.set_cons_succ, List.set_cons_zero]
          refine wpAnyH_ready (rs := [5]) (by kernel_rfl) (by simp) ?_
          refine AllReadyH.cons rfl (fun K hK => ?_) AllReadyH.nil
          go_simp
          refine XB.out.mono ?_
          rintro e wB ⟨rfl, bB⟩
          have DB := DA.trans (bB.mono DA.size)
          have KB := hide (HBX.out wB DB)
          have XC := hide (HDP.out wB DB)
          refine hK.out _ _ KB.out (fun hHeld2 => ?_)
          clear hK K hHeld
          have hHeld := hHeld2
          clear hHeld2
          simp only [List.setIfInBounds_toArray, List.set_cons_succ, List.set_cons_zero]
          refine wpAnyH_take (i := 6) (v := .bool false) rfl (by kernel_rfl) (by kernel_rfl) (by kernel_rfl) (fun _ _ _ h => h) (Or.inl ⟨by rfl, ?_⟩) (by assumption) ?_
          · intro w hSw; (try dsimp only at hSw); go_simp
          simp only [Act.put, List.getElem_toArray, List.getElem_cons_succ, List.getElem_cons_zero, List.setIfInBounds_toArray, List.set_cons_succ, List.set_cons_zero]
          refine wpAnyH_take (i := 7) (v := .bool false) rfl (by kernel_rfl) (by kernel_rfl) (by kernel_rfl) (fun _ _ _ h => h) (Or.inl ⟨by rfl, ?_⟩) (by assumption) ?_
          · intro w hSw; (try dsimp only at hSw); go_simp
          simp only [Act.put, List.getElem_toArray, List.getElem_cons_succ, List.getElem_cons_zero, List.setIfInBounds_toArray, List.set_cons_succ, List.set_cons_zero]
          refine wpAnyH_take (i := 8) (v := ?_) rfl (by kernel_rfl) (by kernel_rfl) (by kernel_rfl) (fun _ _ _ h => h) (Or.inl ⟨by rfl, ?_⟩) (by assumption) ?_
          rotate_left
          · intro w hSw; (try dsimp only at hSw); go_simp; try with_reducible rfl
          simp only [Act.put, List.getElem_toArray, List.getElem_cons_succ, List.getElem_cons_zero, List.setIfInBounds_toArray, List.set_cons_succ, List.set_cons_zero]
          refine wpAnyH_ready (rs := [9]) (by kernel_rfl) (by simp) ?_
          refine AllReadyH.cons rfl (fun K hK => ?_) AllReadyH.nil
          go_simp
          refine XC.out.mono ?_
          rintro e wC ⟨rfl, bC⟩
          have DC := DB.trans (bC.mono DB.size)
          have KC := hide (HBX.out wC DC)
          refine hK.out _ _ KC.out (fun hHeld2 => ?_)
          clear hK K hHeld
          have hHeld := hHeld2
          clear hHeld2
          simp only [List.setIfInBounds_toArray, List.set_cons_succ, List.set_cons_zero]
          refine wpAnyH_take (i := 10) (v := .bool false) rfl (by kernel_rfl) (by kernel_rfl) (by kernel_rfl) (fun _ _ _ h => h) (Or.inl ⟨by rfl, ?_⟩) (by assumption) ?_
          · intro w hSw; (try dsimp only at hSw); go_simp
          simp only [Act.put, List.getElem_toArray, List.getElem_cons_succ, List.getElem_cons_zero, List.setIfInBounds_toArray, List.set_cons_succ, List.set_cons_zero]
          refine wpAnyH_done (by kernel_rfl) ?_ _
          clear hHeld K0 XA KA XB KB XC KC
          obtain ⟨d0, d1, d2, d3⟩ := HBX.out wC DC
          have X1 := hide (HLG.out wC DC)
          go_wp2_with fail
          refine X1.out.mono ?_
          rintro e w1 ⟨rfl, b1⟩
          have D1 := DC.trans (b1.mono DC.size)
          clear d0 d1 d2 d3 X1 b1
          obtain ⟨d0, d1, d2, d3⟩ := HBX.out w1 D1
          have e9 : decide ((12 : Int) < (st.length : Int) + (cs.length : Int)) = true := by simp; omega
          have c9 := HB0.out.trans (D1.mono HB0.out.size)
          have HE := hide (show r2 = 507 from (((R2.out.trans (if_neg (by decide))).trans (if_neg (by decide))).trans (R3.out.trans (if_neg (by decide)))).trans (R4.out.trans (if_pos h12)))
          go_wp2
          go_ret
          exact ⟨by rw [HE.out]; rfl, c9⟩
        · skip
          go_enter Tryz.func112, Tryz.ntmps112
          have DD := belowD (Below.refl w0.heap.size w0)
          have K0 := HBX.out w0.drew DD
          have XA := hide (HAB.out w0.drew DD)
          go_wp2
          refine wp_region_held_drew (S := (fun W => W.cell? ⟨w.heap.size, 0, none⟩ = some (.slice a rs.length cap) ∧ W.cell? ⟨w.heap.size, 1, none⟩ = some (.slice (some ⟨b, o, none⟩) p.length capb) ∧ W.cell? ⟨w.heap.size, 2, none⟩ = some (.slice s st.length caps) ∧ W.cell? ⟨w.heap.size, 3, none⟩ = some (.slice c cs.length capc))) (by kernel_rfl) K0 (fun hHeld => ?_)
          simp only [List.size_toArray, List.length_cons, List.length_nil, Nat.reduceAdd, Array.replicate_succ, Array.replicate_zero, List.push_toArray, List.nil_append, List.cons_append]
          refine wpAnyH_take (i := 0) (v := ?_) rfl (by kernel_rfl) (by kernel_rfl) (by kernel_rfl) (fun _ _ _ h => h) (Or.inl ⟨by rfl, ?_⟩) (by assumption) ?_
          rotate_left
          · intro w hSw; (try dsimp only at hSw); go_simp; try with_reducible rfl
          simp only [Act.put, List.getElem_toArray, List.getElem_cons_zero, List.setIfInBounds_toArray, List.set_cons_zero]
          refine wpAnyH_take (i := 1) (v := ?_) rfl (by kernel_rfl) (by kernel_rfl) (by kernel_rfl) (fun _ _ _ h => h) (Or.inl ⟨by rfl, ?_⟩) (by assumption) ?_
          rotate_left
          · intro w hSw; (try dsimp only at hSw); go_simp; try with_reducible rfl
          simp only [Act.put, List.getElem_toArray, List.getElem_cons_succ, List.getElem_cons_zero, List.setIfInBounds_toArray, List.set_cons_succ, List.set_cons_zero]
          refine wpAnyH_take (i := 2) (v := ?_) rfl (by kernel_rfl) (by kernel_rfl) (by kernel_rfl) (fun _ _ _ h => h) (Or.inl ⟨by rfl, ?_⟩) (by assumption) ?_
          rotate_left
          · intro w hSw; (try dsimp only at hSw); go_simp; try with_reducible rfl
          simp only [Act.put, List.getElem_toArray, List.getElem_cons_succ, List.getElem_cons_zero, List.setIfInBounds_toArray, List.set_cons_succ, List.set_cons_zero]
          refine wpAnyH_take (i := 3) (v := ?_) rfl (by kernel_rfl) (by kernel_rfl) (by kernel_rfl) (fun _ _ _ h => h) (Or.inl ⟨by rfl, ?_⟩) (by assumption) ?_
          rotate_left
          · intro w hSw; (try dsimp only at hSw); go_simp; try with_reducible rfl
          simp only [Act.put, List.getElem_toArray, List.getElem_cons_succ, List.getElem_cons_zero, List.setIfInBounds_toArray, List.set_cons_succ, List.set_cons_zero]
          refine wpAnyH_ready (rs := [4]) (by kernel_rfl) (by simp) ?_
          refine AllReadyH.cons rfl (fun K hK => ?_) AllReadyH.nil
          go_simp
          refine XA.out.mono ?_
          rintro e wA ⟨rfl, rA, bA⟩
          have DA := DD.trans (bA.mono DD.size)
          have KA := hide (HBX.out wA DA)
          have XB := hide (HCA.out wA w0.drew.heap.size (aboveL p).length DA rA)
          refine hK.out _ _ KA.out (fun hHeld2 => ?_)
          clear hK K hHeld
          have hHeld := hHeld2
          clear hHeld2
          simp only [List.setIfInBounds_toArray, List.set_cons_succ, List.set_cons_zero]
          refine wpAnyH_ready (rs := [5]) (by kernel_rfl) (by simp) ?_
          refine AllReadyH.cons rfl (fun K hK => ?_) AllReadyH.nil
          go_simp
          refine XB.out.mono ?_
          rintro e wB ⟨rfl, bB⟩
          have DB := DA.trans (bB.mono DA.size)
          have KB := hide (HBX.out wB DB)
          have XC := hide (HDP.out wB DB)
          refine hK.out _ _ KB.out (fun hHeld2 => ?_)
          clear hK K hHeld
          have hHeld := hHeld2
          clear hHeld2
          simp only [List.setIfInBounds_toArray, List.set_cons_succ, List.set_cons_zero]
          refine wpAnyH_take (i := 6) (v := .bool false) rfl (by kernel_rfl) (by kernel_rfl) (by kernel_rfl) (fun _ _ _ h => h) (Or.inl ⟨by rfl, ?_⟩) (by assumption) ?_
          · intro w hSw; (try dsimp only at hSw); go_simp
          simp only [Act.put, List.getElem_toArray, List.getElem_cons_succ, List.getElem_cons_zero, List.setIfInBounds_toArray, List.set_cons_succ, List.set_cons_zero]
          refine wpAnyH_take (i := 7) (v := .bool false) rfl (by kernel_rfl) (by kernel_rfl) (by kernel_rfl) (fun _ _ _ h => h) (Or.inl ⟨by rfl, ?_⟩) (by assumption) ?_
          · intro w hSw; (try dsimp only at hSw); go_simp
          simp only [Act.put, List.getElem_toArray, List.getElem_cons_succ, List.getElem_cons_zero, List.setIfInBounds_toArray, List.set_cons_succ, List.set_cons_zero]
          refine wpAnyH_take (i := 8) (v := ?_) rfl (by kernel_rfl) (by kernel_rfl) (by kernel_rfl) (fun _ _ _ h => h) (Or.inl ⟨by rfl, ?_⟩) (by assumption) ?_
          rotate_left
          · intro w hSw; (try dsimp only at hSw); go_simp; try with_reducible rfl
          simp only [Act.put, List.getElem_toArray, List.getElem_cons_succ, List.getElem_cons_zero, List.setIfInBounds_toArray, List.set_cons_succ, List.set_cons_zero]
          refine wpAnyH_ready (rs := [9]) (by kernel_rfl) (by simp) ?_
          refine AllReadyH.cons rfl (fun K hK => ?_) AllReadyH.nil
          go_simp
          refine XC.out.mono ?_
          rintro e wC ⟨rfl, bC⟩
          have DC := DB.trans (bC.mono DB.size)
          have KC := hide (HBX.out wC DC)
          refine hK.out _ _ KC.out (fun hHeld2 => ?_)
          clear hK K hHeld
          have hHeld := hHeld2
          clear hHeld2
          simp only [List.setIfInBounds_toArray, List.set_cons_succ, List.set_cons_zero]
          refine wpAnyH_take (i := 10) (v := .bool false) rfl (by kernel_rfl) (by kernel_rfl) (by kernel_rfl) (fun _ _ _ h => h) (Or.inl ⟨by rfl, ?_⟩) (by assumption) ?_
          · intro w hSw; (try dsimp only at hSw); go_simp
          simp only [Act.put, List.getElem_toArray, List.getElem_cons_succ, List.getElem_cons_zero, List.setIfInBounds_toArray, List.set_cons_succ, List.set_cons_zero]
          refine wpAnyH_done (by kernel_rfl) ?_ _
          clear hHeld K0 XA KA XB KB XC KC
          obtain ⟨d0, d1, d2, d3⟩ := HBX.out wC DC
          have X1 := hide (HLG.out wC DC)
          go_wp2_with fail
          refine X1.out.mono ?_
          rintro e w1 ⟨rfl, b1⟩
          have D1 := DC.trans (b1.mono DC.size)
          clear d0 d1 d2 d3 X1 b1
          obtain ⟨d0, d1, d2, d3⟩ := HBX.out w1 D1
          have e9 : decide ((12 : Int) < (st.length : Int) + (cs.length : Int)) = false := by simp; omega
          have c9 := HB0.out.trans (D1.mono HB0.out.size)
          have HE := hide (show r2 = 0 from (((R2.out.trans (if_neg (by decide))).trans (if_neg (by decide))).trans (R3.out.trans (if_neg (by decide)))).trans (R4.out.trans (if_neg h12)))
          go_wp2
          go_ret
          exact ⟨by rw [HE.out]; rfl, c9⟩
      · skip
        go_enter Tryz.func112, Tryz.ntmps112
        have DD := belowD (Below.refl w0.heap.size w0)
        have K0 := HBX.out w0.drew DD
        have XA := hide (HAB.out w0.drew DD)
        go_wp2
        refine wp_region_held_drew (S := (fun W => W.cell? ⟨w.heap.size, 0, none⟩ = some (.slice a rs.length cap) ∧ W.cell? ⟨w.heap.size, 1, none⟩ = some (.slice (some ⟨b, o, none⟩) p.length capb) ∧ W.cell? ⟨w.heap.size, 2, none⟩ = some (.slice s st.length caps) ∧ W.cell? ⟨w.heap.size, 3, none⟩ = some (.slice c cs.length capc))) (by kernel_rfl) K0 (fun hHeld => ?_)
        simp only [List.size_toArray, List.length_cons, List.length_nil, Nat.reduceAdd, Array.replicate_succ, Array.replicate_zero, List.push_toArray, List.nil_append, List.cons_append]
        refine wpAnyH_take (i := 0) (v := ?_) rfl (by kernel_rfl) (by kernel_rfl) (by kernel_rfl) (fun _ _ _ h => h) (Or.inl ⟨by rfl, ?_⟩) (by assumption) ?_
        rotate_left
        · intro w hSw; (try dsimp only at hSw); go_simp; try with_reducible rfl
        simp only [Act.put, List.getElem_toArray, List.getElem_cons_zero, List.setIfInBounds_toArray, List.set_cons_zero]
        refine wpAnyH_take (i := 1) (v := ?_) rfl (by kernel_rfl) (by kernel_rfl) (by kernel_rfl) (fun _ _ _ h => h) (Or.inl ⟨by rfl, ?_⟩) (by assumption) ?_
        rotate_left
        · intro w hSw; (try dsimp only at hSw); go_simp; try with_reducible rfl
        simp only [Act.put, List.getElem_toArray, List.getElem_cons_succ, List.getElem_cons_zero, List.setIfInBounds_toArray, List.set_cons_succ, List.set_cons_zero]
        refine wpAnyH_take (i := 2) (v := ?_) rfl (by kernel_rfl) (by kernel_rfl) (by kernel_rfl) (fun _ _ _ h => h) (Or.inl ⟨by rfl, ?_⟩) (by assumption) ?_
        rotate_left
        · intro w hSw; (try dsimp only at hSw); go_simp; try with_reducible rfl
        simp only [Act.put, List.getElem_toArray, List.getElem_cons_succ, List.getElem_cons_zero, List.setIfInBounds_toArray, List.set_cons_succ, List.set_cons_zero]
        refine wpAnyH_take (i := 3) (v := ?_) rfl (by kernel_rfl) (by kernel_rfl) (by kernel_rfl) (fun _ _ _ h => h) (Or.inl ⟨by rfl, ?_⟩) (by assumption) ?_
        rotate_left
        · intro w hSw; (try dsimp only at hSw); go_simp; try with_reducible rfl
        simp only [Act.put, List.getElem_toArray, List.getElem_cons_succ, List.getElem_cons_zero, List.setIfInBounds_toArray, List.set_cons_succ, List.set_cons_zero]
        refine wpAnyH_ready (rs := [4]) (by kernel_rfl) (by simp) ?_
        refine AllReadyH.cons rfl (fun K hK => ?_) AllReadyH.nil
        go_simp
        refine XA.out.mono ?_
        rintro e wA ⟨rfl, rA, bA⟩
        have DA := DD.trans (bA.mono DD.size)
        have KA := hide (HBX.out wA DA)
        have XB := hide (HCA.out wA w0.drew.heap.size (aboveL p).length DA rA)
        refine hK.out _ _ KA.out (fun hHeld2 => ?_)
        clear hK K hHeld
        have hHeld := hHeld2
        clear hHeld2
        simp only [List.setIfInBounds_toArray, List.set_cons_succ, List.set_cons_zero]
        refine wpAnyH_ready (rs := [5]) (by kernel_rfl) (by simp) ?_
        refine AllReadyH.cons rfl (fun K hK => ?_) AllReadyH.nil
        go_simp
        refine XB.out.mono ?_
        rintro e wB ⟨rfl, bB⟩
        have DB := DA.trans (bB.mono DA.size)
        have KB := hide (HBX.out wB DB)
        have XC := hide (HDP.out wB DB)
        refine hK.out _ _ KB.out (fun hHeld2 => ?_)
        clear hK K hHeld
        have hHeld := hHeld2
        clear hHeld2
        simp only [List.setIfInBounds_toArray, List.set_cons_succ, List.set_cons_zero]
        refine wpAnyH_take (i := 6) (v := .bool false) rfl (by kernel_rfl) (by kernel_rfl) (by kernel_rfl) (fun _ _ _ h => h) (Or.inl ⟨by rfl, ?_⟩) (by assumption) ?_
        · intro w hSw; (try dsimp only at hSw); go_simp
        simp only [Act.put, List.getElem_toArray, List.getElem_cons_succ, List.getElem_cons_zero, List.setIfInBounds_toArray, List.set_cons_succ, List.set_cons_zero]
        refine wpAnyH_take (i := 7) (v := .bool false) rfl (by kernel_rfl) (by kernel_rfl) (by kernel_rfl) (fun _ _ _ h => h) (Or.inl ⟨by rfl, ?_⟩) (by assumption) ?_
        · intro w hSw; (try dsimp only at hSw); go_simp
        simp only [Act.put, List.getElem_toArray, List.getElem_cons_succ, List.getElem_cons_zero, List.setIfInBounds_toArray, List.set_cons_succ, List.set_cons_zero]
        refine wpAnyH_take (i := 8) (v := ?_) rfl (by kernel_rfl) (by kernel_rfl) (by kernel_rfl) (fun _ _ _ h => h) (Or.inl ⟨by rfl, ?_⟩) (by assumption) ?_
        rotate_left
        · intro w hSw; (try dsimp only at hSw); go_simp; try with_reducible rfl
        simp only [Act.put, List.getElem_toArray, List.getElem_cons_succ, List.getElem_cons_zero, List.setIfInBounds_toArray, List.set_cons_succ, List.set_cons_zero]
        refine wpAnyH_ready (rs := [9]) (by kernel_rfl) (by simp) ?_
        refine AllReadyH.cons rfl (fun K hK => ?_) AllReadyH.nil
        go_simp
        refine XC.out.mono ?_
        rintro e wC ⟨rfl, bC⟩
        have DC := DB.trans (bC.mono DB.size)
        have KC := hide (HBX.out wC DC)
        refine hK.out _ _ KC.out (fun hHeld2 => ?_)
        clear hK K hHeld
        have hHeld := hHeld2
        clear hHeld2
        simp only [List.setIfInBounds_toArray, List.set_cons_succ, List.set_cons_zero]
        refine wpAnyH_take (i := 10) (v := .bool false) rfl (by kernel_rfl) (by kernel_rfl) (by kernel_rfl) (fun _ _ _ h => h) (Or.inl ⟨by rfl, ?_⟩) (by assumption) ?_
        · intro w hSw; (try dsimp only at hSw); go_simp
        simp only [Act.put, List.getElem_toArray, List.getElem_cons_succ, List.getElem_cons_zero, List.setIfInBounds_toArray, List.set_cons_succ, List.set_cons_zero]
        refine wpAnyH_done (by kernel_rfl) ?_ _
        clear hHeld K0 XA KA XB KB XC KC
        obtain ⟨d0, d1, d2, d3⟩ := HBX.out wC DC
        have X1 := hide (HLG.out wC DC)
        go_wp2_with fail
        refine X1.out.mono ?_
        rintro e w1 ⟨rfl, b1⟩
        have D1 := DC.trans (b1.mono DC.size)
        clear d0 d1 d2 d3 X1 b1
        have c9 := HB0.out.trans (D1.mono HB0.out.size)
        have HE := hide (show r2 = 413 from ((R2.out.trans (if_neg (by decide))).trans (if_neg (by decide))).trans (R3.out.trans (if_pos (by trivial))))
        go_wp2
        go_ret
        exact ⟨by rw [HE.out]; rfl, c9⟩
    · skip
      go_enter Tryz.func112, Tryz.ntmps112
      have DD := belowD (Below.refl w0.heap.size w0)
      have K0 := HBX.out w0.drew DD
      have XA := hide (HAB.out w0.drew DD)
      go_wp2
      refine wp_region_held_drew (S := (fun W => W.cell? ⟨w.heap.size, 0, none⟩ = some (.slice a rs.length cap) ∧ W.cell? ⟨w.heap.size, 1, none⟩ = some (.slice (some ⟨b, o, none⟩) p.length capb) ∧ W.cell? ⟨w.heap.size, 2, none⟩ = some (.slice s st.length caps) ∧ W.cell? ⟨w.heap.size, 3, none⟩ = some (.slice c cs.length capc))) (by kernel_rfl) K0 (fun hHeld => ?_)
      simp only [List.size_toArray, List.length_cons, List.length_nil, Nat.reduceAdd, Array.replicate_succ, Array.replicate_zero, List.push_toArray, List.nil_append, List.cons_append]
      refine wpAnyH_take (i := 0) (v := ?_) rfl (by kernel_rfl) (by kernel_rfl) (by kernel_rfl) (fun _ _ _ h => h) (Or.inl ⟨by rfl, ?_⟩) (by assumption) ?_
      rotate_left
      · intro w hSw; (try dsimp only at hSw); go_simp; try with_reducible rfl
      simp only [Act.put, List.getElem_toArray, List.getElem_cons_zero, List.setIfInBounds_toArray, List.set_cons_zero]
      refine wpAnyH_take (i := 1) (v := ?_) rfl (by kernel_rfl) (by kernel_rfl) (by kernel_rfl) (fun _ _ _ h => h) (Or.inl ⟨by rfl, ?_⟩) (by assumption) ?_
      rotate_left
      · intro w hSw; (try dsimp only at hSw); go_simp; try with_reducible rfl
      simp only [Act.put, List.getElem_toArray, List.getElem_cons_succ, List.getElem_cons_zero, List.setIfInBounds_toArray, List.set_cons_succ, List.set_cons_zero]
      refine wpAnyH_take (i := 2) (v := ?_) rfl (by kernel_rfl) (by kernel_rfl) (by kernel_rfl) (fun _ _ _ h => h) (Or.inl ⟨by rfl, ?_⟩) (by assumption) ?_
      rotate_left
      · intro w hSw; (try dsimp only at hSw); go_simp; try with_reducible rfl
      simp only [Act.put, List.getElem_toArray, List.getElem_cons_succ, List.getElem_cons_zero, List.setIfInBounds_toArray, List.set_cons_succ, List.set_cons_zero]
      refine wpAnyH_take (i := 3) (v := ?_) rfl (by kernel_rfl) (by kernel_rfl) (by kernel_rfl) (fun _ _ _ h => h) (Or.inl ⟨by rfl, ?_⟩) (by assumption) ?_
      rotate_left
      · intro w hSw; (try dsimp only at hSw); go_simp; try with_reducible rfl
      simp only [Act.put, List.getElem_toArray, List.getElem_cons_succ, List.getElem_cons_zero, List.setIfInBounds_toArray, List.set_cons_succ, List.set_cons_zero]
      refine wpAnyH_ready (rs := [4]) (by kernel_rfl) (by simp) ?_
      refine AllReadyH.cons rfl (fun K hK => ?_) AllReadyH.nil
      go_simp
      refine XA.out.mono ?_
      rintro e wA ⟨rfl, rA, bA⟩
      have DA := DD.trans (bA.mono DD.size)
      have KA := hide (HBX.out wA DA)
      have XB := hide (HCA.out wA w0.drew.heap.size (aboveL p).length DA rA)
      refine hK.out _ _ KA.out (fun hHeld2 => ?_)
      clear hK K hHeld
      have hHeld := hHeld2
      clear hHeld2
      simp only [List.setIfInBounds_toArray, List.set_cons_succ, List.set_cons_zero]
      refine wpAnyH_ready (rs := [5]) (by kernel_rfl) (by simp) ?_
      refine AllReadyH.cons rfl (fun K hK => ?_) AllReadyH.nil
      go_simp
      refine XB.out.mono ?_
      rintro e wB ⟨rfl, bB⟩
      have DB := DA.trans (bB.mono DA.size)
      have KB := hide (HBX.out wB DB)
      have XC := hide (HDP.out wB DB)
      refine hK.out _ _ KB.out (fun hHeld2 => ?_)
      clear hK K hHeld
      have hHeld := hHeld2
      clear hHeld2
      simp only [List.setIfInBounds_toArray, List.set_cons_succ, List.set_cons_zero]
      refine wpAnyH_take (i := 6) (v := .bool false) rfl (by kernel_rfl) (by kernel_rfl) (by kernel_rfl) (fun _ _ _ h => h) (Or.inl ⟨by rfl, ?_⟩) (by assumption) ?_
      · intro w hSw; (try dsimp only at hSw); go_simp
      simp only [Act.put, List.getElem_toArray, List.getElem_cons_succ, List.getElem_cons_zero, List.setIfInBounds_toArray, List.set_cons_succ, List.set_cons_zero]
      refine wpAnyH_take (i := 7) (v := .bool false) rfl (by kernel_rfl) (by kernel_rfl) (by kernel_rfl) (fun _ _ _ h => h) (Or.inl ⟨by rfl, ?_⟩) (by assumption) ?_
      · intro w hSw; (try dsimp only at hSw); go_simp
      simp only [Act.put, List.getElem_toArray, List.getElem_cons_succ, List.getElem_cons_zero, List.setIfInBounds_toArray, List.set_cons_succ, List.set_cons_zero]
      refine wpAnyH_take (i := 8) (v := ?_) rfl (by kernel_rfl) (by kernel_rfl) (by kernel_rfl) (fun _ _ _ h => h) (Or.inl ⟨by rfl, ?_⟩) (by assumption) ?_
      rotate_left
      · intro w hSw; (try dsimp only at hSw); go_simp; try with_reducible rfl
      simp only [Act.put, List.getElem_toArray, List.getElem_cons_succ, List.getElem_cons_zero, List.setIfInBounds_toArray, List.set_cons_succ, List.set_cons_zero]
      refine wpAnyH_ready (rs := [9]) (by kernel_rfl) (by simp) ?_
      refine AllReadyH.cons rfl (fun K hK => ?_) AllReadyH.nil
      go_simp
      refine XC.out.mono ?_
      rintro e wC ⟨rfl, bC⟩
      have DC := DB.trans (bC.mono DB.size)
      have KC := hide (HBX.out wC DC)
      refine hK.out _ _ KC.out (fun hHeld2 => ?_)
      clear hK K hHeld
      have hHeld := hHeld2
      clear hHeld2
      simp only [List.setIfInBounds_toArray, List.set_cons_succ, List.set_cons_zero]
      refine wpAnyH_take (i := 10) (v := .bool true) rfl (by kernel_rfl) (by kernel_rfl) (by kernel_rfl) (fun _ _ _ h => h) (Or.inl ⟨by rfl, ?_⟩) (by assumption) ?_
      · intro w hSw; (try dsimp only at hSw); go_simp
      simp only [Act.put, List.getElem_toArray, List.getElem_cons_succ, List.getElem_cons_zero, List.setIfInBounds_toArray, List.set_cons_succ, List.set_cons_zero]
      refine wpAnyH_done (by kernel_rfl) ?_ _
      clear hHeld K0 XA KA XB KB XC KC
      have c9 := HB0.out.trans (DC.mono HB0.out.size)
      have HE := hide (show r2 = 409 from (R2.out.trans (if_neg (by decide))).trans (if_pos (by trivial)))
      go_wp2
      go_ret
      exact ⟨by rw [HE.out]; rfl, c9⟩
end Go.Proofs.YtifnolomekhmfaaGreat
