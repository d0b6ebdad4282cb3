/-
  Trees that are drawn: whatever is drawn, it is small, and lies in blocks of its own.
-/
import Derived.Test.YtccehdlgpbeijaaGreatDoorDrawO
import Derived.Test.YtccehdlgpbeijaaGreatDoorNodeS
namespace Go.Proofs.YtccehdlgpbeijaaGreatDoor
open Go.RowKit M
set_option linter.unusedVariables false

theorem strNew8 {w : World} {N : Nat} {a : Option Addr} {len cap : Nat} {zs : List Int} (h : DX w N a len cap zs) (ss : List ByteArray) (C : Array Value) (T : TypeId) (n M z : Nat) (hM : M = w.heap.size) (hC : C = (ss.map Value.string).toArray) (hn : ss.length = n) (h0 : 0 < n) (h1 : n ≤ 256) (hz : ∀ s ∈ ss, s.size ≤ z) :
    Calls Tryz.prog 28 #[.pointer (some ⟨N, 0, none⟩), .slice (some ⟨M, 0, none⟩) n n] (w.alloc (.cells C T)) fun e w' => (∃ s : ByteArray, e = .returned (.string s) ∧ s.size ≤ z) ∧ DX w' N a len cap zs ∧ w.grownBy w' (some N) := by
  obtain ⟨c, h⟩ := h
  refine (strNew h ss C T n M hM hC hn h0 h1).mono ?_
  rintro e w1 ⟨rfl, hd, hg⟩
  exact ⟨⟨_, rfl, getD_mem ss _ _ (fun s => s.size ≤ z) hz (Nat.zero_le _)⟩, ⟨_, hd⟩, hg⟩
theorem l1Once8 {w : World} {N : Nat} {a : Option Addr} {len cap : Nat} {zs : List Int} (h : DX w N a len cap zs) (n : Int) (hn : 0 < n) (hn2 : n ≤ 1000000) :
    Calls Tryz.prog 34 #[.pointer (some ⟨N, 0, none⟩), .int .i64 n] w fun e w' => (∃ b : Bool, e = .returned (.bool b)) ∧ DX w' N a len cap zs ∧ w.grownBy w' (some N) := by
  obtain ⟨c, h⟩ := h
  refine (l1Once_any N a len cap zs c n w h.cur h.code h.bN h.hlen hn hn2).mono ?_
  rintro e w1 ⟨rfl, hc1, hg1⟩
  exact ⟨⟨_, rfl⟩, ⟨_, h.grown hg1 hc1⟩, hg1⟩
theorem GrowK.low {w : World} {B B' lo : Nat} {v : Value} {ts : List NdT} (g : GrowK w B v ts lo) (hB : B' ≤ B) : GrowK w B' v ts lo := by
  obtain ⟨h, h0, hm, hk, hj⟩ := g.kids
  refine ⟨⟨g.own.1, ?_⟩, g.blk, g.top, h, Nat.le_trans hB h0, hm, hk, hj⟩
  rcases g.own.2 with h | ⟨g, cap, cur, e, hB2, hr⟩
  · exact .inl h
  · exact .inr ⟨g, cap, cur, e, Nat.le_trans hB hB2, hr⟩
/-- How great a drawn tree is at most. -/
def bd : Nat → Nat
  | 0 => 60
  | d + 1 => 60 + 2 * (bd d + 1)
/-- A drawn tree: its parts, and where its kids lie. -/
def NdD (w w' : World) (z : Nat) (e : Ending) : Prop := ∃ (n : Nd) (ts : List NdT) (an : Option Addr) (cn : Nat), e = .returned (.agg #[.string n.ns, .string n.nm, .string n.tx, .slice an n.ks.length cn]) ∧ ts.map (·.1) = n.ks ∧ GrowK w' w.heap.size (.slice an n.ks.length cn) ts w'.heap.size ∧ n.szN ≤ z
def DrS (d : Nat) : Prop := ∀ (N : Nat) (a : Option Addr) (len cap : Nat) (zs : List Int) (w : World), DX w N a len cap zs →
    Calls Tryz.prog 26 #[.pointer (some ⟨N, 0, none⟩), .int .i64 d] w fun e w' => NdD w w' (bd d) e ∧ DX w' N a len cap zs ∧ w.grownBy w' (some N)
theorem DX.set {w : World} {N b k : Nat} {a : Option Addr} {len cap : Nat} {zs : List Int} (h : DX w N a len cap zs) (v : Value) (hb : N < b) : DX (w.setCell ⟨b, k, none⟩ v) N a len cap zs :=
  h.other (by simp) (fun i hi => Below.heap_setCell _ _ _ _ (by show i ≠ b; omega))
theorem szL_app (a b : List Nd) : szL (a ++ b) = szL a + szL b := by
  induction a with
  | nil => simp [szL]
  | cons x r ih => simp only [List.cons_append, szL, ih]; omega

theorem szL_le : ∀ (ts : List NdT) (b : Nat), (∀ t ∈ ts, t.1.szN ≤ b) → szL (ts.map (·.1)) ≤ ts.length * b
  | [], b, _ => by simp [szL]
  | t :: r, b, h => by
    have h1 := h t (List.mem_cons_self ..)
    have h2 := szL_le r b (fun x hx => h x (List.mem_cons_of_mem _ hx))
    rw [List.map_cons, szL, List.length_cons, Nat.succ_mul]
    omega
def nsD : List ByteArray := [⟨#[68, 65, 86, 58]⟩, ⟨#[68, 65, 86, 58]⟩, ⟨#[]⟩, ⟨#[117, 58, 120]⟩]
def nmD : List ByteArray := [⟨#[97]⟩, ⟨#[98]⟩, ⟨#[112, 114, 111, 112]⟩, ⟨#[115, 101, 116]⟩]
def txD : List ByteArray := [⟨#[]⟩, ⟨#[]⟩, ⟨#[120]⟩, ⟨#[97, 60, 98]⟩, ⟨#[32]⟩]

set_option maxRecDepth 100000 in
set_option maxHeartbeats 8000000 in
theorem l8Draw_step (d : Nat) (hd : d ≤ 100) (ih : ∀ d', d = d' + 1 → DrS d') : DrS d := by
  intro N a len cap zs w h
  have HI := hide ih
  have H := hide h
  have hNl := h.lt
  clear ih h
  have bA := (Below.refl w.heap.size w).alloc (Nat.le_refl _) (Obj.cells #[Value.string { data := #[] }, Value.string { data := #[] }, Value.string { data := #[] }, Value.slice none 0 0] 26)
  have DA := hide (H.out.alloc (Obj.cells #[Value.string { data := #[] }, Value.string { data := #[] }, Value.string { data := #[] }, Value.slice none 0 0] 26))
  have BR := hide (Bx.made w (.string ⟨#[]⟩) (.string ⟨#[]⟩) (.string ⟨#[]⟩) (.slice none 0 0) 26)
  have GA := hide (grownR_of (N := N) bA)
  obtain ⟨wA, hwA⟩ : ∃ wA, w.alloc (Obj.cells #[Value.string { data := #[] }, Value.string { data := #[] }, Value.string { data := #[] }, Value.slice none 0 0] 26) = wA := ⟨_, rfl⟩
  have zA : Hid (wA.heap.size = w.heap.size + 1) := by show _ = _; rw [← hwA]; simp
  rw [hwA] at DA BR GA
  clear bA
  go_enter Tryz.func26, Tryz.ntmps26
  go_wp2_with fail
  refine (strNew8 DA.out nsD _ _ 4 _ 20 rfl rfl rfl (by decide) (by decide) (by decide)).mono ?_
  rintro e w1 ⟨⟨s1, rfl, hs1⟩, dx1, g1⟩
  have D1 := hide dx1
  have G1 := hide (grownR_trans GA.out g1)
  have BR1 := hide (BR.out.grown g1 (by omega))
  have z1 := g1.size
  clear dx1 g1 hwA DA GA BR
  go_wp2_with fail
  refine (strNew8 D1.out nmD _ _ 4 _ 20 rfl rfl rfl (by decide) (by decide) (by decide)).mono ?_
  rintro e w2 ⟨⟨s2, rfl, hs2⟩, dx2, g2⟩
  have z2 := g2.size
  have bM := (Below.refl w2.heap.size w2).alloc (Nat.le_refl _) (Obj.cells #[.string s1, .string s2, .string ⟨#[]⟩, .slice none 0 0] 26)
  have hw2 : w.heap.size + 1 ≤ w2.heap.size := by have := zA.out; omega
  have D3 := hide (dx2.alloc (Obj.cells #[.string s1, .string s2, .string ⟨#[]⟩, .slice none 0 0] 26))
  have G3 := hide (grownR_below (grownR_trans G1.out g2) (bM.mono (by omega)))
  have BR3 := hide ((BR1.out.grown g2 (by omega)).next bM (by omega))
  have BM3 := hide (Bx.made w2 (.string s1) (.string s2) (.string ⟨#[]⟩) (.slice none 0 0) 26)
  have K3 : Hid (GrowK (w2.alloc (Obj.cells #[.string s1, .string s2, .string ⟨#[]⟩, .slice none 0 0] 26)) (w2.heap.size + 1) (.slice none 0 0) [] (w2.alloc (Obj.cells #[.string s1, .string s2, .string ⟨#[]⟩, .slice none 0 0] 26)).heap.size) := GrowK.nil _ _ (by simp)
  obtain ⟨w3, hw3⟩ : ∃ w3, w2.alloc (Obj.cells #[.string s1, .string s2, .string ⟨#[]⟩, .slice none 0 0] 26) = w3 := ⟨_, rfl⟩
  have z3 : Hid (w3.heap.size = w2.heap.size + 1) := by show _ = _; rw [← hw3]; simp
  rw [hw3] at D3 G3 BR3 BM3 K3
  obtain ⟨M, hM⟩ : ∃ M, w2.heap.size = M := ⟨_, rfl⟩
  rw [hM] at BM3 K3 z3 hw2
  have hMw : w.heap.size < M := by omega
  have HW3 := hide hw3
  have HM := hide hM
  clear hw3 hM
  clear dx2 g2 bM D1 G1 BR1 z1 z2 zA
  have HTX : Hid (∀ (W : World), DX W N a len cap zs → w.grownBy W (some N) → Bx W M (.string s1) (.string s2) (.string ⟨#[]⟩) (.slice none 0 0) → Bx W w.heap.size (.string ⟨#[]⟩) (.string ⟨#[]⟩) (.string ⟨#[]⟩) (.slice none 0 0) → ∀ (t : ByteArray), t.size ≤ 20 → NdD w (((((W.setCell ⟨M, 2, none⟩ (.string t)).setCell ⟨w.heap.size, 0, none⟩ (.string s1)).setCell ⟨w.heap.size, 1, none⟩ (.string s2)).setCell ⟨w.heap.size, 2, none⟩ (.string t)).setCell ⟨w.heap.size, 3, none⟩ (.slice none 0 0)) (bd d) (.returned (.agg #[.string s1, .string s2, .string t, .slice none 0 0])) ∧ DX (((((W.setCell ⟨M, 2, none⟩ (.string t)).setCell ⟨w.heap.size, 0, none⟩ (.string s1)).setCell ⟨w.heap.size, 1, none⟩ (.string s2)).setCell ⟨w.heap.size, 2, none⟩ (.string t)).setCell ⟨w.heap.size, 3, none⟩ (.slice none 0 0)) N a len cap zs ∧ w.grownBy (((((W.setCell ⟨M, 2, none⟩ (.string t)).setCell ⟨w.heap.size, 0, none⟩ (.string s1)).setCell ⟨w.heap.size, 1, none⟩ (.string s2)).setCell ⟨w.heap.size, 2, none⟩ (.string t)).setCell ⟨w.heap.size, 3, none⟩ (.slice none 0 0)) (some N)) := by
    intro W dW gW _ _ t ht
    refine ⟨⟨.mk s1 s2 t [], [], none, 0, rfl, rfl, GrowK.nil _ _ (by have := gW.size; simpa using this), ?_⟩, ?_, ?_⟩
    · rw [Nd.szN, szL]
      have : 60 ≤ bd d := by cases d with | zero => exact Nat.le_refl _ | succ d => rw [bd]; omega
      simp
      omega
    · exact ((((dW.set _ (by omega)).set _ hNl).set _ hNl).set _ hNl).set _ hNl
    · exact grownR_setB (grownR_setB (grownR_setB (grownR_setB (grownR_setB gW _ (by omega)) _ (Nat.le_refl _)) _ (Nat.le_refl _)) _ (Nat.le_refl _)) _ (Nat.le_refl _)
  cases d with
  | zero =>
    go_wp2_with fail
    rw [HW3.out, HM.out]
    refine (strNew8 D3.out txD _ _ 5 _ 20 z3.out.symm rfl rfl (by decide) (by decide) (by decide)).mono ?_
    rintro e w4 ⟨⟨t, rfl, ht⟩, dx4, g4⟩
    have BM4 := hide (BM3.out.grown g4 (by omega))
    have BR4 := hide (BR3.out.grown g4 (by omega))
    have HE := hide (HTX.out w4 dx4 (grownR_trans G3.out g4) BM4.out BR4.out t ht)
    obtain ⟨_, m0, m1, m2, m3, mz⟩ := BM4.out
    obtain ⟨_, r0, r1, r2, r3, rz⟩ := BR4.out
    clear dx4 g4
    go_wp2
    refine bodyPost_ret (v := .agg #[.string s1, .string s2, .string t, .slice none 0 0]) (by simp [results, Tryz.results26, go_sem, r0, r1, r2, r3]) rfl HE.out
  | succ d =>
    have hdi : ((d + 1 : Nat) : Int) ≠ 0 := by omega
    have hdb : (((d + 1 : Nat) : Int) == 0) = false := by apply beq_eq_false_iff_ne.2; omega
    have hdc : ((d : Int) + 1 == 0) = false := by apply beq_eq_false_iff_ne.2; omega
    go_wp2_with fail
    rw [HW3.out, HM.out]
    refine (l1Once8 D3.out 3 (by decide) (by decide)).mono ?_
    rintro e w4 ⟨⟨q, rfl⟩, dx4, g4⟩
    have D4 := hide dx4
    have G4 := hide (grownR_trans G3.out g4)
    have BM4 := hide (BM3.out.grown g4 (by omega))
    have BR4 := hide (BR3.out.grown g4 (by omega))
    have z4 := g4.size
    have K4 := hide ((K3.out.grown g4 (by omega)).up (lo' := w4.heap.size) z4 (Nat.le_refl _))
    clear dx4 g4 D3 G3 BM3 BR3 K3 hdb hdc HW3 HM z3
    cases q with
    | true =>
      go_wp2_with fail
      refine (strNew8 D4.out txD _ _ 5 _ 20 rfl rfl rfl (by decide) (by decide) (by decide)).mono ?_
      rintro e w5 ⟨⟨t, rfl, ht⟩, dx5, g5⟩
      have BM5 := hide (BM4.out.grown g5 (by omega))
      have BR5 := hide (BR4.out.grown g5 (by omega))
      have HE := hide (HTX.out w5 dx5 (grownR_trans G4.out g5) BM5.out BR5.out t ht)
      obtain ⟨_, m0, m1, m2, m3, mz⟩ := BM5.out
      obtain ⟨_, r0, r1, r2, r3, rz⟩ := BR5.out
      clear dx5 g5
      go_wp2
      refine bodyPost_ret (v := .agg #[.string s1, .string s2, .string t, .slice none 0 0]) (by simp [results, Tryz.results26, go_sem, r0, r1, r2, r3]) rfl HE.out
    | false =>
      go_wp2_with fail
      refine (l1BelowX D4.out 3 (by decide) (by decide)).mono ?_
      rintro e w5 ⟨⟨j0, rfl, hj0⟩, dx5, g5⟩
      have D5 := hide dx5
      have G5 := hide (grownR_trans G4.out g5)
      have BM5 := hide (BM4.out.grown g5 (by omega))
      have BR5 := hide (BR4.out.grown g5 (by omega))
      have z5 := g5.size
      have K5 := hide ((K4.out.grown g5 (by omega)).up (lo' := w5.heap.size) z5 (Nat.le_refl _))
      clear dx5 g5 D4 G4 BM4 BR4 K4 HTX
      go_wp2
      go_loopw [6] (fun i wr => ∃ (j : Nat) (ts : List NdT) (av : Option Addr) (cv : Nat), i = .int .i64 j ∧ j + ts.length ≤ 2 ∧ (∀ t ∈ ts, t.1.szN ≤ bd d) ∧ Bx wr M (.string s1) (.string s2) (.string ⟨#[]⟩) (.slice av ts.length cv) ∧ Bx wr w.heap.size (.string ⟨#[]⟩) (.string ⟨#[]⟩) (.string ⟨#[]⟩) (.slice none 0 0) ∧ GrowK wr (M + 1) (.slice av ts.length cv) ts wr.heap.size ∧ DX wr N a len cap zs ∧ w.grownBy wr (some N)) (fun i _ => (intOf i).toNat)
      case atStart => exact ⟨j0, [], none, 0, rfl, by simp; omega, (fun t ht => by cases ht), BM5.out, BR5.out, K5.out, D5.out, G5.out⟩
      case round =>
        clear K5 BM5 BR5 D5 G5
        obtain ⟨j, ts, av, cv, rfl, hjl, hts, hbm, hbr, hgk, hdx, hgr⟩ := hrel
        have HTS := hide hts
        have BM := hide hbm
        have BR := hide hbr
        have GK := hide hgk
        have DD := hide hdx
        have GR := hide hgr
        have hwz := hgr.size
        have hMl := hbm.lt
        clear hts hbm hbr hgk hdx hgr
        by_cases hj : 0 < j
        · have hj' : (0 : Int) < (j : Int) := by omega
          have HQ := hide (HI.out d rfl N a len cap zs wr DD.out)
          go_wp2_with fail
          refine HQ.out.mono ?_
          rintro e w6 ⟨⟨n, tk, an, cn, rfl, htk, gk, hz⟩, dx6, g6⟩
          have z6 := g6.size
          have b7 : Below w6.heap.size w6 ((w6.alloc (Obj.cells #[.string n.ns, .string n.nm, .string n.tx, .slice an n.ks.length cn] 26)).alloc (Obj.cells #[.string n.ns, .string n.nm, .string n.tx, .slice an n.ks.length cn] 26)) := ((Below.refl w6.heap.size w6).alloc (Nat.le_refl _) (Obj.cells #[.string n.ns, .string n.nm, .string n.tx, .slice an n.ks.length cn] 26)).alloc (by simp) (Obj.cells #[.string n.ns, .string n.nm, .string n.tx, .slice an n.ks.length cn] 26)
          have b7a : Below w6.heap.size w6 (w6.alloc (Obj.cells #[.string n.ns, .string n.nm, .string n.tx, .slice an n.ks.length cn] 26)) := (Below.refl w6.heap.size w6).alloc (Nat.le_refl _) (Obj.cells #[.string n.ns, .string n.nm, .string n.tx, .slice an n.ks.length cn] 26)
          have BM6 := BM.out.grown g6 (by omega)
          have BM7 := hide (BM6.next b7 (by omega))
          have BR7 := hide ((BR.out.grown g6 (by omega)).next b7 (by omega))
          have GK7 := hide ((GK.out.grown g6 (by omega)).next b7)
          have D7 := hide ((dx6.alloc (Obj.cells #[.string n.ns, .string n.nm, .string n.tx, .slice an n.ks.length cn] 26)).alloc (Obj.cells #[.string n.ns, .string n.nm, .string n.tx, .slice an n.ks.length cn] 26))
          have GR7 := hide (grownR_below (grownR_trans GR.out g6) (b7.mono (by omega)))
          have hon : OwnK w6 an n.ks (Ivl wr.heap.size w6.heap.size) := by
            obtain ⟨a9, c9, e9, o9⟩ := gk.done
            injection e9 with i1 i2 i3
            rw [htk] at o9
            rw [i1]; exact o9
          have HO7 := hide (OwnK.wide (hon.stays b7 (fun x hx => hx.2)) (T := Ivl wr.heap.size ((w6.alloc (Obj.cells #[.string n.ns, .string n.nm, .string n.tx, .slice an n.ks.length cn] 26)).alloc (Obj.cells #[.string n.ns, .string n.nm, .string n.tx, .slice an n.ks.length cn] 26)).heap.size) (fun x hx => by unfold Ivl at hx ⊢; simp at hx ⊢; omega))
          have m3a := BM6.c3
          have m3b := (BM6.next b7a (by omega)).c3
          have HZ := hide hz
          clear gk htk hon dx6 g6 b7 b7a BM6 HQ hz
          go_wp2_with (at_builtin; refine wp_append_node rfl _ _ rfl (M + 1) wr.heap.size _ ts rfl GK7.out _ n an cn rfl ?c0 ?c1 ?c2 ?c3 ?c4 ?c5 ?c6 ?_)
          case c0 => simp
          case c1 => simp
          case c2 => simp
          case c3 => simp
          case c4 => omega
          case c5 => omega
          case c6 => exact HO7.out
          intro g8 c8 w8 o8 b8
          have hz8 : M + 1 ≤ ((w6.alloc (Obj.cells #[.string n.ns, .string n.nm, .string n.tx, .slice an n.ks.length cn] 26)).alloc (Obj.cells #[.string n.ns, .string n.nm, .string n.tx, .slice an n.ks.length cn] 26)).heap.size := by simp; omega
          have BM8 := BM7.out.next b8 (by omega)
          have BM9 := hide (BM8.set3 (.slice (some ⟨g8, 0, none⟩) (ts.length + 1) c8))
          have BR9 := hide ((BR7.out.next b8 (by omega)).other (b' := M) (k := 3) (.slice (some ⟨g8, 0, none⟩) (ts.length + 1) c8) (by omega))
          have GK9 := hide (o8.store ⟨M, 3, none⟩ (.slice (some ⟨g8, 0, none⟩) (ts.length + 1) c8) (by show M < M + 1; omega))
          have D9 := hide ((D7.out.other (w' := w8) b8.size (fun i hi => b8.block i (by omega))).set (b := M) (k := 3) (.slice (some ⟨g8, 0, none⟩) (ts.length + 1) c8) (by omega))
          have GR9 := hide (grownR_setB (b := M) (k := 3) (grownR_below GR7.out (b8.mono (by omega))) (.slice (some ⟨g8, 0, none⟩) (ts.length + 1) c8) (by omega))
          have x3 := BM8.c3
          have xz := BM8.fz
          clear o8 b8 BM7 BR7 GK7 D7 GR7 HO7 m3a m3b BM8 hz8
          go_wp2
          go_roundw
          case rel => exact ⟨j - 1, ts ++ [(n, an, cn)], some ⟨g8, 0, none⟩, c8, by go_num, by simp; omega, (fun t ht => (List.mem_append.1 ht).elim (HTS.out t) (fun h => by rw [List.mem_singleton.1 h]; exact HZ.out)), by rw [List.length_append]; exact BM9.out, BR9.out, by have := GK9.out; rw [List.length_append]; simpa using this, D9.out, GR9.out⟩
          case measure => simp [intOf]; omega
        · have hj' : ¬ (0 : Int) < (j : Int) := by omega
          have HR : Hid (∀ W : World, W = (((wr.setCell ⟨w.heap.size, 0, none⟩ (.string s1)).setCell ⟨w.heap.size, 1, none⟩ (.string s2)).setCell ⟨w.heap.size, 2, none⟩ (.string ⟨#[]⟩)).setCell ⟨w.heap.size, 3, none⟩ (.slice av ts.length cv) → NdD w W (bd (d + 1)) (.returned (.agg #[.string s1, .string s2, .string ⟨#[]⟩, .slice av ts.length cv])) ∧ DX W N a len cap zs ∧ w.grownBy W (some N)) := by
            rintro W rfl
            refine ⟨⟨.mk s1 s2 ⟨#[]⟩ (ts.map (·.1)), ts, av, cv, by simp [Nd.ns, Nd.nm, Nd.tx, Nd.ks], rfl, ?_, ?_⟩, ?_, ?_⟩
            · have h9 := ((((GK.out.store ⟨w.heap.size, 0, none⟩ (.string s1) (by show w.heap.size < M + 1; omega)).store ⟨w.heap.size, 1, none⟩ (.string s2) (by show w.heap.size < M + 1; omega)).store ⟨w.heap.size, 2, none⟩ (.string ⟨#[]⟩) (by show w.heap.size < M + 1; omega)).store ⟨w.heap.size, 3, none⟩ (.slice av ts.length cv) (by show w.heap.size < M + 1; omega)).low (B' := w.heap.size) (by omega)
              simpa [Nd.ks] using h9
            · rw [Nd.szN, bd]
              have hb := szL_le ts (bd d) HTS.out
              have h0 : (⟨#[]⟩ : ByteArray).size = 0 := rfl
              simp
              have : ts.length * bd d ≤ 2 * bd d := Nat.mul_le_mul_right _ (by omega)
              omega
            · exact (((DD.out.set _ hNl).set _ hNl).set _ hNl).set _ hNl
            · exact grownR_setB (grownR_setB (grownR_setB (grownR_setB GR.out _ (Nat.le_refl _)) _ (Nat.le_refl _)) _ (Nat.le_refl _)) _ (Nat.le_refl _)
          have HR' := hide (HR.out _ rfl)
          obtain ⟨_, m0, m1, m2, m3, mz⟩ := BM.out
          obtain ⟨_, r0, r1, r2, r3, rz⟩ := BR.out
          clear HR
          go_wp2
          refine bodyPost_ret (v := .agg #[.string s1, .string s2, .string ⟨#[]⟩, .slice av ts.length cv]) (by simp [results, Tryz.results26, go_sem, r0, r1, r2, r3]) rfl HR'.out
theorem l8Draw_all : ∀ d, d ≤ 100 → DrS d
  | 0, h => l8Draw_step 0 h (fun d' e => by omega)
  | d + 1, h => l8Draw_step (d + 1) h (fun d' e => by
      have hdd : d = d' := by omega
      subst hdd
      exact l8Draw_all d (by omega))
end Go.Proofs.YtccehdlgpbeijaaGreatDoor
