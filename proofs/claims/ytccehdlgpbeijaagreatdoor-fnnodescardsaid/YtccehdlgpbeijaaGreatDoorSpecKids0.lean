/-
  What the specification's l8Kids does: what stands within a node.
-/
import Derived.Test.YtccehdlgpbeijaaGreatDoorSpecGrow
namespace Go.Proofs.YtccehdlgpbeijaaGreatDoor
open Go.RowKit M
set_option linter.unusedVariables false

def wAt (N : Nat) (w : World) : Nat :=
  match w.cell? ⟨N, 2, none⟩ with
  | some (.bool true) => 0
  | _ => match w.cell? ⟨N, 1, none⟩ with
    | some (.int _ n) => (2000 - n).toNat
    | _ => 0
theorem wAt_bad {w : World} {N B : Nat} {all : List Pce} {k : Nat} (h : Sr w N B all k true) : wAt N w = 0 := by unfold wAt; rw [h.c2]
theorem wAt_good {w : World} {N B : Nat} {all : List Pce} {k : Nat} (h : Sr w N B all k false) : wAt N w = 2000 - k := by
  unfold wAt; rw [h.c2, h.c1]; simp only; omega
theorem str_ne8 {a b : ByteArray} (h : ¬ a = b) : (a.toList == b.toList) = false := by
  cases hb : (a.toList == b.toList)
  · rfl
  · exfalso
    have := beq_iff_eq.1 hb
    rw [ByteArray.toList_eq, ByteArray.toList_eq] at this
    exact h (by apply ByteArray.ext; exact Array.ext' this)
theorem data_eta (t : ByteArray) : (⟨t.data.toList.toArray⟩ : ByteArray) = t := by cases t; simp
theorem app_data (t s : ByteArray) : (t ++ s).data.toList = t.data.toList ++ s.data.toList := by simp

/-- How far the kids of a node are read. -/
def KiG (w wr : World) (f k0 : Nat) (all : List Pce) (ns nm : ByteArray) (d N B M : Nat) (t : ByteArray) : Prop :=
  ∃ (g k : Nat) (acc : List Nd) (ts : List NdT) (av : Option Addr) (cv : Nat), g ≤ f ∧ k ≤ all.length ∧ 2 * (all.length - k) + 2 ≤ g ∧ t.size ≤ k * 1048576 ∧ ts.length ≤ k ∧ ts.map (·.1) = acc ∧ sdK f d (all.drop k0) ns nm [] [] = sdK g d (all.drop k) ns nm acc t.data.toList ∧ Sr wr N B all k false ∧ Bx wr M (.string ns) (.string nm) (.string ⟨#[]⟩) (.slice av ts.length cv) ∧ GrowK wr w.heap.size (.slice av ts.length cv) ts wr.heap.size ∧ Two w wr N M
def KiB (w wr : World) (f k0 : Nat) (all : List Pce) (ns nm : ByteArray) (d N B M : Nat) : Prop :=
  sdK f d (all.drop k0) ns nm [] [] = none ∧ (∃ k', k' ≤ all.length ∧ Sr wr N B all k' true) ∧ (∃ (v0 v1 v2 : ByteArray) (a : Option Addr) (n c : Nat), Bx wr M (.string v0) (.string v1) (.string v2) (.slice a n c)) ∧ Two w wr N M
theorem sdK_end (f d : Nat) (ns nm : ByteArray) (acc : List Nd) (t : List UInt8) : sdK f d [] ns nm acc t = none := by cases f <;> rw [sdK]
theorem sdK_two (f d : Nat) (p : Pce) (r : List Pce) (ns nm : ByteArray) (acc : List Nd) (t : List UInt8) (hf : 1 ≤ f) (h2 : p.k = 2) : sdK f d (p :: r) ns nm acc t = (if p.name = nm then (if acc = [] then some (.mk ns nm ⟨t.toArray⟩ [], r) else if trimL t = [] then some (.mk ns nm ⟨#[]⟩ acc, r) else none) else none) := by
  obtain ⟨g, rfl⟩ : ∃ g, f = g + 1 := ⟨f - 1, by omega⟩
  rw [sdK, if_pos h2]
theorem sdK_four (f d : Nat) (p : Pce) (r : List Pce) (ns nm : ByteArray) (acc : List Nd) (t : List UInt8) (hf : 1 ≤ f) (h4 : p.k = 4) : sdK f d (p :: r) ns nm acc t = sdK (f - 1) d r ns nm acc (t ++ p.s.data.toList) := by
  obtain ⟨g, rfl⟩ : ∃ g, f = g + 1 := ⟨f - 1, by omega⟩
  rw [sdK, if_neg (by rw [h4]; decide), if_pos h4]
  rfl
theorem sdK_no (f d : Nat) (p : Pce) (r : List Pce) (ns nm : ByteArray) (acc : List Nd) (t : List UInt8) (hf : 1 ≤ f) (h2 : ¬ p.k = 2) (h4 : ¬ p.k = 4) (hn : sdN (f - 1) d (p :: r) ns = none) : sdK f d (p :: r) ns nm acc t = none := by
  obtain ⟨g, rfl⟩ : ∃ g, f = g + 1 := ⟨f - 1, by omega⟩
  rw [sdK, if_neg h2, if_neg h4]
  simp only [Nat.add_sub_cancel] at hn
  rw [hn]
theorem sdK_yes (f d : Nat) (p : Pce) (r : List Pce) (ns nm : ByteArray) (acc : List Nd) (t : List UInt8) (hf : 1 ≤ f) (h2 : ¬ p.k = 2) (h4 : ¬ p.k = 4) (n : Nd) (r1 : List Pce) (hn : sdN (f - 1) d (p :: r) ns = some (n, r1)) : sdK f d (p :: r) ns nm acc t = sdK (f - 1) d r1 ns nm (acc ++ [n]) t := by
  obtain ⟨g, rfl⟩ : ∃ g, f = g + 1 := ⟨f - 1, by omega⟩
  rw [sdK, if_neg h2, if_neg h4]
  simp only [Nat.add_sub_cancel] at hn ⊢
  rw [hn]

theorem kid_keep {w6 W7 w8 : World} {base lo l u g8 : Nat} {v : Value} {ts : List NdT} {a5 : Option Addr} {ks : List Nd} (O6 : OwnK w6 a5 ks (Ivl l u)) (hl : lo ≤ l) (hu : u ≤ w6.heap.size) (b7 : Below w6.heap.size w6 W7) (G7 : GrowK W7 base v ts lo) (gr : W7.grownBy w8 v.ownBlock) (hat : some g8 = v.ownBlock ∨ g8 = W7.heap.size) : OwnK w8 a5 ks (fun y => Ivl lo w8.heap.size y ∧ y ≠ g8) := by
  have z7 := b7.size
  have z8 := gr.size
  have hS : ∀ y, Ivl l u y → y < w6.heap.size ∧ some y ≠ v.ownBlock := fun y hy => by
    unfold Ivl at hy
    exact ⟨by omega, fun e => by have := G7.blk y e.symm; omega⟩
  have hb : ∀ y, Ivl l u y → w8.heap[y]? = w6.heap[y]? := fun y hy => (gr.block y (by have := (hS y hy).1; omega) (hS y hy).2).trans (b7.block y (hS y hy).1)
  refine OwnK.wide (O6.keep (fun y o hy => World.cell?_of_block (a := ⟨y, o, none⟩) (hb y hy)) (fun y o hy => World.frozen?_of_block (a := ⟨y, o, none⟩) (hb y hy))) (fun y hy => ⟨?_, fun e => ?_⟩)
  · have := (hS y hy).1
    unfold Ivl at hy ⊢
    omega
  · subst e
    rcases hat with e | e
    · exact (hS y hy).2 e
    · have := (hS y hy).1; omega

/-- How the memory stands behind the growing: either order of the two stores. -/
def putA (w8 : World) (M g8 n c8 : Nat) (v0 v1 v2 v3 : Value) : World := ((((w8.setCell ⟨g8, n * 4, none⟩ v0).setCell ⟨g8, n * 4 + 1, none⟩ v1).setCell ⟨g8, n * 4 + 2, none⟩ v2).setCell ⟨g8, n * 4 + 3, none⟩ v3).setCell ⟨M, 3, none⟩ (.slice (some ⟨g8, 0, none⟩) (n + 1) c8)
def putB (w8 : World) (M g8 n c8 : Nat) (v0 v1 v2 v3 : Value) : World := ((((w8.setCell ⟨M, 3, none⟩ (.slice (some ⟨g8, 0, none⟩) (n + 1) c8)).setCell ⟨g8, n * 4, none⟩ v0).setCell ⟨g8, n * 4 + 1, none⟩ v1).setCell ⟨g8, n * 4 + 2, none⟩ v2).setCell ⟨g8, n * 4 + 3, none⟩ v3
theorem put_rest {w w6 w8 : World} {N B M g8 n c8 k5 cv : Nat} {bad : Bool} {all : List Pce} {av : Option Addr} {ns nm : ByteArray} {lo : Nat} {ts : List NdT} (v0 v1 v2 v3 : Value) (S6 : Sr w6 N B all k5 bad) (X6 : Bx w6 M (.string ns) (.string nm) (.string ⟨#[]⟩) (.slice av n cv)) (T6 : Two w w6 N M) (b : Below w.heap.size w6 w8) (z : GrowZ w8 w.heap.size g8 c8 ts lo) (hN : N < w.heap.size) (hM : M < w.heap.size) (hBM : B ≤ M) (hNM : N ≠ M) :
    (Sr (putA w8 M g8 n c8 v0 v1 v2 v3) N B all k5 bad ∧ Bx (putA w8 M g8 n c8 v0 v1 v2 v3) M (.string ns) (.string nm) (.string ⟨#[]⟩) (.slice (some ⟨g8, 0, none⟩) (n + 1) c8) ∧ Two w (putA w8 M g8 n c8 v0 v1 v2 v3) N M) ∧
    (Sr (putB w8 M g8 n c8 v0 v1 v2 v3) N B all k5 bad ∧ Bx (putB w8 M g8 n c8 v0 v1 v2 v3) M (.string ns) (.string nm) (.string ⟨#[]⟩) (.slice (some ⟨g8, 0, none⟩) (n + 1) c8) ∧ Two w (putB w8 M g8 n c8 v0 v1 v2 v3) N M) := by
  have hg := z.lt
  have hB := S6.hB
  have S8 := S6.nextB b hN
  have X8 := X6.next b hM
  have T8 := T6.below b
  refine ⟨⟨?_, ?_, ?_⟩, ?_, ?_, ?_⟩
  · exact ((((S8.other (by omega) (by omega) _).other (by omega) (by omega) _).other (by omega) (by omega) _).other (by omega) (by omega) _).other hBM hNM _
  · exact ((((X8.other _ (by omega)).other _ (by omega)).other _ (by omega)).other _ (by omega)).set3 _
  · exact ((((T8.setB _ hg.1).setB _ hg.1).setB _ hg.1).setB _ hg.1).setM _
  · exact ((((S8.other hBM hNM _).other (by omega) (by omega) _).other (by omega) (by omega) _).other (by omega) (by omega) _).other (by omega) (by omega) _
  · exact ((((X8.set3 _).other _ (by omega)).other _ (by omega)).other _ (by omega)).other _ (by omega)
  · exact ((((T8.setM _).setB _ hg.1).setB _ hg.1).setB _ hg.1).setB _ hg.1
theorem put_grow {w w8 : World} {M g8 n c8 c5 : Nat} {lo : Nat} {ts : List NdT} {a5 : Option Addr} (x : Nd) (hn : ts.length = n) (z : GrowZ w8 w.heap.size g8 c8 ts lo) (hkid : OwnK w8 a5 x.ks (fun y => Ivl lo w8.heap.size y ∧ y ≠ g8)) (hM : M < w.heap.size) :
    GrowK (putA w8 M g8 n c8 (.string x.ns) (.string x.nm) (.string x.tx) (.slice a5 x.ks.length c5)) w.heap.size (.slice (some ⟨g8, 0, none⟩) (n + 1) c8) (ts ++ [(x, a5, c5)]) (putA w8 M g8 n c8 (.string x.ns) (.string x.nm) (.string x.tx) (.slice a5 x.ks.length c5)).heap.size ∧
    GrowK (putB w8 M g8 n c8 (.string x.ns) (.string x.nm) (.string x.tx) (.slice a5 x.ks.length c5)) w.heap.size (.slice (some ⟨g8, 0, none⟩) (n + 1) c8) (ts ++ [(x, a5, c5)]) (putB w8 M g8 n c8 (.string x.ns) (.string x.nm) (.string x.tx) (.slice a5 x.ks.length c5)).heap.size := by
  subst hn
  have hg := z.lt
  constructor
  · have h := (z.fill x a5 c5 hkid).store ⟨M, 3, none⟩ (.slice (some ⟨g8, 0, none⟩) (ts.length + 1) c8) (by exact hM)
    have e : (putA w8 M g8 ts.length c8 (.string x.ns) (.string x.nm) (.string x.tx) (.slice a5 x.ks.length c5)).heap.size = w8.heap.size := by simp [putA]
    rw [e]; exact h
  · have hs : (w8.setCell ⟨M, 3, none⟩ (.slice (some ⟨g8, 0, none⟩) (ts.length + 1) c8)).heap.size = w8.heap.size := by simp
    have h := (z.store ⟨M, 3, none⟩ (.slice (some ⟨g8, 0, none⟩) (ts.length + 1) c8) (by exact hM)).fill x a5 c5 (by
      rw [hs]
      exact hkid.setC _ (fun y hy => by
        have := hy.1
        have hz := z.kids
        obtain ⟨h, h0, hm, hk, _⟩ := hz
        have hc := chainN hm 0 ts.length (Nat.zero_le _) (Nat.le_refl _)
        unfold Ivl at this
        omega))
    have e : (putB w8 M g8 ts.length c8 (.string x.ns) (.string x.nm) (.string x.tx) (.slice a5 x.ks.length c5)).heap.size = w8.heap.size := by simp [putB]
    rw [hs] at h
    rw [e]; exact h

/-- What a reading of one node leaves, bad or good. -/
def RdI (w w' : World) (all : List Pce) (x : Option (Nd × List Pce)) (v0 v1 v2 : ByteArray) (a : Option Addr) (n k' : Nat) (bad : Bool) : Prop :=
  (x = none ∧ bad = true) ∨ (∃ nd r, x = some (nd, r) ∧ bad = false ∧ v0 = nd.ns ∧ v1 = nd.nm ∧ v2 = nd.tx ∧ n = nd.ks.length ∧ OwnK w' a nd.ks (Ivl w.heap.size w'.heap.size) ∧ all.drop k' = r)
theorem ret_parts {w w' : World} {N B : Nat} {all : List Pce} {x : Option (Nd × List Pce)} {e : Ending} (h : SrRet w w' N B all x e) : ∃ (v0 v1 v2 : ByteArray) (a : Option Addr) (n c k' : Nat) (bad : Bool), e = .returned (.agg #[.string v0, .string v1, .string v2, .slice a n c]) ∧ k' ≤ all.length ∧ Sr w' N B all k' bad ∧ RdI w w' all x v0 v1 v2 a n k' bad := by
  cases x with
  | none =>
    obtain ⟨⟨v0, v1, v2, a, n, c, he⟩, k', hk', hs⟩ := h
    exact ⟨v0, v1, v2, a, n, c, k', true, he, hk', hs, .inl ⟨rfl, rfl⟩⟩
  | some y =>
    obtain ⟨nd, r⟩ := y
    obtain ⟨⟨a, c, he, ho⟩, k', hk', hr, hs⟩ := h
    exact ⟨nd.ns, nd.nm, nd.tx, a, nd.ks.length, c, k', false, he, hk', hs, .inr ⟨nd, r, rfl, rfl, rfl, rfl, rfl, rfl, ho, hr⟩⟩
theorem kids_end {w wr wC w5 w6 W7 w8 : World} {f k0 g k k5 d N B M n5 c5 g8 n c8 lo cv : Nat} {bad5 : Bool} {all : List Pce} {ns nm v0 v1 v2 t : ByteArray} {acc : List Nd} {ts : List NdT} {a5 av : Option Addr} {p : Pce}
    (hsd : sdK f d (all.drop k0) ns nm [] [] = sdK g d (all.drop k) ns nm acc t.data.toList) (hdr : all.drop k = p :: all.drop (k + 1)) (hk2 : ¬ p.k = 2) (hk4 : ¬ p.k = 4)
    (hR : RdI wC w5 all (sdN (g - 1) d (all.drop k) ns) v0 v1 v2 a5 n5 k5 bad5) (hk5 : k5 ≤ all.length) (hlt : k < all.length) (hal : all.length ≤ 1000) (hgf : g ≤ f) (hg2 : 2 * (all.length - k) + 2 ≤ g) (htz : t.size ≤ k * 1048576) (htl : ts.length ≤ k) (hta : ts.map (·.1) = acc) (hn : ts.length = n)
    (S6 : Sr w6 N B all k5 bad5) (X6 : Bx w6 M (.string ns) (.string nm) (.string ⟨#[]⟩) (.slice av n cv)) (T6 : Two w w6 N M) (hNlt : N < w.heap.size) (hMlt : M < w.heap.size) (hBM : B ≤ M) (hNM : N ≠ M)
    (b6 : Below w5.heap.size w5 w6) (b7 : Below w6.heap.size w6 W7) (G7 : GrowK W7 w.heap.size (.slice av n cv) ts lo) (hlo : lo ≤ wC.heap.size) (hms : wAt N wr = 2000 - k)
    (z : GrowZ w8 w.heap.size g8 c8 ts lo) (gr : W7.grownBy w8 (Value.slice av n cv).ownBlock) (hat : some g8 = (Value.slice av n cv).ownBlock ∨ g8 = W7.heap.size) (hb : Below w.heap.size W7 w8)
    (F : World) (hF : F = putA w8 M g8 n c8 (.string v0) (.string v1) (.string v2) (.slice a5 n5 c5) ∨ F = putB w8 M g8 n c8 (.string v0) (.string v1) (.string v2) (.slice a5 n5 c5)) :
    (KiG w F f k0 all ns nm d N B M t ∨ KiB w F f k0 all ns nm d N B M) ∧ wAt N F < wAt N wr := by
  have hz6 : w.heap.size ≤ w6.heap.size := T6.size
  have hRest := put_rest (.string v0) (.string v1) (.string v2) (.slice a5 n5 c5) S6 X6 T6 ((b7.mono hz6).trans hb) z hNlt hMlt hBM hNM
  have h3 : Sr F N B all k5 bad5 ∧ Bx F M (.string ns) (.string nm) (.string ⟨#[]⟩) (.slice (some ⟨g8, 0, none⟩) (n + 1) c8) ∧ Two w F N M := by
    rcases hF with rfl | rfl
    · exact hRest.1
    · exact hRest.2
  obtain ⟨sF, xF, tF⟩ := h3
  rcases hR with ⟨hx, rfl⟩ | ⟨nd, r, hx, rfl, rfl, rfl, rfl, rfl, ho, hr⟩
  · refine ⟨.inr ⟨?_, ⟨k5, hk5, sF⟩, ⟨_, _, _, _, _, _, xF⟩, tF⟩, ?_⟩
    · rw [hsd, hdr]
      exact sdK_no g d _ _ ns nm acc _ (by omega) hk2 hk4 (by rw [← hdr]; exact hx)
    · rw [wAt_bad sF, hms]; omega
  · have hlen := (sd_len _).1 _ _ _ _ _ hx
    have hl2 := congrArg List.length hr
    rw [List.length_drop] at hlen hl2
    have hkk : k < k5 := by omega
    have hgrow := put_grow (M := M) (c5 := c5) nd hn z (kid_keep (ho.stays b6 (fun y hy => hy.2)) hlo b6.size b7 G7 gr hat) hMlt
    have gF : GrowK F w.heap.size (.slice (some ⟨g8, 0, none⟩) (n + 1) c8) (ts ++ [(nd, a5, c5)]) F.heap.size := by
      rcases hF with rfl | rfl
      · exact hgrow.1
      · exact hgrow.2
    have hts' : (ts ++ [(nd, a5, c5)]).length = n + 1 := by rw [List.length_append, hn]; rfl
    have hq1 : 2 * (all.length - k5) + 2 ≤ g - 1 := by omega
    have hq2 : t.size ≤ k5 * 1048576 := Nat.le_trans htz (Nat.mul_le_mul_right _ (Nat.le_of_lt hkk))
    have hq3 : n + 1 ≤ k5 := by omega
    refine ⟨.inl ⟨g - 1, k5, acc ++ [nd], ts ++ [(nd, a5, c5)], some ⟨g8, 0, none⟩, c8, Nat.le_trans (Nat.sub_le _ _) hgf, hk5, hq1, hq2, by rw [hts']; exact hq3, by rw [List.map_append, hta]; rfl, ?_, sF, by rw [hts']; exact xF, by rw [hts']; exact gF, tF⟩, ?_⟩
    · rw [hr, hsd, hdr]
      exact sdK_yes g d _ _ ns nm acc _ (by omega) hk2 hk4 nd r (by rw [← hdr]; exact hx)
    · rw [wAt_good sF, hms]; omega

end Go.Proofs.YtccehdlgpbeijaaGreatDoor
