/-
  What the program's PutChunks does.
-/
import Derived.Test.YtanebchmeaomgaaGreatDoorPiecesOf
import Derived.Test.YtanebchmeaomgaaGreatDoorPutChunk
namespace Go.Proofs.YtanebchmeaomgaaGreatDoor
open Go.RowKit Go.Shelf M
set_option linter.unusedVariables false
attribute [local go_sem] Oper.semAt_some

/-- The text of the pieces that have come. -/
def pcsT (pre : List ByteArray) : List UInt8 := pre.flatMap fun x => chTxt x.data.toList
theorem pcsT_snoc (pre : List ByteArray) (x : ByteArray) : pcsT (pre ++ [x]) = pcsT pre ++ chTxt x.data.toList := by simp [pcsT]
theorem pcsT_all (ns : List Int) (s : ByteArray) : pcsT (pcsB ns s) = pcsTxt ns s.data.toList := by
  unfold pcsT pcsB pcsTxt
  rw [List.flatMap_map]
  rfl
theorem pcsT_len (pre : List Pc) : (pcsT (vals pre)).length ≤ pre.length * 1048596 := by
  induction pre with
  | nil => simp [pcsT, vals]
  | cons x r ih =>
    have h1 := chTxt_len x.1.data.toList
    have h2 : x.1.data.toList.length = x.1.size := Array.length_toList
    have h3 := x.2
    have e : pcsT (vals (x :: r)) = chTxt x.1.data.toList ++ pcsT (vals r) := by simp [pcsT, vals]
    rw [e, List.length_append, List.length_cons, Nat.succ_mul]
    omega
theorem pcsB_count (ns : List Int) (s : ByteArray) : (pcsB ns s).length ≤ s.size := by
  have h1 := pcsC_ne ns s.data.toList
  have h2 := pcsC_sum ns s.data.toList
  have e : s.data.toList.length = s.size := Array.length_toList
  unfold pcsB
  rw [List.length_map]
  have : ∀ ps : List (List UInt8), (∀ m ∈ ps, m ≠ []) → ps.length ≤ ps.flatten.length := by
    intro ps
    induction ps with
    | nil => simp
    | cons m ps ih =>
      intro h
      have a1 : 0 < m.length := List.length_pos_iff.2 (h m (by simp))
      have a2 := ih (fun x hx => h x (by simp [hx]))
      simp only [List.length_cons, List.flatten_cons, List.length_append]
      omega
  have h3 := this _ h1
  rw [h2] at h3
  omega
theorem OwnY.notBox {w : World} {B b : Nat} {v u : Value} {l : List UInt8} (h : OwnY w B v l) (hb : Boxed w b 22 u) : some b ≠ v.ownBlock := by
  obtain ⟨g, cap, cur, fz, rfl, hB, hg, _⟩ := h
  intro e
  simp [Value.ownBlock] at e
  subst e
  rw [show w.heap[b]? = _ from hb] at hg
  simp at hg
theorem OwnY.cells {w : World} {B : Nat} {v : Value} {l : List UInt8} (h : OwnY w B v l) : ∀ (j : Nat) (o : Obj), v.ownBlock = some j → w.heap[j]? = some o → o.isCells = true := by
  obtain ⟨g, cap, cur, fz, rfl, hB, hg, _⟩ := h
  intro j o e ho
  simp [Value.ownBlock] at e
  subst e
  rw [hg] at ho
  cases ho
  rfl
theorem OwnY.kept {w w' : World} {B : Nat} {v : Value} {l : List UInt8} {r : Option Nat} (h : OwnY w B v l) (hg : w.grownBy w' r) (hne : ∀ k, v.ownBlock = some k → some k ≠ r) : OwnY w' B v l := by
  obtain ⟨g, cap, cur, fz, rfl, hB, hg0, hr⟩ := h
  exact ⟨g, cap, cur, fz, rfl, hB, (hg.block g (Array.getElem?_eq_some_iff.1 hg0).1 (hne g rfl)).trans hg0, hr⟩

/-- Between two rounds: a box holds the row of what has come. -/
def PcsI (w : World) (b : Nat) (pre : List Pc) (W : World) : Prop := (∃ v, Boxed W b 22 v ∧ OwnY W w.heap.size v (pcsT (vals pre))) ∧ Below w.heap.size w W
theorem PcsI.own (w : World) (b C : Nat) (hC : w.heap.size ≤ C) : OwnFrom C (PcsI w b) := by
  refine OwnFrom.and (Own.from ?_ _) (ownFrom_below (Nat.le_refl _) hC)
  rintro s X Y row ⟨v, hv, ho⟩ hg hr
  refine ⟨v, hv.kept hg (fun e => ?_), ho.kept hg (fun k e e' => ?_)⟩
  · obtain ⟨o, h1, h2⟩ := hr b e.symm
    rw [show X.heap[b]? = _ from hv] at h1; cases h1; cases h2
  · obtain ⟨o, h1, h2⟩ := hr k e'.symm
    rw [ho.cells k o e h1] at h2; cases h2

set_option maxRecDepth 100000 in
set_option maxHeartbeats 2000000 in
theorem putChunks_any (s : ByteArray) (a : Option Addr) (ns : List Int) (cap B : Nat) (w : World) (hI : Ints w B a ns) (hB : B ≤ w.heap.size) (hs : s.size ≤ 1048576) (hnl : ns.length ≤ 1073741824) (hde : DeTab w) :
    Calls Tryz.prog 55 #[.string s, .slice a ns.length cap] w fun e w' => (∃ v, e = .returned v ∧ OwnY w' w.heap.size v (putCs ns s.data.toList)) ∧ Below w.heap.size w w' := by
  refine (callsIn_wide (n := 3)).1 ?_
  refine callsIn_of_wp_marks Tryz.func55 rfl trivial ?_ rfl
  simp only [Tryz.ntmps55, List.size_toArray, List.length_cons, List.length_nil, Nat.reduceAdd, Nat.reduceSub, Array.replicate_succ, Array.replicate_zero, List.push_toArray, List.append_toArray, List.nil_append, List.cons_append]
  gi_wp2_with (refine ⟨trivial, ?_⟩; gi_at_call 88; refine (piecesOf_in Fence.wide _ trivial rfl s a ns.length cap _).mono ?_; rintro e w' ⟨rfl, rfl⟩)
  have bO := Boxed.new (w.alloc (Obj.cells #[] 5)) 22 (.slice (some ⟨w.heap.size, 0, none⟩) 0 0)
  rw [World.size_alloc] at bO
  have hO := OwnY.bare w
  obtain ⟨W1, hW1⟩ : ∃ W1, (w.alloc (Obj.cells #[] 5)).alloc (Obj.cells #[.slice (some ⟨w.heap.size, 0, none⟩) 0 0] 22) = W1 := ⟨_, rfl⟩
  have hb1 : Below w.heap.size w W1 := by rw [← hW1]; exact ((Below.refl _ w).alloc (Nat.le_refl _) _).alloc (by simp) _
  have hz1 : W1.heap.size = w.heap.size + 1 + 1 := by rw [← hW1]; simp
  have hO1 : OwnY W1 w.heap.size (.slice (some ⟨w.heap.size, 0, none⟩) 0 0) [] := by rw [← hW1]; exact hO.next ((Below.refl _ _).alloc (Nat.le_refl _) _)
  rw [hW1] at bO ⊢
  clear hO hW1
  have bS := Boxed.new W1 9 (.string s)
  have bN := Boxed.new (W1.alloc (Obj.cells #[.string s] 9)) 41 (.slice a ns.length cap)
  have bS2 := bS.alloc (Obj.cells #[.slice a ns.length cap] 41)
  have bO2 := (bO.alloc (Obj.cells #[.string s] 9)).alloc (Obj.cells #[.slice a ns.length cap] 41)
  have hO2 := (hO1.next ((Below.refl _ _).alloc (Nat.le_refl _) (Obj.cells #[.string s] 9))).next ((Below.refl _ _).alloc (Nat.le_refl _) (Obj.cells #[.slice a ns.length cap] 41))
  rw [World.size_alloc] at bN
  have hb2 : Below w.heap.size w ((W1.alloc (Obj.cells #[.string s] 9)).alloc (Obj.cells #[.slice a ns.length cap] 41)) := (hb1.alloc hb1.size _).alloc (by simp; omega) _
  have hz2 : ((W1.alloc (Obj.cells #[.string s] 9)).alloc (Obj.cells #[.slice a ns.length cap] 41)).heap.size = w.heap.size + 4 := by simp; omega
  rw [hz1] at bS2 bN
  obtain ⟨W2, hW2⟩ : ∃ W2, (W1.alloc (Obj.cells #[.string s] 9)).alloc (Obj.cells #[.slice a ns.length cap] 41) = W2 := ⟨_, rfl⟩
  rw [hW2] at bN bS2 bO2 hO2 hb2 hz2 ⊢
  clear hW2 hb1 hO1 bO bS
  have HDe := hide hde
  clear hde
  refine wpIn_rangeFunc_ownG rfl (by omega) (gf := 133) (lb := #[.pointer (some ⟨w.heap.size + 1 + 1, 0, none⟩), .pointer (some ⟨w.heap.size + 1 + 1 + 1, 0, none⟩)]) rfl trivial (enters_of Tryz.func133 (by kernel_rfl) rfl)
    (pieces_stops Fence.wide _ trivial rfl (by omega) (w.heap.size + 1 + 1) (w.heap.size + 1 + 1 + 1) w.heap.size s hs a ns cap hnl W2 (by omega) (by omega) (by omega) bS2.cell bN.cell ((hI.mono hB).below hb2 (Nat.le_refl _))) belowK_t (belowK_b (by omega)) (Below.refl _ _) (fun _ => rfl)
    (PcsI w (w.heap.size + 1))
    (fun _ _ _ => False)
    (PcsI.own w _ _ (by omega))
    (fun _ _ _ _ _ hs _ _ => hs)
    ⟨⟨_, bO2, hO2⟩, hb2⟩
    (fun x => { tmps := #[.string s, .slice a ns.length cap, undef, undef, .slice none 0 0, .pointer (some ⟨w.heap.size + 1, 0, none⟩), .string x.1, .slice (some ⟨w.heap.size, 0, none⟩) 0 0, .string s, .slice a ns.length cap, .func (.func 133) #[] #[.pointer (some ⟨w.heap.size + 1 + 1, 0, none⟩), .pointer (some ⟨w.heap.size + 1 + 1 + 1, 0, none⟩)], .string x.1, undef, undef, undef, undef, undef], defers := [] }) ?assign ?body ?done ?stop
  case assign =>
    intro l x W K hK
    gi_wp2
    exact hK
  case body =>
    rintro l pre x W ⟨⟨v, hv, ho⟩, hb⟩ hlt
    have hcnt := pcsB_count ns s
    have hlen := pcsT_len pre
    have hx := x.2
    have hP := putChunk_any W w.heap.size v (pcsT (vals pre)) x.1 ho hb.size (by omega) (by omega) (HDe.out.below hb)
    rw [← pcsT_snoc, ← vals_snoc] at hP
    have HP := hide hP
    have HBe := hide hb
    have HO := hide ho
    have HV := hide hv
    have hc := hv.cell
    have hfz := hv.frozen
    obtain ⟨g, c, hvv, _⟩ := ho.byt
    subst hvv
    clear hP ho hb hlen hcnt
    gi_wp2_with (refine ⟨trivial, ?_⟩; gi_at_call 89; refine (CallsIn.inRound l (callsIn_wide.2 HP.out)).mono ?_; rintro e w1 ⟨v', rfl, ho1, hg1, hn1⟩; have hv1 := HV.out.kept hg1 (HO.out.notBox HV.out); have hc1 := hv1.cell; have hf1 := hv1.frozen; have HO1 := hide ho1; have HG1 := hide hg1; obtain ⟨g', c', hvv', _⟩ := ho1.byt; subst hvv'; clear ho1 hg1)
    have hgr := grownBy_setCell' w1 (w.heap.size + 1) (Value.slice (some ⟨g', 0, none⟩) (pcsT (vals (pre ++ [x]))).length c')
    have hbl := HO.out.grown HBe.out.size HG1.out
    exact ⟨((KeepsOthers.of_grownBy HG1.out (fun j o => HO.out.cells j o)).trans (KeepsOthers.setCell _ _ _)).from _, hbl.setCell (p := ⟨w.heap.size + 1, 0, none⟩) (Nat.le_succ _) _, ⟨_, hv1.set _, HO1.out.kept hgr (fun k e e' => HO1.out.notBox hv1 (by rw [← e', e]))⟩, HBe.out.trans (hbl.setCell (p := ⟨w.heap.size + 1, 0, none⟩) (Nat.le_succ _) _)⟩
  case done =>
    rintro D xs W hD hxs ⟨⟨v, hv, ho⟩, hb⟩ hK
    rw [show vals xs = pcsB ns s from hxs, pcsT_all] at ho
    have hlen := pcsTxt_len ns s.data.toList
    have es : s.data.toList.length = s.size := Array.length_toList
    have hP := putChunk_any W w.heap.size v _ ⟨#[]⟩ ho hb.size (by omega) (by decide) (HDe.out.below hb)
    rw [show pcsTxt ns s.data.toList ++ chTxt (⟨#[]⟩ : ByteArray).data.toList = putCs ns s.data.toList from rfl] at hP
    have HP := hide hP
    have HBe := hide hb
    have HO := hide ho
    have hc := hv.cell
    have hfz := hv.frozen
    have HK := hide hK
    obtain ⟨g, c, hvv, _⟩ := ho.byt
    subst hvv
    clear hP ho hb hlen hK
    gi_wp2_with (refine ⟨trivial, ?_⟩; gi_at_call 89; refine (callsIn_wide.2 HP.out).mono ?_; rintro e w1 ⟨v', rfl, ho1, hg1, hn1⟩; have HO1 := hide ho1; have HG1 := hide hg1; clear ho1 hg1)
    have hK1 : w1.heap[D]? = some (.deferred (some [])) := (HG1.out.block D (Array.getElem?_eq_some_iff.1 HK.out).1 (fun e => by have := HO.out.cells D _ e.symm HK.out; cases this)).trans HK.out
    refine ⟨by simp, .inl ⟨_, _, rfl, run_takeDeferred hK1, ?_⟩⟩
    have hbl := HO.out.grown HBe.out.size HG1.out
    exact ⟨_, results_tmp rfl _ _ _, ⟨_, rfl, HO1.out.kept (grownBy_putObj' w1 D _) (fun k e e' => by cases e'; have := HO1.out.cells D _ e hK1; cases this)⟩, HBe.out.trans (hbl.trans (belowK_b (w := w) (Nat.le_refl _) w1 D _ _ (by omega) hK1 rfl rfl))⟩
  case stop =>
    rintro D c pre W _ _ h _
    exact h.elim
end Go.Proofs.YtanebchmeaomgaaGreatDoor
