/-
  What a turn of the program hands back; one path as a list of paths.
  What stays and comes, from an earlier block on.
  What impl.propsAt does.
  What impl.PutFile does.
  What a put leaves: it is found, and all else stays. No program in sight.
  A slice of integers as the row hands it in.
  Codes that are too long; what stays below what was there.
  The bytes of a draw as the row hands them in.
-/
import Derived.Test.YtafdbnadakclnaaGreatAskRef
import Derived.Test.YtafdbnadakclnaaGreatPathTextI
import Derived.Test.YtafdbnadakclnaaGreatTaken
import Derived.Test.YtafdbnadakclnaaGreatMathMake
import Derived.Test.YtafdbnadakclnaaGreatRefused1
import Derived.Test.YtafdbnadakclnaaGreatMathOps
import Derived.Test.YtafdbnadakclnaaGreatSameTexts
import Derived.Test.YtafdbnadakclnaaGreatRows
import Derived.OpenShut
import Derived.WalkKit
import Derived.WalkSpells
import Derived.WalkLawsBesides
import Derived.Test.YtafdbnadakclnaaGreatDrawC
namespace Go.Proofs.YtafdbnadakclnaaGreat
open Go.RowKit M
/-- Things handed back that one call made, and a code. -/
def GaveIs (w w' : World) (e : Ending) (rs : List Rs) (c : Int) : Prop := ∃ (g cap : Nat) (pb qb : Nat → Nat), e = .returned (.tuple #[.slice (some ⟨g, 0, none⟩) rs.length cap, .int .i64 c]) ∧ OwnR w' w.heap.size w'.heap.size g rs pb qb

theorem PathsAt.one {w : World} {b : Option Addr} {p : List ByteArray} {cap C : Nat} (h : Strs w C b p) (hC : C ≤ w.heap.size) (hs : Short p) (hl : p.length ≤ maxLen) : PathsAt (w.alloc (Obj.cells #[.slice b p.length cap] 25)) w.heap.size [(p, b, cap)] := by
  have hb := (Below.refl w.heap.size w).alloc (Nat.le_refl _) (Obj.cells #[.slice b p.length cap] 25)
  refine ⟨by simp, fun j hj => ?_, fun j hj => ?_⟩
  · obtain rfl : j = 0 := by simp at hj; omega
    simp
  · obtain rfl : j = 0 := by simp at hj; omega
    exact ⟨(h.below hb hC).mono (by simp; omega), hs, hl⟩

theorem OwnR.down {w : World} {lo lo' hi g : Nat} {rs : List Rs} {pb qb : Nat → Nat} (h : OwnR w lo hi g rs pb qb) (hl : lo' ≤ lo) : OwnR w lo' hi g rs pb qb :=
  ⟨Nat.le_trans hl h.gl, h.gh, h.gs, h.fz, h.cl, h.rp, h.rq, fun j hj => by obtain ⟨k1, k2⟩ := h.bnd j hj; exact ⟨Nat.le_trans hl k1, k2⟩, h.ord⟩
end Go.Proofs.YtafdbnadakclnaaGreat
namespace Go.Proofs.YtafdbnadakclnaaGreat
open Go.RowKit M
theorem TurnGot.down {W : World} {L L' : Nat} {st cs : List Rs} {g caps g2 : Nat} (h : TurnGot W L st cs g caps g2) (hL : L' ≤ L) : TurnGot W L' st cs g caps g2 := by
  obtain ⟨ts, pb, qb, B1, lo1, B2, hi2, h1, h2, h3, h4, h5, h6, h7, h8, h9⟩ := h
  exact ⟨ts, pb, qb, B1, lo1, B2, hi2, h1, h2, h3, h4, h5, h6, Nat.le_trans hL h7, Nat.le_trans hL h8, h9⟩

end Go.Proofs.YtafdbnadakclnaaGreat
namespace Go.Proofs.YtafdbnadakclnaaGreat
open Go.RowKit M
set_option linter.unusedVariables false

theorem oldPs_atI {rs : List Rs} {p : List ByteArray} (k : Nat) (hk : k < rs.length) (h : findI rs p = k) : oldPs rs p = rs[k].ps := by
  unfold findI at h
  by_cases h' : rs.findIdx (isAt p) < rs.length
  · rw [if_pos h'] at h
    have e : rs.findIdx (isAt p) = k := by omega
    unfold oldPs
    rw [find_of_findIdx h']
    simp [e]
  · rw [if_neg h'] at h; omega
theorem oldPs_noneI {rs : List Rs} {p : List ByteArray} (h : findI rs p < 0) : oldPs rs p = [] := by
  unfold findI at h
  by_cases h' : rs.findIdx (isAt p) < rs.length
  · rw [if_pos h'] at h; omega
  · unfold oldPs
    have : rs.find? (isAt p) = none := by
      rw [List.find?_eq_none]
      intro x hx hq
      exact h' (List.findIdx_lt_length_of_exists ⟨x, hx, hq⟩)
    rw [this]
theorem old_sizes {rs : List Rs} {p : List ByteArray} (h : SzT rs) : (oldPs rs p).length ≤ 1048576 ∧ ∀ x ∈ oldPs rs p, x.1.size ≤ 281474976710656 ∧ x.2.1.size ≤ 281474976710656 ∧ x.2.2.size ≤ 281474976710656 := by
  rcases findI_cases rs p with e | ⟨k, hk, e, _⟩
  · rw [oldPs_noneI (by omega)]
    exact ⟨Nat.zero_le _, fun x hx => by cases hx⟩
  · rw [oldPs_atI k hk e]
    have := h _ (List.getElem_mem hk)
    exact ⟨this.2.1, this.2.2.2.2⟩
theorem old_short {rs : List Rs} {p : List ByteArray} (h : ShortT rs) : ShortPs (oldPs rs p) := by
  rcases findI_cases rs p with e | ⟨k, hk, e, _⟩
  · rw [oldPs_noneI (by omega)]
    exact fun x hx => by cases hx
  · rw [oldPs_atI k hk e]
    exact (h.at k hk).qs

set_option maxHeartbeats 1000000 in
theorem propsAt_any (a : Option Addr) (rs : List Rs) (cap B : Nat) (b : Option Addr) (p : List ByteArray) (capb : Nat) (w : World) (h : Rss w B a rs) (h' : Strs w B b p) (hB : B ≤ w.heap.size) (hl : rs.length ≤ maxLen) (hl' : p.length ≤ maxLen) :
    Calls Tryz.prog 57 #[.slice a rs.length cap, .slice b p.length capb] w fun e w' => (∃ qa qc, e = .returned (.slice qa (oldPs rs p).length qc) ∧ Pps w' B qa (oldPs rs p) ∧ (oldPs rs p).length ≤ qc ∧ qc ≤ maxLen ∧ (qa = none → qc = 0)) ∧ Below w.heap.size w w' := by
  have HF := hide (findRes_any a rs cap B b p capb B w h h' hl hl' hB hB)
  rcases findI_cases rs p with e | ⟨k, hk, e, _⟩
  · rw [e] at HF
    rw [oldPs_noneI (by omega)]
    go_enter Tryz.func57, Tryz.ntmps57
    go_wp2_with fail
    refine HF.out.mono ?_
    rintro e w1 ⟨rfl, b1⟩
    go_wp2
    go_ret
    exact ⟨⟨none, 0, rfl, Pps.nil _ _ _, Nat.zero_le _, Nat.zero_le _, fun _ => rfl⟩, b1⟩
  · rw [e] at HF
    rw [oldPs_atI k hk e]
    have hk1 : (k : Int) < (rs.length : Int) := by omega
    have hk0 : ¬ ((k : Int) < 0) := by omega
    unfold maxLen at hl
    clear e
    go_enter Tryz.func57, Tryz.ntmps57
    go_wp2_with fail
    refine HF.out.mono ?_
    rintro e w1 ⟨rfl, b1⟩
    obtain ⟨b0, o0, rfl, hb0, hcc⟩ := (h.below b1 hB) (by omega)
    obtain ⟨pa, pc, qa, qc, ⟨hc0, hc1, hc2, hc3, hc4⟩, hin⟩ := hcc k hk
    have HIN := hide hin
    clear hcc hin HF
    go_wp2
    go_ret
    exact ⟨⟨qa, qc, rfl, HIN.out.qh, HIN.out.ql, HIN.out.qm, HIN.out.qn⟩, b1⟩
end Go.Proofs.YtafdbnadakclnaaGreat
namespace Go.Proofs.YtafdbnadakclnaaGreat
open Go.RowKit M
set_option linter.unusedVariables false
set_option linter.unusedSimpArgs false

set_option maxRecDepth 100000 in
set_option maxHeartbeats 4000000 in
theorem putFile_any (a : Option Addr) (rs : List Rs) (cap B : Nat) (b o : Nat) (p : List ByteArray) (capb : Nat) (bo : ByteArray) (v : Int) (w : World) (h : Rss w B a rs) (h' : Strs w B (some ⟨b, o, none⟩) p) (hB : B ≤ w.heap.size) (hs : ShortT rs) (hl : rs.length ≤ 1048576) (hz : SzT rs) (hs' : Short p) (hl' : p.length ≤ 1048576) (hpz : ∀ x ∈ p, x.size ≤ 281474976710656) (hc : p.length ≤ capb) (hm : capb ≤ maxLen) (hbo : bo.size ≤ 1048576) :
    Calls Tryz.prog 9 #[.slice a rs.length cap, .slice (some ⟨b, o, none⟩) p.length capb, .string bo, .int .i64 v] w fun e w' => GaveIs w w' e (putFR rs p bo v) (codeM (fileI rs p bo v) (okF (findI rs p))) ∧ Below w.heap.size w w' := by
  have hlm : rs.length ≤ maxLen := by unfold maxLen; omega
  have hlm' : p.length ≤ maxLen := by unfold maxLen; omega
  have hb0 := (Below.refl w.heap.size w).alloc (Nat.le_refl _) (Obj.cells #[.slice (some ⟨b, o, none⟩) p.length capb] 25)
  have hA := askRefused_any a rs cap B v w.heap.size 1 [(p, some ⟨b, o, none⟩, capb)] (by simp) (w.alloc (Obj.cells #[.slice (some ⟨b, o, none⟩) p.length capb] 25)) (h.below hb0 hB) (by simp; omega) hs hlm (PathsAt.one h' hB hs' hlm')
  rw [askI_one] at hA
  have HA := hide hA
  have HB0 := hide hb0
  have y0 := hb0.size
  clear hA hb0
  by_cases hmay : mayI rs p v = 0
  rotate_left
  · obtain ⟨r1, r2⟩ := file_refused (bo := bo) hmay
    have HC := hide (fun W (hb : Below w.heap.size w W) => copyTree_any a rs cap B W (h.below hb hB) (Nat.le_trans hB hb.size) hl hz)
    rw [r1, r2]
    generalize mayI rs p v = M at *
    have e0 : (M == 0) = false := by rw [beq_eq_false_iff_ne]; exact hmay
    clear r1 r2
    go_enter Tryz.func9, Tryz.ntmps9
    go_wp2_with fail
    refine HA.out.mono ?_
    rintro e w1 ⟨rfl, b1⟩
    have c1 := HB0.out.trans (b1.mono HB0.out.size)
    have X1 := hide (HC.out w1 c1)
    clear HA HC b1
    go_wp2_with fail
    refine X1.out.mono ?_
    rintro e w2 ⟨rfl, ⟨pb, qb, hO⟩, b2⟩
    have HO := hide (hO.down c1.size)
    have c2 := c1.trans (b2.mono c1.size)
    clear hO X1 b2
    go_wp2
    go_ret2
    exact ⟨⟨w1.heap.size, rs.length, pb, qb, rfl, HO.out⟩, c2⟩
  have HS := hide (file_says (bo := bo) hmay)
  have HN := hide (file_answers (bo := bo) hmay)
  rw [hmay] at HA
  have hzc : SzT [fileR rs p bo v] := fun r hr => by
    rw [List.mem_singleton.1 hr]
    obtain ⟨o1, o2⟩ := old_sizes (p := p) hz
    exact ⟨hl', o1, hpz, by show bo.size ≤ _; omega, o2⟩
  have hsc : ShortT [fileR rs p bo v] := fun r hr => by
    rw [List.mem_singleton.1 hr]
    obtain ⟨o1, o2⟩ := old_sizes (p := p) hz
    exact ⟨hlm', hs', by show bo.size ≤ _; unfold maxLen; omega, by show (oldPs rs p).length ≤ _; unfold maxLen; omega, old_short hs⟩
  have HPA := hide (fun W (hb : Below w.heap.size w W) => propsAt_any a rs cap B (some ⟨b, o, none⟩) p capb W (h.below hb hB) (h'.below hb hB) (Nat.le_trans hB hb.size) hlm hlm')
  have GO := hide (fun (W : World) (hb : Below w.heap.size w W) (qa : Option Addr) (qc : Nat) (hq1 : Pps W B qa (oldPs rs p)) (hq2 : (oldPs rs p).length ≤ qc) (hq3 : qc ≤ maxLen) (hq4 : qa = none → qc = 0) => show Calls Tryz.prog 58 #[.slice a rs.length cap, .slice (some ⟨b, o, none⟩) p.length capb, .slice (some ⟨W.heap.size + 1, 0, none⟩) 1 1] ((W.alloc (Obj.cells #[.slice (some ⟨b, o, none⟩) p.length capb, .bool false, .string bo, .int .i64 v, .slice qa (oldPs rs p).length qc] 35)).alloc (Obj.cells #[.slice (some ⟨b, o, none⟩) p.length capb, .bool false, .string bo, .int .i64 v, .slice qa (oldPs rs p).length qc] 35)) fun e w' => (∃ g caps g2 : Nat, e = .returned (.agg #[.slice a rs.length cap, .slice (some ⟨b, o, none⟩) p.length capb, .slice (some ⟨g, 0, none⟩) (withoutL rs p).length caps, .slice (some ⟨g2, 0, none⟩) 1 1]) ∧ TurnGot w' w.heap.size (withoutL rs p) [fileR rs p bo v] g caps g2) ∧ Below w.heap.size w w' from by
    have k1 := (Below.refl W.heap.size W).alloc (Nat.le_refl _) (Obj.cells #[.slice (some ⟨b, o, none⟩) p.length capb, .bool false, .string bo, .int .i64 v, .slice qa (oldPs rs p).length qc] 35)
    have k2 := k1.alloc (k1.size) (Obj.cells #[.slice (some ⟨b, o, none⟩) p.length capb, .bool false, .string bo, .int .i64 v, .slice qa (oldPs rs p).length qc] 35)
    have k3 := hb.trans (k2.mono hb.size)
    have hone : Rss ((W.alloc (Obj.cells #[.slice (some ⟨b, o, none⟩) p.length capb, .bool false, .string bo, .int .i64 v, .slice qa (oldPs rs p).length qc] 35)).alloc (Obj.cells #[.slice (some ⟨b, o, none⟩) p.length capb, .bool false, .string bo, .int .i64 v, .slice qa (oldPs rs p).length qc] 35)) ((W.alloc (Obj.cells #[.slice (some ⟨b, o, none⟩) p.length capb, .bool false, .string bo, .int .i64 v, .slice qa (oldPs rs p).length qc] 35)).alloc (Obj.cells #[.slice (some ⟨b, o, none⟩) p.length capb, .bool false, .string bo, .int .i64 v, .slice qa (oldPs rs p).length qc] 35)).heap.size (some ⟨W.heap.size + 1, 0, none⟩) [fileR rs p bo v] := fun _ => by
      refine ⟨W.heap.size + 1, 0, rfl, by simp, fun j hj => ?_⟩
      obtain rfl : j = 0 := by simp at hj; omega
      refine ⟨some ⟨b, o, none⟩, capb, qa, qc, ⟨by simp [go_sem, shelfR, fileR], by simp [go_sem, shelfR, fileR], by simp [go_sem, shelfR, fileR], by simp [go_sem, shelfR, fileR], by simp [go_sem, shelfR, fileR]⟩, ?_⟩
      exact ⟨(h'.below k3 hB).mono (Nat.le_trans hB k3.size), (hq1.of (fun x o' hx => k2.cell (p := ⟨x, o', none⟩) (Nat.lt_of_lt_of_le hx (Nat.le_trans hB hb.size)))).mono (Nat.le_trans hB k3.size), hc, hq2, hm, hq3, (fun e => by cases e), hq4⟩
    have hB3 : B ≤ ((W.alloc (Obj.cells #[.slice (some ⟨b, o, none⟩) p.length capb, .bool false, .string bo, .int .i64 v, .slice qa (oldPs rs p).length qc] 35)).alloc (Obj.cells #[.slice (some ⟨b, o, none⟩) p.length capb, .bool false, .string bo, .int .i64 v, .slice qa (oldPs rs p).length qc] 35)).heap.size := Nat.le_trans hB k3.size
    refine (turnAt_any a rs cap _ (some ⟨b, o, none⟩) p capb (some ⟨W.heap.size + 1, 0, none⟩) [fileR rs p bo v] 1 _ ((h.below k3 hB).mono hB3) ((h'.below k3 hB).mono hB3) hone (Nat.le_refl _) hl hl' (by simp) hz hzc).mono ?_
    rintro e w' ⟨⟨g, caps, g2, he, hT⟩, hb'⟩
    exact ⟨⟨g, caps, g2, he, hT.down k3.size⟩, k3.trans (hb'.mono k3.size)⟩)
  have TK := hide (fun (W : World) (g caps g2 : Nat) (hb : Below w.heap.size w W) (hT : TurnGot W w.heap.size (withoutL rs p) [fileR rs p bo v] g caps g2) => taken_any 1 (fileI rs p bo v) a rs cap B b o p capb g (withoutL rs p) caps g2 [fileR rs p bo v] 1 w.heap.size W (h.below hb hB) (h'.below hb hB) (Nat.le_trans hB hb.size) hT hb.size hl hl' (Nat.le_trans (List.length_filter_le _ _) hl) (by simp) hz (fun W2 hb2 => by
    have hT2 := hT.below hb2
    obtain ⟨q1, q2⟩ := hT2.rss (fun r hr => by
      have := hzc r hr
      unfold maxLen
      omega)
    have hb3 := hb.trans (hb2.mono hb.size)
    have hx := refused1_any a rs cap b o p capb (some ⟨g, 0, none⟩) (withoutL rs p) caps (some ⟨g2, 0, none⟩) [fileR rs p bo v] 1 W2.heap.size W2 ⟨(h.below hb3 hB).mono (Nat.le_trans hB hb3.size), (h'.below hb3 hB).mono (Nat.le_trans hB hb3.size), q1, q2⟩ (Nat.le_refl _) ⟨hl, hl', hpz, hc, hm, Nat.le_trans (List.length_filter_le _ _) hl, by simp, hsc⟩
    rw [HS.out] at hx
    exact hx))
  rw [← HN.out.1, ← HN.out.2]
  generalize takenL (fileI rs p bo v) rs p (withoutL rs p) [fileR rs p bo v] = TL at *
  generalize takenC (fileI rs p bo v) (thereB rs p) = TC at *
  generalize withoutL rs p = st at *
  clear HS HN
  go_enter Tryz.func9, Tryz.ntmps9
  go_wp2_with fail
  refine HA.out.mono ?_
  rintro e w1 ⟨rfl, b1⟩
  have c1 := HB0.out.trans (b1.mono HB0.out.size)
  clear HA b1 HB0
  have X2 := hide (HPA.out w1 c1)
  generalize hPS : (oldPs rs p).length = PL at *
  go_wp2_with fail
  refine X2.out.mono ?_
  rintro e w2 ⟨⟨qa, qc, rfl, hq1, hq2, hq3, hq4⟩, b2⟩
  have c2 := c1.trans (b2.mono c1.size)
  have X3 := hide (GO.out w2 c2 qa qc hq1 (by omega) hq3 hq4)
  clear X2 hq1 HPA b2 hPS
  go_wp2_with fail
  refine X3.out.mono ?_
  rintro e w3 ⟨⟨g, caps, g2, rfl, hT⟩, c3⟩
  have X4 := hide (TK.out w3 g caps g2 c3 hT)
  clear X3 hT TK GO
  go_wp2_with fail
  refine X4.out.mono ?_
  rintro e w4 ⟨⟨g', cap', pb', qb', rfl, hO⟩, b4⟩
  have HO := hide hO
  have c4 := hide (c3.trans (b4.mono (Nat.le_refl _)))
  clear hO b4 X4
  go_wp2
  go_ret2
  exact ⟨⟨g', cap', pb', qb', rfl, HO.out⟩, c4.out⟩
end Go.Proofs.YtafdbnadakclnaaGreat
namespace Go.Proofs.YtafdbnadakclnaaGreat
open M

theorem findI_some {l : List Rs} {p : List ByteArray} {r : Rs} (h : l.find? (isAt p) = some r) : ∃ k, ∃ (hk : k < l.length), findI l p = (k : Int) ∧ l[k] = r := by
  have hx : l.findIdx (isAt p) < l.length := by
    rw [List.findIdx_lt_length]
    exact ⟨r, List.mem_of_find?_eq_some h, List.find?_some h⟩
  refine ⟨l.findIdx (isAt p), hx, by unfold findI; rw [if_pos hx], ?_⟩
  have := find_of_findIdx hx
  rw [h] at this
  exact (Option.some.inj this).symm
theorem findI_neg {l : List Rs} {p : List ByteArray} (h : l.find? (isAt p) = none) : findI l p = -1 := by
  unfold findI
  rw [if_neg]
  rw [List.findIdx_lt_length]
  rintro ⟨x, hx, e⟩
  rw [List.find?_eq_none] at h
  exact h x hx e
theorem isAt_iff {p : List ByteArray} {r : Rs} : isAt p r = true ↔ r.pa = p := by unfold isAt sameL; simp
theorem find_alike {l x : List Rs} (hx : Asc x) {p : List ByteArray} (h : ∀ y : Rs, y.pa = p → (y ∈ x ↔ y ∈ l)) : x.find? (isAt p) = l.find? (isAt p) := by
  cases e : l.find? (isAt p) with
  | some z =>
    have hz := List.mem_of_find?_eq_some e
    have hp := isAt_iff.1 (List.find?_some e)
    exact hx.find ((h z hp).2 hz) hp
  | none =>
    rw [List.find?_eq_none] at e ⊢
    intro y hy hyp
    exact e y ((h y (isAt_iff.1 hyp)).1 hy) hyp
/-- What a put that puts leaves. -/
structure PutIs (rs X : List Rs) (p : List ByteArray) (bo : ByteArray) (v : Int) : Prop where
  tree : treeB X = true
  at' : ∃ k, ∃ (hk : k < X.length), findI X p = (k : Int) ∧ X[k].bo = bo ∧ X[k].ve = v
  on : collB X (aboveL p) = true
  rest : ∀ q, q ≠ p → (findI rs q = -1 ∧ findI X q = -1) ∨ ∃ i j, ∃ (hi : i < rs.length) (hj : j < X.length), findI rs q = (i : Int) ∧ findI X q = (j : Int) ∧ rs[i] = X[j]
theorem put_is {rs : List Rs} {p : List ByteArray} {bo : ByteArray} {v : Int} (h : treeB rs = true) (h0 : fileI rs p bo v = 0) : PutIs rs (putFR rs p bo v) p bo v := by
  have hT := put_tree (p := p) (bo := bo) (v := v) h
  have e : putFR rs p bo v = putR (fileR rs p bo v) false rs := by unfold putFR; rw [if_pos h0]
  have hA := tree_asc hT
  have hm : fileR rs p bo v ∈ putFR rs p bo v := by rw [e]; exact putR_mem.2 (.inl rfl)
  refine ⟨hT, ?_, ?_, fun q hq => ?_⟩
  · obtain ⟨k, hk, h1, h2⟩ := findI_some (hA.find hm (p := p) rfl)
    exact ⟨k, hk, h1, by rw [h2]; rfl, by rw [h2]; rfl⟩
  · unfold treeB at hT
    simp only [Bool.and_eq_true, List.all_eq_true] at hT
    exact hT.2.2.2 _ hm
  · have hf := find_alike (l := rs) hA (p := q) (fun y hy => by
      rw [e]
      constructor
      · intro hy2
        rcases putR_mem.1 hy2 with rfl | ⟨h1, _⟩
        · exact absurd hy.symm hq
        · exact h1
      · intro hy2
        exact putR_mem.2 (.inr ⟨hy2, fun e2 => hq (by rw [← hy]; exact e2)⟩))
    cases e2 : rs.find? (isAt q) with
    | none => rw [e2] at hf; exact .inl ⟨findI_neg e2, findI_neg hf⟩
    | some z =>
      rw [e2] at hf
      obtain ⟨i, hi, h1, h2⟩ := findI_some e2
      obtain ⟨j, hj, h3, h4⟩ := findI_some hf
      exact .inr ⟨i, j, hi, hj, h1, h3, by rw [h2, h4]⟩
theorem put_no {rs : List Rs} {p : List ByteArray} {bo : ByteArray} {v : Int} (h : ¬ fileI rs p bo v = 0) : putFR rs p bo v = rs := by unfold putFR; rw [if_neg h]
theorem file_codes {rs : List Rs} {p : List ByteArray} {bo : ByteArray} {v : Int} : fileI rs p bo v ≠ 201 ∧ fileI rs p bo v ≠ 204 := by
  have hm : mayI rs p v ≠ 201 ∧ mayI rs p v ≠ 204 := by unfold mayI; repeat' split
                                                        all_goals exact ⟨by decide, by decide⟩
  unfold fileI
  repeat' split
  all_goals first | exact hm | exact ⟨by decide, by decide⟩
end Go.Proofs.YtafdbnadakclnaaGreat
namespace Go.Proofs.YtafdbnadakclnaaGreat
open Go.RowKit

/-- What the walk is told of a slice of integers that came in: it is nil; or it leads to a row of 'cap' cells, the numbers 'zs' (the first 'len' are its elements), each fitting its kind. -/
def IsRow (k : IntKind) (w : World) (a : Option Addr) (len cap : Nat) (zs : List Int) : Prop :=
  (a = none ∧ len = 0 ∧ cap = 0 ∧ zs = []) ∨
  ∃ x, a = some x ∧ len ≤ cap ∧ cap ≤ maxLen ∧ zs.length = cap ∧ (∀ i, i < zs.length → w.cell? (x.add i) = some (.int k (zs.getD i 0))) ∧ ∀ n ∈ zs, (Lit.int k n).wf = true
end Go.Proofs.YtafdbnadakclnaaGreat
namespace Go.Proofs.YtafdbnadakclnaaGreat
open Go.RowKit
set_option linter.unusedVariables false

set_option maxHeartbeats 400000 in
theorem big_any (a : Option Addr) (len cap : Nat) (w : World) (_hl : len ≤ maxLen) :
    Calls Tryz.prog 7 #[.slice a len cap] w fun e w' => e = .returned (.bool (decide ((1048576 : Int) < len))) ∧ w' = w := by
  unfold maxLen at _hl
  go_enter Tryz.func7, Tryz.ntmps7
  go_wp2
  go_ret
  exact ⟨rfl, rfl⟩

theorem row_len {w : World} {a : Option Addr} {len cap : Nat} {zs : List Int} (h : IsRow .u8 w a len cap zs) : len ≤ maxLen := by
  rcases h with ⟨_, rfl, _, _⟩ | ⟨x, _, hl, hm, _⟩
  · exact Nat.zero_le _
  · omega
end Go.Proofs.YtafdbnadakclnaaGreat
namespace Go.Proofs.YtafdbnadakclnaaGreat
open Go.RowKit M

theorem code_of_row {w : World} {a : Option Addr} {len cap : Nat} {zs : List Int} (h : IsRow .u8 w a len cap zs) (hlen : len ≤ 1048576) : CodeIn w w.heap.size a len zs := by
  rcases h with ⟨rfl, rfl, rfl, rfl⟩ | ⟨x, rfl, hl, hm, hz, hcell, hwz⟩
  · exact ⟨⟨Nat.le_refl _, fun j hj => absurd hj (Nat.not_lt_zero _), fun h => absurd h (Nat.lt_irrefl _)⟩, fun h => absurd h (Nat.lt_irrefl _), hlen, Nat.le_refl _⟩
  · obtain ⟨b, off, spot⟩ := x
    by_cases h0 : 0 < len
    · have hc := hcell 0 (by omega)
      have hspot : spot = none := by simpa [Addr.add] using World.cell?_spot hc
      subst hspot
      have hb : b < w.heap.size := by
        have := World.block_lt_of_cell? w _ hc
        simpa [Addr.add] using this
      refine ⟨⟨by omega, fun j hj => ?_, fun _ => ⟨b, off, rfl, fun j hj => ?_⟩⟩, fun _ b' off' e => ?_, hlen, Nat.le_refl _⟩
      · have hj' : j < zs.length := by omega
        refine bounds_u8 (hwz _ ?_)
        rw [List.getD_eq_getElem?_getD, List.getElem?_eq_getElem hj']
        exact List.getElem_mem hj'
      · have h1 := hcell j (by omega)
        have e : (⟨b, off, none⟩ : Addr).add j = ⟨b, off + j, none⟩ := by unfold Addr.add; split <;> simp_all
        rwa [e] at h1
      · cases e; exact hb
    · exact ⟨⟨by omega, fun j hj => absurd hj (by omega), fun h => absurd h h0⟩, fun h => absurd h h0, hlen, Nat.le_refl _⟩
end Go.Proofs.YtafdbnadakclnaaGreat
