/-
  What a turn of the program hands back; one path as a list of paths.
  What stays and comes, from an earlier block on.
  What impl.propsAt does.
  What impl.PutFile does.
  What spec.l10Prop and spec.l10LessProp do.
-/
import Derived.Test.YtepdfppbnepamabGreatAskRef
import Derived.Test.YtepdfppbnepamabGreatBld
import Derived.Test.YtepdfppbnepamabGreatTaken
import Derived.Test.YtepdfppbnepamabGreatMathMake
import Derived.Test.YtepdfppbnepamabGreatRefused1
import Derived.Test.YtepdfppbnepamabGreatMathOrder
import Derived.Test.YtepdfppbnepamabGreatMathPath
import Derived.Test.YtepdfppbnepamabGreatPropsOk
import Derived.Test.YtepdfppbnepamabGreatLess
namespace Go.Proofs.YtepdfppbnepamabGreat
open Go.RowKit M
/-- Things handed back that one call made, and a code. -/
def GaveIs (w w' : World) (e : Ending) (rs : List Rs) (c : Int) : Prop := ∃ (g cap : Nat) (pb qb : Nat → Nat), e = .returned (.tuple #[.slice (some ⟨g, 0, none⟩) rs.length cap, .int .i64 c]) ∧ OwnR w' w.heap.size w'.heap.size g rs pb qb

theorem PathsAt.one {w : World} {b : Option Addr} {p : List ByteArray} {cap C : Nat} (h : Strs w C b p) (hC : C ≤ w.heap.size) (hs : Short p) (hl : p.length ≤ maxLen) : PathsAt (w.alloc (Obj.cells #[.slice b p.length cap] 23)) w.heap.size [(p, b, cap)] := by
  have hb := (Below.refl w.heap.size w).alloc (Nat.le_refl _) (Obj.cells #[.slice b p.length cap] 23)
  refine ⟨by simp, fun j hj => ?_, fun j hj => ?_⟩
  · obtain rfl : j = 0 := by simp at hj; omega
    simp
  · obtain rfl : j = 0 := by simp at hj; omega
    exact ⟨(h.below hb hC).mono (by simp; omega), hs, hl⟩

theorem OwnR.down {w : World} {lo lo' hi g : Nat} {rs : List Rs} {pb qb : Nat → Nat} (h : OwnR w lo hi g rs pb qb) (hl : lo' ≤ lo) : OwnR w lo' hi g rs pb qb :=
  ⟨Nat.le_trans hl h.gl, h.gh, h.gs, h.fz, h.cl, h.rp, h.rq, fun j hj => by obtain ⟨k1, k2⟩ := h.bnd j hj; exact ⟨Nat.le_trans hl k1, k2⟩, h.ord⟩
end Go.Proofs.YtepdfppbnepamabGreat
namespace Go.Proofs.YtepdfppbnepamabGreat
open Go.RowKit M
theorem TurnGot.down {W : World} {L L' : Nat} {st cs : List Rs} {g caps g2 : Nat} (h : TurnGot W L st cs g caps g2) (hL : L' ≤ L) : TurnGot W L' st cs g caps g2 := by
  obtain ⟨ts, pb, qb, B1, lo1, B2, hi2, h1, h2, h3, h4, h5, h6, h7, h8, h9⟩ := h
  exact ⟨ts, pb, qb, B1, lo1, B2, hi2, h1, h2, h3, h4, h5, h6, Nat.le_trans hL h7, Nat.le_trans hL h8, h9⟩

end Go.Proofs.YtepdfppbnepamabGreat
namespace Go.Proofs.YtepdfppbnepamabGreat
open Go.RowKit M
set_option linter.unusedVariables false

theorem oldPs_atI {rs : List Rs} {p : List ByteArray} (k : Nat) (hk : k < rs.length) (h : findI rs p = k) : oldPs rs p = rs[k].ps := by
  unfold findI at h
  by_cases h' : rs.findIdx (isAt p) < rs.length
  · rw [if_pos h'] at h
    have e : rs.findIdx (isAt p) = k := by omega
    unfold oldPs
    rw [find_of_findIdx h']
    simp [e]
  · rw [if_neg h'] at h; omega
theorem oldPs_noneI {rs : List Rs} {p : List ByteArray} (h : findI rs p < 0) : oldPs rs p = [] := by
  unfold findI at h
  by_cases h' : rs.findIdx (isAt p) < rs.length
  · rw [if_pos h'] at h; omega
  · unfold oldPs
    have : rs.find? (isAt p) = none := by
      rw [List.find?_eq_none]
      intro x hx hq
      exact h' (List.findIdx_lt_length_of_exists ⟨x, hx, hq⟩)
    rw [this]
theorem old_sizes {rs : List Rs} {p : List ByteArray} (h : SzT rs) : (oldPs rs p).length ≤ 1048576 ∧ ∀ x ∈ oldPs rs p, x.1.size ≤ 281474976710656 ∧ x.2.1.size ≤ 281474976710656 ∧ x.2.2.size ≤ 281474976710656 := by
  rcases findI_cases rs p with e | ⟨k, hk, e, _⟩
  · rw [oldPs_noneI (by omega)]
    exact ⟨Nat.zero_le _, fun x hx => by cases hx⟩
  · rw [oldPs_atI k hk e]
    have := h _ (List.getElem_mem hk)
    exact ⟨this.2.1, this.2.2.2.2⟩
theorem old_short {rs : List Rs} {p : List ByteArray} (h : ShortT rs) : ShortPs (oldPs rs p) := by
  rcases findI_cases rs p with e | ⟨k, hk, e, _⟩
  · rw [oldPs_noneI (by omega)]
    exact fun x hx => by cases hx
  · rw [oldPs_atI k hk e]
    exact (h.at k hk).qs

set_option maxHeartbeats 1000000 in
theorem propsAt_any (a : Option Addr) (rs : List Rs) (cap B : Nat) (b : Option Addr) (p : List ByteArray) (capb : Nat) (w : World) (h : Rss w B a rs) (h' : Strs w B b p) (hB : B ≤ w.heap.size) (hl : rs.length ≤ maxLen) (hl' : p.length ≤ maxLen) :
    Calls Tryz.prog 34 #[.slice a rs.length cap, .slice b p.length capb] w fun e w' => (∃ qa qc, e = .returned (.slice qa (oldPs rs p).length qc) ∧ Pps w' B qa (oldPs rs p) ∧ (oldPs rs p).length ≤ qc ∧ qc ≤ maxLen ∧ (qa = none → qc = 0)) ∧ Below w.heap.size w w' := by
  have HF := hide (findRes_any a rs cap B b p capb B w h h' hl hl' hB hB)
  rcases findI_cases rs p with e | ⟨k, hk, e, _⟩
  · rw [e] at HF
    rw [oldPs_noneI (by omega)]
    go_enter Tryz.func34, Tryz.ntmps34
    go_wp2_with fail
    refine HF.out.mono ?_
    rintro e w1 ⟨rfl, b1⟩
    go_wp2
    go_ret
    exact ⟨⟨none, 0, rfl, Pps.nil _ _ _, Nat.zero_le _, Nat.zero_le _, fun _ => rfl⟩, b1⟩
  · rw [e] at HF
    rw [oldPs_atI k hk e]
    have hk1 : (k : Int) < (rs.length : Int) := by omega
    have hk0 : ¬ ((k : Int) < 0) := by omega
    unfold maxLen at hl
    clear e
    go_enter Tryz.func34, Tryz.ntmps34
    go_wp2_with fail
    refine HF.out.mono ?_
    rintro e w1 ⟨rfl, b1⟩
    obtain ⟨b0, o0, rfl, hb0, hcc⟩ := (h.below b1 hB) (by omega)
    obtain ⟨pa, pc, qa, qc, ⟨hc0, hc1, hc2, hc3, hc4⟩, hin⟩ := hcc k hk
    have HIN := hide hin
    clear hcc hin HF
    go_wp2
    go_ret
    exact ⟨⟨qa, qc, rfl, HIN.out.qh, HIN.out.ql, HIN.out.qm, HIN.out.qn⟩, b1⟩
end Go.Proofs.YtepdfppbnepamabGreat
namespace Go.Proofs.YtepdfppbnepamabGreat
open Go.RowKit M
set_option linter.unusedVariables false
set_option linter.unusedSimpArgs false

set_option maxRecDepth 100000 in
set_option maxHeartbeats 4000000 in
theorem putFile_any (a : Option Addr) (rs : List Rs) (cap B : Nat) (b o : Nat) (p : List ByteArray) (capb : Nat) (bo : ByteArray) (v : Int) (w : World) (h : Rss w B a rs) (h' : Strs w B (some ⟨b, o, none⟩) p) (hB : B ≤ w.heap.size) (hs : ShortT rs) (hl : rs.length ≤ 1048576) (hz : SzT rs) (hs' : Short p) (hl' : p.length ≤ 1048576) (hpz : ∀ x ∈ p, x.size ≤ 281474976710656) (hc : p.length ≤ capb) (hm : capb ≤ maxLen) (hbo : bo.size ≤ 1048576) :
    Calls Tryz.prog 12 #[.slice a rs.length cap, .slice (some ⟨b, o, none⟩) p.length capb, .string bo, .int .i64 v] w fun e w' => GaveIs w w' e (putFR rs p bo v) (codeM (fileI rs p bo v) (okF (findI rs p))) ∧ Below w.heap.size w w' := by
  have hlm : rs.length ≤ maxLen := by unfold maxLen; omega
  have hlm' : p.length ≤ maxLen := by unfold maxLen; omega
  have hb0 := (Below.refl w.heap.size w).alloc (Nat.le_refl _) (Obj.cells #[.slice (some ⟨b, o, none⟩) p.length capb] 23)
  have hA := askRefused_any a rs cap B v w.heap.size 1 [(p, some ⟨b, o, none⟩, capb)] (by simp) (w.alloc (Obj.cells #[.slice (some ⟨b, o, none⟩) p.length capb] 23)) (h.below hb0 hB) (by simp; omega) hs hlm (PathsAt.one h' hB hs' hlm')
  rw [askI_one] at hA
  have HA := hide hA
  have HB0 := hide hb0
  have y0 := hb0.size
  clear hA hb0
  by_cases hmay : mayI rs p v = 0
  rotate_left
  · obtain ⟨r1, r2⟩ := file_refused (bo := bo) hmay
    have HC := hide (fun W (hb : Below w.heap.size w W) => copyTree_any a rs cap B W (h.below hb hB) (Nat.le_trans hB hb.size) hl hz)
    rw [r1, r2]
    generalize mayI rs p v = M at *
    have e0 : (M == 0) = false := by rw [beq_eq_false_iff_ne]; exact hmay
    clear r1 r2
    go_enter Tryz.func12, Tryz.ntmps12
    go_wp2_with fail
    refine HA.out.mono ?_
    rintro e w1 ⟨rfl, b1⟩
    have c1 := HB0.out.trans (b1.mono HB0.out.size)
    have X1 := hide (HC.out w1 c1)
    clear HA HC b1
    go_wp2_with fail
    refine X1.out.mono ?_
    rintro e w2 ⟨rfl, ⟨pb, qb, hO⟩, b2⟩
    have HO := hide (hO.down c1.size)
    have c2 := c1.trans (b2.mono c1.size)
    clear hO X1 b2
    go_wp2
    go_ret2
    exact ⟨⟨w1.heap.size, rs.length, pb, qb, rfl, HO.out⟩, c2⟩
  have HS := hide (file_says (bo := bo) hmay)
  have HN := hide (file_answers (bo := bo) hmay)
  rw [hmay] at HA
  have hzc : SzT [fileR rs p bo v] := fun r hr => by
    rw [List.mem_singleton.1 hr]
    obtain ⟨o1, o2⟩ := old_sizes (p := p) hz
    exact ⟨hl', o1, hpz, by show bo.size ≤ _; omega, o2⟩
  have hsc : ShortT [fileR rs p bo v] := fun r hr => by
    rw [List.mem_singleton.1 hr]
    obtain ⟨o1, o2⟩ := old_sizes (p := p) hz
    exact ⟨hlm', hs', by show bo.size ≤ _; unfold maxLen; omega, by show (oldPs rs p).length ≤ _; unfold maxLen; omega, old_short hs⟩
  have HPA := hide (fun W (hb : Below w.heap.size w W) => propsAt_any a rs cap B (some ⟨b, o, none⟩) p capb W (h.below hb hB) (h'.below hb hB) (Nat.le_trans hB hb.size) hlm hlm')
  have GO := hide (fun (W : World) (hb : Below w.heap.size w W) (qa : Option Addr) (qc : Nat) (hq1 : Pps W B qa (oldPs rs p)) (hq2 : (oldPs rs p).length ≤ qc) (hq3 : qc ≤ maxLen) (hq4 : qa = none → qc = 0) => show Calls Tryz.prog 35 #[.slice a rs.length cap, .slice (some ⟨b, o, none⟩) p.length capb, .slice (some ⟨W.heap.size + 1, 0, none⟩) 1 1] ((W.alloc (Obj.cells #[.slice (some ⟨b, o, none⟩) p.length capb, .bool false, .string bo, .int .i64 v, .slice qa (oldPs rs p).length qc] 49)).alloc (Obj.cells #[.slice (some ⟨b, o, none⟩) p.length capb, .bool false, .string bo, .int .i64 v, .slice qa (oldPs rs p).length qc] 49)) fun e w' => (∃ g caps g2 : Nat, e = .returned (.agg #[.slice a rs.length cap, .slice (some ⟨b, o, none⟩) p.length capb, .slice (some ⟨g, 0, none⟩) (withoutL rs p).length caps, .slice (some ⟨g2, 0, none⟩) 1 1]) ∧ TurnGot w' w.heap.size (withoutL rs p) [fileR rs p bo v] g caps g2) ∧ Below w.heap.size w w' from by
    have k1 := (Below.refl W.heap.size W).alloc (Nat.le_refl _) (Obj.cells #[.slice (some ⟨b, o, none⟩) p.length capb, .bool false, .string bo, .int .i64 v, .slice qa (oldPs rs p).length qc] 49)
    have k2 := k1.alloc (k1.size) (Obj.cells #[.slice (some ⟨b, o, none⟩) p.length capb, .bool false, .string bo, .int .i64 v, .slice qa (oldPs rs p).length qc] 49)
    have k3 := hb.trans (k2.mono hb.size)
    have hone : Rss ((W.alloc (Obj.cells #[.slice (some ⟨b, o, none⟩) p.length capb, .bool false, .string bo, .int .i64 v, .slice qa (oldPs rs p).length qc] 49)).alloc (Obj.cells #[.slice (some ⟨b, o, none⟩) p.length capb, .bool false, .string bo, .int .i64 v, .slice qa (oldPs rs p).length qc] 49)) ((W.alloc (Obj.cells #[.slice (some ⟨b, o, none⟩) p.length capb, .bool false, .string bo, .int .i64 v, .slice qa (oldPs rs p).length qc] 49)).alloc (Obj.cells #[.slice (some ⟨b, o, none⟩) p.length capb, .bool false, .string bo, .int .i64 v, .slice qa (oldPs rs p).length qc] 49)).heap.size (some ⟨W.heap.size + 1, 0, none⟩) [fileR rs p bo v] := fun _ => by
      refine ⟨W.heap.size + 1, 0, rfl, by simp, fun j hj => ?_⟩
      obtain rfl : j = 0 := by simp at hj; omega
      refine ⟨some ⟨b, o, none⟩, capb, qa, qc, ⟨by simp [go_sem, shelfR, fileR], by simp [go_sem, shelfR, fileR], by simp [go_sem, shelfR, fileR], by simp [go_sem, shelfR, fileR], by simp [go_sem, shelfR, fileR]⟩, ?_⟩
      exact ⟨(h'.below k3 hB).mono (Nat.le_trans hB k3.size), (hq1.of (fun x o' hx => k2.cell (p := ⟨x, o', none⟩) (Nat.lt_of_lt_of_le hx (Nat.le_trans hB hb.size)))).mono (Nat.le_trans hB k3.size), hc, hq2, hm, hq3, (fun e => by cases e), hq4⟩
    have hB3 : B ≤ ((W.alloc (Obj.cells #[.slice (some ⟨b, o, none⟩) p.length capb, .bool false, .string bo, .int .i64 v, .slice qa (oldPs rs p).length qc] 49)).alloc (Obj.cells #[.slice (some ⟨b, o, none⟩) p.length capb, .bool false, .string bo, .int .i64 v, .slice qa (oldPs rs p).length qc] 49)).heap.size := Nat.le_trans hB k3.size
    refine (turnAt_any a rs cap _ (some ⟨b, o, none⟩) p capb (some ⟨W.heap.size + 1, 0, none⟩) [fileR rs p bo v] 1 _ ((h.below k3 hB).mono hB3) ((h'.below k3 hB).mono hB3) hone (Nat.le_refl _) hl hl' (by simp) hz hzc).mono ?_
    rintro e w' ⟨⟨g, caps, g2, he, hT⟩, hb'⟩
    exact ⟨⟨g, caps, g2, he, hT.down k3.size⟩, k3.trans (hb'.mono k3.size)⟩)
  have TK := hide (fun (W : World) (g caps g2 : Nat) (hb : Below w.heap.size w W) (hT : TurnGot W w.heap.size (withoutL rs p) [fileR rs p bo v] g caps g2) => taken_any 1 (fileI rs p bo v) a rs cap B b o p capb g (withoutL rs p) caps g2 [fileR rs p bo v] 1 w.heap.size W (h.below hb hB) (h'.below hb hB) (Nat.le_trans hB hb.size) hT hb.size hl hl' (Nat.le_trans (List.length_filter_le _ _) hl) (by simp) hz (fun W2 hb2 => by
    have hT2 := hT.below hb2
    obtain ⟨q1, q2⟩ := hT2.rss (fun r hr => by
      have := hzc r hr
      unfold maxLen
      omega)
    have hb3 := hb.trans (hb2.mono hb.size)
    have hx := refused1_any a rs cap b o p capb (some ⟨g, 0, none⟩) (withoutL rs p) caps (some ⟨g2, 0, none⟩) [fileR rs p bo v] 1 W2.heap.size W2 ⟨(h.below hb3 hB).mono (Nat.le_trans hB hb3.size), (h'.below hb3 hB).mono (Nat.le_trans hB hb3.size), q1, q2⟩ (Nat.le_refl _) ⟨hl, hl', hpz, hc, hm, Nat.le_trans (List.length_filter_le _ _) hl, by simp, hsc⟩
    rw [HS.out] at hx
    exact hx))
  rw [← HN.out.1, ← HN.out.2]
  generalize takenL (fileI rs p bo v) rs p (withoutL rs p) [fileR rs p bo v] = TL at *
  generalize takenC (fileI rs p bo v) (thereB rs p) = TC at *
  generalize withoutL rs p = st at *
  clear HS HN
  go_enter Tryz.func12, Tryz.ntmps12
  go_wp2_with fail
  refine HA.out.mono ?_
  rintro e w1 ⟨rfl, b1⟩
  have c1 := HB0.out.trans (b1.mono HB0.out.size)
  clear HA b1 HB0
  have X2 := hide (HPA.out w1 c1)
  generalize hPS : (oldPs rs p).length = PL at *
  go_wp2_with fail
  refine X2.out.mono ?_
  rintro e w2 ⟨⟨qa, qc, rfl, hq1, hq2, hq3, hq4⟩, b2⟩
  have c2 := c1.trans (b2.mono c1.size)
  have X3 := hide (GO.out w2 c2 qa qc hq1 (by omega) hq3 hq4)
  clear X2 hq1 HPA b2 hPS
  go_wp2_with fail
  refine X3.out.mono ?_
  rintro e w3 ⟨⟨g, caps, g2, rfl, hT⟩, c3⟩
  have X4 := hide (TK.out w3 g caps g2 c3 hT)
  clear X3 hT TK GO
  go_wp2_with fail
  refine X4.out.mono ?_
  rintro e w4 ⟨⟨g', cap', pb', qb', rfl, hO⟩, b4⟩
  have HO := hide hO
  have c4 := hide (c3.trans (b4.mono (Nat.le_refl _)))
  clear hO b4 X4
  go_wp2
  go_ret2
  exact ⟨⟨g', cap', pb', qb', rfl, HO.out⟩, c4.out⟩
end Go.Proofs.YtepdfppbnepamabGreat
namespace Go.Proofs.YtepdfppbnepamabGreat
open Go.RowKit M
set_option linter.unusedVariables false

set_option maxHeartbeats 2000000 in
theorem specProp_any (p : Pp) (w : World) (h1 : p.1.size ≤ maxLen) (h2 : p.2.1.size ≤ maxLen) (h3 : p.2.2.size ≤ maxLen) :
    Calls Tryz.prog 95 #[.agg #[.string p.1, .string p.2.1, .string p.2.2]] w fun e w' => e = .returned (.bool (propB p)) ∧ Below w.heap.size w w' := by
  obtain ⟨x, y, z⟩ := p
  simp only at *
  have HB0 := hide (show Below w.heap.size w (w.alloc (Obj.cells #[.string x, .string y, .string z] 80)) from (Below.refl _ _).alloc (Nat.le_refl _) _)
  have HX := hide (fun W => specPlain_any x W h1)
  have HY := hide (fun W => specSmallName_any y W h2)
  have HZ := hide (fun W => specPlain_any z W h3)
  have HF := hide (show propB (x, y, z) = (decide (x.size ≤ 20) && (allB x.data.toList [0] && (smB y.data.toList && (decide (z.size ≤ 20) && allB z.data.toList [0])))) from rfl)
  generalize propB (x, y, z) = R at *
  generalize allB x.data.toList [0] = bx at *
  generalize smB y.data.toList = by' at *
  generalize allB z.data.toList [0] = bz at *
  by_cases hx : x.size ≤ 20
  · cases bx
    · have hr : R = false := by rw [HF.out]; simp
      subst hr
      go_enter Tryz.func95, Tryz.ntmps95
      go_wp2_with fail
      refine (HX.out _).mono ?_
      rintro e w1 ⟨rfl, hw⟩
      obtain rfl := hw
      go_wp2
      go_ret
      exact ⟨rfl, HB0.out⟩
    · cases by'
      · have hr : R = false := by rw [HF.out]; simp
        subst hr
        go_enter Tryz.func95, Tryz.ntmps95
        go_wp2_with fail
        refine (HX.out _).mono ?_
        rintro e w1 ⟨rfl, hw⟩
        obtain rfl := hw
        go_wp2_with fail
        refine (HY.out _).mono ?_
        rintro e w1 ⟨rfl, hw⟩
        obtain rfl := hw
        go_wp2
        go_ret
        exact ⟨rfl, HB0.out⟩
      · by_cases hz : z.size ≤ 20
        · have hr : R = bz := by rw [HF.out]; simp [hx, hz]
          subst hr
          go_enter Tryz.func95, Tryz.ntmps95
          go_wp2_with fail
          refine (HX.out _).mono ?_
          rintro e w1 ⟨rfl, hw⟩
          obtain rfl := hw
          go_wp2_with fail
          refine (HY.out _).mono ?_
          rintro e w1 ⟨rfl, hw⟩
          obtain rfl := hw
          go_wp2_with fail
          refine (HZ.out _).mono ?_
          rintro e w1 ⟨rfl, hw⟩
          obtain rfl := hw
          go_wp2
          go_ret
          exact ⟨rfl, HB0.out⟩
        · have hr : R = false := by rw [HF.out]; simp [hz]
          subst hr
          go_enter Tryz.func95, Tryz.ntmps95
          go_wp2_with fail
          refine (HX.out _).mono ?_
          rintro e w1 ⟨rfl, hw⟩
          obtain rfl := hw
          go_wp2_with fail
          refine (HY.out _).mono ?_
          rintro e w1 ⟨rfl, hw⟩
          obtain rfl := hw
          go_wp2
          go_ret
          exact ⟨rfl, HB0.out⟩
  · have hr : R = false := by rw [HF.out]; simp [hx]
    subst hr
    go_enter Tryz.func95, Tryz.ntmps95
    go_wp2
    go_ret
    exact ⟨rfl, HB0.out⟩

set_option maxHeartbeats 1000000 in
theorem specLessProp_any (p q : Pp) (w : World) :
    Calls Tryz.prog 96 #[.agg #[.string p.1, .string p.2.1, .string p.2.2], .agg #[.string q.1, .string q.2.1, .string q.2.2]] w fun e w' => e = .returned (.bool (lessP p q)) ∧ Below w.heap.size w w' := by
  obtain ⟨x, y, z⟩ := p
  obtain ⟨x', y', z'⟩ := q
  simp only
  have hb0 : Below w.heap.size w ((w.alloc (Obj.cells #[.string x, .string y, .string z] 80)).alloc (Obj.cells #[.string x', .string y', .string z'] 80)) := ((Below.refl _ _).alloc (Nat.le_refl _) _).alloc (by simp) _
  by_cases e : x = x'
  · have HF := hide (show lessP (x, y, z) (x', y', z') = Op.bytesLess y.toList y'.toList by unfold lessP; rw [if_pos e]; rfl)
    have hq : (x.toList == x'.toList) = true := by rw [e]; simp
    generalize lessP (x, y, z) (x', y', z') = R at *
    clear e
    go_enter Tryz.func96, Tryz.ntmps96
    go_wp2
    go_ret
    exact ⟨ret_bool HF.out.symm, hb0⟩
  · have HF := hide (show lessP (x, y, z) (x', y', z') = Op.bytesLess x.toList x'.toList by unfold lessP; rw [if_neg e]; rfl)
    have hq : (x.toList == x'.toList) = false := by rw [beq_eq_false_iff_ne]; exact fun e' => e (strInjP e')
    generalize lessP (x, y, z) (x', y', z') = R at *
    clear e
    go_enter Tryz.func96, Tryz.ntmps96
    go_wp2
    go_ret
    exact ⟨ret_bool HF.out.symm, hb0⟩
end Go.Proofs.YtepdfppbnepamabGreat
