/-
  What the specification's ParseNode does, what l8Read does being known.
-/
import Derived.Test.YtccehdlgpbeijaaGreatDoorSpecRead
import Derived.Test.YtccehdlgpbeijaaGreatDoorParseNum
import Derived.Test.YtccehdlgpbeijaaGreatDoorParseNode
namespace Go.Proofs.YtccehdlgpbeijaaGreatDoor
open Go.RowKit M
set_option linter.unusedVariables false

set_option maxRecDepth 100000 in
set_option maxHeartbeats 8000000 in
theorem l8Read_none (all : List Pce) (k : Nat) (bad : Bool) (ns : ByteArray) (N B : Nat) (w : World) (hk : k = all.length) (hal : all.length ≤ 1000) (h : Sr w N B all k bad) :
    Calls Tryz.prog 33 #[.pointer (some ⟨N, 0, none⟩), .string ns, .int .i64 1] w fun e w' => ((∃ (v0 v1 v2 : ByteArray) (a : Option Addr) (n c : Nat), e = .returned (.agg #[.string v0, .string v1, .string v2, .slice a n c])) ∧ ∃ k', k' ≤ all.length ∧ Sr w' N B all k' true) ∧ w.grownBy w' (some N) := by
  have hNlt := h.lt
  have hBN := h.hB
  have bA := (Below.refl w.heap.size w).alloc (Nat.le_refl _) (Obj.cells #[Value.string { data := #[] }, Value.string { data := #[] }, Value.string { data := #[] }, Value.slice none 0 0] 26)
  have SA := h.alloc (Obj.cells #[Value.string { data := #[] }, Value.string { data := #[] }, Value.string { data := #[] }, Value.slice none 0 0] 26)
  have BR := Bx.made w (.string ⟨#[]⟩) (.string ⟨#[]⟩) (.string ⟨#[]⟩) (.slice none 0 0) 26
  obtain ⟨wA, hwA⟩ : ∃ wA, w.alloc (Obj.cells #[Value.string { data := #[] }, Value.string { data := #[] }, Value.string { data := #[] }, Value.slice none 0 0] 26) = wA := ⟨_, rfl⟩
  rw [hwA] at bA SA BR
  have HWA := hide hwA
  have HBA := hide bA
  have HSA := hide SA
  have HBR := hide BR
  clear h bA SA BR hwA
  obtain ⟨a, c, h1, h2⟩ := HSA.out.row
  have hc1 := HSA.out.c1
  have hc2 := HSA.out.c2
  have hfz := HSA.out.fz
  have hge : decide (all.length ≤ k) = true := decide_eq_true (by omega)
  have hge' : all.length ≤ k := by omega
  have hkl : k ≤ all.length := by omega
  clear h2 hk
  go_enter Tryz.func33, Tryz.ntmps33
  go_wp2
  rw [HWA.out]
  go_quiet (fail)
  have c2' : (wA.drewN nq).cell? ⟨N, 2, none⟩ = some (.bool bad) := hc2
  have fz' : ∀ j, (wA.drewN nq).frozen? ⟨N, j, none⟩ = false := hfz
  have S1 := hide ((HSA.out.drew nq).bad true)
  have B1 := hide ((HBR.out.drewN nq).other (b' := N) (k := 2) (.bool true) (by omega))
  have G1 := hide (grownR_set (show w.grownBy (wA.drewN nq) (some N) from grownR_drew (grownR_of HBA.out) nq) 2 (.bool true))
  obtain ⟨_, d0, d1, d2, d3, dz⟩ := B1.out
  go_wp2
  refine bodyPost_ret (v := .agg #[.string ⟨#[]⟩, .string ⟨#[]⟩, .string ⟨#[]⟩, .slice none 0 0]) (by simp [results, Tryz.results33, go_sem, d0, d1, d2, d3]) rfl ?_
  refine ⟨⟨⟨_, _, _, _, _, _, rfl⟩, k, hkl, ?_⟩, ?_⟩
  · exact (((S1.out.other (by omega) (by omega) _).other (by omega) (by omega) _).other (by omega) (by omega) _).other (by omega) (by omega) _
  · exact grownR_setB (grownR_setB (grownR_setB (grownR_setB G1.out _ (Nat.le_refl _)) _ (Nat.le_refl _)) _ (Nat.le_refl _)) _ (Nat.le_refl _)

theorem sd_short {ps : List Pce} (hn : noTwo ps) {f d : Nat} {o : ByteArray} {n : Nd} {r : List Pce} (hf : 2 * ps.length + 1 ≤ f) (h : sdN f d ps o = some (n, r)) (hz : ∀ p ∈ ps, pcSize p ≤ maxLen) (hl : ps.length ≤ maxLen) (ho : o.size ≤ maxLen) : n.short := by
  rw [(sp_rd f).1 f d ps o hf hf hn] at h
  cases hx : rdN f ps o with
  | none => rw [hx] at h; cases h
  | some y =>
    obtain ⟨n', r'⟩ := y
    rw [hx] at h
    simp only [lim] at h
    split at h
    · obtain ⟨rfl, rfl⟩ := Prod.mk.inj (Option.some.inj h)
      exact (rd_short f).1 _ _ _ _ hx hz hl ho
    · cases h
theorem pcsR_none {l : List UInt8} : (pcsR l).2 = false → (pcsR l).1 = [] := by
  unfold pcsR
  split
  · split
    · split
      · intro h; cases h
      · intro _; rfl
    · intro _; rfl
  · intro _; rfl
theorem readP_nil : readP [] = none := by unfold readP; rw [skipP, rdN]; rfl
theorem dw_suffix (l : List Pce) : l.dropWhile blankP <:+ l := List.dropWhile_suffix _

/-- What the tree is, as the specification answers. -/
def zeroV : Value := .tuple #[.agg #[.string ⟨#[]⟩, .string ⟨#[]⟩, .string ⟨#[]⟩, .slice none 0 0], .bool false]

set_option maxRecDepth 100000 in
set_option maxHeartbeats 8000000 in
theorem specParseNode_of (hSp : ∀ f, SpN f) (s : ByteArray) (w : World) (hs : s.size ≤ 1048576) :
    Calls Tryz.prog 10 #[.string s] w fun e w' => PnRet w w' (readP (pcsR s.data.toList).1) e ∧ Below w.heap.size w w' := by
  have HSP : Hid (∀ f, SpN f) := hSp
  clear hSp
  have bA := (Below.refl w.heap.size w).alloc (Nat.le_refl _) (Obj.cells #[Value.string { data := #[] }, Value.string { data := #[] }, Value.string { data := #[] }, Value.slice none 0 0] 26)
  have BR := Bx.made w (.string ⟨#[]⟩) (.string ⟨#[]⟩) (.string ⟨#[]⟩) (.slice none 0 0) 26
  have HP := hide (specPieces_any s (w.alloc (Obj.cells #[Value.string { data := #[] }, Value.string { data := #[] }, Value.string { data := #[] }, Value.slice none 0 0] 26)) (by omega))
  obtain ⟨hz1, hz2⟩ := pcsR_size s.data.toList
  have hz3 := pcsR_text s.data.toList
  have hn2 := noTwo_pcsR s.data.toList
  have hbe := @pcsR_none s.data.toList
  have el : s.data.toList.length = s.size := Array.length_toList
  rw [el] at hz2 hz3
  unfold PcsIsS at HP
  obtain ⟨ps, hps⟩ : ∃ ps, (pcsR s.data.toList).1 = ps := ⟨_, rfl⟩
  obtain ⟨ok, hok⟩ : ∃ ok, (pcsR s.data.toList).2 = ok := ⟨_, rfl⟩
  rw [hps, hok] at HP hbe
  rw [hps] at hz1 hz2 hz3 hn2 ⊢
  clear hps hok el
  have HZ1 : Hid (∀ p ∈ ps, p.s.size ≤ 1048576) := fun p hp => Nat.le_trans (hz3 p hp) hs
  have HZ2 : Hid (∀ p ∈ ps, pcSize p ≤ maxLen) := fun p hp => by have := hz2 p hp; unfold maxLen; omega
  have HZ4 : Hid (∀ p ∈ ps, p.s.size ≤ maxLen) := fun p hp => by have := HZ1.out p hp; unfold maxLen; omega
  have HN2 := hide hn2
  have HBE := hide hbe
  have HBA := hide bA
  have HBR := hide BR
  clear hz2 hz3 hn2 hbe bA BR
  go_enter Tryz.func10, Tryz.ntmps10
  go_wp2_with fail
  refine HP.out.mono ?_
  rintro e w1 ⟨⟨v, rfl, ho⟩, b1⟩
  obtain ⟨a, c, rfl, hpc, hc1, hc2⟩ := ho.cap
  have z1 := b1.size
  simp at z1
  have bN := (Below.refl w1.heap.size w1).alloc (Nat.le_refl _) (Obj.cells #[.slice a ps.length c, .int .i64 0, .bool (!ok)] 55)
  have S1 : Hid (Sr (w1.alloc (Obj.cells #[.slice a ps.length c, .int .i64 0, .bool (!ok)] 55)) w1.heap.size w1.heap.size ps 0 (!ok)) := ⟨by simp, Nat.le_refl _, fun k => World.frozen?_alloc_new _ _ _ k, ⟨a, c, by simp, hpc.below bN (Nat.le_refl _)⟩, by simp, by simp⟩
  have BR1 := hide ((HBR.out.next b1 (by simp)).next bN (by omega))
  have G1 := hide (grownR_of (N := w1.heap.size) ((HBA.out.trans (b1.mono HBA.out.size)).trans (bN.mono (by omega))))
  have HQ := hide (l8Skip_any w1.heap.size w1.heap.size ps 0 (!ok) _ S1.out (Nat.zero_le _) (by omega) HZ4.out)
  have zN : Hid ((w1.alloc (Obj.cells #[.slice a ps.length c, .int .i64 0, .bool (!ok)] 55)).heap.size = w1.heap.size + 1) := by show _ = _; simp
  clear ho hpc b1 bN HBA HBR HP
  go_wp2_with fail
  refine HQ.out.mono ?_
  rintro e w2 ⟨rfl, k2, _, hk2, hd2, s2, g2⟩
  have S2 := hide s2
  have HD2 := hide hd2
  have BR2 := hide (BR1.out.grown g2 (by omega))
  have G2 := hide (grownR_trans G1.out g2)
  have z2 := g2.size
  rw [zN.out] at z2
  clear s2 hd2 g2 BR1 G1 HQ S1
  have HRD : Hid (Calls Tryz.prog 33 #[.pointer (some ⟨w1.heap.size, 0, none⟩), .string ⟨#[]⟩, .int .i64 1] w2 fun e w' => SrRet w2 w' w1.heap.size w1.heap.size ps (if ok = true then sdN (2 * ps.length + 1) 5 (ps.drop k2) ⟨#[]⟩ else none) e ∧ w2.grownBy w' (some w1.heap.size)) := by
    cases ok with
    | true =>
      rw [if_pos rfl]
      exact HSP.out (2 * ps.length + 1) ps k2 ⟨#[]⟩ 5 w1.heap.size w1.heap.size 1 w2 hk2 (by omega) (by omega) (by omega) (by simp) S2.out HZ1.out
    | false =>
      rw [if_neg (by decide)]
      have he := HBE.out rfl
      have hk0 : k2 = ps.length := by rw [he] at hk2 ⊢; simpa using hk2
      exact l8Read_none ps k2 _ ⟨#[]⟩ w1.heap.size w1.heap.size w2 hk0 (by omega) S2.out
  have HRU : Hid (readU (if ok = true then sdN (2 * ps.length + 1) 5 (ps.drop k2) ⟨#[]⟩ else none) = readP ps) := by
    show readU _ = readP ps
    cases ok with
    | true =>
      rw [if_pos rfl, HD2.out, List.drop_zero]
      exact read_same HN2.out (2 * ps.length + 1) (Nat.le_refl _)
    | false =>
      rw [if_neg (by decide), HBE.out rfl, readP_nil]
      rfl
  have HSH : Hid (∀ n r, (if ok = true then sdN (2 * ps.length + 1) 5 (ps.drop k2) ⟨#[]⟩ else none) = some (n, r) → n.short) := by
    intro n r he
    cases ok with
    | true =>
      rw [if_pos rfl] at he
      have hsu : ps.drop k2 <:+ ps := List.drop_suffix _ _
      have hln := hsu.length_le
      exact sd_short (noTwo_suffix HN2.out hsu) (by omega) he (fun p hp => HZ2.out p (hsu.subset hp)) (by unfold maxLen; omega) (by show 0 ≤ maxLen; omega)
    | false => rw [if_neg (by decide)] at he; cases he
  obtain ⟨x, hx⟩ : ∃ x, (if ok = true then sdN (2 * ps.length + 1) 5 (ps.drop k2) ⟨#[]⟩ else none) = x := ⟨_, rfl⟩
  rw [hx] at HRD HRU HSH
  clear hx HBE HD2 S2 HSP
  cases x with
  | none =>
    have HN : Hid (readP ps = none) := HRU.out.symm
    go_wp2_with fail
    refine HRD.out.mono ?_
    rintro e w3 ⟨⟨⟨v0, v1, v2, a3, n3, c3, rfl⟩, k3, hk3, s3⟩, g3⟩
    have z3 := g3.size
    have bM := (Below.refl w3.heap.size w3).alloc (Nat.le_refl _) (Obj.cells #[.string v0, .string v1, .string v2, .slice a3 n3 c3] 26)
    have BR3 := hide ((BR2.out.grown g3 (by omega)).next bM (by omega))
    have G3 := hide (grownR_below (grownR_trans G2.out g3) (bM.mono (by omega)))
    have HQ := hide (l8Skip_any _ _ ps k3 true _ (s3.alloc (Obj.cells #[.string v0, .string v1, .string v2, .slice a3 n3 c3] 26)) hk3 (by omega) HZ4.out)
    clear s3 g3 bM BR2 G2 HRD
    go_wp2_with fail
    refine HQ.out.mono ?_
    rintro e w4 ⟨rfl, k4, _, hk4, _, s4, g4⟩
    have z4 := g4.size
    simp at z4
    have BR4 := hide (BR3.out.grown g4 (by omega))
    have G4 := hide (grownR_trans G3.out g4)
    have q2 := s4.c2
    obtain ⟨_, d0, d1, d2, d3, dz⟩ := BR4.out
    clear s4 g4 BR3 G3 HQ
    go_wp2
    refine bodyPost_ret (v := .tuple #[.agg #[.string ⟨#[]⟩, .string ⟨#[]⟩, .string ⟨#[]⟩, .slice none 0 0], .bool false]) (by simp [results, Tryz.results10, go_sem, d0, d1, d2, d3]) rfl ?_
    rw [HN.out]
    exact ⟨rfl, below_grownN (grownR_setB (grownR_setB (grownR_setB (grownR_setB G4.out _ (Nat.le_refl _)) _ (Nat.le_refl _)) _ (Nat.le_refl _)) _ (Nat.le_refl _)) (by omega)⟩
  | some y =>
    obtain ⟨n, r⟩ := y
    have HSN := hide (HSH.out n r rfl)
    go_wp2_with fail
    refine HRD.out.mono ?_
    rintro e w3 ⟨⟨⟨a3, c3, rfl, o3⟩, k3, hk3, hr3, s3⟩, g3⟩
    have z3 := g3.size
    have bM := (Below.refl w3.heap.size w3).alloc (Nat.le_refl _) (Obj.cells #[.string n.ns, .string n.nm, .string n.tx, .slice a3 n.ks.length c3] 26)
    have BM3 := hide (Bx.made w3 (.string n.ns) (.string n.nm) (.string n.tx) (.slice a3 n.ks.length c3) 26)
    have BR3 := hide ((BR2.out.grown g3 (by omega)).next bM (by omega))
    have O3 := hide (o3.stays bM (fun x hx => hx.2))
    have G3 := hide (grownR_below (grownR_trans G2.out g3) (bM.mono (by omega)))
    have HQ := hide (l8Skip_any _ _ ps k3 false _ (s3.alloc (Obj.cells #[.string n.ns, .string n.nm, .string n.tx, .slice a3 n.ks.length c3] 26)) hk3 (by omega) HZ4.out)
    have HR3 := hide hr3
    clear s3 o3 g3 hr3 bM BR2 G2 HRD HSH
    go_wp2_with fail
    refine HQ.out.mono ?_
    rintro e w4 ⟨rfl, k4, _, hk4, hd4, s4, g4⟩
    have z4 := g4.size
    simp at z4
    have HD4 : Hid (ps.drop k4 = r.dropWhile blankP) := by show _ = _; rw [hd4, HR3.out]
    have BM4 := hide (BM3.out.grown g4 (by omega))
    have BR4 := hide (BR3.out.grown g4 (by omega))
    have O4 := hide (O3.out.grown g4 (fun x hx => by have h1 := hx.1; have h2 := hx.2; simp; omega))
    have G4 := hide (grownR_trans G3.out g4)
    have q1 := s4.c1
    have q2 := s4.c2
    obtain ⟨_, d0, d1, d2, d3, dz⟩ := BR4.out
    clear s4 g4 hd4 BR3 G3 HQ O3 BM3
    by_cases hk5 : k4 = ps.length
    · have HRQ : Hid (readP ps = if nodeB n = true then some n else none) := by
        show _ = _
        rw [← HRU.out]
        have : r.dropWhile blankP = [] := by rw [← HD4.out, hk5]; simp
        simp only [readU]
        rw [if_pos this]
      have hkb : ((k4 : Int) == ps.length) = true := by rw [hk5]; simp
      have hkb2 : ((k4 : Int) != ps.length) = false := by simp [bne, hk5]
      have HOK := hide (specNodeOk_any n a3 c3 w4.heap.size w4 (O4.out.nds (fun x hx => by have := hx.2; omega)) (Nat.le_refl _) HSN.out)
      obtain ⟨_, e0, e1, e2, e3, ez⟩ := BM4.out
      clear HRU HD4 HR3 hk5
      cases hb : nodeB n with
      | false =>
        rw [hb] at HOK HRQ
        have HN : Hid (readP ps = none) := HRQ.out
        go_wp2_with fail
        refine HOK.out.mono ?_
        rintro e w5 ⟨rfl, b5⟩
        have BR5 := hide (BR4.out.next b5 BR4.out.lt)
        have G5 := hide (grownR_below G4.out (b5.mono (by omega)))
        clear d0 d1 d2 d3 dz b5
        obtain ⟨_, d0, d1, d2, d3, dz⟩ := BR5.out
        go_wp2
        refine bodyPost_ret (v := .tuple #[.agg #[.string ⟨#[]⟩, .string ⟨#[]⟩, .string ⟨#[]⟩, .slice none 0 0], .bool false]) (by simp [results, Tryz.results10, go_sem, d0, d1, d2, d3]) rfl ?_
        rw [HN.out]
        exact ⟨rfl, below_grownN (grownR_setB (grownR_setB (grownR_setB (grownR_setB G5.out _ (Nat.le_refl _)) _ (Nat.le_refl _)) _ (Nat.le_refl _)) _ (Nat.le_refl _)) (by omega)⟩
      | true =>
        rw [hb] at HOK HRQ
        have HN : Hid (readP ps = some n) := HRQ.out
        go_wp2_with fail
        refine HOK.out.mono ?_
        rintro e w5 ⟨rfl, b5⟩
        have z5 := b5.size
        have BR5 := hide (BR4.out.next b5 BR4.out.lt)
        have bm5 := BM4.out.next b5 BM4.out.lt
        have O5 := hide (O4.out.stays b5 (fun x hx => by have := hx.2; omega))
        have G5 := hide (grownR_below G4.out (b5.mono (by omega)))
        clear d0 d1 d2 d3 dz e0 e1 e2 e3 ez b5 BR4 BM4 O4 G4 HOK
        obtain ⟨_, d0, d1, d2, d3, dz⟩ := BR5.out
        obtain ⟨_, e0, e1, e2, e3, ez⟩ := bm5
        go_wp2
        refine bodyPost_ret (v := .tuple #[.agg #[.string n.ns, .string n.nm, .string n.tx, .slice a3 n.ks.length c3], .bool true]) (by simp [results, Tryz.results10, go_sem, d0, d1, d2, d3]) rfl ?_
        rw [HN.out]
        refine ⟨⟨a3, c3, rfl, ?_⟩, ?_⟩
        · refine OwnK.wide ((((O5.out.setC _ ?_).setC _ ?_).setC _ ?_).setC _ ?_) (fun x hx => ?_)
          all_goals first | (intro x hx; have h1 := hx.1; omega) | (have h1 := hx.1; have h2 := hx.2; unfold Ivl; simp; omega)
        · exact below_grownN (grownR_setB (grownR_setB (grownR_setB (grownR_setB G5.out _ (Nat.le_refl _)) _ (Nat.le_refl _)) _ (Nat.le_refl _)) _ (Nat.le_refl _)) (by omega)
    · have HN : Hid (readP ps = none) := by
        show _ = _
        rw [← HRU.out]
        have : ¬ r.dropWhile blankP = [] := by
          rw [← HD4.out]
          intro he
          have := congrArg List.length he
          rw [List.length_drop] at this
          simp at this
          omega
        simp only [readU]
        rw [if_neg this]
      have hkb : ((k4 : Int) == ps.length) = false := by apply beq_eq_false_iff_ne.2; omega
      have hkb2 : ((k4 : Int) != ps.length) = true := by simp [bne, hkb]
      clear HRU HD4 HR3
      go_wp2
      refine bodyPost_ret (v := .tuple #[.agg #[.string ⟨#[]⟩, .string ⟨#[]⟩, .string ⟨#[]⟩, .slice none 0 0], .bool false]) (by simp [results, Tryz.results10, go_sem, d0, d1, d2, d3]) rfl ?_
      rw [HN.out]
      exact ⟨rfl, below_grownN (grownR_setB (grownR_setB (grownR_setB (grownR_setB G4.out _ (Nat.le_refl _)) _ (Nat.le_refl _)) _ (Nat.le_refl _)) _ (Nat.le_refl _)) (by omega)⟩
end Go.Proofs.YtccehdlgpbeijaaGreatDoor
