/-
  What the program's NodeText does.
-/
import Derived.Test.YtanebchmeaomgaaNodeOk
import Derived.Test.YtanebchmeaomgaaMathNodeT
import Derived.Test.YtanebchmeaomgaaMarkTxt
import Derived.Shelf.Strings.BuilderK
namespace Go.Proofs.Ytanebchmeaomgaa
open Go.RowKit M
set_option linter.unusedVariables false

theorem spT_spN (ns o : ByteArray) : spT (decide (¬ ns = o)) ns.data.toList = spN ns o := by
  unfold spT spN
  by_cases h : ns = o <;> simp [h]

def TwS (K : Nat) : Prop := ∀ (n : Nd) (o : ByteArray) (a : Option Addr) (cap B : Nat) (w : World), cntL n.ks < K → Nds w B a n.ks → B ≤ w.heap.size → n.szN ≤ 1048576 → o.size ≤ 1048576 →
    Calls Try.prog 22 #[.string o, .agg #[.string n.ns, .string n.nm, .string n.tx, .slice a n.ks.length cap]] w fun e w' => e = .returned (.string (bytesOf (n.txt o))) ∧ Below w.heap.size w w'

set_option maxRecDepth 100000 in
set_option maxHeartbeats 4000000 in
theorem textWithin_step (K : Nat) (ih : TwS K) : TwS (K + 1) := by
  intro n o a cap B w hn h hB hs ho
  have HI : Hid (TwS K) := ih
  clear ih
  have HX := hide (BoxN.made w a cap n 29)
  rw [szN_ks] at hs
  have HT := hide (txt_ks n o)
  have HL := hide (txt_len n o)
  rw [szN_ks] at HL
  generalize n.txt o = R at *
  obtain ⟨ra, rb, rc, ks⟩ := n
  simp only [Nd.ns, Nd.nm, Nd.tx, Nd.ks] at *
  have HB0 : Hid (Below w.heap.size w (w.alloc (Obj.cells #[Value.string ra, Value.string rb, Value.string rc, Value.slice a ks.length cap] 29))) := (Below.refl _ _).alloc (Nat.le_refl _) _
  have HH := hide h
  clear h
  have hne : ∃ q : Bool, (ra.toList == o.toList) = q ∧ decide (¬ ra = o) = !q := by
    by_cases e : ra = o
    · exact ⟨true, eqStrN e, by simp [e]⟩
    · exact ⟨false, neStrN e, by simp [e]⟩
  obtain ⟨q, hq1, hq2⟩ := hne
  have HSP : Hid (spT (!q) ra.data.toList = spN ra o) := by rw [← hq2]; exact spT_spN ra o
  clear hq2
  by_cases he : rc.size = 0 ∧ ks.length = 0
  · have h8 := emptyT he.1
    have hks : ks = [] := List.eq_nil_of_length_eq_zero he.2
    have HR := hide (HT.out.trans (if_pos he))
    subst hks
    simp only [List.length_nil] at *
    clear HT
    go_enter Try.func22, Try.ntmps22
    go_wp2_with fail
    refine (markText_empty rb ra (!q) _ (by omega) (by omega)).mono ?_
    rintro e w1 ⟨rfl, b1⟩
    go_wp2
    go_ret
    have hf : bytesOf ([60] ++ rb.data.toList ++ spT (!q) ra.data.toList ++ [47, 62]) = bytesOf R := by rw [HSP.out, HR.out]
    exact ⟨ret_strB (by rw [← hf]; simp), (HB0.out.alloc HB0.out.size _).trans (b1.mono (by simp; omega))⟩
  · have HR := hide (HT.out.trans (if_neg he))
    clear HT
    have HL2 := hide (txtL_len ks ra)
    have hway : rc.toList.isEmpty = false ∨ (rc.toList.isEmpty = true ∧ ((ks.length : Int) == 0) = false) := by
      by_cases e : rc.size = 0
      · exact .inr ⟨emptyT e, by rw [beq_eq_false_iff_ne]; omega⟩
      · exact .inl (emptyF e)
    have HE2 := hide he
    clear he
    have htop : ∃ top, top = [60] ++ rb.data.toList ++ spT (!q) ra.data.toList ++ [62] := ⟨_, rfl⟩
    obtain ⟨top, htop⟩ := htop
    have hR2 : R = top ++ escL rc.data.toList ++ txtL ks ra ++ ([60, 47] ++ rb.data.toList ++ [62]) := by rw [HR.out, htop, HSP.out]
    have HR2 := hide hR2
    have hRl : top.length + (escL rc.data.toList).length + (txtL ks ra).length ≤ 1000000000 := by
      have := HL.out
      rw [hR2] at this
      simp only [List.length_append] at this
      omega
    have HTOP := hide htop
    clear htop hR2 HR
    have hmo := fun W : World => markText_open rb ra (!q) W (by omega) (by omega)
    rw [← HTOP.out] at hmo
    have HMO := hide hmo
    clear hmo
    have I0 : Lib.IsBuilder 57 5 (w.heap.size + 1 + 1) (w.heap.size + 1 + 1) (Lib.byteCells []) (((w.alloc (Obj.cells #[Value.string ra, Value.string rb, Value.string rc, Value.slice a ks.length cap] 29)).alloc (Obj.cells #[Value.bool (!q), Value.string ra] 50)).alloc (Obj.cells #[Value.pointer none, Value.slice none 0 0] 57)) := by
      have := Lib.fresh_isBuilder 57 5 ((w.alloc (Obj.cells #[Value.string ra, Value.string rb, Value.string rc, Value.slice a ks.length cap] 29)).alloc (Obj.cells #[Value.bool (!q), Value.string ra] 50))
      simp at this
      exact this
    have HI0 := hide I0
    clear I0
    have X2 := hide (HX.out.alloc (Obj.cells #[Value.bool (!q), Value.string ra] 50))
    have hs2 : ((w.alloc (Obj.cells #[Value.string ra, Value.string rb, Value.string rc, Value.slice a ks.length cap] 29)).alloc (Obj.cells #[Value.bool (!q), Value.string ra] 50)).heap.size = w.heap.size + 1 + 1 := by simp
    have hA : Hid (Below (w.heap.size + 1 + 1) ((w.alloc (Obj.cells #[Value.string ra, Value.string rb, Value.string rc, Value.slice a ks.length cap] 29)).alloc (Obj.cells #[Value.bool (!q), Value.string ra] 50)) (((w.alloc (Obj.cells #[Value.string ra, Value.string rb, Value.string rc, Value.slice a ks.length cap] 29)).alloc (Obj.cells #[Value.bool (!q), Value.string ra] 50)).alloc (Obj.cells #[Value.pointer none, Value.slice none 0 0] 57))) := by
      have := (Below.refl ((w.alloc (Obj.cells #[Value.string ra, Value.string rb, Value.string rc, Value.slice a ks.length cap] 29)).alloc (Obj.cells #[Value.bool (!q), Value.string ra] 50)).heap.size ((w.alloc (Obj.cells #[Value.string ra, Value.string rb, Value.string rc, Value.slice a ks.length cap] 29)).alloc (Obj.cells #[Value.bool (!q), Value.string ra] 50))).alloc (Nat.le_refl _) (Obj.cells #[Value.pointer none, Value.slice none 0 0] 57)
      rw [hs2] at this
      exact this
    clear hs2
    have hcells : ∀ W' : World, Below (w.heap.size + 1 + 1) ((w.alloc (Obj.cells #[Value.string ra, Value.string rb, Value.string rc, Value.slice a ks.length cap] 29)).alloc (Obj.cells #[Value.bool (!q), Value.string ra] 50)) W' → W'.cell? ⟨w.heap.size, 0, none⟩ = some (.string ra) ∧ W'.cell? ⟨w.heap.size, 1, none⟩ = some (.string rb) ∧ W'.cell? ⟨w.heap.size, 2, none⟩ = some (.string rc) ∧ W'.cell? ⟨w.heap.size, 3, none⟩ = some (.slice a ks.length cap) := fun W' hb => by
      have := X2.out.keep hb (by omega)
      exact ⟨this.c0, this.c1, this.c2, this.c3⟩
    have HCE := hide hcells
    clear hcells
    have HSZ : Hid (∀ W' : World, Below (w.heap.size + 1 + 1) ((w.alloc (Obj.cells #[Value.string ra, Value.string rb, Value.string rc, Value.slice a ks.length cap] 29)).alloc (Obj.cells #[Value.bool (!q), Value.string ra] 50)) W' → w.heap.size + 1 + 1 ≤ W'.heap.size) := fun W' hb => by have := hb.size; simpa using this
    have HBW : Hid (∀ W' : World, Below (w.heap.size + 1 + 1) ((w.alloc (Obj.cells #[Value.string ra, Value.string rb, Value.string rc, Value.slice a ks.length cap] 29)).alloc (Obj.cells #[Value.bool (!q), Value.string ra] 50)) W' → Below w.heap.size w W') := fun W' hb => (HB0.out.alloc HB0.out.size _).trans (hb.mono (by omega))
    rcases hway with h8 | ⟨h8, h9⟩
    all_goals
      go_enter Try.func22, Try.ntmps22
      go_wp2_with fail
      refine (HMO.out _).mono ?_
      rintro e w1 ⟨rfl, b1⟩
      have I1 := bld_below HI0.out b1
      have c1 := hA.out.trans (b1.mono (by simp))
      go_wp2_with fail
      refine (writeString_any (w.heap.size + 1 + 1) (w.heap.size + 1 + 1) [] (bytesOf top) w1 I1 (by rw [bytesOf_size, List.length_nil]; omega) (HSZ.out _ c1)).mono ?_
      rintro e w2 ⟨rfl, I2', b2⟩
      have I2 : Lib.IsBuilder 57 5 (w.heap.size + 1 + 1) (w.heap.size + 1 + 1) (Lib.byteCells top) w2 := by simpa [bytesOf] using I2'
      have c2 := c1.trans b2
      obtain ⟨y0, y1, y2, y3⟩ := HCE.out _ c2
      clear b1 I1 b2 I2'
      go_wp2_with fail
      refine (escape_any rc w2 (by omega)).mono ?_
      rintro e w3 ⟨rfl, b3⟩
      have I3 := bld_below I2 b3
      have c3 := c2.trans (b3.mono (HSZ.out _ c2))
      clear y0 y1 y2 y3 I2 b3
      go_wp2_with fail
      refine (writeString_any (w.heap.size + 1 + 1) (w.heap.size + 1 + 1) _ (bytesOf (escL rc.data.toList)) w3 I3 (by rw [bytesOf_size]; omega) (HSZ.out _ c3)).mono ?_
      rintro e w4 ⟨rfl, I4, b4⟩
      have c4 := c3.trans b4
      have I5 : Lib.IsBuilder 57 5 (w.heap.size + 1 + 1) (w.heap.size + 1 + 1) (Lib.byteCells (top ++ escL rc.data.toList)) w4 := by simpa [bytesOf] using I4
      clear I3 I4 b4
      obtain ⟨y0, y1, y2, y3⟩ := HCE.out _ c4
      go_wp2
      go_loopw [45] (fun i wr => ∃ k : Nat, k ≤ ks.length ∧ i = .int .i64 k ∧ Lib.IsBuilder 57 5 (w.heap.size + 1 + 1) (w.heap.size + 1 + 1) (Lib.byteCells (top ++ escL rc.data.toList ++ txtL (ks.take k) ra)) wr ∧ Below (w.heap.size + 1 + 1) ((w.alloc (Obj.cells #[Value.string ra, Value.string rb, Value.string rc, Value.slice a ks.length cap] 29)).alloc (Obj.cells #[Value.bool (!q), Value.string ra] 50)) wr) (fun i _ => ks.length - (intOf i).toNat)
      case atStart => exact ⟨0, Nat.zero_le _, rfl, by simpa [txtL] using I5, c4⟩
      case round =>
        obtain ⟨k, hk, rfl, hI, hbe⟩ := hrel
        obtain ⟨y0, y1, y2, y3⟩ := HCE.out _ hbe
        have hq1 : (txtL (ks.take k) ra).length ≤ 1000000000 := by
          have h1 := txtL_len (ks.take k) ra
          have h2 := szL_take ks k
          have h3 : (ks.take k).length ≤ ks.length := by rw [List.length_take]; omega
          omega
        have hwr := HSZ.out _ hbe
        by_cases hlt : k < ks.length
        · obtain ⟨b, o', rfl, hb, hc⟩ := (HH.out.stays (HBW.out _ hbe) hB).at (by omega)
          obtain ⟨ak, ck, hx0, hx1, hx2, hx3, hkx⟩ := hc k hlt
          clear hc
          have hcn : cntL (ks[k]).ks < K := by have := cntL_at ks k hlt; omega
          have hks : (ks[k]).szN ≤ 1048576 := by have := szL_mem ks _ (List.getElem_mem hlt); omega
          have hq2 : ((ks[k]).txt ra).length ≤ 1000000000 := by have := txt_len ks[k] ra; omega
          have HTL := hide (txtL_snoc ks k hlt ra)
          have HBA := hide ((Below.refl wr.heap.size wr).alloc (Nat.le_refl _) (Obj.cells #[.string (ks[k]).ns, .string (ks[k]).nm, .string (ks[k]).tx, .slice ak (ks[k]).ks.length ck] 29))
          have hBw : B ≤ wr.heap.size := by omega
          have HQ := hide (HI.out ks[k] ra ak ck B _ hcn (hkx.stays HBA.out hBw) (Nat.le_trans hBw HBA.out.size) hks (by omega))
          have hIa := bld_below hI HBA.out
          have c5 := hbe.trans (HBA.out.mono hwr)
          have ya := (HCE.out _ c5).1
          have hlw : w.heap.size < wr.heap.size := by omega
          have hlw2 : ¬ w.heap.size = wr.heap.size := by omega
          generalize (ks[k]).txt ra = tk at *
          go_wp2_with fail
          refine HQ.out.mono ?_
          rintro e w5 ⟨rfl, b5⟩
          have I6 := bld_below hIa b5
          have c6 := c5.trans (b5.mono (HSZ.out _ c5))
          clear hIa b5 y0 y1 y2 y3 ya
          go_wp2_with fail
          refine (writeString_any (w.heap.size + 1 + 1) (w.heap.size + 1 + 1) _ (bytesOf tk) w5 I6 (by rw [bytesOf_size]; simp only [List.length_append]; omega) (HSZ.out _ c6)).mono ?_
          rintro e w6 ⟨rfl, I7, b6⟩
          have I8 : Lib.IsBuilder 57 5 (w.heap.size + 1 + 1) (w.heap.size + 1 + 1) (Lib.byteCells (top ++ escL rc.data.toList ++ txtL (ks.take (k + 1)) ra)) w6 := by rw [HTL.out, ← List.append_assoc]; simpa [bytesOf] using I7
          clear I7 I6
          go_wp2
          go_roundw
          case rel => exact ⟨k + 1, by omega, by go_num, I8, c6.trans b6⟩
          case measure => simp [intOf]; omega
        · have htk : ks.take k = ks := List.take_of_length_le (by omega)
          rw [htk] at hI hq1
          clear htk
          go_wp2_with fail
          refine (markText_close rb wr (by omega)).mono ?_
          rintro e w5 ⟨rfl, b5⟩
          have I6 := bld_below hI b5
          have c6 := hbe.trans (b5.mono hwr)
          clear y0 y1 y2 y3 b5
          have hcl : (bytesOf ([60, 47] ++ rb.data.toList ++ [62])).size ≤ 1048580 := by
            have h4 : rb.data.toList.length = rb.size := Array.length_toList
            rw [bytesOf_size]
            simp only [List.length_append, List.length_cons, List.length_nil]
            omega
          have HTD : Hid ((bytesOf ([60, 47] ++ rb.data.toList ++ [62])).data.toList = [60, 47] ++ rb.data.toList ++ [62]) := rfl
          generalize bytesOf ([60, 47] ++ rb.data.toList ++ [62]) = cl at *
          go_wp2_with fail
          refine (writeString_any (w.heap.size + 1 + 1) (w.heap.size + 1 + 1) _ cl w5 I6 (by simp only [List.length_append]; omega) (HSZ.out _ c6)).mono ?_
          rintro e w6 ⟨rfl, I7, b6⟩
          have c7 := c6.trans b6
          rw [HTD.out, ← HR2.out] at I7
          clear I6 b6
          go_wp2_with fail
          refine (Try.Builder_String_any (w.heap.size + 1 + 1) (w.heap.size + 1 + 1) _ w6 I7 (HSZ.out _ c7)).mono ?_
          rintro e w7 ⟨rfl, b7⟩
          go_wp2
          go_ret
          exact ⟨ret_strB rfl, HBW.out _ (c7.trans b7)⟩

theorem textWithin_all : ∀ K, TwS K := by
  intro K
  induction K with
  | zero => intro n o a cap B w hn; exact absurd hn (Nat.not_lt_zero _)
  | succ K ih => exact textWithin_step K ih


set_option maxHeartbeats 1000000 in
theorem nodeText_any (n : Nd) (a : Option Addr) (cap B : Nat) (w : World) (h : Nds w B a n.ks) (hB : B ≤ w.heap.size) (hs : n.szN ≤ 1048576) :
    Calls Try.prog 14 #[.agg #[.string n.ns, .string n.nm, .string n.tx, .slice a n.ks.length cap]] w fun e w' => e = .returned (.string (nodeT n)) ∧ Below w.heap.size w w' := by
  have HB0 : Hid (Below w.heap.size w (w.alloc (Obj.cells #[Value.string n.ns, Value.string n.nm, Value.string n.tx, Value.slice a n.ks.length cap] 29))) := (Below.refl _ _).alloc (Nat.le_refl _) _
  have HX := hide (BoxN.made w a cap n 29)
  have HH := hide h
  have hq := nodeOk_any n a cap B _ (h.stays HB0.out hB) (Nat.le_trans hB HB0.out.size) (short_sz n hs)
  have hz : nodeT n = if nodeB n then bytesOf (n.txt ByteArray.empty) else ByteArray.empty := rfl
  clear h
  generalize nodeT n = R at *
  generalize nodeB n = ok at *
  cases ok
  · simp only [Bool.false_eq_true, if_false] at hz
    subst hz
    go_enter Try.func14, Try.ntmps14
    go_wp2_with fail
    refine hq.mono ?_
    rintro e w1 ⟨rfl, b1⟩
    have c1 := HB0.out.trans (b1.mono HB0.out.size)
    go_wp2
    go_ret
    exact ⟨rfl, c1⟩
  · simp only [if_true] at hz
    subst hz
    go_enter Try.func14, Try.ntmps14
    go_wp2_with fail
    refine hq.mono ?_
    rintro e w1 ⟨rfl, b1⟩
    have c1 := HB0.out.trans (b1.mono HB0.out.size)
    have x1 := HX.out.next b1
    obtain ⟨_, x10, x11, x12, x13⟩ := x1
    have HQ := hide (textWithin_all (cntL n.ks + 1) n ByteArray.empty a cap B w1 (Nat.lt_succ_self _) (HH.out.stays c1 hB) (Nat.le_trans hB c1.size) hs (by decide))
    clear hq b1
    go_wp2_with fail
    refine HQ.out.mono ?_
    rintro e w2 ⟨rfl, b2⟩
    have c2 := c1.trans (b2.mono c1.size)
    go_wp2
    go_ret
    exact ⟨rfl, c2⟩
end Go.Proofs.Ytanebchmeaomgaa
