/-
  What the specification's NodeText does.
-/
import Derived.Test.YtanebchmeaomgaaSpecNodeOk
import Derived.Test.YtanebchmeaomgaaBoxNode
import Derived.Test.YtanebchmeaomgaaMathNodeT
import Derived.Test.YtanebchmeaomgaaSpecPieceText
import Derived.Deep.RegionHeld3
namespace Go.Proofs.Ytanebchmeaomgaa
open Go.RowKit M
set_option linter.unusedVariables false

def TsS (K : Nat) : Prop := ∀ (n : Nd) (o : ByteArray) (a : Option Addr) (cap B : Nat) (w : World), cntL n.ks < K → Nds w B a n.ks → B ≤ w.heap.size → n.szN ≤ 1048576 → o.size ≤ 1048576 →
    Calls Try.prog 21 #[.agg #[.string n.ns, .string n.nm, .string n.tx, .slice a n.ks.length cap], .string o] w fun e w' => e = .returned (.string (bytesOf (n.txt o))) ∧ Below w.heap.size w w'

theorem mark_open (ra rb o : ByteArray) (h : ra = o) : markT ⟨1, rb, ⟨#[]⟩, false, ⟨#[]⟩⟩ = [60] ++ rb.data.toList ++ spN ra o ++ [62] := by simp [markT, spcT, spN, h]
theorem mark_openS (ra rb o : ByteArray) (h : ¬ ra = o) : markT ⟨1, rb, ra, true, ⟨#[]⟩⟩ = [60] ++ rb.data.toList ++ spN ra o ++ [62] := by simp [markT, spcT, spN, h]
theorem mark_empty (ra rb o : ByteArray) (h : ra = o) : markT ⟨3, rb, ⟨#[]⟩, false, ⟨#[]⟩⟩ = [60] ++ rb.data.toList ++ spN ra o ++ [47, 62] := by simp [markT, spcT, spN, h]
theorem mark_emptyS (ra rb o : ByteArray) (h : ¬ ra = o) : markT ⟨3, rb, ra, true, ⟨#[]⟩⟩ = [60] ++ rb.data.toList ++ spN ra o ++ [47, 62] := by simp [markT, spcT, spN, h]
theorem close_joinN (l : List UInt8) (n : ByteArray) : bytesOf l ++ (⟨#[60, 47]⟩ : ByteArray) ++ n ++ ⟨#[62]⟩ = bytesOf (l ++ ([60, 47] ++ n.data.toList ++ [62])) := by
  apply ByteArray.ext
  simp [bytesOf]

set_option maxRecDepth 100000 in
set_option maxHeartbeats 4000000 in
theorem l8Text_step (K : Nat) (ih : TsS K) : TsS (K + 1) := by
  intro n o a cap B w hn h hB hs ho
  have HI : Hid (TsS K) := ih
  clear ih
  have HX := hide (BoxN.made w a cap n 29)
  rw [szN_ks] at hs
  have HT := hide (txt_ks n o)
  have HL := hide (txt_len n o)
  rw [szN_ks] at HL
  generalize n.txt o = R at *
  obtain ⟨ra, rb, rc, ks⟩ := n
  simp only [Nd.ns, Nd.nm, Nd.tx, Nd.ks] at *
  have HB0 : Hid (Below w.heap.size w (w.alloc (Obj.cells #[Value.string ra, Value.string rb, Value.string rc, Value.slice a ks.length cap] 29))) := (Below.refl _ _).alloc (Nat.le_refl _) _
  have HH := hide h
  clear h
  have HBW : Hid (∀ W' : World, Below (w.heap.size + 1) (w.alloc (Obj.cells #[Value.string ra, Value.string rb, Value.string rc, Value.slice a ks.length cap] 29)) W' → Below w.heap.size w W') := fun W' hb => HB0.out.trans (hb.mono (by omega))
  have HSZ : Hid (∀ W' : World, Below (w.heap.size + 1) (w.alloc (Obj.cells #[Value.string ra, Value.string rb, Value.string rc, Value.slice a ks.length cap] 29)) W' → w.heap.size + 1 ≤ W'.heap.size) := fun W' hb => by have := hb.size; simpa using this
  have hcells : ∀ W' : World, Below (w.heap.size + 1) (w.alloc (Obj.cells #[Value.string ra, Value.string rb, Value.string rc, Value.slice a ks.length cap] 29)) W' → W'.cell? ⟨w.heap.size, 0, none⟩ = some (.string ra) ∧ W'.cell? ⟨w.heap.size, 1, none⟩ = some (.string rb) ∧ W'.cell? ⟨w.heap.size, 2, none⟩ = some (.string rc) ∧ W'.cell? ⟨w.heap.size, 3, none⟩ = some (.slice a ks.length cap) := fun W' hb => by
    have := HX.out.keep hb (by omega)
    exact ⟨this.c0, this.c1, this.c2, this.c3⟩
  have HCE := hide hcells
  clear hcells
  by_cases he : rc.size = 0 ∧ ks.length = 0
  · have h8 := emptyT he.1
    have hks : ks = [] := List.eq_nil_of_length_eq_zero he.2
    have HR := hide (HT.out.trans (if_pos he))
    subst hks
    simp only [List.length_nil] at *
    clear HT
    by_cases hq : ra = o
    · have hq1 := eqStrN hq
      rw [← mark_empty ra rb o hq] at HR
      clear hq
      go_enter Try.func21, Try.ntmps21
      go_wp2_with fail
      refine (specPieceText_any ⟨3, rb, ⟨#[]⟩, false, ⟨#[]⟩⟩ _ (show rb.size ≤ 1099511627776 by omega) (Nat.zero_le _) (Nat.zero_le _)).mono ?_
      rintro e w1 ⟨rfl, b1⟩
      go_wp2
      go_ret
      exact ⟨ret_strE (by rw [HR.out]), (HB0.out.alloc HB0.out.size _).trans (b1.mono (by simp; omega))⟩
    · have hq1 := neStrN hq
      rw [← mark_emptyS ra rb o hq] at HR
      clear hq
      go_enter Try.func21, Try.ntmps21
      go_wp2_with fail
      refine (specPieceText_any ⟨3, rb, ra, true, ⟨#[]⟩⟩ _ (show rb.size ≤ 1099511627776 by omega) (show ra.size ≤ 1099511627776 by omega) (Nat.zero_le _)).mono ?_
      rintro e w1 ⟨rfl, b1⟩
      go_wp2
      go_ret
      exact ⟨ret_strE (by rw [HR.out]), (HB0.out.alloc HB0.out.size _).trans (b1.mono (by simp; omega))⟩
  · have HR := hide (HT.out.trans (if_neg he))
    clear HT
    have HL2 := hide (txtL_len ks ra)
    have hway : rc.toList.isEmpty = false ∨ (rc.toList.isEmpty = true ∧ ((ks.length : Int) == 0) = false) := by
      by_cases e : rc.size = 0
      · exact .inr ⟨emptyT e, by rw [beq_eq_false_iff_ne]; omega⟩
      · exact .inl (emptyF e)
    clear he
    have hpp : ∃ top, [60] ++ rb.data.toList ++ spN ra o ++ [62] = top := ⟨_, rfl⟩
    obtain ⟨top, htop⟩ := hpp
    rw [htop] at HR
    have hRl : top.length + (escL rc.data.toList).length + (txtL ks ra).length + rb.size ≤ 1000000000 := by
      have := HL.out
      rw [HR.out] at this
      simp only [List.length_append] at this
      omega
    have HES := hide (fun W : World => specEscape_any rc W (by omega))
    have hx1 : (bytesOf top).size = top.length := bytesOf_size _
    have hx2 : (bytesOf (escL rc.data.toList)).size = (escL rc.data.toList).length := bytesOf_size _
    have hz1 : ¬ (9223372036854775807 < (bytesOf top).size + (bytesOf (escL rc.data.toList)).size) := by omega
    have hj1 : Hid (bytesOf top ++ bytesOf (escL rc.data.toList) = bytesOf (top ++ escL rc.data.toList)) := bytesOf_append _ _
    clear hx1 hx2
    by_cases hq : ra = o
    · have hq1 := eqStrN hq
      have HPT := hide (fun W : World => specPieceText_any ⟨1, rb, ⟨#[]⟩, false, ⟨#[]⟩⟩ W (show rb.size ≤ 1099511627776 by omega) (Nat.zero_le _) (Nat.zero_le _))
      rw [mark_open ra rb o hq, htop] at HPT
      clear hq htop
      rcases hway with h8 | ⟨h8, h9⟩
      all_goals
        have KP : Hid (((w.alloc (Obj.cells #[Value.string ra, Value.string rb, Value.string rc, Value.slice a ks.length cap] 29)).alloc (Obj.cells #[Value.int .i64 1, Value.string rb, Value.string ⟨#[]⟩, Value.bool false, Value.string ⟨#[]⟩] 46)).drew.cell? ⟨w.heap.size, 2, none⟩ = some (.string rc) ∧ ((w.alloc (Obj.cells #[Value.string ra, Value.string rb, Value.string rc, Value.slice a ks.length cap] 29)).alloc (Obj.cells #[Value.int .i64 1, Value.string rb, Value.string ⟨#[]⟩, Value.bool false, Value.string ⟨#[]⟩] 46)).drew.cell? ⟨w.heap.size + 1, 0, none⟩ = some (.int .i64 1) ∧ ((w.alloc (Obj.cells #[Value.string ra, Value.string rb, Value.string rc, Value.slice a ks.length cap] 29)).alloc (Obj.cells #[Value.int .i64 1, Value.string rb, Value.string ⟨#[]⟩, Value.bool false, Value.string ⟨#[]⟩] 46)).drew.cell? ⟨w.heap.size + 1, 1, none⟩ = some (.string rb) ∧ ((w.alloc (Obj.cells #[Value.string ra, Value.string rb, Value.string rc, Value.slice a ks.length cap] 29)).alloc (Obj.cells #[Value.int .i64 1, Value.string rb, Value.string ⟨#[]⟩, Value.bool false, Value.string ⟨#[]⟩] 46)).drew.cell? ⟨w.heap.size + 1, 2, none⟩ = some (.string ⟨#[]⟩) ∧ ((w.alloc (Obj.cells #[Value.string ra, Value.string rb, Value.string rc, Value.slice a ks.length cap] 29)).alloc (Obj.cells #[Value.int .i64 1, Value.string rb, Value.string ⟨#[]⟩, Value.bool false, Value.string ⟨#[]⟩] 46)).drew.cell? ⟨w.heap.size + 1, 3, none⟩ = some (.bool false) ∧ ((w.alloc (Obj.cells #[Value.string ra, Value.string rb, Value.string rc, Value.slice a ks.length cap] 29)).alloc (Obj.cells #[Value.int .i64 1, Value.string rb, Value.string ⟨#[]⟩, Value.bool false, Value.string ⟨#[]⟩] 46)).drew.cell? ⟨w.heap.size + 1, 4, none⟩ = some (.string ⟨#[]⟩)) := by
          refine ⟨?_, ?_, ?_, ?_, ?_, ?_⟩ <;> simp
        have hl1 : w.heap.size < ((w.alloc (Obj.cells #[Value.string ra, Value.string rb, Value.string rc, Value.slice a ks.length cap] 29)).alloc (Obj.cells #[Value.int .i64 1, Value.string rb, Value.string ⟨#[]⟩, Value.bool false, Value.string ⟨#[]⟩] 46)).drew.heap.size := by show w.heap.size < ((w.alloc (Obj.cells #[Value.string ra, Value.string rb, Value.string rc, Value.slice a ks.length cap] 29)).alloc (Obj.cells #[Value.int .i64 1, Value.string rb, Value.string ⟨#[]⟩, Value.bool false, Value.string ⟨#[]⟩] 46)).heap.size; simp <;> omega
        have hl2 : w.heap.size + 1 < ((w.alloc (Obj.cells #[Value.string ra, Value.string rb, Value.string rc, Value.slice a ks.length cap] 29)).alloc (Obj.cells #[Value.int .i64 1, Value.string rb, Value.string ⟨#[]⟩, Value.bool false, Value.string ⟨#[]⟩] 46)).drew.heap.size := by show w.heap.size + 1 < ((w.alloc (Obj.cells #[Value.string ra, Value.string rb, Value.string rc, Value.slice a ks.length cap] 29)).alloc (Obj.cells #[Value.int .i64 1, Value.string rb, Value.string ⟨#[]⟩, Value.bool false, Value.string ⟨#[]⟩] 46)).heap.size; simp
        have HC1 : Hid (Below (w.heap.size + 1) (w.alloc (Obj.cells #[Value.string ra, Value.string rb, Value.string rc, Value.slice a ks.length cap] 29)) ((w.alloc (Obj.cells #[Value.string ra, Value.string rb, Value.string rc, Value.slice a ks.length cap] 29)).alloc (Obj.cells #[Value.int .i64 1, Value.string rb, Value.string ⟨#[]⟩, Value.bool false, Value.string ⟨#[]⟩] 46)).drew) := below_drewN ((Below.refl (w.heap.size + 1) (w.alloc (Obj.cells #[Value.string ra, Value.string rb, Value.string rc, Value.slice a ks.length cap] 29))).alloc (by simp) _)
        have HL1 := hide hl1
        have HL2' := hide hl2
        clear hl1 hl2
        go_enter Try.func21, Try.ntmps21
        go_wp2
        go_region_held3 (fun W => W.cell? ⟨w.heap.size, 2, none⟩ = some (.string rc) ∧ W.cell? ⟨w.heap.size + 1, 0, none⟩ = some (.int .i64 1) ∧ W.cell? ⟨w.heap.size + 1, 1, none⟩ = some (.string rb) ∧ W.cell? ⟨w.heap.size + 1, 2, none⟩ = some (.string ⟨#[]⟩) ∧ W.cell? ⟨w.heap.size + 1, 3, none⟩ = some (.bool false) ∧ W.cell? ⟨w.heap.size + 1, 4, none⟩ = some (.string ⟨#[]⟩)) (first | exact KP.out | exact K1.out) (first
          | (go_at_call 26; refine (HPT.out _).mono ?_; rintro e w1 ⟨rfl, b1⟩; have K1 := hide (And.intro (((bcellN b1).1 _ _ HL1.out).trans KP.out.1) (And.intro (((bcellN b1).1 _ _ HL2'.out).trans KP.out.2.1) (And.intro (((bcellN b1).1 _ _ HL2'.out).trans KP.out.2.2.1) (And.intro (((bcellN b1).1 _ _ HL2'.out).trans KP.out.2.2.2.1) (And.intro (((bcellN b1).1 _ _ HL2'.out).trans KP.out.2.2.2.2.1) (((bcellN b1).1 _ _ HL2'.out).trans KP.out.2.2.2.2.2)))))))
          | (go_at_call 27; refine (HES.out _).mono ?_; rintro e w2 ⟨rfl, hw2⟩; obtain rfl := hw2.symm))
        have c1 : Below (w.heap.size + 1) (w.alloc (Obj.cells #[Value.string ra, Value.string rb, Value.string rc, Value.slice a ks.length cap] 29)) w1 := HC1.out.trans (b1.mono (Nat.succ_le_of_lt HL1.out))
        clear b1 K1
        go_wp2
        go_loopw [6, 7] (fun sv i wr => ∃ k : Nat, k ≤ ks.length ∧ i = .int .i64 k ∧ sv = .string (bytesOf (top ++ escL rc.data.toList ++ txtL (ks.take k) ra)) ∧ Below (w.heap.size + 1) (w.alloc (Obj.cells #[Value.string ra, Value.string rb, Value.string rc, Value.slice a ks.length cap] 29)) wr) (fun _ i _ => ks.length - (intOf i).toNat)
        case atStart => exact ⟨0, Nat.zero_le _, rfl, by rw [hj1.out]; simp [txtL], c1⟩
        case round =>
          obtain ⟨k, hk, rfl, rfl, hbe⟩ := hrel
          have hwr := HSZ.out _ hbe
          have hq1' : (txtL (ks.take k) ra).length ≤ 200000000 := by
            have h1 := txtL_len (ks.take k) ra
            have h2 := szL_take ks k
            have h3 : (ks.take k).length ≤ ks.length := by rw [List.length_take]; omega
            omega
          have hz3 : (bytesOf (top ++ escL rc.data.toList ++ txtL (ks.take k) ra)).size ≤ 1200000000 := by rw [bytesOf_size]; simp only [List.length_append]; omega
          have hc0 := HCE.out _ hbe
          obtain ⟨y0, y1, y2, y3⟩ := hc0
          by_cases hlt : k < ks.length
          · obtain ⟨b, o', rfl, hb, hc⟩ := (HH.out.stays (HBW.out _ hbe) hB).at (by omega)
            obtain ⟨ak, ck, hx0, hx1, hx2, hx3, hkx⟩ := hc k hlt
            clear hc
            have hcn : cntL (ks[k]).ks < K := by have := cntL_at ks k hlt; omega
            have hks : (ks[k]).szN ≤ 1048576 := by have := szL_mem ks _ (List.getElem_mem hlt); omega
            have hz4 : (bytesOf ((ks[k]).txt ra)).size ≤ 200000000 := by have := txt_len ks[k] ra; rw [bytesOf_size]; omega
            have HTL := hide (show bytesOf (top ++ escL rc.data.toList ++ txtL (ks.take k) ra) ++ bytesOf ((ks[k]).txt ra) = bytesOf (top ++ escL rc.data.toList ++ txtL (ks.take (k + 1)) ra) by rw [txtL_snoc ks k hlt ra, bytesOf_append]; simp only [List.append_assoc])
            have hBw : B ≤ wr.drew.heap.size := by show B ≤ wr.heap.size; omega
            have HQ := hide (HI.out ks[k] ra ak ck B wr.drew hcn hkx.drew hBw hks (by omega))
            have KK := hide (And.intro y0 (And.intro y3 (And.intro hx0 (And.intro hx1 (And.intro hx2 hx3)))))
            have hl1 : b < wr.drew.heap.size := by show b < wr.heap.size; omega
            have hl2 : w.heap.size < wr.drew.heap.size := by show w.heap.size < wr.heap.size; omega
            have hbd := below_drewN hbe
            generalize bytesOf ((ks[k]).txt ra) = tk at *
            generalize bytesOf (top ++ escL rc.data.toList ++ txtL (ks.take k) ra) = sk at *
            have hz5 : ¬ (9223372036854775807 < sk.size + tk.size) := by omega
            clear y1 y2
            go_wp2
            go_region_held3 (fun W => W.cell? ⟨w.heap.size, 0, none⟩ = some (.string ra) ∧ W.cell? ⟨w.heap.size, 3, none⟩ = some (.slice (some ⟨b, o', none⟩) ks.length cap) ∧ W.cell? ⟨b, o' + k * 4, none⟩ = some (.string ks[k].ns) ∧ W.cell? ⟨b, o' + k * 4 + 1, none⟩ = some (.string ks[k].nm) ∧ W.cell? ⟨b, o' + k * 4 + 2, none⟩ = some (.string ks[k].tx) ∧ W.cell? ⟨b, o' + k * 4 + 3, none⟩ = some (.slice ak ks[k].ks.length ck)) (first | exact KK.out | exact KK2.out) ((go_at_call 21; refine HQ.out.mono ?_; rintro e w3 ⟨rfl, b3⟩; have KK2 := hide (And.intro (((bcellN b3).1 _ _ hl2).trans KK.out.1) (And.intro (((bcellN b3).1 _ _ hl2).trans KK.out.2.1) (And.intro (((bcellN b3).1 _ _ hl1).trans KK.out.2.2.1) (And.intro (((bcellN b3).1 _ _ hl1).trans KK.out.2.2.2.1) (And.intro (((bcellN b3).1 _ _ hl1).trans KK.out.2.2.2.2.1) (((bcellN b3).1 _ _ hl1).trans KK.out.2.2.2.2.2))))))))
            all_goals
              have c3 := hbd.trans (b3.mono hwr)
              clear b3
              go_wp2
              go_roundw
              case rel => exact ⟨k + 1, by omega, by go_num, by rw [HTL.out], c3⟩
              case measure => simp [intOf]; omega
          · have htk : ks.take k = ks := List.take_of_length_le (by omega)
            have HJ := hide (show bytesOf (top ++ escL rc.data.toList ++ txtL (ks.take k) ra) ++ (⟨#[60, 47]⟩ : ByteArray) ++ rb ++ ⟨#[62]⟩ = bytesOf R by rw [close_joinN, htk, HR.out])
            generalize bytesOf (top ++ escL rc.data.toList ++ txtL (ks.take k) ra) = sk at *
            have hz5 : ¬ (9223372036854775807 < sk.size + 2) := by omega
            have hz6 : ¬ (9223372036854775807 < sk.size + 2 + rb.size) := by omega
            have hz7 : ¬ (9223372036854775807 < sk.size + 2 + rb.size + 1) := by omega
            go_wp2
            go_ret
            exact ⟨ret_strE HJ.out, HBW.out _ hbe⟩
    · have hq1 := neStrN hq
      have HPT := hide (fun W : World => specPieceText_any ⟨1, rb, ra, true, ⟨#[]⟩⟩ W (show rb.size ≤ 1099511627776 by omega) (show ra.size ≤ 1099511627776 by omega) (Nat.zero_le _))
      rw [mark_openS ra rb o hq, htop] at HPT
      clear hq htop
      rcases hway with h8 | ⟨h8, h9⟩
      all_goals
        have KP : Hid (((w.alloc (Obj.cells #[Value.string ra, Value.string rb, Value.string rc, Value.slice a ks.length cap] 29)).alloc (Obj.cells #[Value.int .i64 1, Value.string rb, Value.string ra, Value.bool true, Value.string ⟨#[]⟩] 46)).drew.cell? ⟨w.heap.size, 2, none⟩ = some (.string rc) ∧ ((w.alloc (Obj.cells #[Value.string ra, Value.string rb, Value.string rc, Value.slice a ks.length cap] 29)).alloc (Obj.cells #[Value.int .i64 1, Value.string rb, Value.string ra, Value.bool true, Value.string ⟨#[]⟩] 46)).drew.cell? ⟨w.heap.size + 1, 0, none⟩ = some (.int .i64 1) ∧ ((w.alloc (Obj.cells #[Value.string ra, Value.string rb, Value.string rc, Value.slice a ks.length cap] 29)).alloc (Obj.cells #[Value.int .i64 1, Value.string rb, Value.string ra, Value.bool true, Value.string ⟨#[]⟩] 46)).drew.cell? ⟨w.heap.size + 1, 1, none⟩ = some (.string rb) ∧ ((w.alloc (Obj.cells #[Value.string ra, Value.string rb, Value.string rc, Value.slice a ks.length cap] 29)).alloc (Obj.cells #[Value.int .i64 1, Value.string rb, Value.string ra, Value.bool true, Value.string ⟨#[]⟩] 46)).drew.cell? ⟨w.heap.size + 1, 2, none⟩ = some (.string ra) ∧ ((w.alloc (Obj.cells #[Value.string ra, Value.string rb, Value.string rc, Value.slice a ks.length cap] 29)).alloc (Obj.cells #[Value.int .i64 1, Value.string rb, Value.string ra, Value.bool true, Value.string ⟨#[]⟩] 46)).drew.cell? ⟨w.heap.size + 1, 3, none⟩ = some (.bool true) ∧ ((w.alloc (Obj.cells #[Value.string ra, Value.string rb, Value.string rc, Value.slice a ks.length cap] 29)).alloc (Obj.cells #[Value.int .i64 1, Value.string rb, Value.string ra, Value.bool true, Value.string ⟨#[]⟩] 46)).drew.cell? ⟨w.heap.size + 1, 4, none⟩ = some (.string ⟨#[]⟩)) := by
          refine ⟨?_, ?_, ?_, ?_, ?_, ?_⟩ <;> simp
        have hl1 : w.heap.size < ((w.alloc (Obj.cells #[Value.string ra, Value.string rb, Value.string rc, Value.slice a ks.length cap] 29)).alloc (Obj.cells #[Value.int .i64 1, Value.string rb, Value.string ra, Value.bool true, Value.string ⟨#[]⟩] 46)).drew.heap.size := by show w.heap.size < ((w.alloc (Obj.cells #[Value.string ra, Value.string rb, Value.string rc, Value.slice a ks.length cap] 29)).alloc (Obj.cells #[Value.int .i64 1, Value.string rb, Value.string ra, Value.bool true, Value.string ⟨#[]⟩] 46)).heap.size; simp <;> omega
        have hl2 : w.heap.size + 1 < ((w.alloc (Obj.cells #[Value.string ra, Value.string rb, Value.string rc, Value.slice a ks.length cap] 29)).alloc (Obj.cells #[Value.int .i64 1, Value.string rb, Value.string ra, Value.bool true, Value.string ⟨#[]⟩] 46)).drew.heap.size := by show w.heap.size + 1 < ((w.alloc (Obj.cells #[Value.string ra, Value.string rb, Value.string rc, Value.slice a ks.length cap] 29)).alloc (Obj.cells #[Value.int .i64 1, Value.string rb, Value.string ra, Value.bool true, Value.string ⟨#[]⟩] 46)).heap.size; simp
        have HC1 : Hid (Below (w.heap.size + 1) (w.alloc (Obj.cells #[Value.string ra, Value.string rb, Value.string rc, Value.slice a ks.length cap] 29)) ((w.alloc (Obj.cells #[Value.string ra, Value.string rb, Value.string rc, Value.slice a ks.length cap] 29)).alloc (Obj.cells #[Value.int .i64 1, Value.string rb, Value.string ra, Value.bool true, Value.string ⟨#[]⟩] 46)).drew) := below_drewN ((Below.refl (w.heap.size + 1) (w.alloc (Obj.cells #[Value.string ra, Value.string rb, Value.string rc, Value.slice a ks.length cap] 29))).alloc (by simp) _)
        have HL1 := hide hl1
        have HL2' := hide hl2
        clear hl1 hl2
        go_enter Try.func21, Try.ntmps21
        go_wp2
        go_region_held3 (fun W => W.cell? ⟨w.heap.size, 2, none⟩ = some (.string rc) ∧ W.cell? ⟨w.heap.size + 1, 0, none⟩ = some (.int .i64 1) ∧ W.cell? ⟨w.heap.size + 1, 1, none⟩ = some (.string rb) ∧ W.cell? ⟨w.heap.size + 1, 2, none⟩ = some (.string ra) ∧ W.cell? ⟨w.heap.size + 1, 3, none⟩ = some (.bool true) ∧ W.cell? ⟨w.heap.size + 1, 4, none⟩ = some (.string ⟨#[]⟩)) (first | exact KP.out | exact K1.out) (first
          | (go_at_call 26; refine (HPT.out _).mono ?_; rintro e w1 ⟨rfl, b1⟩; have K1 := hide (And.intro (((bcellN b1).1 _ _ HL1.out).trans KP.out.1) (And.intro (((bcellN b1).1 _ _ HL2'.out).trans KP.out.2.1) (And.intro (((bcellN b1).1 _ _ HL2'.out).trans KP.out.2.2.1) (And.intro (((bcellN b1).1 _ _ HL2'.out).trans KP.out.2.2.2.1) (And.intro (((bcellN b1).1 _ _ HL2'.out).trans KP.out.2.2.2.2.1) (((bcellN b1).1 _ _ HL2'.out).trans KP.out.2.2.2.2.2)))))))
          | (go_at_call 27; refine (HES.out _).mono ?_; rintro e w2 ⟨rfl, hw2⟩; obtain rfl := hw2.symm))
        have c1 : Below (w.heap.size + 1) (w.alloc (Obj.cells #[Value.string ra, Value.string rb, Value.string rc, Value.slice a ks.length cap] 29)) w1 := HC1.out.trans (b1.mono (Nat.succ_le_of_lt HL1.out))
        clear b1 K1
        go_wp2
        go_loopw [6, 7] (fun sv i wr => ∃ k : Nat, k ≤ ks.length ∧ i = .int .i64 k ∧ sv = .string (bytesOf (top ++ escL rc.data.toList ++ txtL (ks.take k) ra)) ∧ Below (w.heap.size + 1) (w.alloc (Obj.cells #[Value.string ra, Value.string rb, Value.string rc, Value.slice a ks.length cap] 29)) wr) (fun _ i _ => ks.length - (intOf i).toNat)
        case atStart => exact ⟨0, Nat.zero_le _, rfl, by rw [hj1.out]; simp [txtL], c1⟩
        case round =>
          obtain ⟨k, hk, rfl, rfl, hbe⟩ := hrel
          have hwr := HSZ.out _ hbe
          have hq1' : (txtL (ks.take k) ra).length ≤ 200000000 := by
            have h1 := txtL_len (ks.take k) ra
            have h2 := szL_take ks k
            have h3 : (ks.take k).length ≤ ks.length := by rw [List.length_take]; omega
            omega
          have hz3 : (bytesOf (top ++ escL rc.data.toList ++ txtL (ks.take k) ra)).size ≤ 1200000000 := by rw [bytesOf_size]; simp only [List.length_append]; omega
          have hc0 := HCE.out _ hbe
          obtain ⟨y0, y1, y2, y3⟩ := hc0
          by_cases hlt : k < ks.length
          · obtain ⟨b, o', rfl, hb, hc⟩ := (HH.out.stays (HBW.out _ hbe) hB).at (by omega)
            obtain ⟨ak, ck, hx0, hx1, hx2, hx3, hkx⟩ := hc k hlt
            clear hc
            have hcn : cntL (ks[k]).ks < K := by have := cntL_at ks k hlt; omega
            have hks : (ks[k]).szN ≤ 1048576 := by have := szL_mem ks _ (List.getElem_mem hlt); omega
            have hz4 : (bytesOf ((ks[k]).txt ra)).size ≤ 200000000 := by have := txt_len ks[k] ra; rw [bytesOf_size]; omega
            have HTL := hide (show bytesOf (top ++ escL rc.data.toList ++ txtL (ks.take k) ra) ++ bytesOf ((ks[k]).txt ra) = bytesOf (top ++ escL rc.data.toList ++ txtL (ks.take (k + 1)) ra) by rw [txtL_snoc ks k hlt ra, bytesOf_append]; simp only [List.append_assoc])
            have hBw : B ≤ wr.drew.heap.size := by show B ≤ wr.heap.size; omega
            have HQ := hide (HI.out ks[k] ra ak ck B wr.drew hcn hkx.drew hBw hks (by omega))
            have KK := hide (And.intro y0 (And.intro y3 (And.intro hx0 (And.intro hx1 (And.intro hx2 hx3)))))
            have hl1 : b < wr.drew.heap.size := by show b < wr.heap.size; omega
            have hl2 : w.heap.size < wr.drew.heap.size := by show w.heap.size < wr.heap.size; omega
            have hbd := below_drewN hbe
            generalize bytesOf ((ks[k]).txt ra) = tk at *
            generalize bytesOf (top ++ escL rc.data.toList ++ txtL (ks.take k) ra) = sk at *
            have hz5 : ¬ (9223372036854775807 < sk.size + tk.size) := by omega
            clear y1 y2
            go_wp2
            go_region_held3 (fun W => W.cell? ⟨w.heap.size, 0, none⟩ = some (.string ra) ∧ W.cell? ⟨w.heap.size, 3, none⟩ = some (.slice (some ⟨b, o', none⟩) ks.length cap) ∧ W.cell? ⟨b, o' + k * 4, none⟩ = some (.string ks[k].ns) ∧ W.cell? ⟨b, o' + k * 4 + 1, none⟩ = some (.string ks[k].nm) ∧ W.cell? ⟨b, o' + k * 4 + 2, none⟩ = some (.string ks[k].tx) ∧ W.cell? ⟨b, o' + k * 4 + 3, none⟩ = some (.slice ak ks[k].ks.length ck)) (first | exact KK.out | exact KK2.out) ((go_at_call 21; refine HQ.out.mono ?_; rintro e w3 ⟨rfl, b3⟩; have KK2 := hide (And.intro (((bcellN b3).1 _ _ hl2).trans KK.out.1) (And.intro (((bcellN b3).1 _ _ hl2).trans KK.out.2.1) (And.intro (((bcellN b3).1 _ _ hl1).trans KK.out.2.2.1) (And.intro (((bcellN b3).1 _ _ hl1).trans KK.out.2.2.2.1) (And.intro (((bcellN b3).1 _ _ hl1).trans KK.out.2.2.2.2.1) (((bcellN b3).1 _ _ hl1).trans KK.out.2.2.2.2.2))))))))
            all_goals
              have c3 := hbd.trans (b3.mono hwr)
              clear b3
              go_wp2
              go_roundw
              case rel => exact ⟨k + 1, by omega, by go_num, by rw [HTL.out], c3⟩
              case measure => simp [intOf]; omega
          · have htk : ks.take k = ks := List.take_of_length_le (by omega)
            have HJ := hide (show bytesOf (top ++ escL rc.data.toList ++ txtL (ks.take k) ra) ++ (⟨#[60, 47]⟩ : ByteArray) ++ rb ++ ⟨#[62]⟩ = bytesOf R by rw [close_joinN, htk, HR.out])
            generalize bytesOf (top ++ escL rc.data.toList ++ txtL (ks.take k) ra) = sk at *
            have hz5 : ¬ (9223372036854775807 < sk.size + 2) := by omega
            have hz6 : ¬ (9223372036854775807 < sk.size + 2 + rb.size) := by omega
            have hz7 : ¬ (9223372036854775807 < sk.size + 2 + rb.size + 1) := by omega
            go_wp2
            go_ret
            exact ⟨ret_strE HJ.out, HBW.out _ hbe⟩

theorem l8Text_all : ∀ K, TsS K := by
  intro K
  induction K with
  | zero => intro n o a cap B w hn; exact absurd hn (Nat.not_lt_zero _)
  | succ K ih => exact l8Text_step K ih

set_option maxHeartbeats 1000000 in
theorem specNodeText_any (n : Nd) (a : Option Addr) (cap B : Nat) (w : World) (h : Nds w B a n.ks) (hB : B ≤ w.heap.size) (hs : n.szN ≤ 1048576) :
    Calls Try.prog 13 #[.agg #[.string n.ns, .string n.nm, .string n.tx, .slice a n.ks.length cap]] w fun e w' => e = .returned (.string (nodeT n)) ∧ Below w.heap.size w w' := by
  have HB0 : Hid (Below w.heap.size w (w.alloc (Obj.cells #[Value.string n.ns, Value.string n.nm, Value.string n.tx, Value.slice a n.ks.length cap] 29))) := (Below.refl _ _).alloc (Nat.le_refl _) _
  have HX := hide (BoxN.made w a cap n 29)
  have HH := hide h
  have hq := specNodeOk_any n a cap B _ (h.stays HB0.out hB) (Nat.le_trans hB HB0.out.size) (short_sz n hs)
  have hz : nodeT n = if nodeB n then bytesOf (n.txt ByteArray.empty) else ByteArray.empty := rfl
  clear h
  generalize nodeT n = R at *
  generalize nodeB n = ok at *
  cases ok
  · simp only [Bool.false_eq_true, if_false] at hz
    subst hz
    go_enter Try.func13, Try.ntmps13
    go_wp2_with fail
    refine hq.mono ?_
    rintro e w1 ⟨rfl, b1⟩
    have c1 := HB0.out.trans (b1.mono HB0.out.size)
    go_wp2
    go_ret
    exact ⟨rfl, c1⟩
  · simp only [if_true] at hz
    subst hz
    go_enter Try.func13, Try.ntmps13
    go_wp2_with fail
    refine hq.mono ?_
    rintro e w1 ⟨rfl, b1⟩
    have c1 := HB0.out.trans (b1.mono HB0.out.size)
    have x1 := HX.out.next b1
    obtain ⟨_, x10, x11, x12, x13⟩ := x1
    have HQ := hide (l8Text_all (cntL n.ks + 1) n ByteArray.empty a cap B w1 (Nat.lt_succ_self _) (HH.out.stays c1 hB) (Nat.le_trans hB c1.size) hs (by decide))
    clear hq b1
    go_wp2_with fail
    refine HQ.out.mono ?_
    rintro e w2 ⟨rfl, b2⟩
    have c2 := c1.trans (b2.mono c1.size)
    go_wp2
    go_ret
    exact ⟨rfl, c2⟩

end Go.Proofs.Ytanebchmeaomgaa
