/-
  What the specification's ParsePath does.
-/
import Derived.Test.YtfhcniifennfbaaGreatDoorUnq
import Derived.Test.YtfhcniifennfbaaGreatDoorParsePath
import Derived.Deep.AppendLies
namespace Go.Proofs.YtfhcniifennfbaaGreatDoor
open Go.RowKit M
set_option linter.unusedVariables false

/-- 'l = append(l, s)', and where the new row lies. -/
theorem wp_append_str2 {w : World} {ops : Array Oper} {rest : List Oper} {o : Oper} {a : Act} {Q : Exit → Act → World → Prop} (hgd : o.guard = none) (s x : Operand)
    (ho : o.op = .call { callee := .builtin .append, args := #[s, x], argTypes := #[32, 32] })
    (B : Nat) (g0 n c0 : Nat) (l : List ByteArray) (hs : a.eval s = .slice (some ⟨g0, 0, none⟩) n c0) (hown : w.ownsRow B 9 1 (.slice (some ⟨g0, 0, none⟩) n c0) n (strCells l))
    (ad : Addr) (c : ByteArray) (hx : a.eval x = .slice (some ad) 1 1) (hcell : w.cell? ad = some (.string c)) (hlen : n + 1 ≤ 1099511627776) (hB : B ≤ w.heap.size)
    (h : ∀ g cap w', w'.ownsRow B 9 1 (.slice (some ⟨g, 0, none⟩) (n + 1) cap) (n + 1) (strCells (l ++ [c])) → Below B w w' → (g = g0 ∨ g = w.heap.size) → (∀ k, k < w.heap.size → k ≠ g0 → w'.heap[k]? = w.heap[k]?) → wpList Tryz.prog ops Q rest (a.put o.dst (.slice (some ⟨g, 0, none⟩) (n + 1) cap)) w') : wpList Tryz.prog ops Q (o :: rest) a w := by
  obtain ⟨i0, hi, hz0, hz1, hz2⟩ := info_parts info_str
  refine wpList_append_lies w hgd s x 32 ho B 9 i0 (.string ByteArray.empty) 1 16 Tryz.underlying32 hi hz0 hz1 hz2 rfl (by decide) _ n _ hs hown ad 1 1 [.string c] hx rfl ?_ ?_ (by decide) ?_ ?_ hB w.heap.size rfl ?_
  · intro j u hj
    match j, hj with
    | 0, hj =>
      simp at hj; subst hj
      have : ad.add 0 = ad := by unfold Addr.add; split <;> simp_all
      rw [this]; exact hcell
  · intro u hu; simp at hu; subst hu; rfl
  · unfold maxLen; omega
  · omega
  · intro g cap w' ho' hg hat _
    refine h g cap w' ?_ (below_grown hown hB hg) ?_ ?_
    · rw [strCells_append]; exact ho'
    · rcases hat with hat | hat
      · left; simp [Value.ownBlock] at hat; exact hat.symm
      · right; exact hat
    · intro k hk hne
      exact hg.block k hk (by simp [Value.ownBlock]; exact fun e => hne e)

/-- Texts that lie in a block, from its beginning on. -/
def Lie (w : World) (gp : Nat) (ps : List ByteArray) : Prop := gp < w.heap.size ∧ ∀ j (hj : j < ps.length), w.cell? ⟨gp, j, none⟩ = some (.string ps[j])
theorem Lie.below {w w' : World} {gp : Nat} {ps : List ByteArray} (h : Lie w gp ps) (hb : Below w.heap.size w w') : Lie w' gp ps :=
  ⟨Nat.lt_of_lt_of_le h.1 hb.size, fun j hj => (hb.cell (p := ⟨gp, j, none⟩) h.1).trans (h.2 j hj)⟩
theorem Lie.block {w w' : World} {gp : Nat} {ps : List ByteArray} (h : Lie w gp ps) (hs : w.heap.size ≤ w'.heap.size) (hb : w'.heap[gp]? = w.heap[gp]?) : Lie w' gp ps :=
  ⟨Nat.lt_of_lt_of_le h.1 hs, fun j hj => (World.cell?_of_block (w := w) hb).trans (h.2 j hj)⟩

theorem head_of {s : ByteArray} (h : 0 < s.size) : s.data.toList.head? = some s[0] := by
  have e : s.data.toList.length = s.size := Array.length_toList
  cases hl : s.data.toList with
  | nil => rw [hl] at e; simp at e; omega
  | cons c r =>
    have h0 : s.data.toList[0]'(by omega) = c := by simp [hl]
    have h1 : s[0] = s.data.toList[0]'(by omega) := rfl
    rw [h1, h0]; rfl

theorem strip_take {ps : List ByteArray} {n : Nat} (h : ps.length = n + 1) : ∃ j, strip ps = ps.take j ∧ n ≤ j ∧ j ≤ n + 1 ∧ (j = n → ps[n]'(by omega) = bytesOf []) ∧ (j = n + 1 → ¬ ps[n]'(by omega) = bytesOf []) := by
  by_cases hl : ps[n]'(by omega) = bytesOf []
  · exact ⟨n, strip_yes h hl, Nat.le_refl _, by omega, fun _ => hl, fun e => absurd e (by omega)⟩
  · exact ⟨n + 1, by rw [strip_no h hl, ← h, List.take_length], by omega, Nat.le_refl _, fun e => absurd e (by omega), fun _ => hl⟩

set_option maxRecDepth 100000 in
set_option maxHeartbeats 8000000 in
theorem specParsePath_any (s : ByteArray) (w : World) (hs : s.size ≤ 1048576) :
    Calls Tryz.prog 48 #[.string s] w fun e w' => (∃ v, e = .returned (.tuple #[v, .bool (parseP s.data.toList).2]) ∧ OwnS w' w.heap.size v (parseP s.data.toList).1) ∧ Below w.heap.size w w' := by
  by_cases h0 : 0 < s.size
  · by_cases hc : s[0] = 47
    · have hb47 : ((s[0].toNat : Int) != 47) = false := by rw [hc]; rfl
      have hh : s.data.toList.head? = some 47 := by rw [head_of h0, hc]
      clear hc
      obtain ⟨t, ht⟩ : ∃ t : ByteArray, s.extract 1 s.size = t := ⟨_, rfl⟩
      have htl : t.data.toList = s.data.toList.drop 1 := by rw [← ht]; exact Lib.extract_to_end s 1
      have hts : t.size ≤ 1048576 := by
        have h1 : t.data.toList.length = t.size := Array.length_toList
        have h2 : s.data.toList.length = s.size := Array.length_toList
        rw [htl, List.length_drop] at h1; omega
      obtain ⟨ps, hps⟩ : ∃ ps, ps = piecesL t.data.toList := ⟨_, rfl⟩
      have hS := fun w => l2Split_any t w hts
      rw [← hps] at hS
      obtain ⟨n, hn⟩ : ∃ n, ps.length = n + 1 := ⟨t.data.toList.count 47, by rw [hps, piecesL_length]⟩
      have hn1 : n + 1 ≤ 1048577 := by
        have h0 := List.count_le_length (a := (47 : UInt8)) (l := t.data.toList)
        have h1 : t.data.toList.length = t.size := Array.length_toList
        rw [← hn, hps, piecesL_length]; omega
      have hpz : ∀ p ∈ ps, p.size ≤ 1048576 := fun p hp => by
        rw [hps] at hp
        have h0 := piecesL_short _ p hp
        have h1 : t.data.toList.length = t.size := Array.length_toList
        omega
      rw [hn] at hS
      have hps' : ps = piecesL (s.data.toList.drop 1) := by rw [hps, htl]
      have HQ0 : Hid (foldP [] (strip ps) = none → parseP s.data.toList = ([], false)) := fun h1 => parseP_none hh (by rw [← hps']; exact h1)
      have HQ1 : Hid (∀ ns, foldP [] (strip ps) = some ns → pathB ns = false → parseP s.data.toList = ([], false)) := fun ns h1 h2 => parseP_not hh (by rw [← hps']; exact h1) h2
      have HQ2 : Hid (∀ ns, foldP [] (strip ps) = some ns → pathB ns = true → parseP s.data.toList = (ns, true)) := fun ns h1 h2 => parseP_yes hh (by rw [← hps']; exact h1) h2
      clear htl hps hps' hh
      obtain ⟨jj, hj1, hj2, hj3, hj4, hj5⟩ := strip_take hn
      have HJ : Hid (strip ps = ps.take jj) := hj1
      have hjl : (strip ps).length = jj := by rw [hj1, List.length_take]; omega
      have HJL : Hid ((strip ps).length = jj) := hjl
      have HJ4 : Hid (jj = n → ps[n]'(by omega) = bytesOf []) := hj4
      have HJ5 : Hid (jj = n + 1 → ¬ ps[n]'(by omega) = bytesOf []) := hj5
      clear hj1 hjl hj4 hj5
      have hs1 : (1 : Int) ≤ s.size := by omega
      have hs0 : ((s.size : Int) == 0) = false := by apply beq_eq_false_iff_ne.2; omega
      go_enter Tryz.func48, Tryz.ntmps48
      go_wp2_with fail
      clear hb47 hs0 hs1 ht
      refine (hS _).mono ?_
      rintro e w1 ⟨⟨gp, cp, rfl, hown0⟩, b1⟩
      have hlie0 : Lie w1 gp ps := ⟨(hown0.lt gp rfl).2, fun j hj => by rw [hown0.cellAt j (by omega)]; simp [strCells, List.getElem?_eq_getElem hj]⟩
      have hgp : w.heap.size < gp := by
        have := (hown0.lt gp rfl).1
        simp at this; omega
      have hb1 : Below w.heap.size w w1 := ((Below.refl _ _).alloc (Nat.le_refl _) _).trans (b1.mono (by simp))
      have hown1 : w1.ownsRow w.heap.size 9 1 (.slice (some ⟨w.heap.size, 0, none⟩) 0 0) 0 (strCells []) := owns_below (World.ownsRow_made w #[] 0 (Nat.le_refl _) (by decide) rfl) b1
      clear hown0 b1 hS
      go_wp2
      go_loopw [4, 6] (fun v i wr => ∃ (k : Nat) (out : List ByteArray) (m g c : Nat), k ≤ n + 1 ∧ i = .int .i64 k ∧ v = .slice (some ⟨g, 0, none⟩) m c ∧ m = out.length ∧ m ≤ k ∧ m ≤ c ∧ c ≤ maxLen ∧ g ≠ gp ∧ foldP [] (strip ps) = foldP out ((strip ps).drop k) ∧ Short out ∧ wr.ownsRow w.heap.size 9 1 (.slice (some ⟨g, 0, none⟩) m c) m (strCells out) ∧ Lie wr gp ps ∧ Below w.heap.size w wr) (fun _ i _ => n + 1 - (intOf i).toNat)
      case atStart => exact ⟨0, [], 0, w.heap.size, 0, Nat.zero_le _, rfl, rfl, rfl, Nat.le_refl _, Nat.le_refl _, Nat.zero_le _, by omega, rfl, (fun _ h => by cases h), hown1, hlie0, hb1⟩
      case round =>
        obtain ⟨k, out, m, g, c, hk, rfl, rfl, hm, hmk, hmc, hcm, hgne, hfo, hsh, hown, hlie, hbe⟩ := hrel
        have hcm' := hcm
        unfold maxLen at hcm'
        have HF : Hid (foldP [] (strip ps) = foldP out ((strip ps).drop k)) := hfo
        have HM : Hid (m = out.length) := hm
        have HS : Hid (Short out) := hsh
        clear hfo hm hsh hown1 hlie0 hb1
        by_cases hlt : k < n + 1
        · have hkp : k < ps.length := by omega
          have hcx := hlie.2 k hkp
          have hpz' := hpz _ (List.getElem_mem hkp)
          have hU := specUnquote_any ps[k] wr (by omega)
          by_cases hkj : k < jj
          · have HA : Hid (foldP out ((strip ps).drop k) = (stepP out ps[k]).bind fun o => foldP o ((strip ps).drop (k + 1))) := by
              show foldP out ((strip ps).drop k) = _
              have hk2 : k < (strip ps).length := by rw [HJL.out]; exact hkj
              rw [foldP_at k hk2 out]
              have e : (strip ps)[k]'hk2 = ps[k] := by
                have e2 : (strip ps)[k]? = some ps[k] := by rw [HJ.out, List.getElem?_take, if_pos hkj, List.getElem?_eq_getElem hkp]
                exact (List.getElem?_eq_some_iff.1 e2).2
              rw [e]
            have HLe : Hid ((bytesOf (unqR ps[k].data.toList).1).size ≤ maxLen) := by
              have h1 := unqR_le ps[k].data.toList
              have h2 : ps[k].data.toList.length = ps[k].size := Array.length_toList
              show (bytesOf (unqR ps[k].data.toList).1).size ≤ maxLen
              rw [bytesOf_size]; unfold maxLen; omega
            have HEm : Hid ((unqR ps[k].data.toList).2 = true → (unqR ps[k].data.toList).1 = [] → k < n) := fun q1 q2 => by
              have e := unqR_empty q1 q2
              have e2 : ps[k] = bytesOf [] := by apply ByteArray.ext; apply Array.ext'; rw [e]; rfl
              by_cases hkn : k = n
              · subst hkn; exact absurd e2 (HJ5.out (by omega))
              · omega
            have P0 := @stepP_none out ps[k]
            have P1 := @stepP_dot out ps[k]
            have P2 := @stepP_up0 ps[k]
            have P3 := @stepP_up out ps[k]
            have P4 := @stepP_push out ps[k]
            obtain ⟨r, hr⟩ : ∃ r, unqR ps[k].data.toList = r := ⟨_, rfl⟩
            rw [hr] at hU P0 P1 P2 P3 P4 HLe HEm
            clear hr
            obtain ⟨x, ok⟩ := r
            have HP0 : Hid _ := P0
            have HP1 : Hid _ := P1
            have HP2 : Hid _ := P2
            have HP3 : Hid _ := P3
            have HP4 : Hid _ := P4
            clear P0 P1 P2 P3 P4
            cases ok
            · have HB : Hid (parseP s.data.toList = ([], false)) := HQ0.out (by rw [HF.out, HA.out, HP0.out (.inl rfl)]; rfl)
              go_wp2_with fail
              refine hU.mono ?_
              rintro e w2 ⟨rfl, b2⟩
              have c2 := hbe.trans (b2.mono hbe.size)
              go_wp2
              go_ret2
              rw [HB.out]
              exact ⟨⟨_, rfl, own_made w2 w.heap.size c2.size⟩, c2.alloc c2.size _⟩
            · by_cases hx0 : x = []
              · have HB : Hid (parseP s.data.toList = ([], false)) := HQ0.out (by rw [HF.out, HA.out, HP0.out (.inr hx0)]; rfl)
                have hkn : (k : Int) < n := by have := HEm.out rfl hx0; omega
                have t0 : (bytesOf x).toList.isEmpty = true := by rw [bytesOf_toList, hx0]; rfl
                clear hx0
                go_wp2_with fail
                refine hU.mono ?_
                rintro e w2 ⟨rfl, b2⟩
                have c2 := hbe.trans (b2.mono hbe.size)
                go_wp2
                go_ret2
                rw [HB.out]
                exact ⟨⟨_, rfl, own_made w2 w.heap.size c2.size⟩, c2.alloc c2.size _⟩
              · have t0 : (bytesOf x).toList.isEmpty = false := by
                  rw [bytesOf_toList]
                  cases x with
                  | nil => exact absurd rfl hx0
                  | cons _ _ => rfl
                by_cases hx1 : x = [46]
                · have t1 : ((bytesOf x).toList == [46]) = true := by rw [bytesOf_toList, hx1]; rfl
                  have t2 : ((bytesOf x).toList == [46, 46]) = false := by rw [bytesOf_toList, hx1]; rfl
                  have HB : Hid (foldP [] (strip ps) = foldP out ((strip ps).drop (k + 1))) := by show foldP [] (strip ps) = _; rw [HF.out, HA.out, HP1.out rfl hx1]; rfl
                  clear hx0 hx1
                  go_wp2_with fail
                  refine hU.mono ?_
                  rintro e w2 ⟨rfl, b2⟩
                  go_wp2
                  exact ⟨⟨k + 1, out, m, g, c, by omega, by go_num, rfl, HM.out, by omega, hmc, hcm, hgne, HB.out, HS.out, owns_below hown b2, hlie.below b2, hbe.trans (b2.mono hbe.size)⟩, by simp [intOf]; omega⟩
                · have t1 : ((bytesOf x).toList == [46]) = false := by rw [bytesOf_toList]; exact beq_eq_false_iff_ne.2 hx1
                  by_cases hx2 : x = [46, 46]
                  · have t2 : ((bytesOf x).toList == [46, 46]) = true := by rw [bytesOf_toList, hx2]; rfl
                    by_cases ho : out = []
                    · have hm0 : m = 0 := by rw [HM.out, ho]; rfl
                      have HB : Hid (parseP s.data.toList = ([], false)) := HQ0.out (by rw [HF.out, HA.out, ho, HP2.out rfl hx2]; rfl)
                      clear hx0 hx1 hx2
                      subst hm0
                      go_wp2_with fail
                      refine hU.mono ?_
                      rintro e w2 ⟨rfl, b2⟩
                      have c2 := hbe.trans (b2.mono hbe.size)
                      go_wp2
                      go_ret2
                      rw [HB.out]
                      exact ⟨⟨_, rfl, own_made w2 w.heap.size c2.size⟩, c2.alloc c2.size _⟩
                    · have HB : Hid (foldP [] (strip ps) = foldP out.dropLast ((strip ps).drop (k + 1))) := by show foldP [] (strip ps) = _; rw [HF.out, HA.out, HP3.out rfl hx2 ho]; rfl
                      obtain ⟨o2, y, rfl⟩ : ∃ o2 y, out = o2 ++ [y] := ⟨out.dropLast, out.getLast ho, (List.dropLast_concat_getLast ho).symm⟩
                      have hm : m = o2.length + 1 := by rw [HM.out, List.length_append]; rfl
                      have HD : Hid ((o2 ++ [y]).dropLast = o2) := List.dropLast_concat
                      clear hx0 hx1 hx2 ho
                      subst hm
                      obtain ⟨q, hq⟩ : ∃ q, q = o2.length := ⟨_, rfl⟩
                      rw [← hq] at hmk hmc hown
                      rw [strCells_append] at hown
                      have hpop : wr.ownsRow w.heap.size 9 1 (.slice (some ⟨g, 0, none⟩) q c) q (strCells o2) := ownsRow_pop (by rw [strCells_length, hq, Nat.mul_one]) hown
                      have HQ : Hid (q = o2.length) := hq
                      rw [← hq]
                      clear hq
                      have hne0 : (((q + 1 : Nat) : Int) == 0) = false := by apply beq_eq_false_iff_ne.2; omega
                      go_wp2_with fail
                      refine hU.mono ?_
                      rintro e w2 ⟨rfl, b2⟩
                      go_wp2
                      exact ⟨⟨k + 1, o2, q, g, c, by omega, by go_num, rfl, HQ.out, by omega, by omega, hcm, hgne, by rw [HB.out, HD.out], short_pop HS.out, owns_below hpop b2, hlie.below b2, hbe.trans (b2.mono hbe.size)⟩, by simp [intOf]; omega⟩
                  · have t2 : ((bytesOf x).toList == [46, 46]) = false := by rw [bytesOf_toList]; exact beq_eq_false_iff_ne.2 hx2
                    have HB : Hid (foldP [] (strip ps) = foldP (out ++ [bytesOf x]) ((strip ps).drop (k + 1))) := by show foldP [] (strip ps) = _; rw [HF.out, HA.out, HP4.out rfl hx0 hx1 hx2]; rfl
                    clear hx0 hx1 hx2
                    go_wp2_with fail
                    refine hU.mono ?_
                    rintro e w2 ⟨rfl, b2⟩
                    have hown2 := owns_below hown b2
                    have hlie2 := hlie.below b2
                    have c2 := hbe.trans (b2.mono hbe.size)
                    have hz2 := hlie2.1
                    go_wp2_with (at_builtin; refine wp_append_str2 rfl _ _ rfl w.heap.size g m c out rfl (hown2.alloc _) _ (bytesOf x) rfl ?c1 ?c2 ?c3 ?_)
                    case c1 => simp
                    case c2 => omega
                    case c3 => have := c2.size; simp; omega
                    intro g1 cap1 w3 ho3 hb3 hat hkeep
                    have hcap : m + 1 ≤ cap1 ∧ cap1 ≤ maxLen := by
                      rcases ho3.2 with ⟨e, _⟩ | ⟨g', cap', cur, hv, _, _, h1, h2, _⟩
                      · cases e
                      · cases hv; exact ⟨h1, h2⟩
                    have hg1 : g1 ≠ gp := by
                      rcases hat with rfl | hat
                      · exact hgne
                      · intro e; rw [e] at hat; first | omega | (simp at hat; omega)
                    have hlie3 : Lie w3 gp ps := hlie2.block (by have := hb3.size; first | omega | (simp at this; omega)) ((hkeep gp (by first | omega | (simp; omega)) (Ne.symm hgne)).trans (Below.heap_alloc w2 _ gp hz2))
                    clear hat hkeep
                    go_wp2
                    exact ⟨⟨k + 1, out ++ [bytesOf x], m + 1, g1, cap1, by omega, by go_num, rfl, by rw [List.length_append, ← HM.out]; rfl, by omega, hcap.1, hcap.2, hg1, HB.out, short_snoc HS.out HLe.out, ho3, hlie3, (c2.alloc c2.size _).trans hb3⟩, by simp [intOf]; omega⟩
          · have hkn : k = n := by omega
            have hpe : ps[k] = bytesOf [] := by
              have := HJ4.out (by omega)
              subst hkn; exact this
            have hun : unqR ps[k].data.toList = ([], true) := by rw [hpe]; rfl
            rw [hun] at hU
            have HB : Hid (foldP [] (strip ps) = foldP out ((strip ps).drop (k + 1))) := by
              show foldP [] (strip ps) = _
              rw [HF.out, List.drop_of_length_le (by rw [HJL.out]; omega), List.drop_of_length_le (by rw [HJL.out]; omega)]
            have t0 : (bytesOf []).toList.isEmpty = true := by rw [bytesOf_toList]; rfl
            have t2 : ((bytesOf []).toList == [46, 46]) = false := by rw [bytesOf_toList]; rfl
            have hkn' : ¬ (k : Int) < n := by omega
            clear hpe hun hkn
            go_wp2_with fail
            refine hU.mono ?_
            rintro e w2 ⟨rfl, b2⟩
            go_wp2
            exact ⟨⟨k + 1, out, m, g, c, by omega, by go_num, rfl, HM.out, by omega, hmc, hcm, hgne, HB.out, HS.out, owns_below hown b2, hlie.below b2, hbe.trans (b2.mono hbe.size)⟩, by simp [intOf]; omega⟩
        · have hf : foldP [] (strip ps) = some out := by
            rw [HF.out, List.drop_of_length_le (by rw [HJL.out]; omega)]; rfl
          have HFo : Hid (foldP [] (strip ps) = some out) := hf
          clear hf
          have hme := HM.out
          subst hme
          have hO := OwnS.of hown rfl
          have hol : out.length ≤ maxLen := Nat.le_trans hmc hcm
          cases hp : pathB out
          · have HR : Hid (parseP s.data.toList = ([], false)) := HQ1.out out HFo.out hp
            go_wp2_with fail
            refine (specPathOk_any _ out c _ wr (hO.strs (Nat.le_refl _)) HS.out hol).mono ?_
            rintro e w3 ⟨rfl, hw⟩
            obtain rfl := hw.symm
            rw [hp]
            go_wp2
            go_ret2
            rw [HR.out]
            exact ⟨⟨_, rfl, own_made wr w.heap.size hbe.size⟩, hbe.alloc hbe.size _⟩
          · have HR : Hid (parseP s.data.toList = (out, true)) := HQ2.out out HFo.out hp
            go_wp2_with fail
            refine (specPathOk_any _ out c _ wr (hO.strs (Nat.le_refl _)) HS.out hol).mono ?_
            rintro e w3 ⟨rfl, hw⟩
            obtain rfl := hw.symm
            rw [hp]
            go_wp2
            go_ret2
            rw [HR.out]
            exact ⟨⟨_, rfl, hO⟩, hbe⟩
    · have hb47 : ((s[0].toNat : Int) != 47) = true := by
        cases h : ((s[0].toNat : Int) == 47)
        · simp [bne, h]
        · exact absurd (u8_47 h) hc
      have HR : Hid (parseP s.data.toList = ([], false)) := parseP_head (by rw [head_of h0]; intro e; exact hc (Option.some.inj e))
      have hs0 : ((s.size : Int) == 0) = false := by apply beq_eq_false_iff_ne.2; omega
      clear hc
      go_enter Tryz.func48, Tryz.ntmps48
      go_wp2
      go_ret2
      rw [HR.out]
      exact ⟨⟨_, rfl, own_made w w.heap.size (Nat.le_refl _)⟩, (Below.refl _ _).alloc (Nat.le_refl _) _⟩
  · have hs0 : ((s.size : Int) == 0) = true := by apply beq_iff_eq.2; omega
    have HR : Hid (parseP s.data.toList = ([], false)) := parseP_head (by
      have e : s.data.toList = [] := List.length_eq_zero_iff.1 (by have : s.data.toList.length = s.size := Array.length_toList; omega)
      rw [e]; simp)
    go_enter Tryz.func48, Tryz.ntmps48
    go_wp2
    go_ret2
    rw [HR.out]
    exact ⟨⟨_, rfl, own_made w w.heap.size (Nat.le_refl _)⟩, (Below.refl _ _).alloc (Nat.le_refl _) _⟩
end Go.Proofs.YtfhcniifennfbaaGreatDoor
