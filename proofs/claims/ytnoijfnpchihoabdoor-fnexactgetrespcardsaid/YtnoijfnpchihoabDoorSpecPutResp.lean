/-
  What the specification's PutResp does.
-/
import Derived.Test.YtnoijfnpchihoabDoorSpecRespOk
import Derived.Test.YtnoijfnpchihoabDoorSpecTxt
import Derived.Test.YtnoijfnpchihoabDoorSpecNum
namespace Go.Proofs.YtnoijfnpchihoabDoor
open Go.RowKit M
set_option linter.unusedVariables false

theorem keep3 {w : World} {N : Nat} {a : Option Addr} {cap : Nat} {r : Rs} (hx : BoxA w N a cap r) :
    w.cell? ⟨N, 0, none⟩ = some (.int .i64 r.c) ∧ w.cell? ⟨N, 1, none⟩ = some (.slice a r.hs.length cap) ∧ w.cell? ⟨N, 2, none⟩ = some (.string r.b) := by
  obtain ⟨_, h1, h2, h3⟩ := hx
  exact ⟨h1, h2, h3⟩
set_option maxRecDepth 100000 in
theorem frontA_len {r : Rs} (h : codeB r.c = true) (hb : r.b.size ≤ 1048576) : (frontA r).length ≤ sumH r.hs + 4 * r.hs.length + 200 := by
  have h1 := (topA_len h).1
  have h2 := dec_len r.b.size hb
  have h3 : (bytesOf (Lib.decDigits r.b.size)).size = (Lib.decDigits r.b.size).length := bytesOf_size _
  have h4 : lenName.size = 14 := rfl
  unfold frontA linesTxt
  simp only [List.length_append, hdsTxt_len, h1, crlf, List.length_cons, List.length_nil, sumH, szH, lenH, List.map_cons, List.map_nil, List.sum_cons, List.sum_nil]
  omega

set_option maxRecDepth 100000 in
set_option maxHeartbeats 4000000 in
theorem specPutResp_any (a : Option Addr) (r : Rs) (cap B : Nat) (w : World) (h : Hds w B a r.hs) (hB : B ≤ w.heap.size) (hsh : ShortA r) (hl : r.hs.length ≤ 1048576) (hsum : sumH r.hs ≤ 1048576) (h4 : r.b.size ≤ 1048576) :
    Calls Tryd.prog 19 #[.agg #[.int .i64 r.c, .slice a r.hs.length cap, .string r.b]] w fun e w' => (∃ (g c : Nat), e = .returned (.slice (some ⟨g, 0, none⟩) (putA r).length c) ∧ Byt w' w'.heap.size (some ⟨g, 0, none⟩) (putA r) ∧ (putA r).length ≤ c ∧ c ≤ maxLen) ∧ Below w.heap.size w w' := by
  have HB0 : Hid (Below w.heap.size w (w.alloc (Obj.cells #[Value.int .i64 r.c, Value.slice a r.hs.length cap, Value.string r.b] 46))) := (Below.refl _ _).alloc (Nat.le_refl _) _
  have HX0 := hide (BoxA.made w a cap r 46)
  have HH := hide h
  have HOk := hide (specRespOk_any a r cap B _ (h.below HB0.out hB) (Nat.le_trans hB HB0.out.size) hsh)
  clear h
  cases hr : respB r
  · have HE : Hid (putA r = []) := hide (putA_no hr)
    rw [hr] at HOk
    go_enter Tryd.func19, Tryd.ntmps19
    go_wp2_with fail
    refine HOk.out.mono ?_
    rintro e w1 ⟨rfl, b1⟩
    have c1 := HB0.out.trans (b1.mono HB0.out.size)
    go_wp2
    go_ret
    rw [HE.out]
    exact ⟨⟨_, _, rfl, Byt.nil _ _ _, Nat.zero_le _, by decide⟩, c1.alloc c1.size _⟩
  · have hcd := (resp_hds hr).1
    obtain ⟨hc0, hc1, hc2⟩ := dec3 hcd
    have HN1 := hide (fun W => specNumText_any r.c W (by omega))
    have HN2 := hide (fun W => specNumText_any (r.b.size : Int) W (by omega))
    simp only [Int.toNat_natCast] at HN2
    obtain ⟨d1, hd1⟩ : ∃ d, (⟨(Lib.decDigits r.c.toNat).toArray⟩ : ByteArray) = d := ⟨_, rfl⟩
    obtain ⟨d2, hd2⟩ : ∃ d, (⟨(Lib.decDigits r.b.size).toArray⟩ : ByteArray) = d := ⟨_, rfl⟩
    obtain ⟨t, ht⟩ : ∃ t, bytesOf (hdsTxt r.hs) = t := ⟨_, rfl⟩
    have hz1 : d1.size ≤ 20 := by rw [← hd1]; exact dec_len _ (by omega)
    have hz2 : d2.size ≤ 20 := by rw [← hd2]; exact dec_len _ h4
    have htz : t.size ≤ 8388608 := by rw [← ht, bytesOf_size, hdsTxt_len]; omega
    rw [hd1] at HN1
    rw [hd2] at HN2
    have hT : ∀ W, Below w.heap.size w W → Calls Tryd.prog 38 #[.slice a r.hs.length cap] W fun e w' => e = .returned (.string t) ∧ Below W.heap.size W w' := by
      intro W hc
      refine (l3HeadsText_any a r.hs cap B W (HH.out.below hc hB) hl hsum).mono ?_
      rintro e w' ⟨rfl, n, rfl⟩
      rw [ht]
      exact ⟨rfl, below_drewN (Below.refl _ _) n⟩
    have HT := hide hT
    clear hT
    obtain ⟨sx, hsx⟩ : ∃ sx, (⟨#[72, 84, 84, 80, 47, 49, 46, 49, 32]⟩ : ByteArray) ++ d1 ++ ⟨#[13, 10]⟩ ++ t ++ ⟨#[99, 111, 110, 116, 101, 110, 116, 45, 108, 101, 110, 103, 116, 104, 58, 32]⟩ ++ d2 ++ ⟨#[13, 10]⟩ ++ ⟨#[13, 10]⟩ ++ r.b = sx := ⟨_, rfl⟩
    have HSX : Hid (putA r = sx.data.toList) := hide (by
      rw [putA_of hr, ← hsx, ← hd1, ← hd2, ← ht]
      simp [frontA, linesTxt, topA, proto, crlf, bytesOf, hdsTxt, hdTxt, lenH, lenName])
    have hsz : sx.size ≤ 67108864 := by
      rw [← hsx]
      simp only [ByteArray.size_append]
      have e1 : (⟨#[72, 84, 84, 80, 47, 49, 46, 49, 32]⟩ : ByteArray).size = 9 := rfl
      have e2 : (⟨#[13, 10]⟩ : ByteArray).size = 2 := rfl
      have e3 : (⟨#[99, 111, 110, 116, 101, 110, 116, 45, 108, 101, 110, 103, 116, 104, 58, 32]⟩ : ByteArray).size = 16 := rfl
      omega
    have HSx := hide hsx
    have hcv := fun (W : World) => Lib.run_convert_string_bytes (P := Tryd.prog) W 9 27 5 ((⟨#[72, 84, 84, 80, 47, 49, 46, 49, 32]⟩ : ByteArray) ++ d1 ++ ⟨#[13, 10]⟩ ++ t ++ ⟨#[99, 111, 110, 116, 101, 110, 116, 45, 108, 101, 110, 103, 116, 104, 58, 32]⟩ ++ d2 ++ ⟨#[13, 10]⟩ ++ ⟨#[13, 10]⟩ ++ r.b) Tryd.underlying9 Tryd.underlying27 Tryd.underlying5
    have HFin : Hid (∀ W, Below w.heap.size w W → (∃ (g c : Nat), Ending.returned (.slice (some ⟨W.heap.size, 0, none⟩) (9 + d1.size + 2 + t.size + 16 + d2.size + 2 + 2 + r.b.size) (grownCap W (9 + d1.size + 2 + t.size + 16 + d2.size + 2 + 2 + r.b.size) 0 5)) = .returned (.slice (some ⟨g, 0, none⟩) (putA r).length c) ∧ Byt (Lib.bytesWorld W 5 ((⟨#[72, 84, 84, 80, 47, 49, 46, 49, 32]⟩ : ByteArray) ++ d1 ++ ⟨#[13, 10]⟩ ++ t ++ ⟨#[99, 111, 110, 116, 101, 110, 116, 45, 108, 101, 110, 103, 116, 104, 58, 32]⟩ ++ d2 ++ ⟨#[13, 10]⟩ ++ ⟨#[13, 10]⟩ ++ r.b)) (Lib.bytesWorld W 5 ((⟨#[72, 84, 84, 80, 47, 49, 46, 49, 32]⟩ : ByteArray) ++ d1 ++ ⟨#[13, 10]⟩ ++ t ++ ⟨#[99, 111, 110, 116, 101, 110, 116, 45, 108, 101, 110, 103, 116, 104, 58, 32]⟩ ++ d2 ++ ⟨#[13, 10]⟩ ++ ⟨#[13, 10]⟩ ++ r.b)).heap.size (some ⟨g, 0, none⟩) (putA r) ∧ (putA r).length ≤ c ∧ c ≤ maxLen) ∧ Below w.heap.size w (Lib.bytesWorld W 5 ((⟨#[72, 84, 84, 80, 47, 49, 46, 49, 32]⟩ : ByteArray) ++ d1 ++ ⟨#[13, 10]⟩ ++ t ++ ⟨#[99, 111, 110, 116, 101, 110, 116, 45, 108, 101, 110, 103, 116, 104, 58, 32]⟩ ++ d2 ++ ⟨#[13, 10]⟩ ++ ⟨#[13, 10]⟩ ++ r.b))) := hide (by
      intro W hW
      have hN : (9 + d1.size + 2 + t.size + 16 + d2.size + 2 + 2 + r.b.size) = sx.size := by
        rw [← hsx]
        simp only [ByteArray.size_append]
        rfl
      have hL : sx.data.toList.length = sx.size := Array.length_toList
      rw [HSX.out, hsx, hN]
      refine ⟨⟨W.heap.size, grownCap W sx.size 0 5, by rw [hL], (byt_bytes W sx).mono (by rw [Lib.bytesWorld_size]; exact Nat.le_refl _), ?_, ?_⟩, hW.trans ((below_bytesP W sx).mono hW.size)⟩
      · rw [hL]; exact grownCap_ge _ _ _ _
      · exact grownCap_le_maxLen _ _ _ _ (by unfold maxLen; omega))
    rw [hr] at HOk
    have hq1 : ¬ (9223372036854775807 < 9 + d1.size) := by omega
    have hq2 : ¬ (9223372036854775807 < 9 + d1.size + 2) := by omega
    have hq3 : ¬ (9223372036854775807 < 9 + d1.size + 2 + t.size) := by omega
    have hq4 : ¬ (9223372036854775807 < 9 + d1.size + 2 + t.size + 16) := by omega
    have hq5 : ¬ (9223372036854775807 < 9 + d1.size + 2 + t.size + 16 + d2.size) := by omega
    have hq6 : ¬ (9223372036854775807 < 9 + d1.size + 2 + t.size + 16 + d2.size + 2) := by omega
    have hq7 : ¬ (9223372036854775807 < 9 + d1.size + 2 + t.size + 16 + d2.size + 2 + 2) := by omega
    have hq8 : ¬ (9223372036854775807 < 9 + d1.size + 2 + t.size + 16 + d2.size + 2 + 2 + r.b.size) := by omega
    clear hd1 hd2 ht hc0 hc1 hc2 hcd hsx
    go_enter Tryd.func19, Tryd.ntmps19
    go_wp2_with fail
    refine HOk.out.mono ?_
    rintro e w1 ⟨rfl, b1⟩
    have c1 := HB0.out.trans (b1.mono HB0.out.size)
    have BX1 := hide (HX0.out.next b1)
    have Cur := hide (below_drew c1)
    have BXc := hide BX1.out.drew
    clear HOk b1 c1 BX1 HX0
    go_wp2
    refine wp_region_held_drew (S := (fun W => W.cell? ⟨w.heap.size, 0, none⟩ = some (.int .i64 r.c) ∧ W.cell? ⟨w.heap.size, 1, none⟩ = some (.slice a r.hs.length cap) ∧ W.cell? ⟨w.heap.size, 2, none⟩ = some (.string r.b))) (by kernel_rfl) (keep3 BXc.out) (fun hHeld => ?_)
    refine wpAnyH_take (i := 0) (v := ?_) rfl (by kernel_rfl) (by kernel_rfl) (by kernel_rfl) (fun _ _ _ h => h) (Or.inl ⟨by rfl, ?_⟩) (by assumption) ?_
    rotate_left
    · intro w hSw; (try dsimp only at hSw); go_simp; try with_reducible rfl
    refine wpAnyH_take (i := 1) (v := ?_) rfl (by kernel_rfl) (by kernel_rfl) (by kernel_rfl) (fun _ _ _ h => h) (Or.inl ⟨by rfl, ?_⟩) (by assumption) ?_
    rotate_left
    · intro w hSw; (try dsimp only at hSw); go_simp; try with_reducible rfl
    refine wpAnyH_take (i := 5) (v := ?_) rfl (by kernel_rfl) (by kernel_rfl) (by kernel_rfl) (fun _ _ _ h => h) (Or.inl ⟨by rfl, ?_⟩) (by assumption) ?_
    rotate_left
    · intro w hSw; (try dsimp only at hSw); go_simp; try with_reducible rfl
    refine wpAnyH_take (i := 6) (v := ?_) rfl (by kernel_rfl) (by kernel_rfl) (by kernel_rfl) (fun _ _ _ h => h) (Or.inl ⟨by rfl, ?_⟩) (by assumption) ?_
    rotate_left
    · intro w hSw; (try dsimp only at hSw); go_simp; try with_reducible rfl
    refine wpAnyH_take (i := 10) (v := ?_) rfl (by kernel_rfl) (by kernel_rfl) (by kernel_rfl) (fun _ _ _ h => h) (Or.inl ⟨by rfl, ?_⟩) (by assumption) ?_
    rotate_left
    · intro w hSw; (try dsimp only at hSw); go_simp; try with_reducible rfl
    refine wpAnyH_take (i := 11) (v := ?_) rfl (by kernel_rfl) (by kernel_rfl) (by kernel_rfl) (fun _ _ _ h => h) (Or.inl ⟨by rfl, ?_⟩) (by assumption) ?_
    rotate_left
    · intro w hSw; (try dsimp only at hSw); go_simp; try with_reducible rfl
    refine wpAnyH_take (i := 12) (v := ?_) rfl (by kernel_rfl) (by kernel_rfl) (by kernel_rfl) (fun _ _ _ h => h) (Or.inl ⟨by rfl, ?_⟩) (by assumption) ?_
    rotate_left
    · intro w hSw; (try dsimp only at hSw); go_simp; try with_reducible rfl
    refine wpAnyH_take (i := 17) (v := ?_) rfl (by kernel_rfl) (by kernel_rfl) (by kernel_rfl) (fun _ _ _ h => h) (Or.inl ⟨by rfl, ?_⟩) (by assumption) ?_
    rotate_left
    · intro w hSw; (try dsimp only at hSw); go_simp; try with_reducible rfl
    refine wpAnyH_take (i := 18) (v := ?_) rfl (by kernel_rfl) (by kernel_rfl) (by kernel_rfl) (fun _ _ _ h => h) (Or.inl ⟨by rfl, ?_⟩) (by assumption) ?_
    rotate_left
    · intro w hSw; (try dsimp only at hSw); go_simp; try with_reducible rfl
    refine wpAnyH_ready (rs := [2]) (by kernel_rfl) (by simp) ?_
    refine AllReadyH.cons rfl (fun K hK => ?_) AllReadyH.nil
    go_simp
    refine (HN1.out _).mono ?_
    rintro e wn ⟨rfl, bn⟩
    replace BXc := hide (BXc.out.next bn)
    replace Cur := hide (Cur.out.trans (bn.mono Cur.out.size))
    refine hK.out _ _ (keep3 BXc.out) (fun hHeld2 => ?_)
    clear hK K hHeld bn
    have hHeld := hHeld2
    clear hHeld2
    refine wpAnyH_take (i := 3) (v := ?_) rfl (by kernel_rfl) (by kernel_rfl) (by kernel_rfl) (fun _ _ _ h => h) (Or.inl ⟨by rfl, ?_⟩) (by assumption) ?_
    rotate_left
    · intro w hSw; (try dsimp only at hSw); go_simp; try with_reducible rfl
    refine wpAnyH_take (i := 4) (v := ?_) rfl (by kernel_rfl) (by kernel_rfl) (by kernel_rfl) (fun _ _ _ h => h) (Or.inl ⟨by rfl, ?_⟩) (by assumption) ?_
    rotate_left
    · intro w hSw; (try dsimp only at hSw); go_simp; try with_reducible rfl
    refine wpAnyH_ready (rs := [7]) (by kernel_rfl) (by simp) ?_
    refine AllReadyH.cons rfl (fun K hK => ?_) AllReadyH.nil
    go_simp
    refine (HT.out _ Cur.out).mono ?_
    rintro e wn ⟨rfl, bn⟩
    replace BXc := hide (BXc.out.next bn)
    replace Cur := hide (Cur.out.trans (bn.mono Cur.out.size))
    refine hK.out _ _ (keep3 BXc.out) (fun hHeld2 => ?_)
    clear hK K hHeld bn
    have hHeld := hHeld2
    clear hHeld2
    refine wpAnyH_take (i := 8) (v := ?_) rfl (by kernel_rfl) (by kernel_rfl) (by kernel_rfl) (fun _ _ _ h => h) (Or.inl ⟨by rfl, ?_⟩) (by assumption) ?_
    rotate_left
    · intro w hSw; (try dsimp only at hSw); go_simp; try with_reducible rfl
    refine wpAnyH_take (i := 9) (v := ?_) rfl (by kernel_rfl) (by kernel_rfl) (by kernel_rfl) (fun _ _ _ h => h) (Or.inl ⟨by rfl, ?_⟩) (by assumption) ?_
    rotate_left
    · intro w hSw; (try dsimp only at hSw); go_simp; try with_reducible rfl
    refine wpAnyH_ready (rs := [13]) (by kernel_rfl) (by simp) ?_
    refine AllReadyH.cons rfl (fun K hK => ?_) AllReadyH.nil
    go_simp
    refine (HN2.out _).mono ?_
    rintro e wn ⟨rfl, bn⟩
    replace BXc := hide (BXc.out.next bn)
    replace Cur := hide (Cur.out.trans (bn.mono Cur.out.size))
    refine hK.out _ _ (keep3 BXc.out) (fun hHeld2 => ?_)
    clear hK K hHeld bn
    have hHeld := hHeld2
    clear hHeld2
    refine wpAnyH_take (i := 14) (v := ?_) rfl (by kernel_rfl) (by kernel_rfl) (by kernel_rfl) (fun _ _ _ h => h) (Or.inl ⟨by rfl, ?_⟩) (by assumption) ?_
    rotate_left
    · intro w hSw; (try dsimp only at hSw); go_simp; try with_reducible rfl
    refine wpAnyH_take (i := 15) (v := ?_) rfl (by kernel_rfl) (by kernel_rfl) (by kernel_rfl) (fun _ _ _ h => h) (Or.inl ⟨by rfl, ?_⟩) (by assumption) ?_
    rotate_left
    · intro w hSw; (try dsimp only at hSw); go_simp; try with_reducible rfl
    refine wpAnyH_take (i := 16) (v := ?_) rfl (by kernel_rfl) (by kernel_rfl) (by kernel_rfl) (fun _ _ _ h => h) (Or.inl ⟨by rfl, ?_⟩) (by assumption) ?_
    rotate_left
    · intro w hSw; (try dsimp only at hSw); go_simp; try with_reducible rfl
    refine wpAnyH_take (i := 19) (v := ?_) rfl (by kernel_rfl) (by kernel_rfl) (by kernel_rfl) (fun _ _ _ h => h) (Or.inl ⟨by rfl, ?_⟩) (by assumption) ?_
    rotate_left
    · intro w hSw; (try dsimp only at hSw); go_simp; try with_reducible rfl
    refine wpAnyH_ready (rs := [20]) (by kernel_rfl) (by simp) ?_
    refine AllReadyH.cons rfl (fun K hK => ?_) AllReadyH.nil
    go_simp
    refine hK.out _ _ (keep3 (BXc.out.next (below_bytesP _ _))) (fun hHeld2 => ?_)
    clear hK K
    refine wpAnyH_take (i := 21) (v := ?_) rfl (by kernel_rfl) (by kernel_rfl) (by kernel_rfl) (fun _ _ _ h => h) (Or.inl ⟨by rfl, ?_⟩) (by assumption) ?_
    rotate_left
    · intro w hSw; (try dsimp only at hSw); go_simp; try with_reducible rfl
    refine wpAnyH_done (by kernel_rfl) ?_ _
    go_wp2
    go_ret
    exact HFin.out wn Cur.out
end Go.Proofs.YtnoijfnpchihoabDoor
