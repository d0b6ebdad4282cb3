/-
  What the specification's l7Mark does.
-/
import Derived.Test.YtcgmokjnjmefpaaGreatDoorSpecMark
import Derived.Test.YtcgmokjnjmefpaaGreatDoorSpecUnescape
namespace Go.Proofs.YtcgmokjnjmefpaaGreatDoor
open Go.RowKit M
set_option linter.unusedVariables false

/-- What l7Mark answers at a place. -/
def MarkAt (s : ByteArray) (a : Nat) (e : Ending) : Prop := ∃ (p : Pce) (z : Int), e = .returned (.tuple #[.agg #[.int .i64 p.k, .string p.name, .string p.ns, .bool p.has, .string p.s], .int .i64 z]) ∧ (markL (s.data.toList.drop a) = none → z = -1) ∧ ∀ p' q, markL (s.data.toList.drop a) = some (p', q) → p = p' ∧ ∃ k : Nat, z = k ∧ a < k ∧ k ≤ s.size ∧ s.data.toList.drop k = q
theorem at_none {s : ByteArray} {a : Nat} (h : markL (s.data.toList.drop a) = none) : MarkAt s a (.returned (.tuple #[.agg #[.int .i64 0, .string ⟨#[]⟩, .string ⟨#[]⟩, .bool false, .string ⟨#[]⟩], .int .i64 (-1)])) :=
  ⟨⟨0, ⟨#[]⟩, ⟨#[]⟩, false, ⟨#[]⟩⟩, -1, rfl, fun _ => rfl, fun p q e => by rw [h] at e; cases e⟩
theorem at_some {s : ByteArray} {a : Nat} {p : Pce} {q : List UInt8} {k : Nat} {z : Int} (h : markL (s.data.toList.drop a) = some (p, q)) (hz : z = k) (h1 : a < k) (h2 : k ≤ s.size) (h3 : s.data.toList.drop k = q) {v0 : Int} {v1 v2 v4 : ByteArray} {v3 : Bool} (e0 : v0 = p.k) (e1 : v1 = p.name) (e2 : v2 = p.ns) (e3 : v3 = p.has) (e4 : v4 = p.s) :
    MarkAt s a (.returned (.tuple #[.agg #[.int .i64 v0, .string v1, .string v2, .bool v3, .string v4], .int .i64 z])) :=
  ⟨p, z, by rw [e0, e1, e2, e3, e4], (fun e => by rw [h] at e; cases e), fun p' q' e => by rw [h] at e; obtain ⟨rfl, rfl⟩ := Prod.mk.inj (Option.some.inj e); exact ⟨rfl, k, hz, h1, h2, h3⟩⟩

theorem pre_len {p l : List UInt8} (h : p.isPrefixOf l = true) : p.length ≤ l.length := (List.isPrefixOf_iff_prefix.1 h).length_le
theorem pre_excl {q : List UInt8} (h : [62].isPrefixOf q = true) : [47, 62].isPrefixOf q = false := by
  cases q with
  | nil => rfl
  | cons c r =>
    simp only [List.isPrefixOf, Bool.and_eq_true, beq_iff_eq] at h
    rw [← h.1]
    rfl
theorem bytes_ofS (s : ByteArray) (l : List UInt8) (h : s.data.toList = l) : s = bytesOf l := by
  apply ByteArray.ext; apply Array.ext'; rw [h]; rfl
theorem closeL_none {r : List UInt8} (h : smB (nmL r) = false ∨ [62].isPrefixOf (nmR r) = false) : closeL r = none := by
  unfold closeL
  rw [if_neg (by rcases h with h | h <;> simp [h])]
theorem closeL_some {r : List UInt8} (h1 : smB (nmL r) = true) (h2 : [62].isPrefixOf (nmR r) = true) : closeL r = some (closeP (nmL r), (nmR r).drop 1) := by
  unfold closeL
  rw [if_pos (by simp [h1, h2])]
theorem openL_end {r : List UInt8} {x : (Bool × List UInt8) × List UInt8} (h1 : smB (nmL r) = true) (h2 : spcL (nmR r) = some x) : openL r = endM (nmL r) x.1 x.2 := by
  unfold openL; rw [if_pos h1, h2]
theorem openL_none {r : List UInt8} (h : smB (nmL r) = false ∨ spcL (nmR r) = none) : openL r = none := by
  unfold openL
  rcases h with h | h
  · rw [if_neg (by simp [h])]
  · split
    · rw [h]
    · rfl
theorem endM_1 {n q : List UInt8} {sp : Bool × List UInt8} (h : [62].isPrefixOf q = true) : endM n sp q = some (openP 1 n sp, q.drop 1) := by
  unfold endM; rw [if_neg (by simp [pre_excl h]), if_pos h]
theorem endM_3 {n q : List UInt8} {sp : Bool × List UInt8} (h : [47, 62].isPrefixOf q = true) : endM n sp q = some (openP 3 n sp, q.drop 2) := by
  unfold endM; rw [if_pos h]
theorem endM_0 {n q : List UInt8} {sp : Bool × List UInt8} (h : [62].isPrefixOf q = false) (h3 : [47, 62].isPrefixOf q = false) : endM n sp q = none := by
  unfold endM; rw [if_neg (by simp [h3]), if_neg (by simp [h])]
theorem spc_no {l : List UInt8} (h : spcS.isPrefixOf l = false) : spcL l = some ((false, []), l) := by unfold spcL; rw [if_neg (by simp [h])]
theorem spc_short {l : List UInt8} (h : spcS.isPrefixOf l = true) (hf : fromB 34 (l.drop 8) = []) : spcL l = none := by unfold spcL; rw [if_pos h, if_pos hf]
theorem spc_bad {l : List UInt8} (h : spcS.isPrefixOf l = true) (hu : unesc (upTo 34 (l.drop 8)) = none) : spcL l = none := by
  unfold spcL; rw [if_pos h]
  split
  · rfl
  · rw [hu]
theorem spc_long {l x : List UInt8} (h : spcS.isPrefixOf l = true) (hu : unesc (upTo 34 (l.drop 8)) = some x) (hx : ¬ x.length ≤ 20) : spcL l = none := by
  unfold spcL; rw [if_pos h]
  split
  · rfl
  · rw [hu]; simp [hx]
theorem spc_yes {l x : List UInt8} (h : spcS.isPrefixOf l = true) (hf : fromB 34 (l.drop 8) ≠ []) (hu : unesc (upTo 34 (l.drop 8)) = some x) (hx : x.length ≤ 20) : spcL l = some ((true, x), (fromB 34 (l.drop 8)).tail) := by
  unfold spcL; rw [if_pos h, if_neg hf, hu]; simp [hx]
theorem unescR_some {l x : List UInt8} (h : unescR l = (x, true)) : unesc l = some x := by
  unfold unescR at h
  cases hu : unesc l with
  | none => rw [hu] at h; cases h
  | some y => rw [hu] at h; rw [(Prod.mk.inj h).1]
theorem unescR_none {l x : List UInt8} (h : unescR l = (x, false)) : unesc l = none := by
  unfold unescR at h
  cases hu : unesc l with
  | none => rfl
  | some y => rw [hu] at h; cases h
theorem below5 {C : Nat} {w w' : World} (h : Below C w w') (N : Nat) (hN : C ≤ N) (v0 v1 v2 v3 v4 : Value) : Below C w (((((w'.setCell ⟨N, 0, none⟩ v0).setCell ⟨N, 1, none⟩ v1).setCell ⟨N, 2, none⟩ v2).setCell ⟨N, 3, none⟩ v3).setCell ⟨N, 4, none⟩ v4) :=
  ((((h.setCell (p := ⟨N, 0, none⟩) hN _).setCell (p := ⟨N, 1, none⟩) hN _).setCell (p := ⟨N, 2, none⟩) hN _).setCell (p := ⟨N, 3, none⟩) hN _).setCell (p := ⟨N, 4, none⟩) hN _

set_option maxRecDepth 100000 in
set_option maxHeartbeats 4000000 in
theorem l7Mark_close (s : ByteArray) (a : Nat) (w : World) (ha : a < s.size) (hs : s.size ≤ 1099511627776) (hp : [60, 47].isPrefixOf (s.data.toList.drop a) = true) :
    Calls Tryz.prog 80 #[.string s, .int .i64 a] w fun e w' => MarkAt s a e ∧ Below w.heap.size w w' := by
  have el : s.data.toList.length = s.size := Array.length_toList
  have h2 : a + 2 ≤ s.size := by have := pre_len hp; rw [List.length_drop] at this; simp at this; omega
  have em : markL (s.data.toList.drop a) = closeL (s.data.toList.drop (a + 2)) := by unfold markL; rw [if_pos hp, List.drop_drop]
  have H1 := hide (fun W : World => l7At_any s ⟨#[60, 47]⟩ [60, 47] rfl a W (by omega) hs (by decide))
  rw [hp] at H1
  have HN := hide (fun W : World => l7Name_any s (a + 2) W h2 hs)
  have hZ := nm_size s (a + 2) h2
  have hT := nm_take s (a + 2)
  have hD := nm_drop s (a + 2)
  have HA := hide (fun (W : World) h => l7At_any s ⟨#[62]⟩ [62] rfl (a + 2 + (nmL (s.data.toList.drop (a + 2))).length) W h hs (by decide))
  obtain ⟨k, hk⟩ : ∃ k, a + 2 + (nmL (s.data.toList.drop (a + 2))).length = k := ⟨_, rfl⟩
  rw [hk] at HN hZ hT hD HA
  have hak : a + 2 ≤ k := by omega
  have HA2 := hide (fun W : World => HA.out W hZ)
  rw [hD] at HA2
  have hxs : (s.extract (a + 2) k).size ≤ maxLen := by rw [ByteArray.size_extract]; unfold maxLen; omega
  have HS := hide (fun W : World => specSmallName_any (s.extract (a + 2) k) W hxs)
  rw [hT] at HS
  have hak' : (a : Int) + 2 ≤ k := by omega
  have hks' : (k : Int) ≤ s.size := by omega
  have ha0 : (0 : Int) ≤ (a : Int) + 2 := by omega
  cases h62 : [62].isPrefixOf (nmR (s.data.toList.drop (a + 2)))
  · rw [h62] at HA2
    have HR := hide (at_none (em.trans (closeL_none (.inr h62))))
    clear el em hT hD HA hxs HS h62 hk
    go_enter Tryz.func80, Tryz.ntmps80
    go_wp2_with fail
    refine (H1.out _).mono ?_
    rintro e w1 ⟨rfl, hw⟩
    obtain rfl := hw.symm
    go_wp2_with fail
    refine (HN.out _).mono ?_
    rintro e w1 ⟨rfl, hw⟩
    obtain rfl := hw.symm
    go_wp2_with fail
    refine (HA2.out _).mono ?_
    rintro e w1 ⟨rfl, hw⟩
    obtain rfl := hw.symm
    go_wp2
    refine bodyPost_ret (v := .tuple #[.agg #[.int .i64 0, .string ⟨#[]⟩, .string ⟨#[]⟩, .bool false, .string ⟨#[]⟩], .int .i64 (-1)]) (by simp [results, Tryz.results80, go_sem]) rfl ⟨HR.out, ?_⟩
    exact (Below.refl _ _).alloc (Nat.le_refl _) _
  · rw [h62] at HA2
    have hk1 : k + 1 ≤ s.size := by have := pre_len h62; rw [← hD, List.length_drop] at this; simp at this; omega
    cases hsm : smB (nmL (s.data.toList.drop (a + 2)))
    · rw [hsm] at HS
      have HR := hide (at_none (em.trans (closeL_none (.inl hsm))))
      clear el em hT hD HA hxs h62 hsm hk
      go_enter Tryz.func80, Tryz.ntmps80
      go_wp2_with fail
      refine (H1.out _).mono ?_
      rintro e w1 ⟨rfl, hw⟩
      obtain rfl := hw.symm
      go_wp2_with fail
      refine (HN.out _).mono ?_
      rintro e w1 ⟨rfl, hw⟩
      obtain rfl := hw.symm
      go_wp2_with fail
      refine (HA2.out _).mono ?_
      rintro e w1 ⟨rfl, hw⟩
      obtain rfl := hw.symm
      go_wp2_with fail
      refine (HS.out _).mono ?_
      rintro e w1 ⟨rfl, hw⟩
      obtain rfl := hw.symm
      go_wp2
      refine bodyPost_ret (v := .tuple #[.agg #[.int .i64 0, .string ⟨#[]⟩, .string ⟨#[]⟩, .bool false, .string ⟨#[]⟩], .int .i64 (-1)]) (by simp [results, Tryz.results80, go_sem]) rfl ⟨HR.out, ?_⟩
      exact (Below.refl _ _).alloc (Nat.le_refl _) _
    · rw [hsm] at HS
      have HR : Hid (MarkAt s a (.returned (.tuple #[.agg #[.int .i64 2, .string (s.extract (a + 2) k), .string ⟨#[]⟩, .bool false, .string ⟨#[]⟩], .int .i64 ((k : Int) + 1)]))) :=
        at_some (em.trans (closeL_some hsm h62)) (k := k + 1) (by omega) (by omega) hk1 (by rw [← hD, List.drop_drop]) rfl (bytes_ofS _ _ hT) rfl rfl rfl
      clear el em hT hD HA hxs h62 hsm hk
      go_enter Tryz.func80, Tryz.ntmps80
      go_wp2_with fail
      refine (H1.out _).mono ?_
      rintro e w1 ⟨rfl, hw⟩
      obtain rfl := hw.symm
      go_wp2_with fail
      refine (HN.out _).mono ?_
      rintro e w1 ⟨rfl, hw⟩
      obtain rfl := hw.symm
      go_wp2_with fail
      refine (HA2.out _).mono ?_
      rintro e w1 ⟨rfl, hw⟩
      obtain rfl := hw.symm
      go_wp2_with fail
      refine (HS.out _).mono ?_
      rintro e w1 ⟨rfl, hw⟩
      obtain rfl := hw.symm
      go_wp2
      refine bodyPost_ret (v := .tuple #[.agg #[.int .i64 2, .string (s.extract (a + 2) k), .string ⟨#[]⟩, .bool false, .string ⟨#[]⟩], .int .i64 ((k : Int) + 1)]) (by simp [results, Tryz.results80, go_sem]) rfl ⟨HR.out, ?_⟩
      exact (Below.refl _ _).alloc (Nat.le_refl _) _
end Go.Proofs.YtcgmokjnjmefpaaGreatDoor
