/-
  What impl.AddLock does.
-/
import Derived.Test.YtclnpfpaabmkcaaWithI
import Derived.Test.YtclnpfpaabmkcaaLocksOkI
namespace Go.Proofs.Ytclnpfpaabmkcaa
open Go.RowKit M
set_option linter.unusedVariables false

set_option maxRecDepth 100000 in
set_option maxHeartbeats 4000000 in
theorem addLock_any (a : Option Addr) (l : List Lk) (cap B : Nat) (x : Lk) (xa : Option Addr) (xc : Nat) (w : World) (h : Lks w B a l) (hx : LkIn w B x xa xc) (hB : B ≤ w.heap.size) (hl : l.length ≤ 1048576) (hs : ∀ r ∈ l ++ [x], r.pa.length ≤ 1048576 ∧ ∀ s ∈ r.pa, s.size ≤ 281474976710656) (hsh : ShortK (l ++ [x])) :
    Calls Try.prog 6 #[.slice a l.length cap, .agg #[.int .i64 x.tk, .slice xa x.pa.length xc, .bool x.de, .bool x.sh, .int .i64 x.un]] w fun e w' => (∃ g : Nat, e = .returned (.tuple #[.slice (some ⟨g, 0, none⟩) (addL l x).length (addL l x).length, .bool (locksB (l ++ [x]))]) ∧ w.heap.size ≤ g ∧ ∃ pb, OwnL w' g w'.heap.size g (addL l x) pb) ∧ Below w.heap.size w w' := by
  have hb0 := (Below.refl w.heap.size w).alloc (Nat.le_refl _) (Obj.cells #[.int .i64 x.tk, .slice xa x.pa.length xc, .bool x.de, .bool x.sh, .int .i64 x.un] 27)
  have HT := hide (with_any a l cap B x xa xc _ (h.below hb0 hB) (hx.below hb0 hB) (Nat.le_trans hB hb0.size) hl)
  have HB0 := hide hb0
  have HH := hide (fun W (hb : Below w.heap.size w W) => h.below hb hB)
  have HS := hide hs
  have HSH := hide hsh
  have hlx : (l ++ [x]).length = l.length + 1 := by simp
  have HLX := hide hlx
  clear hb0 h hs hx hsh hlx
  go_enter Try.func6, Try.ntmps6
  go_wp2_with fail
  refine HT.out.mono ?_
  rintro e w1 ⟨⟨g, rfl, hg, ts, hts, hrow, hin⟩, b1⟩
  have HC1 := hide (HB0.out.trans (b1.mono HB0.out.size))
  have HLK := hide (lks_of_rowV hts hrow hin (Nat.le_trans hB HC1.out.size))
  have HQ := hide (locksOk_any (some ⟨g, 0, none⟩) (l ++ [x]) (l.length + 1) w1.heap.size w1 HLK.out (Nat.le_refl _) HSH.out (by simp) (by unfold maxLen; omega))
  rw [HLX.out] at HQ
  obtain ⟨z, hz⟩ : ∃ z, locksB (l ++ [x]) = z := ⟨_, rfl⟩
  rw [hz] at HQ
  have HZ := hide hz
  clear hz hts hrow hin b1 HT
  go_wp2_with fail
  refine HQ.out.mono ?_
  rintro e w2 ⟨rfl, b2⟩
  have HC2 := hide (HC1.out.trans (b2.mono HC1.out.size))
  have HLK2 := hide ((HLK.out.below b2 (Nat.le_refl _)).mono b2.size)
  clear b2 HLK HQ
  cases z
  · have HE := hide (show addL l x = l by unfold addL; rw [HZ.out]; rfl)
    have HK := hide (copyLocks_any a l cap B w2 (HH.out w2 HC2.out) (Nat.le_trans hB HC2.out.size) (by omega) (fun r hr => HS.out r (List.mem_append_left _ hr)))
    go_wp2_with fail
    refine HK.out.mono ?_
    rintro e w3 ⟨⟨g2, rfl, hg2, hO⟩, b3⟩
    have HC3 := hide (HC2.out.trans (b3.mono HC2.out.size))
    have HO := hide hO
    have hg3 := Nat.le_trans HC2.out.size hg2
    clear hO b3
    go_wp2
    go_ret2
    rw [HZ.out, HE.out]
    exact ⟨⟨g2, rfl, hg3, HO.out⟩, HC3.out⟩
  · have HE := hide (show addL l x = l ++ [x] by unfold addL; rw [HZ.out]; rfl)
    have HK := hide (copyLocks_any (some ⟨g, 0, none⟩) (l ++ [x]) (l.length + 1) w2.heap.size w2 HLK2.out (Nat.le_refl _) (by simp; omega) HS.out)
    rw [HLX.out] at HK
    go_wp2_with fail
    refine HK.out.mono ?_
    rintro e w3 ⟨⟨g2, rfl, hg2, hO⟩, b3⟩
    have HC3 := hide (HC2.out.trans (b3.mono HC2.out.size))
    have HO := hide hO
    have hg3 := Nat.le_trans HC2.out.size hg2
    clear hO b3
    go_wp2
    go_ret2
    rw [HZ.out, HE.out, HLX.out]
    exact ⟨⟨g2, rfl, hg3, HO.out⟩, HC3.out⟩
end Go.Proofs.Ytclnpfpaabmkcaa
