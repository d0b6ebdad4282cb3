/-
  What impl.DropLock does.
-/
import Derived.Test.YtclnpfpaabmkcabWithoutOne
namespace Go.Proofs.Ytclnpfpaabmkcab
open Go.RowKit M
set_option linter.unusedVariables false

set_option maxRecDepth 100000 in
set_option maxHeartbeats 4000000 in
theorem dropLock_any (a : Option Addr) (l : List Lk) (cap B : Nat) (t : Int) (w : World) (h : Lks w B a l) (hB : B ≤ w.heap.size) (hl : l.length ≤ 1048576) (hc : l.length ≤ cap) (hm : cap ≤ maxLen) (hs : ∀ r ∈ l, r.pa.length ≤ 1048576 ∧ ∀ s ∈ r.pa, s.size ≤ 281474976710656) :
    Calls Try.prog 10 #[.slice a l.length cap, .int .i64 t] w fun e w' => (∃ g : Nat, e = .returned (.tuple #[.slice (some ⟨g, 0, none⟩) (dropL t l).length (dropL t l).length, .bool (l.any (isTk t))]) ∧ w.heap.size ≤ g ∧ ∃ pb, OwnL w' g w'.heap.size g (dropL t l) pb) ∧ Below w.heap.size w w' := by
  have hmf : ∀ (fn : Fn) (first cap : Array Value) (w : World), (Instr.makeFunc fn first cap).run Try.prog w = .ok (.func fn first cap) w := fun _ _ _ _ => rfl
  have hb0 := (Below.refl w.heap.size w).alloc (Nat.le_refl _) (Obj.cells #[.int .i64 t] 3)
  have hcell : (w.alloc (Obj.cells #[.int .i64 t] 3)).cell? ⟨w.heap.size, 0, none⟩ = some (.int .i64 t) := by simp
  have HT := hide (indexL_any 46 (fun args w => enter_fn Try.func46 (by kernel_rfl) rfl args w) #[.pointer (some ⟨w.heap.size, 0, none⟩)] (isTk t) a l cap B _ (h.below hb0 hB) (Nat.le_trans hB hb0.size) (by omega) (fun k hk pa pc W hW _ => dropFn_any l[k] pa pc w.heap.size t W ((hW.cell (p := ⟨w.heap.size, 0, none⟩) (by simp)).trans hcell)))
  have HB0 := hide hb0
  have HH := hide (fun W (hb : Below w.heap.size w W) => h.below hb hB)
  have HS := hide hs
  have HCM := hide (And.intro hc hm)
  clear hb0 hcell h hs hc hm
  go_enter Try.func10, Try.ntmps10
  go_wp2_with fail
  refine HT.out.mono ?_
  rintro e w1 ⟨⟨z, rfl, hz⟩, b1⟩
  have HC1 := hide (HB0.out.trans (b1.mono HB0.out.size))
  clear b1 HT
  rcases hz with ⟨rfl, hno⟩ | ⟨k, rfl, hk, hyes, hbefore⟩
  · have HE := hide (And.intro hno (dropL_none t l hno))
    have HQ := hide (copyLocks_any a l cap B w1 (HH.out w1 HC1.out) (Nat.le_trans hB HC1.out.size) (by omega) HS.out)
    clear hno
    go_wp2_with fail
    refine HQ.out.mono ?_
    rintro e w2 ⟨⟨g2, rfl, hg2, hO⟩, b2⟩
    have HC2 := hide (HC1.out.trans (b2.mono HC1.out.size))
    have HO := hide hO
    have hg3 := Nat.le_trans HC1.out.size hg2
    clear hO b2
    go_wp2
    go_ret2
    rw [HE.out.1, HE.out.2]
    exact ⟨⟨g2, rfl, hg3, HO.out⟩, HC2.out⟩
  · have HE := hide (And.intro (show l.any (isTk t) = true from List.any_eq_true.2 ⟨_, List.getElem_mem hk, hyes⟩) (dropL_at t l k hk hyes hbefore))
    obtain ⟨b, o, rfl, _⟩ := (HH.out w1 HC1.out) (by omega)
    have HQ := hide (withoutOne_any ⟨b, o, none⟩ l cap B k w1 (HH.out w1 HC1.out) (Nat.le_trans hB HC1.out.size) (by omega) hk HCM.out.1 HCM.out.2)
    clear hyes hbefore
    go_wp2_with fail
    refine HQ.out.mono ?_
    rintro e w2 ⟨⟨rfl, ts, hts, hrow, hin⟩, b2⟩
    have HC2 := hide (HC1.out.trans (b2.mono HC1.out.size))
    rw [← HE.out.2] at hts
    have hlen : (dropL t l).length = l.length - 1 := by rw [HE.out.2, List.length_append, List.length_take, List.length_drop]; omega
    have hlk := lks_of_rowV hts hrow hin (Nat.le_trans hB HC2.out.size)
    have HK := hide (copyLocks_any _ (dropL t l) (l.length - 1) w2.heap.size w2 hlk (Nat.le_refl _) (by omega) (fun r hr => HS.out r ((dropL_sub t l).mem hr)))
    rw [hlen] at HK
    have HL := hide hlen
    clear hts hrow hin b2 hlk hlen HQ
    go_wp2_with fail
    refine HK.out.mono ?_
    rintro e w3 ⟨⟨g2, rfl, hg2, hO⟩, b3⟩
    have HC3 := hide (HC2.out.trans (b3.mono HC2.out.size))
    have HO := hide hO
    have hg3 := Nat.le_trans HC2.out.size hg2
    clear hO b3
    go_wp2
    go_ret2
    rw [HE.out.1, HL.out]
    exact ⟨⟨g2, rfl, hg3, HO.out⟩, HC3.out⟩
end Go.Proofs.Ytclnpfpaabmkcab
