/-
  What impl.tokensOf and impl.TokensAt do.
-/
import Derived.Test.YtclnpfpaabmkcabLockOps
import Derived.Test.YtclnpfpaabmkcabSpecPl
import Derived.Test.YtclnpfpaabmkcabRowC
import Derived.Test.YtclnpfpaabmkcabCoversI
import Derived.Test.YtclnpfpaabmkcabGenLockV
namespace Go.Proofs.Ytclnpfpaabmkcab
open Go.RowKit M
set_option linter.unusedVariables false

theorem infoTk : (Try.prog.info? 3).map (fun i => (i.zero, i.size, i.bytes)) = some (some (.int .i64 0), 1, 8) := by kernel_rfl

set_option maxRecDepth 100000 in
set_option maxHeartbeats 2000000 in
theorem tokensOf_any (a : Option Addr) (l : List Lk) (cap B : Nat) (w : World) (h : Lks w B a l) (hB : B ≤ w.heap.size) (hl : l.length ≤ 1048576) :
    Calls Try.prog 64 #[.slice a l.length cap] w fun e w' => (∃ p : Nat, e = .returned (.slice (some ⟨p, 0, none⟩) l.length l.length) ∧ Own w' (.slice (some ⟨p, 0, none⟩) l.length l.length) (.l ((l.map (·.tk)).map dI)) (IvG w.heap.size w'.heap.size)) ∧ Below w.heap.size w w' := by
  obtain ⟨i, hi, hz, hs, hb⟩ := info_parts infoTk
  have hmk := run_make (P := Try.prog) w 39 3 i _ Try.underlying39 hi hz .i64 .i64 l.length l.length (by omega) (Int.le_refl _) (by rw [hb]; omega) (by omega)
  simp only [Int.toNat_natCast, hs] at hmk
  have hm0 := MadeG.start w #[.int .i64 0] l.length 1 3 (rowsF dI (l.map (·.tk)))
  simp only [Nat.mul_one] at hm0
  have HM0 := hide hm0
  have HH := hide h
  clear h hm0 hi hz hs hb
  simp only [Nat.mul_one] at hmk
  go_enter Try.func64, Try.ntmps64
  go_wp2
  clear hmk
  go_loopw [11] (fun i wr => ∃ k : Nat, k ≤ l.length ∧ i = .int .i64 k ∧ Hid (MadeG wr w.heap.size 1 l.length (rowsF dI (l.map (·.tk))) k) ∧ Below w.heap.size w wr) (fun i _ => l.length - (intOf i).toNat)
  case atStart => exact ⟨0, Nat.zero_le _, rfl, HM0, (Below.refl _ _).alloc (Nat.le_refl _) _⟩
  case round =>
    obtain ⟨k, hk, rfl, HR, hbe⟩ := hrel
    by_cases hlt : k < l.length
    · obtain ⟨b, o, rfl, hb, hc⟩ := (HH.out.below hbe hB) (by omega)
      obtain ⟨pa, pc1, ⟨hc0, hc1, hc2, hc3, hc4⟩, hin⟩ := hc k hlt
      have hrk : rowsF dI (l.map (·.tk)) k = dI l[k].tk := by rw [rowsF_at _ k (by simpa using hlt)]; simp
      have b1 := (Below.refl wr.heap.size wr).alloc (Nat.le_refl _) (Obj.cells #[.int .i64 l[k].tk, .slice pa l[k].pa.length pc1, .bool l[k].de, .bool l[k].sh, .int .i64 l[k].un] 26)
      have hm1 := HR.out.next0 b1
      obtain ⟨u, hu, fu⟩ := hm1.cell hlt 0 (by decide)
      simp only [Nat.mul_one, Nat.add_zero] at hu fu
      have HR2 := hm1.next (Below.refl _ _) hlt [.int .i64 l[k].tk] rfl (fun _ _ => False) (fun i y hy => by
        rw [hrk] at hy
        match i with
        | 0 => cases hy; exact ⟨_, rfl, .c _ _⟩
        | i + 1 => cases hy) (fun _ _ h => h.elim) (fun _ _ _ _ h => h.elim)
      simp only [Nat.mul_one] at HR2
      have HR3 := hide HR2
      have HC := hide (hbe.trans (b1.mono hbe.size))
      clear HR2 HR hm1 b1 hin hc
      go_wp2
      go_roundw
      case rel => exact ⟨k + 1, by omega, by go_num, HR3, HC.out.setCell (Nat.le_refl _) _⟩
      case measure => simp [intOf]; omega
    · have hk2 : k = l.length := by omega
      subst hk2
      have HO := hide (HR.out.done (rows := (l.map (·.tk)).map dI) (by rw [List.length_map, List.length_map]) (by unfold maxLen; omega) (fun r hr => by obtain ⟨x, _, rfl⟩ := List.mem_map.1 hr; rfl) (fun j hj => by rw [rowsF_at _ j (by simpa using hj)]; simp))
      go_wp2
      go_ret
      exact ⟨⟨_, rfl, HO.out⟩, hbe⟩

set_option maxHeartbeats 1000000 in
theorem tokFn_any (r : Lk) (pa : Option Addr) (pc N B C : Nat) (qa : Option Addr) (q : List ByteArray) (qc : Nat) (w : World) (h : w.cell? ⟨N, 0, none⟩ = some (.slice qa q.length qc)) (hin : LkIn w B r pa pc) (hB : B ≤ w.heap.size) (hq : Strs w C qa q) (hC : C ≤ w.heap.size) (h1 : q.length ≤ qc) (h2 : qc ≤ maxLen) :
    Calls Try.prog 65 #[.agg #[.int .i64 r.tk, .slice pa r.pa.length pc, .bool r.de, .bool r.sh, .int .i64 r.un], .pointer (some ⟨N, 0, none⟩)] w fun e w' => e = .returned (.bool (covB r q)) ∧ Below w.heap.size w w' := by
  have hb := (Below.refl w.heap.size w).alloc (Nat.le_refl _) (Obj.cells #[.int .i64 r.tk, .slice pa r.pa.length pc, .bool r.de, .bool r.sh, .int .i64 r.un] 26)
  have hN : N < w.heap.size := World.block_lt_of_cell? w _ h
  have c1 := (hb.cell (p := ⟨N, 0, none⟩) hN).trans h
  have HQ := hide (covers_any r pa pc qa q qc B C _ (hin.below hb hB) (Nat.le_trans hB hb.size) (hq.below hb hC) (Nat.le_trans hC hb.size) h1 h2)
  have HB := hide hb
  clear hb hin hq
  go_enter Try.func65, Try.ntmps65
  go_wp2_with fail
  refine HQ.out.mono ?_
  rintro e w1 ⟨rfl, b1⟩
  have HC := hide (HB.out.trans (b1.mono HB.out.size))
  go_wp2
  go_ret
  exact ⟨rfl, HC.out⟩

set_option maxHeartbeats 2000000 in
theorem tokensAt_any (a : Option Addr) (l : List Lk) (cap B : Nat) (qa : Option Addr) (q : List ByteArray) (qc C : Nat) (w : World) (h : Lks w B a l) (hB : B ≤ w.heap.size) (hq : Strs w C qa q) (hC : C ≤ w.heap.size) (h1 : q.length ≤ qc) (h2 : qc ≤ maxLen) (hl : l.length ≤ 1048576) :
    Calls Try.prog 25 #[.slice a l.length cap, .slice qa q.length qc] w fun e w' => (∃ r : Value, e = .returned r ∧ Own w' r (.l ((tokL l q).map dI)) (IvG w.heap.size w'.heap.size)) ∧ Below w.heap.size w w' := by
  have hmf : ∀ (fn : Fn) (first cap : Array Value) (w : World), (Instr.makeFunc fn first cap).run Try.prog w = .ok (.func fn first cap) w := fun _ _ _ _ => rfl
  have hb0 := (Below.refl w.heap.size w).alloc (Nat.le_refl _) (Obj.cells #[.slice qa q.length qc] 24)
  have hcell : (w.alloc (Obj.cells #[.slice qa q.length qc] 24)).cell? ⟨w.heap.size, 0, none⟩ = some (.slice qa q.length qc) := by simp
  have HT := hide (those_any 65 (fun args w => enter_fn Try.func65 (by kernel_rfl) rfl args w) #[.pointer (some ⟨w.heap.size, 0, none⟩)] (fun x => covB x q) a l cap B _ (h.below hb0 hB) (Nat.le_trans hB hb0.size) (by omega) (fun k hk pa pc W hW hin => tokFn_any l[k] pa pc w.heap.size B C qa q qc W ((hW.cell (p := ⟨w.heap.size, 0, none⟩) (by simp)).trans hcell) hin (Nat.le_trans (Nat.le_trans hB hb0.size) hW.size) ((hq.below hb0 hC).below hW (Nat.le_trans hC hb0.size)) (Nat.le_trans (Nat.le_trans hC hb0.size) hW.size) h1 h2))
  have HB0 := hide hb0
  have hle := List.length_filter_le (fun x => covB x q) l
  clear hb0 hcell h hq h1 h2
  go_enter Try.func25, Try.ntmps25
  go_wp2_with fail
  refine HT.out.mono ?_
  rintro e w1 ⟨⟨g, n, c, ts, rfl, hn, hc1, hc2, hg, hgl, hts, hrow, hin⟩, b1⟩
  have hln : n = (l.filter (fun x => covB x q)).length := by rw [hn, ← hts, List.length_map]
  have HC1 := hide (HB0.out.trans (b1.mono HB0.out.size))
  have HQ := hide (tokensOf_any (some ⟨g, 0, none⟩) (l.filter (fun x => covB x q)) c w1.heap.size w1 (lks_of_rowV hts hrow hin (Nat.le_trans hB HC1.out.size)) (Nat.le_refl _) (by omega))
  rw [← hln] at HQ
  clear hts hrow hin hn hln b1
  go_wp2_with fail
  refine HQ.out.mono ?_
  rintro e w2 ⟨⟨p, rfl, hO⟩, b2⟩
  have HC2 := hide (HC1.out.trans (b2.mono HC1.out.size))
  have HO := hide (hO.up (l' := w.heap.size) HC1.out.size (Nat.le_refl _))
  clear hO b2
  go_wp2
  go_ret
  exact ⟨⟨_, rfl, HO.out⟩, HC2.out⟩
end Go.Proofs.Ytclnpfpaabmkcab
