/-
  What the program's bodyAt does.
-/
import Derived.Test.YtanebchmeaomgaaGreatDoorGetChunks
import Derived.Test.YtanebchmeaomgaaGreatDoorParseHex
namespace Go.Proofs.YtanebchmeaomgaaGreatDoor
open Go.RowKit M
set_option linter.unusedVariables false

/-- The body at a place, in pieces or of a length. -/
def bodyV (l : List UInt8) (e : Nat) (ck : Bool) (n : Nat) : List UInt8 × Nat × Int :=
  if ck then chunksC l e else if l.length < e + n then ([], 0, 1) else ((l.drop e).take n, e + n, 0)
theorem bodyL_V (l : List UInt8) (e : Nat) (hs : List Hd) : bodyL l e hs = bodyV l e (chkF hs) (lenF hs) := rfl

set_option maxRecDepth 100000 in
set_option maxHeartbeats 2000000 in
theorem bodyAt_any (b o : Nat) (l : List UInt8) (cap e n : Nat) (ck : Bool) (w : World) (h : Byt w w.heap.size (some ⟨b, o, none⟩) l) (hl : l.length ≤ 4194304) (hlc : l.length ≤ cap) (hcm : cap ≤ maxLen) (he : e ≤ l.length) (hn : n ≤ 10000000) :
    Calls Tryz.prog 186 #[.slice (some ⟨b, o, none⟩) l.length cap, .int .i64 e, .agg #[.bool ck, .int .i64 n]] w fun x w' => x = .returned (.tuple #[.string ⟨(bodyV l e ck n).1.toArray⟩, .int .i64 (bodyV l e ck n).2.1, .int .i64 (bodyV l e ck n).2.2]) ∧ Below w.heap.size w w' := by
  have hb0 : Below w.heap.size w (w.alloc (Obj.cells #[.bool ck, .int .i64 n] 218)) := (Below.refl _ _).alloc (Nat.le_refl _) _
  have hy := (h.below hb0 (Nat.le_refl _)).mono hb0.size
  have HY := hide hy
  have HB := hide hb0
  have hcm' := hcm
  unfold maxLen at hcm'
  clear h hb0 hy
  cases ck
  · by_cases hlt : l.length < e + n
    · have HV : Hid (bodyV l e false n = ([], 0, 1)) := by show bodyV _ _ _ _ = _; unfold bodyV; simp [hlt]
      have hlt' : (l.length : Int) < (e : Int) + n := by omega
      clear hlt
      go_enter Tryz.func186, Tryz.ntmps186
      go_wp2
      refine bodyPost_ret (v := .tuple #[.string ⟨#[]⟩, .int .i64 0, .int .i64 1]) (by simp [results, Tryz.results186, go_sem]) rfl ?_
      exact ⟨by rw [HV.out]; rfl, HB.out⟩
    · have HV : Hid (bodyV l e false n = ((l.drop e).take n, e + n, 0)) := by show bodyV _ _ _ _ = _; unfold bodyV; simp [hlt]
      have hlt' : ¬ ((l.length : Int) < (e : Int) + n) := by omega
      have hen : e + n ≤ l.length := by omega
      by_cases hn0 : n = 0
      · subst hn0
        have hcv0 := fun W => conv_byt (Byt.nil W 0 (some ⟨b, o, none⟩)) 0 0 rfl
        have HB' : Hid (Below w.heap.size w (w.alloc (Obj.cells #[.bool false, .int .i64 0] 218))) := HB.out
        clear hlt hlt' HB
        go_enter Tryz.func186, Tryz.ntmps186
        go_wp2
        refine bodyPost_ret (v := .tuple #[.string ⟨#[]⟩, .int .i64 e, .int .i64 0]) (by simp [results, Tryz.results186, go_sem]) rfl ?_
        exact ⟨by rw [HV.out]; simp, HB'.out⟩
      · have hcv1 := conv_byt ((HY.out.drop e).take n) n n (by rw [List.length_take, List.length_drop]; omega)
        clear hlt
        go_enter Tryz.func186, Tryz.ntmps186
        go_wp2
        refine bodyPost_ret (v := .tuple #[.string ⟨((l.drop e).take n).toArray⟩, .int .i64 ((e : Int) + n), .int .i64 0]) (by simp [results, Tryz.results186, go_sem]) rfl ?_
        exact ⟨by rw [HV.out]; simp, HB.out⟩
  · have HV : Hid (bodyV l e true n = chunksC l e) := rfl
    have HG := hide (getChunks_any (some ⟨b, o, none⟩) l cap e _ HY.out hl hlc hcm)
    rw [← HV.out] at HG
    obtain ⟨S, hS⟩ : ∃ S, (⟨(bodyV l e true n).1.toArray⟩ : ByteArray) = S := ⟨_, rfl⟩
    obtain ⟨P, hP⟩ : ∃ P : Int, ((bodyV l e true n).2.1 : Int) = P := ⟨_, rfl⟩
    obtain ⟨C, hC⟩ : ∃ C, (bodyV l e true n).2.2 = C := ⟨_, rfl⟩
    rw [hS, hP, hC] at HG ⊢
    clear hS hP hC HV
    go_enter Tryz.func186, Tryz.ntmps186
    go_wp2_with fail
    refine HG.out.mono ?_
    rintro x w1 ⟨rfl, b1⟩
    have c1 := HB.out.trans (b1.mono HB.out.size)
    go_wp2
    refine bodyPost_ret (v := .tuple #[.string S, .int .i64 P, .int .i64 C]) (by simp [results, Tryz.results186, go_sem]) rfl ?_
    exact ⟨rfl, c1⟩
end Go.Proofs.YtanebchmeaomgaaGreatDoor
