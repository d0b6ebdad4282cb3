/-
  What the program's cutSpace does: a space that is named ahead, or none.
-/
import Derived.Test.YtccehdlgpbeijaaGreatDoorParseNum
import Derived.Test.YtccehdlgpbeijaaGreatDoorUnescape
namespace Go.Proofs.YtccehdlgpbeijaaGreatDoor
open Go.RowKit M
set_option linter.unusedVariables false

theorem cutPre_any (s : ByteArray) (t : ByteArray) (p : List UInt8) (ht : t.data.toList = p) (w : World) :
    Calls Tryz.prog 86 #[.string s, .string t] w fun e w' => e = .returned (.tuple #[.string (bytesOf (if p.isPrefixOf s.data.toList then s.data.toList.drop p.length else s.data.toList)), .bool (p.isPrefixOf s.data.toList)]) ∧ w' = w := by
  subst ht
  exact Tryz.strings_CutPrefix s t w

theorem cutPre_no (s t : ByteArray) (p : List UInt8) (ht : t.data.toList = p) (h : p.isPrefixOf s.data.toList = false) (w : World) :
    Calls Tryz.prog 86 #[.string s, .string t] w fun e w' => e = .returned (.tuple #[.string s, .bool false]) ∧ w' = w := by
  have := cutPre_any s t p ht w
  rw [h, if_neg (by decide), ← bytes_of s _ rfl] at this
  exact this
theorem cutPre_yes (s t : ByteArray) (p : List UInt8) (n : Nat) (hn : p.length = n) (ht : t.data.toList = p) (h : p.isPrefixOf s.data.toList = true) (w : World) :
    Calls Tryz.prog 86 #[.string s, .string t] w fun e w' => e = .returned (.tuple #[.string (bytesOf (s.data.toList.drop n)), .bool true]) ∧ w' = w := by
  have := cutPre_any s t p ht w
  rw [h, if_pos rfl, hn] at this
  exact this

/-- What cutSpace answers. -/
def SpIs (l : List UInt8) (e : Ending) : Prop := ∃ (has : Bool) (ns t : ByteArray) (ok : Bool), e = .returned (.tuple #[.agg #[.bool has, .string ns], .string t, .bool ok]) ∧ ok = (spcL l).isSome ∧ ∀ sp q, spcL l = some (sp, q) → has = sp.1 ∧ ns.data.toList = sp.2 ∧ t.data.toList = q

theorem spcL_no {l : List UInt8} (h : spcS.isPrefixOf l = false) : spcL l = some ((false, []), l) := by unfold spcL; rw [if_neg (by simp [h])]
theorem spcL_yes {l : List UInt8} (h : spcS.isPrefixOf l = true) : spcL l = if fromB 34 (l.drop 8) = [] then none else
     (match unesc (upTo 34 (l.drop 8)) with
     | some ns => if ns.length ≤ 20 then some ((true, ns), (fromB 34 (l.drop 8)).tail) else none
     | none => none) := by unfold spcL; rw [if_pos h]; rfl

theorem sp_ret {l : List UInt8} {ok : Bool} (has : Bool) (ns t : ByteArray) (h1 : ok = (spcL l).isSome) (h2 : ∀ sp q, spcL l = some (sp, q) → has = sp.1 ∧ ns.data.toList = sp.2 ∧ t.data.toList = q) : SpIs l (.returned (.tuple #[.agg #[.bool has, .string ns], .string t, .bool ok])) := ⟨has, ns, t, ok, rfl, h1, h2⟩

set_option maxRecDepth 100000 in
set_option maxHeartbeats 2000000 in
theorem cutSpace_any (s : ByteArray) (w : World) (hs : s.size ≤ 1099511627776) :
    Calls Tryz.prog 96 #[.string s] w fun e w' => SpIs s.data.toList e ∧ Below w.heap.size w w' := by
  have el : s.data.toList.length = s.size := Array.length_toList
  have HP := hide (fun W : World => cutPre_any s ⟨#[32, 120, 109, 108, 110, 115, 61, 34]⟩ spcS rfl W)
  cases hp : spcS.isPrefixOf s.data.toList
  · rw [hp] at HP
    have HF : Hid (SpIs s.data.toList (.returned (.tuple #[.agg #[.bool false, .string ⟨#[]⟩], .string s, .bool true]))) := by
      have e := spcL_no hp
      refine sp_ret false ⟨#[]⟩ s (by rw [e]; rfl) ?_
      rw [e]
      intro sp q h
      obtain ⟨rfl, rfl⟩ := Prod.mk.inj (Option.some.inj h)
      exact ⟨rfl, rfl, rfl⟩
    clear hp el
    go_enter Tryz.func96, Tryz.ntmps96
    go_wp2_with fail
    refine (HP.out _).mono ?_
    rintro e w1 ⟨rfl, hw1⟩
    obtain rfl := hw1.symm
    go_wp2
    refine bodyPost_ret (v := .tuple #[.agg #[.bool false, .string ⟨#[]⟩], .string s, .bool true]) (by simp [results, Tryz.results96, go_sem]) rfl ⟨HF.out, ?_⟩
    exact ((Below.refl _ _).alloc (Nat.le_refl _) _)
  · rw [hp, if_pos rfl] at HP
    have e8 : spcS.length = 8 := rfl
    rw [e8] at HP
    obtain ⟨t, ht⟩ : ∃ t : ByteArray, bytesOf (s.data.toList.drop 8) = t := ⟨_, rfl⟩
    have htl : t.data.toList = s.data.toList.drop 8 := by rw [← ht]; rfl
    have hts : t.size ≤ s.size := by
      have h1 : t.data.toList.length = t.size := Array.length_toList
      rw [htl, List.length_drop] at h1; omega
    rw [ht] at HP
    have hsp := spcL_yes hp
    rw [← htl] at hsp
    have HC := hide (fun W : World => cut_any t 34 W (by unfold maxLen; omega))
    have hul : (bytesOf (upTo 34 t.data.toList)).size ≤ 1099511627776 := by
      rw [bytesOf_size]
      have h1 := (upTo_end 34 t.data.toList).1
      have h2 : t.data.toList.length = t.size := Array.length_toList
      omega
    have HU := hide (fun W : World => unescape_any (bytesOf (upTo 34 t.data.toList)) W hul)
    have hbl : (bytesOf (upTo 34 t.data.toList)).data.toList = upTo 34 t.data.toList := rfl
    rw [hbl] at HU
    obtain ⟨x, b, hx⟩ : ∃ x b, unescR (upTo 34 t.data.toList) = (x, b) := ⟨_, _, rfl⟩
    rw [hx] at HU
    have HF : Hid (∀ ok : Bool, ok = (((!(fromB 34 t.data.toList).isEmpty) && b) && decide ((bytesOf x).size ≤ 20)) → SpIs s.data.toList (.returned (.tuple #[.agg #[.bool true, .string (bytesOf x)], .string (bytesOf (fromB 34 t.data.toList).tail), .bool ok]))) := by
      intro ok hok
      rw [bytesOf_size] at hok
      have hr : unescR (upTo 34 t.data.toList) = (x, b) := hx
      unfold unescR at hr
      by_cases hf : fromB 34 t.data.toList = []
      · rw [if_pos hf] at hsp
        exact sp_ret true _ _ (by rw [hok, hsp, hf]; rfl) (by rw [hsp]; intro sp q h; cases h)
      · rw [if_neg hf] at hsp
        have hne : (fromB 34 t.data.toList).isEmpty = false := by cases hq : fromB 34 t.data.toList with | nil => exact absurd hq hf | cons _ _ => rfl
        cases hu : unesc (upTo 34 t.data.toList) with
        | none =>
          rw [hu] at hsp hr
          obtain ⟨rfl, rfl⟩ := Prod.mk.inj hr
          have hsp' : spcL s.data.toList = none := hsp
          exact sp_ret true _ _ (by rw [hok, hsp', hne]; rfl) (by rw [hsp']; intro sp q h; cases h)
        | some y =>
          rw [hu] at hsp hr
          obtain ⟨rfl, rfl⟩ := Prod.mk.inj hr
          simp only at hsp
          by_cases h20 : y.length ≤ 20
          · rw [if_pos h20] at hsp
            refine sp_ret true _ _ (by rw [hok, hsp, hne, decide_eq_true h20]; rfl) ?_
            rw [hsp]
            intro sp q h
            obtain ⟨rfl, rfl⟩ := Prod.mk.inj (Option.some.inj h)
            exact ⟨rfl, rfl, rfl⟩
          · rw [if_neg h20] at hsp
            exact sp_ret true _ _ (by rw [hok, hsp, hne, decide_eq_false h20]; rfl) (by rw [hsp]; intro sp q h; cases h)
    obtain ⟨u, hu⟩ : ∃ u, bytesOf (upTo 34 t.data.toList) = u := ⟨_, rfl⟩
    obtain ⟨y, hy⟩ : ∃ y, bytesOf (fromB 34 t.data.toList).tail = y := ⟨_, rfl⟩
    obtain ⟨z, hz⟩ : ∃ z, (!(fromB 34 t.data.toList).isEmpty) = z := ⟨_, rfl⟩
    obtain ⟨xb, hxb⟩ : ∃ xb, bytesOf x = xb := ⟨_, rfl⟩
    rw [hu] at HC HU
    rw [hy] at HC HF
    rw [hz] at HC HF
    simp only [hxb] at HU HF
    clear hp el e8 ht htl hts hsp hul hbl hx hu hy hz hxb
    go_enter Tryz.func96, Tryz.ntmps96
    go_wp2_with fail
    refine (HP.out _).mono ?_
    rintro e w1 ⟨rfl, hw1⟩
    obtain rfl := hw1.symm
    go_wp2_with fail
    refine (HC.out _).mono ?_
    rintro e w2 ⟨rfl, b2⟩
    go_wp2_with fail
    refine (HU.out _).mono ?_
    rintro e w3 ⟨rfl, b3⟩
    have hb : Below (w.alloc (Obj.cells #[.bool false, .string ⟨#[]⟩] 69)).heap.size (w.alloc (Obj.cells #[.bool false, .string ⟨#[]⟩] 69)) w3 := b2.trans (b3.mono b2.size)
    have hN : w.heap.size < w3.heap.size := by have := hb.size; simp at this; omega
    have c0 : w3.cell? ⟨w.heap.size, 0, none⟩ = some (.bool false) := (hb.cell (p := ⟨w.heap.size, 0, none⟩) (by simp)).trans (by simp)
    have c1 : w3.cell? ⟨w.heap.size, 1, none⟩ = some (.string ⟨#[]⟩) := (hb.cell (p := ⟨w.heap.size, 1, none⟩) (by simp)).trans (by simp)
    have f0 : w3.frozen? ⟨w.heap.size, 0, none⟩ = false := (hb.frozen (p := ⟨w.heap.size, 0, none⟩) (by simp)).trans (by simp)
    have f1 : w3.frozen? ⟨w.heap.size, 1, none⟩ = false := (hb.frozen (p := ⟨w.heap.size, 1, none⟩) (by simp)).trans (by simp)
    have HB := hide (((Below.refl w.heap.size w).alloc (Nat.le_refl _) (Obj.cells #[.bool false, .string ⟨#[]⟩] 69)).trans (hb.mono (by simp)))
    clear b2 b3 hb
    cases z
    · cases b
      all_goals
        go_wp2
        refine bodyPost_ret (v := .tuple #[.agg #[.bool true, .string xb], .string y, .bool false]) (by simp [results, Tryz.results96, go_sem, c0, c1]) rfl ⟨HF.out false rfl, (HB.out.setCell (p := ⟨w.heap.size, 0, none⟩) (Nat.le_refl _) _).setCell (p := ⟨w.heap.size, 1, none⟩) (Nat.le_refl _) _⟩
    · cases b
      · go_wp2
        refine bodyPost_ret (v := .tuple #[.agg #[.bool true, .string xb], .string y, .bool false]) (by simp [results, Tryz.results96, go_sem, c0, c1]) rfl ⟨HF.out false rfl, (HB.out.setCell (p := ⟨w.heap.size, 0, none⟩) (Nat.le_refl _) _).setCell (p := ⟨w.heap.size, 1, none⟩) (Nat.le_refl _) _⟩
      · by_cases h20 : xb.size ≤ 20
        · have h20' : (xb.size : Int) ≤ 20 := by omega
          have HG := hide (HF.out true (by rw [decide_eq_true h20]; rfl))
          clear HF h20
          go_wp2
          refine bodyPost_ret (v := .tuple #[.agg #[.bool true, .string xb], .string y, .bool true]) (by simp [results, Tryz.results96, go_sem, c0, c1]) rfl ⟨HG.out, (HB.out.setCell (p := ⟨w.heap.size, 0, none⟩) (Nat.le_refl _) _).setCell (p := ⟨w.heap.size, 1, none⟩) (Nat.le_refl _) _⟩
        · have h20' : ¬ (xb.size : Int) ≤ 20 := by omega
          have HG := hide (HF.out false (by rw [decide_eq_false h20]; rfl))
          clear HF h20
          go_wp2
          refine bodyPost_ret (v := .tuple #[.agg #[.bool true, .string xb], .string y, .bool false]) (by simp [results, Tryz.results96, go_sem, c0, c1]; omega) rfl ⟨HG.out, (HB.out.setCell (p := ⟨w.heap.size, 0, none⟩) (Nat.le_refl _) _).setCell (p := ⟨w.heap.size, 1, none⟩) (Nat.le_refl _) _⟩
end Go.Proofs.YtccehdlgpbeijaaGreatDoor
