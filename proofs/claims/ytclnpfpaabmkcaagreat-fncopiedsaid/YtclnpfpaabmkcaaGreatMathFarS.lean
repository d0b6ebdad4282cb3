/-
  What the specification says of copies and moves, case by case: no program in sight.
-/
import Derived.Test.YtclnpfpaabmkcaaGreatMathFar
import Derived.Test.YtclnpfpaabmkcaaGreatSpecLong
namespace Go.Proofs.YtclnpfpaabmkcaaGreat
open M

theorem deepP_nil (p : List ByteArray) : deepP p [] = true := (deepB_P [] ⟨p, false, ByteArray.empty, 0, []⟩).symm.trans (deep_iff.2 (List.nil_prefix))
theorem sameL_comm (a b : List ByteArray) : sameL a b = sameL b a := by
  unfold sameL
  by_cases h : a = b
  · subst h; rfl
  · rw [decide_eq_false h, decide_eq_false (fun e => h e.symm)]
theorem apart_no {fr to : List ByteArray} (h : fr.length = 0 ∨ to.length = 0 ∨ sameL fr to = true ∨ underB fr to = true ∨ underB to fr = true) : apartB fr to = false := by
  unfold apartB
  rcases h with h | h | h | h | h
  · obtain rfl := List.length_eq_zero_iff.1 h
    rw [deepP_nil to]; simp
  · obtain rfl := List.length_eq_zero_iff.1 h
    rw [deepP_nil fr]; simp
  · have : deepP fr to = true := by unfold deepP; rw [h]; rfl
    rw [this]; simp
  · have : deepP fr to = true := by unfold deepP; rw [h]; simp
    rw [this]; simp
  · have : deepP to fr = true := by unfold deepP; rw [h]; simp
    rw [this]; simp
theorem apart_yes {fr to : List ByteArray} (h1 : sameL fr to = false) (h2 : underB fr to = false) (h3 : underB to fr = false) : apartB fr to = true := by
  unfold apartB deepP
  rw [sameL_comm to fr, h1, h2, h3]; rfl
theorem far_code {rs : List Rs} {fr to : List ByteArray} {ov : Bool} {v : Int} {mv : Bool} {c : Int} (h : farI rs fr to ov v mv = c) (hc : ¬ c = 0) : farR rs fr to ov v mv = rs ∧ farC rs fr to ov v mv = c := by
  unfold farR farC takenC
  rw [h, if_neg hc, if_neg hc]
  exact ⟨rfl, rfl⟩
theorem farI_ask {rs : List Rs} {fr to : List ByteArray} {ov : Bool} {v : Int} {mv : Bool} {c : Int} (h : askI rs v (pathB fr && pathB to) = c) (hc : ¬ c = 0) : farI rs fr to ov v mv = c := by
  have h1 : far1 rs fr to ov v = c := by unfold far1; rw [h, if_pos hc]
  unfold farI; rw [h1, if_pos hc]
theorem ask_zero {rs : List Rs} {fr to : List ByteArray} {v : Int} (ht : treeB rs = true) (h1 : pathB fr = true) (h2 : pathB to = true) (hv : inB v 0 99999 = true) : askI rs v (pathB fr && pathB to) = 0 := by
  unfold askI; rw [ht, h1, h2, hv]; rfl
theorem farI_404 {rs : List Rs} {fr to : List ByteArray} {ov : Bool} {v : Int} {mv : Bool} (h : askI rs v (pathB fr && pathB to) = 0) (hf : thereB rs fr = false) : farI rs fr to ov v mv = 404 := by
  have h1 : far1 rs fr to ov v = 404 := by unfold far1; rw [if_neg (by simp [h]), if_pos hf]
  unfold farI; rw [h1]; rfl
theorem farI_403 {rs : List Rs} {fr to : List ByteArray} {ov : Bool} {v : Int} {mv : Bool} (h : askI rs v (pathB fr && pathB to) = 0) (hf : thereB rs fr = true) (ha : apartB fr to = false) : farI rs fr to ov v mv = 403 := by
  have h1 : far1 rs fr to ov v = 403 := by unfold far1; rw [if_neg (by simp [h]), if_neg (by simp [hf]), if_pos ha]
  unfold farI; rw [h1]; rfl
theorem farI_412 {rs : List Rs} {fr to : List ByteArray} {v : Int} {mv : Bool} (h : askI rs v (pathB fr && pathB to) = 0) (hf : thereB rs fr = true) (ha : apartB fr to = true) (ht : thereB rs to = true) : farI rs fr to false v mv = 412 := by
  have h1 : far1 rs fr to false v = 412 := by unfold far1; rw [if_neg (by simp [h]), if_neg (by simp [hf]), if_neg (by simp [ha]), if_pos (by simp [ht])]
  unfold farI; rw [h1]; rfl
theorem far1_zero {rs : List Rs} {fr to : List ByteArray} {ov : Bool} {v : Int} (h : askI rs v (pathB fr && pathB to) = 0) (hf : thereB rs fr = true) (ha : apartB fr to = true) (ht : (thereB rs to && !ov) = false) : far1 rs fr to ov v = 0 := by
  unfold far1; rw [if_neg (by simp [h]), if_neg (by simp [hf]), if_neg (by simp [ha]), if_neg (by simp [ht])]
theorem farI_409a {rs : List Rs} {fr to : List ByteArray} {ov : Bool} {v : Int} {mv : Bool} (h : far1 rs fr to ov v = 0) (hc : collB rs (aboveL to) = false) : farI rs fr to ov v mv = 409 := by
  unfold farI; rw [if_neg (by simp [h]), if_pos hc]
theorem farI_409b {rs : List Rs} {fr to : List ByteArray} {ov : Bool} {v : Int} {mv : Bool} (h : far1 rs fr to ov v = 0) (hc : collB rs (aboveL to) = true) (hl : (deepL rs fr).any (longB fr to) = true) : farI rs fr to ov v mv = 409 := by
  unfold farI; rw [if_neg (by simp [h]), if_neg (by simp [hc]), if_pos (show tooLong rs fr to = true from hl)]
theorem farI_507 {rs : List Rs} {fr to : List ByteArray} {ov : Bool} {v : Int} {mv : Bool} (h : far1 rs fr to ov v = 0) (hc : collB rs (aboveL to) = true) (hl : (deepL rs fr).any (longB fr to) = false) (h12 : 12 < (restL rs fr to mv).length + (deepL rs fr).length) : farI rs fr to ov v mv = 507 := by
  unfold farI; rw [if_neg (by simp [h]), if_neg (by simp [hc]), if_neg (show ¬ tooLong rs fr to = true by unfold tooLong; have := hl; unfold longB at this; rw [this]; simp), if_pos h12]
theorem farI_0 {rs : List Rs} {fr to : List ByteArray} {ov : Bool} {v : Int} {mv : Bool} (h : far1 rs fr to ov v = 0) (hc : collB rs (aboveL to) = true) (hl : (deepL rs fr).any (longB fr to) = false) (h12 : ¬ 12 < (restL rs fr to mv).length + (deepL rs fr).length) : farI rs fr to ov v mv = 0 := by
  unfold farI; rw [if_neg (by simp [h]), if_neg (by simp [hc]), if_neg (show ¬ tooLong rs fr to = true by unfold tooLong; have := hl; unfold longB at this; rw [this]; simp), if_neg h12]
theorem there_of {rs : List Rs} {p : List ByteArray} (h : ¬ findI rs p < 0) : thereB rs p = true := there_iff.2 (.inr (by omega))
theorem there_not {rs : List Rs} {p : List ByteArray} (h0 : ¬ p.length = 0) (h : findI rs p < 0) : thereB rs p = false := by
  unfold thereB
  rw [decide_eq_false h0, decide_eq_false (by omega)]; rfl
end Go.Proofs.YtclnpfpaabmkcaaGreat
