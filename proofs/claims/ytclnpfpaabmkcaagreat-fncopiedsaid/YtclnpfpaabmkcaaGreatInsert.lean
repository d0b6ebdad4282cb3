/-
  What slices.Insert does at rows of things.
-/
import Derived.Test.YtclnpfpaabmkcaaGreatGaveIs
namespace Go.Proofs.YtclnpfpaabmkcaaGreat
open Go.RowKit M
set_option linter.unusedVariables false

/-- What is handed back: a row of one's own, the old one or a new one. -/
structure InsIs (w w' : World) (base g : Nat) (v' : Value) (n : Nat) (xs : List Value) : Prop where
  own : w'.ownsRow base 35 5 v' n xs
  grew : w.grownBy w' (some g)
  blk : v'.ownBlock = some g ∨ ∃ b, v'.ownBlock = some b ∧ w.heap.size ≤ b

theorem grown_self (w : World) (r : Option Nat) : w.grownBy w r := ⟨rfl, rfl, rfl, Nat.le_refl _, fun _ _ _ => rfl⟩

theorem insert_none (base g n c i : Nat) (xs : List Value) (vb vc : Nat) (w : World) (hown : w.ownsRow base 35 5 (.slice (some ⟨g, 0, none⟩) n c) n xs) (hi : i ≤ n) (hn : n ≤ 4194304) (hc : c ≤ maxLen) (hnc : n ≤ c) :
    Calls Tryz.prog 139 #[.slice (some ⟨g, 0, none⟩) n c, .int .i64 i, .slice (some ⟨vb, 0, none⟩) 0 vc] w fun e w' => ∃ v', e = .returned v' ∧ InsIs w w' base g v' n xs := by
  have hi1 : (0 : Int) ≤ (i : Int) := by omega
  have hi2 : (i : Int) ≤ (n : Int) := by omega
  have HO := hide hown
  clear hown
  unfold maxLen at hc
  by_cases hci : c = i
  · subst hci
    go_enter Tryz.func139, Tryz.ntmps139
    go_wp2
    go_ret
    exact ⟨_, rfl, HO.out, grown_self _ _, .inl rfl⟩
  · skip
    go_enter Tryz.func139, Tryz.ntmps139
    go_wp2
    go_ret
    exact ⟨_, rfl, HO.out, grown_self _ _, .inl rfl⟩

set_option maxHeartbeats 4000000 in
set_option maxRecDepth 100000 in
theorem insert_end (base g n c m : Nat) (xs news : List Value) (vb vc : Nat) (w : World) (hown : w.ownsRow base 35 5 (.slice (some ⟨g, 0, none⟩) n c) n xs) (hm : 0 < m) (hn : n ≤ 2097152) (hmm : m ≤ 2097152) (hc : c ≤ maxLen) (hnc : n ≤ c) (hl : news.length = m * 5) (hnews : ∀ j u, news[j]? = some u → w.cell? ⟨vb, j, none⟩ = some u) (h1 : ∀ u ∈ news, u.oneCell' = true) (hbase : base ≤ w.heap.size) :
    Calls Tryz.prog 139 #[.slice (some ⟨g, 0, none⟩) n c, .int .i64 n, .slice (some ⟨vb, 0, none⟩) m vc] w fun e w' => ∃ v', e = .returned v' ∧ InsIs w w' base g v' (n + m) (xs ++ news) := by
  obtain ⟨ii, hii, hz, hs, hb⟩ := info_parts info_res
  have HO := hide hown
  clear hown
  unfold maxLen at hc
  have hz1 : ¬ ((m : Int) = 0) := by omega
  by_cases hci : n = c
  · subst hci
    go_enter Tryz.func139, Tryz.ntmps139
    go_wp2_with (at_builtin; refine wpList_append_own_at _ rfl _ _ 24 rfl base 35 ii _ 5 80 Tryz.underlying24 hii hz hs hb rfl (by omega) _ n xs rfl HO.out ⟨vb, 0, none⟩ m vc news rfl hl (fun j u hj => by rw [Addr.add_lit, Nat.zero_add]; exact hnews j u hj) h1 (by unfold maxLen; omega) (by omega) hbase ?_)
    intro v' w' h2 h3 h4 h5
    have H2 := hide h2
    have H3 := hide h3
    have H5 := hide h5
    clear h2 h3 h4 h5
    go_wp2
    go_ret
    refine ⟨_, rfl, H2.out, H3.out, ?_⟩
    rcases H5.out with h | h
    · exact .inl h
    · exact .inr ⟨_, h, Nat.le_refl _⟩
  · skip
    go_enter Tryz.func139, Tryz.ntmps139
    go_wp2_with (at_builtin; refine wpList_append_own_at _ rfl _ _ 24 rfl base 35 ii _ 5 80 Tryz.underlying24 hii hz hs hb rfl (by omega) _ n xs rfl HO.out ⟨vb, 0, none⟩ m vc news rfl hl (fun j u hj => by rw [Addr.add_lit, Nat.zero_add]; exact hnews j u hj) h1 (by unfold maxLen; omega) (by omega) hbase ?_)
    intro v' w' h2 h3 h4 h5
    have H2 := hide h2
    have H3 := hide h3
    have H5 := hide h5
    clear h2 h3 h4 h5
    go_wp2
    go_ret
    refine ⟨_, rfl, H2.out, H3.out, ?_⟩
    rcases H5.out with h | h
    · exact .inl h
    · exact .inr ⟨_, h, Nat.le_refl _⟩
end Go.Proofs.YtclnpfpaabmkcaaGreat
