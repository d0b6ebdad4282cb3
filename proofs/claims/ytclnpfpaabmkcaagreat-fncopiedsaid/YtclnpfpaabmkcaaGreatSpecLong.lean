/-
  What spec.l11Long does; an append as one step of a region that draws.
-/
import Derived.Test.YtclnpfpaabmkcaaGreatMathOrder
import Derived.Maps.AppendAt
namespace Go.Proofs.YtclnpfpaabmkcaaGreat
open Go.RowKit M
set_option linter.unusedVariables false

theorem step_append_ownT {P : Program} {ops : Array Oper} {o : Oper} {a : Act} {w : World} {K : Act → World → Prop} {Q : Exit → Act → World → Prop} {E : Prop} (hgd : o.guard = none) (s x : Operand) (t : TypeId)
    (ho : o.op = .call { callee := .builtin .append, args := #[s, x], argTypes := #[t, t] })
    (base : Nat) (e : TypeId) (i : TypeInfo) (z : Value) (size bytes : Nat) (ht : P.underlying t = some (.slice e)) (hi : P.info? e = some i) (hz : i.zero = some z)
    (hsize : i.size = size) (hby : i.bytes = bytes) (hzs : z.cells.size = size) (hsz : 0 < size)
    (v : Value) (n : Nat) (xs : List Value) (hs : a.eval s = v) (hown : w.ownsRow base e size v n xs)
    (ad : Addr) (m c : Nat) (news : List Value) (hx : a.eval x = .slice (some ad) m c) (hl : news.length = m * size) (hnews : ∀ j u, news[j]? = some u → w.cell? (ad.add j) = some u) (h1 : ∀ u ∈ news, u.oneCell' = true)
    (h63 : n + m ≤ maxLen) (hbytes : (n + m) * bytes ≤ 140737488355328) (hbase : base ≤ w.heap.size)
    (h : ∀ v' w', w'.ownsRow base e size v' (n + m) (xs ++ news) → w.grownBy w' v.ownBlock → K (a.put o.dst v') w') :
    if Region.wanted o (yielded ops a.tmps) = true then Oper.wp P o a w K Q else E := by
  have hw : Region.wanted o (yielded ops a.tmps) = true := by simp [Region.wanted, hgd]
  rw [if_pos hw]
  obtain ⟨v', w', hr, h2, h3, h4, h5⟩ := run_append_own_at (P := P) w base t o.type e i z size bytes ht hi hz hsize hby hzs hsz v n xs hown ad m c news hl hnews h1 h63 hbytes hbase
  unfold Oper.wp execOp
  simp only [ho, resolve, invoke, builtin, Sem.run_bind, Sem.run_pure, Result.andThen_ok, List.map_toArray, List.map_cons, List.map_nil, hs, hx, hr]
  exact h v' w' h2 h3
theorem below_own {W W' : World} {base e size n L : Nat} {v : Value} {xs : List Value} (hown : W.ownsRow base e size v n xs) (hg : W.grownBy W' v.ownBlock) (hL : L ≤ base) (hLW : L ≤ W.heap.size) : Below L W W' :=
  ⟨hg.os, hg.tape, hg.output, hg.size, fun b hb => hg.block b (by omega) (fun e => by have := (hown.lt b e.symm).1; omega)⟩

def longB (fr to : List ByteArray) (r : Rs) : Bool := decide (4 < r.pa.length - fr.length + to.length)
theorem anyL_at {rs : List Rs} {q : Rs → Bool} (k : Nat) (hk : k < rs.length) (h : q rs[k] = true) : rs.any q = true := List.any_eq_true.2 ⟨_, List.getElem_mem hk, h⟩
theorem anyL_none {rs : List Rs} {q : Rs → Bool} (h : ∀ j (hj : j < rs.length), q rs[j] = false) : rs.any q = false := by
  rw [List.any_eq_false]
  intro r hr
  obtain ⟨j, hj, rfl⟩ := List.mem_iff_getElem.1 hr
  rw [h j hj]; simp

set_option maxHeartbeats 2000000 in
theorem specLong_any (a : Option Addr) (ls : List Rs) (cap B : Nat) (b1 b2 : Option Addr) (fr to : List ByteArray) (cap1 cap2 : Nat) (w : World) (h : Rss w B a ls) (hl : ls.length ≤ 1048576) (hp : ∀ r ∈ ls, fr.length ≤ r.pa.length ∧ r.pa.length ≤ 1048576) (hl1 : fr.length ≤ 1048576) (hl2 : to.length ≤ 1048576) :
    Calls Tryz.prog 123 #[.slice a ls.length cap, .slice b1 fr.length cap1, .slice b2 to.length cap2] w fun e w' => e = .returned (.bool (ls.any (longB fr to))) ∧ w' = w := by
  have HP := hide hp
  clear hp
  go_enter Tryz.func123, Tryz.ntmps123
  go_wp2
  go_loop [7] (fun i => ∃ k : Nat, k ≤ ls.length ∧ i = .int .i64 k ∧ ∀ j (hj : j < ls.length), j < k → longB fr to ls[j] = false) (fun i => ls.length - (intOf i).toNat)
  case atStart => exact ⟨0, Nat.zero_le _, rfl, fun j _ hj => absurd hj (Nat.not_lt_zero _)⟩
  case round =>
    obtain ⟨k, hk, rfl, ht⟩ := hrel
    have HT := hide ht
    clear ht
    by_cases hlt : k < ls.length
    · obtain ⟨b, o, rfl, hb, hc⟩ := h (by omega)
      obtain ⟨pa, pc, qa, qc, ⟨hc0, hc1, hc2, hc3, hc4⟩, hin⟩ := hc k hlt
      clear hc hin
      obtain ⟨p1, p2⟩ := HP.out _ (List.getElem_mem hlt)
      by_cases hd : 4 < ls[k].pa.length - fr.length + to.length
      · have HZ := hide (show longB fr to ls[k] = true from decide_eq_true hd)
        have e9 : decide ((4 : Int) < (ls[k].pa.length : Int) - (fr.length : Int) + (to.length : Int)) = true := by simp; omega
        generalize (ls[k]).pa.length = m at *
        go_wp2
        go_ret
        exact ⟨by rw [anyL_at k hlt HZ.out]; rfl, rfl⟩
      · have HZ := hide (show longB fr to ls[k] = false from decide_eq_false hd)
        have e9 : decide ((4 : Int) < (ls[k].pa.length : Int) - (fr.length : Int) + (to.length : Int)) = false := by simp; omega
        generalize (ls[k]).pa.length = m at *
        go_wp2
        go_round
        case rel => exact ⟨k + 1, by omega, by go_num, fun j hj hjk => by
                      by_cases e : j = k
                      · subst e; exact HZ.out
                      · exact HT.out j hj (by omega)⟩
        case measure => simp [intOf]; omega
    · have HE := hide (anyL_none (rs := ls) (q := longB fr to) (fun j hj => HT.out j hj (by omega)))
      go_wp2
      go_ret
      exact ⟨by rw [HE.out]; rfl, rfl⟩
end Go.Proofs.YtclnpfpaabmkcaaGreat
