/-
  A server in memory: its parts, and that it is small.
-/
import Derived.Test.YtcgljeagjchobaaGenSrv
import Derived.Test.YtcgljeagjchobaaGenResV
import Derived.Test.YtcgljeagjchobaaIntsV
namespace Go.Proofs.Ytcgljeagjchobaa
open Go.RowKit M
set_option linter.unusedVariables false

/-- What a server's four lists hold, in blocks below B. -/
structure SvIn (w : World) (B : Nat) (x : Sv) (ta : Option Addr) (tc : Nat) (la : Option Addr) (lc : Nat) (da : Option Addr) (dc : Nat) (ua : Option Addr) (uc : Nat) : Prop where
  th : Rss w B ta x.t
  lh : Lks w B la x.l
  dh : Ints w B da x.dr
  uh : Ints w B ua x.us
  tl : x.t.length ≤ tc ∧ tc ≤ maxLen ∧ (ta = none → tc = 0)
  ll : x.l.length ≤ lc ∧ lc ≤ maxLen ∧ (la = none → lc = 0)
  dl : x.dr.length ≤ dc ∧ dc ≤ maxLen ∧ (da = none → dc = 0)
  ul : x.us.length ≤ uc ∧ uc ≤ maxLen ∧ (ua = none → uc = 0)
theorem SvIn.below {w w' : World} {B C : Nat} {x : Sv} {ta : Option Addr} {tc : Nat} {la : Option Addr} {lc : Nat} {da : Option Addr} {dc : Nat} {ua : Option Addr} {uc : Nat} (h : SvIn w B x ta tc la lc da dc ua uc) (hb : Below C w w') (hB : B ≤ C) : SvIn w' B x ta tc la lc da dc ua uc :=
  ⟨h.th.below hb hB, h.lh.below hb hB, h.dh.below hb hB, h.uh.below hb hB, h.tl, h.ll, h.dl, h.ul⟩
theorem svIn_of_view {w : World} {B : Nat} {x : Sv} {u0 u1 u4 u5 : Value} (h0 : View w B u0 (.l (x.t.map dRs))) (h1 : View w B u1 (.l (x.l.map dLk))) (h4 : View w B u4 (.l (x.dr.map dI))) (h5 : View w B u5 (.l (x.us.map dI))) :
    ∃ ta tc la lc da dc ua uc, u0 = .slice ta x.t.length tc ∧ u1 = .slice la x.l.length lc ∧ u4 = .slice da x.dr.length dc ∧ u5 = .slice ua x.us.length uc ∧ SvIn w B x ta tc la lc da dc ua uc := by
  obtain ⟨ta, tc, rfl, a1, a2, a3, a4⟩ := rss_of_view h0
  obtain ⟨la, lc, rfl, b1, b2, b3, b4⟩ := lks_of_view h1
  obtain ⟨da, dc, rfl, c1, c2, c3, c4⟩ := ints_of_view h4
  obtain ⟨ua, uc, rfl, d1, d2, d3, d4⟩ := ints_of_view h5
  exact ⟨ta, tc, la, lc, da, dc, ua, uc, rfl, rfl, rfl, rfl, ⟨a4, b4, c4, d4, ⟨a1, a2, a3⟩, ⟨b1, b2, b3⟩, ⟨c1, c2, c3⟩, ⟨d1, d2, d3⟩⟩⟩

theorem sz_dI (l : List Int) : szRs (l.map dI) = l.length := szRs_flat dI (fun _ => by simp [dI, szR, szF, szV]) l
theorem sz_dSv (x : Sv) : szR (dSv x) = szRs (x.t.map dRs) + szRs (x.l.map dLk) + x.dr.length + x.us.length := by
  simp [dSv, szR, szF, szV, sz_dI]
  omega
/-- What follows of its size. -/
structure SvSmall (x : Sv) : Prop where
  t : szRs (x.t.map dRs) ≤ 1048576
  l : szRs (x.l.map dLk) ≤ 1048576
  d : x.dr.length ≤ 1048576
  u : x.us.length ≤ 1048576
theorem sv_small {x : Sv} (h : szR (dSv x) ≤ 1048576) : SvSmall x := by
  rw [sz_dSv] at h
  exact ⟨by omega, by omega, by omega, by omega⟩
theorem SvSmall.tlen {x : Sv} (h : SvSmall x) : x.t.length ≤ 1048576 := rs_len h.t
theorem SvSmall.llen {x : Sv} (h : SvSmall x) : x.l.length ≤ 1048576 := lk_len h.l
theorem SvSmall.tshort {x : Sv} (h : SvSmall x) : ShortT x.t := rs_short h.t
theorem SvSmall.tpa {x : Sv} (h : SvSmall x) : ∀ r ∈ x.t, r.pa.length ≤ 1048576 ∧ r.ps.length ≤ 1048576 := fun r hr => by
  have := rs_small h.t r hr
  exact ⟨by omega, by omega⟩
theorem SvSmall.lshort {x : Sv} (h : SvSmall x) : ShortK x.l := fun r hr => by
  have := lk_small h.l r hr
  exact ⟨by unfold maxLen; omega, fun s hs => by have := this.2 s hs; unfold maxLen; omega⟩
theorem SvSmall.lpa {x : Sv} (h : SvSmall x) : ∀ r ∈ x.l, r.pa.length ≤ 1048576 ∧ ∀ s ∈ r.pa, s.size ≤ 281474976710656 := fun r hr => by
  have := lk_small h.l r hr
  exact ⟨by omega, fun s hs => by have := this.2 s hs; omega⟩
theorem SvSmall.tsz {x : Sv} (h : SvSmall x) : ∀ r ∈ x.t, r.pa.length ≤ 1048576 ∧ r.ps.length ≤ 1048576 ∧ (∀ s ∈ r.pa, s.size ≤ 281474976710656) ∧ r.bo.size ≤ 281474976710656 ∧ ∀ p ∈ r.ps, p.1.size ≤ 281474976710656 ∧ p.2.1.size ≤ 281474976710656 ∧ p.2.2.size ≤ 281474976710656 := fun r hr => by
  have := rs_small h.t r hr
  exact ⟨by omega, by omega, fun s hs => by have := sumS_mem _ s hs; omega, by omega, fun p hp => by have := sumP_mem _ p hp; unfold szP at this; exact ⟨by omega, by omega, by omega⟩⟩
end Go.Proofs.Ytcgljeagjchobaa
