/-
  The first code of all, and what is asked: impl.looksAtAsk, firstCode and AskOf.
-/
import Derived.Test.YtfhcniifennfbaaGreatDoorAskI
import Derived.Test.YtfhcniifennfbaaGreatDoorGenLock
namespace Go.Proofs.YtfhcniifennfbaaGreatDoor
open Go.RowKit M
set_option linter.unusedVariables false

def askFns : List Nat := [102, 103, 104, 105, 106, 107, 108, 109, 110]
def fnVs : List Value := [.func (.func 102) #[] #[], .func (.func 103) #[] #[], .func (.func 104) #[] #[], .func (.func 105) #[] #[], .func (.func 106) #[] #[], .func (.func 107) #[] #[], .func (.func 108) #[] #[], .func (.func 109) #[] #[], .func (.func 110) #[] #[]]
theorem fnVs_at (k : Nat) (hk : k < 9) : fnVs[k]? = some (.func (.func (askFns[k]'hk)) #[] #[]) := by
  match k, hk with
  | 0, _ => rfl
  | 1, _ => rfl
  | 2, _ => rfl
  | 3, _ => rfl
  | 4, _ => rfl
  | 5, _ => rfl
  | 6, _ => rfl
  | 7, _ => rfl
  | 8, _ => rfl
def codesA (x : Sv) (r : Rq) (a : Ak) : List Int := [cPath r, cMeth r, cTo r, cDep r, cIfF r, cIf x r a.pa, cMat x r a.pa, cNon x r a.pa, cLck x r a.pa a.to a.tk]
theorem looksAtAsk_any (W : World) : Calls Tryz.prog 71 #[] W fun e w' => e = .returned (.slice (some ⟨W.heap.size, 0, none⟩) 9 9) ∧ BoxV w' W.heap.size fnVs ∧ Below W.heap.size W w' := by
  have hB := hide (BoxV.made W fnVs 67)
  have hK := hide ((Below.refl W.heap.size W).alloc (Nat.le_refl _) (Obj.cells fnVs.toArray 67))
  go_enter Tryz.func71, Tryz.ntmps71
  go_wp2
  go_ret
  exact ⟨rfl, hB.out, hK.out⟩
theorem ask_enter (k : Nat) (hk : k < 9) : ∀ args w, (callFunc (askFns[k]'hk) args).run Tryz.prog w = .ok (.enter (askFns[k]'hk) args) w := by
  match k, hk with
  | 0, _ => exact fun args w => enter_fn Tryz.func102 (by kernel_rfl) rfl args w
  | 1, _ => exact fun args w => enter_fn Tryz.func103 (by kernel_rfl) rfl args w
  | 2, _ => exact fun args w => enter_fn Tryz.func104 (by kernel_rfl) rfl args w
  | 3, _ => exact fun args w => enter_fn Tryz.func105 (by kernel_rfl) rfl args w
  | 4, _ => exact fun args w => enter_fn Tryz.func106 (by kernel_rfl) rfl args w
  | 5, _ => exact fun args w => enter_fn Tryz.func107 (by kernel_rfl) rfl args w
  | 6, _ => exact fun args w => enter_fn Tryz.func108 (by kernel_rfl) rfl args w
  | 7, _ => exact fun args w => enter_fn Tryz.func109 (by kernel_rfl) rfl args w
  | 8, _ => exact fun args w => enter_fn Tryz.func110 (by kernel_rfl) rfl args w

set_option maxRecDepth 100000 in
set_option maxHeartbeats 4000000 in
theorem firstCode_gen (x : Sv) (r : Rq) (a : Ak) (u0 u1 u4 u5 h p0 p1 p4 : Value) (W : World) (hh : View W W.heap.size h (.l (r.hs.map dHd))) (hr : szR (dRq r) ≤ 1048576) (h0 : View W W.heap.size u0 (.l (x.t.map dRs))) (h1 : View W W.heap.size u1 (.l (x.l.map dLk))) (h4 : View W W.heap.size u4 (.l (x.dr.map dI))) (h5 : View W W.heap.size u5 (.l (x.us.map dI))) (hsz : szR (dSv x) ≤ 1048576) (ok : okR (dSv x)) (k0 : View W W.heap.size p0 (.l (a.pa.map dS))) (k1 : View W W.heap.size p1 (.l (a.to.map dS))) (k4 : View W W.heap.size p4 (.l (a.tk.map dI))) (hpl : a.pa.length ≤ 1048576) (hps : ∀ s ∈ a.pa, s.size ≤ 281474976710656) (hto : a.to.length ≤ 1048576) (hts : ∀ s ∈ a.to, s.size ≤ 281474976710656) (htl : a.tk.length ≤ 1048576) (hp : PowTab W) :
    Calls Tryz.prog 31 #[.agg #[u0, u1, .int .i64 x.now, .int .i64 x.ver, u4, u5, .string r.m, .string r.p, h, .string r.b, p0, p1, .bool a.de, .bool a.ov, p4, .int .i64 a.co]] W fun e w' => e = .returned (.int .i64 (firstI (codesA x r a))) ∧ Below W.heap.size W w' := by
  have HC := hide (show ∀ (k : Nat) (hk : k < 9) W' (hb : Below W.heap.size W W'), Calls Tryz.prog (askFns[k]'hk) #[.agg #[u0, u1, .int .i64 x.now, .int .i64 x.ver, u4, u5, .string r.m, .string r.p, h, .string r.b, p0, p1, .bool a.de, .bool a.ov, p4, .int .i64 a.co]] W' fun e w' => e = .returned (.int .i64 ((codesA x r a).getD k 0)) ∧ Below W'.heap.size W' w' from fun k hk W' hb => by
    match k, hk with
    | 0, _ => exact lookAtPath_gen x r a u0 u1 u4 u5 h p0 p1 p4 W' hr
    | 1, _ => exact lookAtMethod_gen x r a u0 u1 u4 u5 h p0 p1 p4 W'
    | 2, _ => exact lookAtTo_gen x r a u0 u1 u4 u5 h p0 p1 p4 W' (hh.atI hb) hr
    | 3, _ => exact lookAtDepth_gen x r a u0 u1 u4 u5 h p0 p1 p4 W' (hh.atI hb) hr
    | 4, _ => exact lookAtIfForm_gen x r a u0 u1 u4 u5 h p0 p1 p4 W' (hh.atI hb) hr
    | 5, _ => exact lookAtIf_gen x r a u0 u1 u4 u5 h p0 p1 p4 W' (hh.atI hb) hr (h0.atI hb) (h1.atI hb) (h4.atI hb) (h5.atI hb) hsz ok (k0.atI hb) hpl (hp.below hb)
    | 6, _ => exact lookAtMatch_gen x r a u0 u1 u4 u5 h p0 p1 p4 W' (hh.atI hb) hr (h0.atI hb) (h1.atI hb) (h4.atI hb) (h5.atI hb) hsz ok (k0.atI hb) hpl (hp.below hb)
    | 7, _ => exact lookAtNone_gen x r a u0 u1 u4 u5 h p0 p1 p4 W' (hh.atI hb) hr (h0.atI hb) (h1.atI hb) (h4.atI hb) (h5.atI hb) hsz ok (k0.atI hb) hpl (hp.below hb)
    | 8, _ => exact lookAtLocks_gen x r a u0 u1 u4 u5 h p0 p1 p4 W' (h0.atI hb) (h1.atI hb) (h4.atI hb) (h5.atI hb) hsz ok (k0.atI hb) (k1.atI hb) (k4.atI hb) hpl hps hto hts htl)
  have K0 := hide (show Below W.heap.size W (W.alloc (Obj.cells #[u0, u1, .int .i64 x.now, .int .i64 x.ver, u4, u5, .string r.m, .string r.p, h, .string r.b, p0, p1, .bool a.de, .bool a.ov, p4, .int .i64 a.co] 69)) from (Below.refl _ _).alloc (Nat.le_refl _) _)
  have X0 := hide (BoxV.made W [u0, u1, .int .i64 x.now, .int .i64 x.ver, u4, u5, .string r.m, .string r.p, h, .string r.b, p0, p1, .bool a.de, .bool a.ov, p4, .int .i64 a.co] 69)
  clear hh hr h0 h1 h4 h5 k0 k1 k4 hsz ok hp hps hts
  have hl9 : (codesA x r a).length = 9 := rfl
  generalize codesA x r a = cs at *
  go_enter Tryz.func31, Tryz.ntmps31
  go_wp2_with fail
  refine (looksAtAsk_any _).mono ?_
  rintro e w1 ⟨rfl, hfb, b1⟩
  have K1 := hide (K0.out.trans (b1.mono K0.out.size))
  have X1 := hide (X0.out.next b1)
  have hg : (W.alloc (Obj.cells #[u0, u1, .int .i64 x.now, .int .i64 x.ver, u4, u5, .string r.m, .string r.p, h, .string r.b, p0, p1, .bool a.de, .bool a.ov, p4, .int .i64 a.co] 69)).heap.size = W.heap.size + 1 := by simp
  rw [hg] at hfb
  have F1 := hide hfb
  clear b1 hfb K0 X0 hg
  go_wp2
  go_loopw [8] (fun i wr => ∃ k : Nat, k ≤ 9 ∧ i = .int .i64 k ∧ Hid (∀ j (hj : j < cs.length), j < k → cs[j] = 0) ∧ Hid (Below W.heap.size W wr) ∧ Hid (BoxV wr (W.heap.size + 1) fnVs) ∧ Hid (BoxV wr W.heap.size [u0, u1, .int .i64 x.now, .int .i64 x.ver, u4, u5, .string r.m, .string r.p, h, .string r.b, p0, p1, .bool a.de, .bool a.ov, p4, .int .i64 a.co])) (fun i _ => 9 - (intOf i).toNat)
  case atStart => exact ⟨0, Nat.zero_le _, rfl, fun j _ hj => absurd hj (Nat.not_lt_zero _), K1, F1, X1⟩
  case round =>
    obtain ⟨k, hk, rfl, HN, HK, HF, HX⟩ := hrel
    clear K1 F1 X1
    by_cases hlt : k < 9
    · have hf := (HF.out.2 k _ (fnVs_at k hlt)).1
      have HE := hide (ask_enter k hlt)
      have HQ := hide (HC.out k hlt wr HK.out)
      have hkc : k < cs.length := by rw [hl9]; exact hlt
      have HCK := hide (show cs[k] = cs[k] from rfl)
      obtain ⟨c, hc⟩ : ∃ c, cs.getD k 0 = c := ⟨_, rfl⟩
      rw [hc] at HQ
      have HCE := hide (show cs[k] = c by rw [← hc]; simp [List.getD, List.getElem?_eq_getElem hkc])
      clear hc HCK
      generalize askFns[k] = f at *
      have hi0 : (0 : Int) ≤ (k : Int) := by omega
      have hi1 : (k : Int) < (9 : Int) := by omega
      have x0 := (HX.out.2 0 _ rfl).1
      have x1 := (HX.out.2 1 _ rfl).1
      have x2 := (HX.out.2 2 _ rfl).1
      have x3 := (HX.out.2 3 _ rfl).1
      have x4 := (HX.out.2 4 _ rfl).1
      have x5 := (HX.out.2 5 _ rfl).1
      have x6 := (HX.out.2 6 _ rfl).1
      have x7 := (HX.out.2 7 _ rfl).1
      have x8 := (HX.out.2 8 _ rfl).1
      have x9 := (HX.out.2 9 _ rfl).1
      have x10 := (HX.out.2 10 _ rfl).1
      have x11 := (HX.out.2 11 _ rfl).1
      have x12 := (HX.out.2 12 _ rfl).1
      have x13 := (HX.out.2 13 _ rfl).1
      have x14 := (HX.out.2 14 _ rfl).1
      have x15 := (HX.out.2 15 _ rfl).1
      by_cases hc0 : c = 0
      · subst hc0
        go_wp2_with fail
        rw [HE.out, Oper.upon_enter]
        refine HQ.out.mono ?_
        rintro e w2 ⟨rfl, b2⟩
        have K2 := hide (HK.out.trans (b2.mono HK.out.size))
        have F2 := hide (HF.out.next b2)
        have X2 := hide (HX.out.next b2)
        clear b2 hf x0 x1 x2 x3 x4 x5 x6 x7 x8 x9 x10 x11 x12 x13 x14 x15
        go_wp2
        go_roundw
        case rel => exact ⟨k + 1, by omega, by go_num, fun j hj hjk => if e : j = k then by subst e; exact HCE.out else HN.out j hj (by omega), K2, F2, X2⟩
        case measure => simp [intOf]; omega
      · have hne : ((c : Int) != 0) = true := by simpa using hc0
        have HFI := hide (show firstI cs = c by rw [firstI_at hkc (fun j hj hjk => HN.out j hj hjk) (by rw [HCE.out]; exact hc0), HCE.out])
        go_wp2_with fail
        rw [HE.out, Oper.upon_enter]
        refine HQ.out.mono ?_
        rintro e w2 ⟨rfl, b2⟩
        have K2 := hide (HK.out.trans (b2.mono HK.out.size))
        clear b2 hf x0 x1 x2 x3 x4 x5 x6 x7 x8 x9 x10 x11 x12 x13 x14 x15
        go_wp2
        go_ret
        exact ⟨by rw [HFI.out]; rfl, K2.out⟩
    · have HFI := hide (show firstI cs = 0 from firstI_zero (fun j hj => HN.out j hj (by omega)))
      go_wp2
      go_ret
      exact ⟨by rw [HFI.out]; rfl, HK.out⟩

theorem OTL (w : World) (g : Nat) (h : g < w.heap.size) : Own w (.slice (some ⟨g, 0, none⟩) 0 0) (.l (([] : List Int).map dI)) (IvG g (g + 1)) := .row g 0 0 1 [] (fun _ _ => .bool false) (fun _ _ _ => False) _ ⟨Nat.le_refl _, Nat.lt_succ_self _⟩ h (by simp) (Nat.zero_le _) (fun r hr => by cases hr) (fun j i x hx => by simp [cellAt] at hx) (fun j i x hx => by simp [cellAt] at hx) (fun j i y hy => hy.elim) (fun _ _ _ _ _ _ hy => hy.elim)
theorem toL_small (r : Rq) : (toL r).length ≤ 4 ∧ ∀ s ∈ toL r, s.size ≤ 8 := by
  unfold toL
  split
  · exact pth_path
  · exact ⟨Nat.zero_le _, fun s hs => by cases hs⟩
/-- Its tokens, where the form was right. -/
theorem askL_code (x : Sv) (r : Rq) : (askL x r).co = codeI x r := rfl
set_option maxRecDepth 100000 in
set_option maxHeartbeats 8000000 in
theorem ask_any (x : Sv) (r : Rq) (u0 u1 u4 u5 h : Value) (W : World) (hh : View W W.heap.size h (.l (r.hs.map dHd))) (hr : szR (dRq r) ≤ 1048576) (h0 : View W W.heap.size u0 (.l (x.t.map dRs))) (h1 : View W W.heap.size u1 (.l (x.l.map dLk))) (h4 : View W W.heap.size u4 (.l (x.dr.map dI))) (h5 : View W W.heap.size u5 (.l (x.us.map dI))) (hsz : szR (dSv x) ≤ 1048576) (ok : okR (dSv x)) (hp : PowTab W) :
    Calls Tryz.prog 9 #[.agg #[u0, u1, .int .i64 x.now, .int .i64 x.ver, u4, u5], .agg #[.string r.m, .string r.p, h, .string r.b]] W fun e w' => (∃ v0 v1 v4, e = .returned (.agg #[v0, v1, .bool (askL x r).de, .bool (askL x r).ov, v4, .int .i64 (askL x r).co]) ∧ AskO w' W.heap.size v0 v1 v4 (askL x r).pa (askL x r).to (askL x r).tk) ∧ Below W.heap.size W w' := by
  have HR := hide (fun W' (hb : Below W.heap.size W W') => readAsk_gen r h W' (hh.atI hb) hr)
  have HC := hide (fun W' (hb : Below W.heap.size W W') (v0 v1 v4 : Value) (j0 : View W' W'.heap.size v0 (.l ((pthV r).1.map dS))) (j1 : View W' W'.heap.size v1 (.l ((toL r).map dS))) (j4 : View W' W'.heap.size v4 (.l ((tkL r).map dI))) => firstCode_gen x r ⟨(pthV r).1, toL r, decide (depI r.hs 2 = 2), !decide ((hdOf r.hs overN).1 = tF), tkL r, 0⟩ u0 u1 u4 u5 h v0 v1 v4 W' (hh.atI hb) hr (h0.atI hb) (h1.atI hb) (h4.atI hb) (h5.atI hb) hsz ok j0 j1 j4 (by have := (pth_path (l := r.p.data.toList)).1; show (pthV r).1.length ≤ _; unfold pthV; omega) (fun s hs => Nat.le_trans ((pth_path (l := r.p.data.toList)).2 s hs) (by decide)) (by have := (toL_small r).1; show (toL r).length ≤ _; omega) (fun s hs => Nat.le_trans ((toL_small r).2 s hs) (by decide)) (tk_few r) (hp.below hb))
  have HC := hide (fun W' (hb : Below W.heap.size W W') (v0 v1 v4 : Value) j0 j1 j4 => (show Calls Tryz.prog 31 _ W' fun e w' => e = .returned (.int .i64 (codeI x r)) ∧ Below W'.heap.size W' w' from HC.out W' hb v0 v1 v4 j0 j1 j4))
  have hcf := code_form x r
  unfold askL
  dsimp only
  generalize (pthV r).1 = pl at *
  generalize toL r = tl at *
  generalize tkL r = tk at *
  generalize decide (depI r.hs 2 = 2) = dz at *
  generalize (!decide ((hdOf r.hs overN).1 = tF)) = oz at *
  generalize codeI x r = c at *
  generalize formI r = fo at *
  have KA := hide (show Below W.heap.size W (W.alloc (Obj.cells #[u0, u1, .int .i64 x.now, .int .i64 x.ver, u4, u5] 39)) from (Below.refl _ _).alloc (Nat.le_refl _) _)
  have KB := hide (show Below W.heap.size W ((W.alloc (Obj.cells #[u0, u1, .int .i64 x.now, .int .i64 x.ver, u4, u5] 39)).alloc (Obj.cells #[.string r.m, .string r.p, h, .string r.b] 43)) from KA.out.alloc (by simp) _)
  obtain ⟨w0, hw0⟩ : ∃ w', ((W.alloc (Obj.cells #[u0, u1, .int .i64 x.now, .int .i64 x.ver, u4, u5] 39)).alloc (Obj.cells #[.string r.m, .string r.p, h, .string r.b] 43)).alloc (Obj.cells #[.slice none 0 0, .slice none 0 0, .bool false, .bool false, .slice none 0 0, .int .i64 0] 34) = w' := ⟨_, rfl⟩
  have K0 := hide (show Below W.heap.size W w0 by rw [← hw0]; exact KB.out.alloc (by simp; omega) _)
  have y0 : w0.heap.size = W.heap.size + 3 := by rw [← hw0]; simp
  have S_0 := hide (show BoxV w0 W.heap.size [u0, u1, .int .i64 x.now, .int .i64 x.ver, u4, u5] by rw [← hw0]; exact ((BoxV.made W [u0, u1, .int .i64 x.now, .int .i64 x.ver, u4, u5] 39).alloc _).alloc _)
  have X_0 := hide (show BoxV w0 (W.heap.size + 1) [.string r.m, .string r.p, h, .string r.b] by rw [← hw0]; have h := (BoxV.made (W.alloc (Obj.cells #[u0, u1, .int .i64 x.now, .int .i64 x.ver, u4, u5] 39)) [.string r.m, .string r.p, h, .string r.b] 43).alloc (Obj.cells #[.slice none 0 0, .slice none 0 0, .bool false, .bool false, .slice none 0 0, .int .i64 0] 34); simpa using h)
  have Z_0 := hide (show BoxV w0 (W.heap.size + 2) [.slice none 0 0, .slice none 0 0, .bool false, .bool false, .slice none 0 0, .int .i64 0] by rw [← hw0]; have h := BoxV.made ((W.alloc (Obj.cells #[u0, u1, .int .i64 x.now, .int .i64 x.ver, u4, u5] 39)).alloc (Obj.cells #[.string r.m, .string r.p, h, .string r.b] 43)) [.slice none 0 0, .slice none 0 0, .bool false, .bool false, .slice none 0 0, .int .i64 0] 34; simpa using h)
  clear KA KB hh hr h0 h1 h4 h5 hsz ok hp
  by_cases h4 : c = 400
  · have hfo := hcf.1 (.inl h4)
    subst h4
    clear hcf
    have cX0_0 := (X_0.out.2 0 _ rfl).1
    have cX1_0 := (X_0.out.2 1 _ rfl).1
    have cX2_0 := (X_0.out.2 2 _ rfl).1
    have cX3_0 := (X_0.out.2 3 _ rfl).1
    go_enter Tryz.func9, Tryz.ntmps9
    go_wp2_with fail
    refine (HR.out _ K0.out).mono ?_
    rintro e w1 ⟨⟨v0, v1, v4, rfl, l0, z0, l1, z1, l4, z4, ho⟩, b1⟩
    clear cX0_0 cX1_0 cX2_0 cX3_0 hw0
    have K1 := hide (K0.out.trans (b1.mono K0.out.size))
    have y1 := b1.size
    have S_1 := hide (S_0.out.next b1)
    have X_1 := hide (X_0.out.next b1)
    have Z_1 := hide (Z_0.out.next b1)
    clear S_0 X_0 Z_0
    obtain ⟨a0, q0, rfl, _⟩ := ho.o0.rows 1 (fun _ => rfl)
    obtain ⟨a1, q1, rfl, _⟩ := ho.o1.rows 1 (fun _ => rfl)
    obtain ⟨a4, q4, rfl, _⟩ := ho.o4.rows 1 (fun _ => rfl)
    have O0_1 := hide ho.o0
    have O1_1 := hide ho.o1
    have O4_1 := hide ho.o4
    obtain ⟨i1, i2, i3, i4, i5, i6, i7, i8, i9⟩ := ho.b
    clear ho
    clear b1
    obtain ⟨w2, hw2⟩ : ∃ w', w1.alloc (Obj.cells #[.slice none 0 0, .slice none 0 0, .bool false, .bool false, .slice none 0 0, .int .i64 0] 34) = w' := ⟨_, rfl⟩
    have b2 : Below w1.heap.size w1 w2 := by rw [← hw2]; exact (Below.refl _ _).alloc (Nat.le_refl _) _
    have y2 : w2.heap.size = w1.heap.size + 1 := by rw [← hw2]; simp
    have hS : BoxV w2 w1.heap.size [.slice none 0 0, .slice none 0 0, .bool false, .bool false, .slice none 0 0, .int .i64 0] := by rw [← hw2]; exact BoxV.made _ _ _
    have K2 := hide (K1.out.trans (b2.mono K1.out.size))
    have S_2 := hide (S_1.out.next b2)
    have X_2 := hide (X_1.out.next b2)
    have Z_2 := hide (Z_1.out.next b2)
    have O0_2 := hide (O0_1.out.next b2)
    have O1_2 := hide (O1_1.out.next b2)
    have O4_2 := hide (O4_1.out.next b2)
    clear S_1 X_1 Z_1 O0_1 O1_1 O4_1
    have A_2 := hide hS
    clear hS b2
    obtain ⟨cA0_2, fA0_2⟩ := A_2.out.2 0 _ rfl
    obtain ⟨cA1_2, fA1_2⟩ := A_2.out.2 1 _ rfl
    obtain ⟨cA2_2, fA2_2⟩ := A_2.out.2 2 _ rfl
    obtain ⟨cA3_2, fA3_2⟩ := A_2.out.2 3 _ rfl
    obtain ⟨cA4_2, fA4_2⟩ := A_2.out.2 4 _ rfl
    obtain ⟨cA5_2, fA5_2⟩ := A_2.out.2 5 _ rfl
    obtain ⟨w3, hw3⟩ : ∃ w', ((((((w2.setCell ⟨w1.heap.size, 0, none⟩ (.slice a0 pl.length q0)).setCell ⟨w1.heap.size, 1, none⟩ (.slice a1 tl.length q1)).setCell ⟨w1.heap.size, 2, none⟩ (.bool dz)).setCell ⟨w1.heap.size, 3, none⟩ (.bool oz)).setCell ⟨w1.heap.size, 4, none⟩ (.slice a4 tk.length q4)).setCell ⟨w1.heap.size, 5, none⟩ (.int .i64 0)) = w' := ⟨_, rfl⟩
    have y3 : w3.heap.size = w2.heap.size := by rw [← hw3]; simp
    have K3 := hide (show Below W.heap.size W w3 by rw [← hw3]; exact ((((((K2.out).setCell (by dsimp only; omega) _).setCell (by dsimp only; omega) _).setCell (by dsimp only; omega) _).setCell (by dsimp only; omega) _).setCell (by dsimp only; omega) _).setCell (by dsimp only; omega) _)
    have S_3 := hide (show BoxV w3 (W.heap.size) _ by rw [← hw3]; exact ((((((S_2.out).other ⟨w1.heap.size, 0, none⟩ (.slice a0 pl.length q0) (by dsimp only; omega)).other ⟨w1.heap.size, 1, none⟩ (.slice a1 tl.length q1) (by dsimp only; omega)).other ⟨w1.heap.size, 2, none⟩ (.bool dz) (by dsimp only; omega)).other ⟨w1.heap.size, 3, none⟩ (.bool oz) (by dsimp only; omega)).other ⟨w1.heap.size, 4, none⟩ (.slice a4 tk.length q4) (by dsimp only; omega)).other ⟨w1.heap.size, 5, none⟩ (.int .i64 0) (by dsimp only; omega))
    have X_3 := hide (show BoxV w3 (W.heap.size + 1) _ by rw [← hw3]; exact ((((((X_2.out).other ⟨w1.heap.size, 0, none⟩ (.slice a0 pl.length q0) (by dsimp only; omega)).other ⟨w1.heap.size, 1, none⟩ (.slice a1 tl.length q1) (by dsimp only; omega)).other ⟨w1.heap.size, 2, none⟩ (.bool dz) (by dsimp only; omega)).other ⟨w1.heap.size, 3, none⟩ (.bool oz) (by dsimp only; omega)).other ⟨w1.heap.size, 4, none⟩ (.slice a4 tk.length q4) (by dsimp only; omega)).other ⟨w1.heap.size, 5, none⟩ (.int .i64 0) (by dsimp only; omega))
    have Z_3 := hide (show BoxV w3 (W.heap.size + 2) _ by rw [← hw3]; exact ((((((Z_2.out).other ⟨w1.heap.size, 0, none⟩ (.slice a0 pl.length q0) (by dsimp only; omega)).other ⟨w1.heap.size, 1, none⟩ (.slice a1 tl.length q1) (by dsimp only; omega)).other ⟨w1.heap.size, 2, none⟩ (.bool dz) (by dsimp only; omega)).other ⟨w1.heap.size, 3, none⟩ (.bool oz) (by dsimp only; omega)).other ⟨w1.heap.size, 4, none⟩ (.slice a4 tk.length q4) (by dsimp only; omega)).other ⟨w1.heap.size, 5, none⟩ (.int .i64 0) (by dsimp only; omega))
    have O0_3 := hide (show Own w3 _ _ _ by rw [← hw3]; exact ((((((O0_2.out).setCell ⟨w1.heap.size, 0, none⟩ (.slice a0 pl.length q0) (fun hh => by have h1 := hh.1; have h2 := hh.2; simp only at h1 h2; omega)).setCell ⟨w1.heap.size, 1, none⟩ (.slice a1 tl.length q1) (fun hh => by have h1 := hh.1; have h2 := hh.2; simp only at h1 h2; omega)).setCell ⟨w1.heap.size, 2, none⟩ (.bool dz) (fun hh => by have h1 := hh.1; have h2 := hh.2; simp only at h1 h2; omega)).setCell ⟨w1.heap.size, 3, none⟩ (.bool oz) (fun hh => by have h1 := hh.1; have h2 := hh.2; simp only at h1 h2; omega)).setCell ⟨w1.heap.size, 4, none⟩ (.slice a4 tk.length q4) (fun hh => by have h1 := hh.1; have h2 := hh.2; simp only at h1 h2; omega)).setCell ⟨w1.heap.size, 5, none⟩ (.int .i64 0) (fun hh => by have h1 := hh.1; have h2 := hh.2; simp only at h1 h2; omega))
    have O1_3 := hide (show Own w3 _ _ _ by rw [← hw3]; exact ((((((O1_2.out).setCell ⟨w1.heap.size, 0, none⟩ (.slice a0 pl.length q0) (fun hh => by have h1 := hh.1; have h2 := hh.2; simp only at h1 h2; omega)).setCell ⟨w1.heap.size, 1, none⟩ (.slice a1 tl.length q1) (fun hh => by have h1 := hh.1; have h2 := hh.2; simp only at h1 h2; omega)).setCell ⟨w1.heap.size, 2, none⟩ (.bool dz) (fun hh => by have h1 := hh.1; have h2 := hh.2; simp only at h1 h2; omega)).setCell ⟨w1.heap.size, 3, none⟩ (.bool oz) (fun hh => by have h1 := hh.1; have h2 := hh.2; simp only at h1 h2; omega)).setCell ⟨w1.heap.size, 4, none⟩ (.slice a4 tk.length q4) (fun hh => by have h1 := hh.1; have h2 := hh.2; simp only at h1 h2; omega)).setCell ⟨w1.heap.size, 5, none⟩ (.int .i64 0) (fun hh => by have h1 := hh.1; have h2 := hh.2; simp only at h1 h2; omega))
    have O4_3 := hide (show Own w3 _ _ _ by rw [← hw3]; exact ((((((O4_2.out).setCell ⟨w1.heap.size, 0, none⟩ (.slice a0 pl.length q0) (fun hh => by have h1 := hh.1; have h2 := hh.2; simp only at h1 h2; omega)).setCell ⟨w1.heap.size, 1, none⟩ (.slice a1 tl.length q1) (fun hh => by have h1 := hh.1; have h2 := hh.2; simp only at h1 h2; omega)).setCell ⟨w1.heap.size, 2, none⟩ (.bool dz) (fun hh => by have h1 := hh.1; have h2 := hh.2; simp only at h1 h2; omega)).setCell ⟨w1.heap.size, 3, none⟩ (.bool oz) (fun hh => by have h1 := hh.1; have h2 := hh.2; simp only at h1 h2; omega)).setCell ⟨w1.heap.size, 4, none⟩ (.slice a4 tk.length q4) (fun hh => by have h1 := hh.1; have h2 := hh.2; simp only at h1 h2; omega)).setCell ⟨w1.heap.size, 5, none⟩ (.int .i64 0) (fun hh => by have h1 := hh.1; have h2 := hh.2; simp only at h1 h2; omega))
    have A_3 := hide (show BoxV w3 (w1.heap.size) [.slice a0 pl.length q0, .slice a1 tl.length q1, .bool dz, .bool oz, .slice a4 tk.length q4, .int .i64 0] by rw [← hw3]; exact ((((((A_2.out).set 0 (by simp) (.slice a0 pl.length q0)).set 1 (by simp) (.slice a1 tl.length q1)).set 2 (by simp) (.bool dz)).set 3 (by simp) (.bool oz)).set 4 (by simp) (.slice a4 tk.length q4)).set 5 (by simp) (.int .i64 0))
    clear S_2 X_2 Z_2 O0_2 O1_2 O4_2 A_2
    have cA0_3 := (A_3.out.2 0 _ rfl).1
    have cA1_3 := (A_3.out.2 1 _ rfl).1
    have cA2_3 := (A_3.out.2 2 _ rfl).1
    have cA3_3 := (A_3.out.2 3 _ rfl).1
    have cA4_3 := (A_3.out.2 4 _ rfl).1
    have cA5_3 := (A_3.out.2 5 _ rfl).1
    have cS0_3 := (S_3.out.2 0 _ rfl).1
    have cS1_3 := (S_3.out.2 1 _ rfl).1
    have cS2_3 := (S_3.out.2 2 _ rfl).1
    have cS3_3 := (S_3.out.2 3 _ rfl).1
    have cS4_3 := (S_3.out.2 4 _ rfl).1
    have cS5_3 := (S_3.out.2 5 _ rfl).1
    have cX0_3 := (X_3.out.2 0 _ rfl).1
    have cX1_3 := (X_3.out.2 1 _ rfl).1
    have cX2_3 := (X_3.out.2 2 _ rfl).1
    have cX3_3 := (X_3.out.2 3 _ rfl).1
    go_wp2_with fail
    refine (HC.out _ K3.out _ _ _ (O0_3.out.vw (by omega)) (O1_3.out.vw (by omega)) (O4_3.out.vw (by omega))).mono ?_
    rintro e w4 ⟨rfl, b4⟩
    clear hw2 cA0_2 fA0_2 cA1_2 fA1_2 cA2_2 fA2_2 cA3_2 fA3_2 cA4_2 fA4_2 cA5_2 fA5_2 hw3 cA0_3 cA1_3 cA2_3 cA3_3 cA4_3 cA5_3 cS0_3 cS1_3 cS2_3 cS3_3 cS4_3 cS5_3 cX0_3 cX1_3 cX2_3 cX3_3
    have K4 := hide (K3.out.trans (b4.mono K3.out.size))
    have y4 := b4.size
    have S_4 := hide (S_3.out.next b4)
    have X_4 := hide (X_3.out.next b4)
    have Z_4 := hide (Z_3.out.next b4)
    have O0_4 := hide (O0_3.out.next b4)
    have O1_4 := hide (O1_3.out.next b4)
    have O4_4 := hide (O4_3.out.next b4)
    have A_4 := hide (A_3.out.next b4)
    clear S_3 X_3 Z_3 O0_3 O1_3 O4_3 A_3
    clear b4
    obtain ⟨cA5_4, fA5_4⟩ := A_4.out.2 5 _ rfl
    obtain ⟨w5, hw5⟩ : ∃ w', (w4.setCell ⟨w1.heap.size, 5, none⟩ (.int .i64 400)) = w' := ⟨_, rfl⟩
    have y5 : w5.heap.size = w4.heap.size := by rw [← hw5]; simp
    have K5 := hide (show Below W.heap.size W w5 by rw [← hw5]; exact (K4.out).setCell (by dsimp only; omega) _)
    have S_5 := hide (show BoxV w5 (W.heap.size) _ by rw [← hw5]; exact (S_4.out).other ⟨w1.heap.size, 5, none⟩ (.int .i64 400) (by dsimp only; omega))
    have X_5 := hide (show BoxV w5 (W.heap.size + 1) _ by rw [← hw5]; exact (X_4.out).other ⟨w1.heap.size, 5, none⟩ (.int .i64 400) (by dsimp only; omega))
    have Z_5 := hide (show BoxV w5 (W.heap.size + 2) _ by rw [← hw5]; exact (Z_4.out).other ⟨w1.heap.size, 5, none⟩ (.int .i64 400) (by dsimp only; omega))
    have O0_5 := hide (show Own w5 _ _ _ by rw [← hw5]; exact (O0_4.out).setCell ⟨w1.heap.size, 5, none⟩ (.int .i64 400) (fun hh => by have h1 := hh.1; have h2 := hh.2; simp only at h1 h2; omega))
    have O1_5 := hide (show Own w5 _ _ _ by rw [← hw5]; exact (O1_4.out).setCell ⟨w1.heap.size, 5, none⟩ (.int .i64 400) (fun hh => by have h1 := hh.1; have h2 := hh.2; simp only at h1 h2; omega))
    have O4_5 := hide (show Own w5 _ _ _ by rw [← hw5]; exact (O4_4.out).setCell ⟨w1.heap.size, 5, none⟩ (.int .i64 400) (fun hh => by have h1 := hh.1; have h2 := hh.2; simp only at h1 h2; omega))
    have A_5 := hide (show BoxV w5 (w1.heap.size) [.slice a0 pl.length q0, .slice a1 tl.length q1, .bool dz, .bool oz, .slice a4 tk.length q4, .int .i64 400] by rw [← hw5]; exact (A_4.out).set 5 (by simp) (.int .i64 400))
    clear S_4 X_4 Z_4 O0_4 O1_4 O4_4 A_4
    have cA5_5 := (A_5.out.2 5 _ rfl).1
    obtain ⟨w6, hw6⟩ : ∃ w', w5.alloc (Obj.cells #[] 3) = w' := ⟨_, rfl⟩
    have b6 : Below w5.heap.size w5 w6 := by rw [← hw6]; exact (Below.refl _ _).alloc (Nat.le_refl _) _
    have y6 : w6.heap.size = w5.heap.size + 1 := by rw [← hw6]; simp
    have hS : BoxV w6 (w4.heap.size) [] := by
      rw [← hw6]
      have h9 := BoxV.made w5 [] 3
      have e9 : w5.heap.size = w4.heap.size := by omega
      rwa [e9] at h9
    have K6 := hide (K5.out.trans (b6.mono K5.out.size))
    have S_6 := hide (S_5.out.next b6)
    have X_6 := hide (X_5.out.next b6)
    have Z_6 := hide (Z_5.out.next b6)
    have O0_6 := hide (O0_5.out.next b6)
    have O1_6 := hide (O1_5.out.next b6)
    have O4_6 := hide (O4_5.out.next b6)
    have A_6 := hide (A_5.out.next b6)
    clear S_5 X_5 Z_5 O0_5 O1_5 O4_5 A_5
    have T_6 := hide hS
    clear hS b6
    clear T_6
    have OT_6 := hide (show Own w6 (.slice (some ⟨w4.heap.size, 0, none⟩) 0 0) (.l (([] : List Int).map dI)) (IvG (w4.heap.size) (w4.heap.size + 1)) from OTL w6 (w4.heap.size) (by omega))
    clear O4_6
    obtain ⟨cA4_6, fA4_6⟩ := A_6.out.2 4 _ rfl
    obtain ⟨w7, hw7⟩ : ∃ w', (w6.setCell ⟨w1.heap.size, 4, none⟩ (.slice (some ⟨w4.heap.size, 0, none⟩) 0 0)) = w' := ⟨_, rfl⟩
    have y7 : w7.heap.size = w6.heap.size := by rw [← hw7]; simp
    have K7 := hide (show Below W.heap.size W w7 by rw [← hw7]; exact (K6.out).setCell (by dsimp only; omega) _)
    have S_7 := hide (show BoxV w7 (W.heap.size) _ by rw [← hw7]; exact (S_6.out).other ⟨w1.heap.size, 4, none⟩ (.slice (some ⟨w4.heap.size, 0, none⟩) 0 0) (by dsimp only; omega))
    have X_7 := hide (show BoxV w7 (W.heap.size + 1) _ by rw [← hw7]; exact (X_6.out).other ⟨w1.heap.size, 4, none⟩ (.slice (some ⟨w4.heap.size, 0, none⟩) 0 0) (by dsimp only; omega))
    have Z_7 := hide (show BoxV w7 (W.heap.size + 2) _ by rw [← hw7]; exact (Z_6.out).other ⟨w1.heap.size, 4, none⟩ (.slice (some ⟨w4.heap.size, 0, none⟩) 0 0) (by dsimp only; omega))
    have O0_7 := hide (show Own w7 _ _ _ by rw [← hw7]; exact (O0_6.out).setCell ⟨w1.heap.size, 4, none⟩ (.slice (some ⟨w4.heap.size, 0, none⟩) 0 0) (fun hh => by have h1 := hh.1; have h2 := hh.2; simp only at h1 h2; omega))
    have O1_7 := hide (show Own w7 _ _ _ by rw [← hw7]; exact (O1_6.out).setCell ⟨w1.heap.size, 4, none⟩ (.slice (some ⟨w4.heap.size, 0, none⟩) 0 0) (fun hh => by have h1 := hh.1; have h2 := hh.2; simp only at h1 h2; omega))
    have A_7 := hide (show BoxV w7 (w1.heap.size) [.slice a0 pl.length q0, .slice a1 tl.length q1, .bool dz, .bool oz, .slice (some ⟨w4.heap.size, 0, none⟩) 0 0, .int .i64 400] by rw [← hw7]; exact (A_6.out).set 4 (by simp) (.slice (some ⟨w4.heap.size, 0, none⟩) 0 0))
    have OT_7 := hide (show Own w7 _ _ _ by rw [← hw7]; exact (OT_6.out).setCell ⟨w1.heap.size, 4, none⟩ (.slice (some ⟨w4.heap.size, 0, none⟩) 0 0) (fun hh => by have h1 := hh.1; have h2 := hh.2; simp only at h1 h2; omega))
    clear S_6 X_6 Z_6 O0_6 O1_6 A_6 OT_6
    have cA0_7 := (A_7.out.2 0 _ rfl).1
    have cA1_7 := (A_7.out.2 1 _ rfl).1
    have cA2_7 := (A_7.out.2 2 _ rfl).1
    have cA3_7 := (A_7.out.2 3 _ rfl).1
    have cA4_7 := (A_7.out.2 4 _ rfl).1
    have cA5_7 := (A_7.out.2 5 _ rfl).1
    obtain ⟨cZ0_7, fZ0_7⟩ := Z_7.out.2 0 _ rfl
    obtain ⟨cZ1_7, fZ1_7⟩ := Z_7.out.2 1 _ rfl
    obtain ⟨cZ2_7, fZ2_7⟩ := Z_7.out.2 2 _ rfl
    obtain ⟨cZ3_7, fZ3_7⟩ := Z_7.out.2 3 _ rfl
    obtain ⟨cZ4_7, fZ4_7⟩ := Z_7.out.2 4 _ rfl
    obtain ⟨cZ5_7, fZ5_7⟩ := Z_7.out.2 5 _ rfl
    obtain ⟨w8, hw8⟩ : ∃ w', ((((((w7.setCell ⟨W.heap.size + 2, 0, none⟩ (.slice a0 pl.length q0)).setCell ⟨W.heap.size + 2, 1, none⟩ (.slice a1 tl.length q1)).setCell ⟨W.heap.size + 2, 2, none⟩ (.bool dz)).setCell ⟨W.heap.size + 2, 3, none⟩ (.bool oz)).setCell ⟨W.heap.size + 2, 4, none⟩ (.slice (some ⟨w4.heap.size, 0, none⟩) 0 0)).setCell ⟨W.heap.size + 2, 5, none⟩ (.int .i64 400)) = w' := ⟨_, rfl⟩
    have y8 : w8.heap.size = w7.heap.size := by rw [← hw8]; simp
    have K8 := hide (show Below W.heap.size W w8 by rw [← hw8]; exact ((((((K7.out).setCell (by dsimp only; omega) _).setCell (by dsimp only; omega) _).setCell (by dsimp only; omega) _).setCell (by dsimp only; omega) _).setCell (by dsimp only; omega) _).setCell (by dsimp only; omega) _)
    have S_8 := hide (show BoxV w8 (W.heap.size) _ by rw [← hw8]; exact ((((((S_7.out).other ⟨W.heap.size + 2, 0, none⟩ (.slice a0 pl.length q0) (by dsimp only; omega)).other ⟨W.heap.size + 2, 1, none⟩ (.slice a1 tl.length q1) (by dsimp only; omega)).other ⟨W.heap.size + 2, 2, none⟩ (.bool dz) (by dsimp only; omega)).other ⟨W.heap.size + 2, 3, none⟩ (.bool oz) (by dsimp only; omega)).other ⟨W.heap.size + 2, 4, none⟩ (.slice (some ⟨w4.heap.size, 0, none⟩) 0 0) (by dsimp only; omega)).other ⟨W.heap.size + 2, 5, none⟩ (.int .i64 400) (by dsimp only; omega))
    have X_8 := hide (show BoxV w8 (W.heap.size + 1) _ by rw [← hw8]; exact ((((((X_7.out).other ⟨W.heap.size + 2, 0, none⟩ (.slice a0 pl.length q0) (by dsimp only; omega)).other ⟨W.heap.size + 2, 1, none⟩ (.slice a1 tl.length q1) (by dsimp only; omega)).other ⟨W.heap.size + 2, 2, none⟩ (.bool dz) (by dsimp only; omega)).other ⟨W.heap.size + 2, 3, none⟩ (.bool oz) (by dsimp only; omega)).other ⟨W.heap.size + 2, 4, none⟩ (.slice (some ⟨w4.heap.size, 0, none⟩) 0 0) (by dsimp only; omega)).other ⟨W.heap.size + 2, 5, none⟩ (.int .i64 400) (by dsimp only; omega))
    have Z_8 := hide (show BoxV w8 (W.heap.size + 2) [.slice a0 pl.length q0, .slice a1 tl.length q1, .bool dz, .bool oz, .slice (some ⟨w4.heap.size, 0, none⟩) 0 0, .int .i64 400] by rw [← hw8]; exact ((((((Z_7.out).set 0 (by simp) (.slice a0 pl.length q0)).set 1 (by simp) (.slice a1 tl.length q1)).set 2 (by simp) (.bool dz)).set 3 (by simp) (.bool oz)).set 4 (by simp) (.slice (some ⟨w4.heap.size, 0, none⟩) 0 0)).set 5 (by simp) (.int .i64 400))
    have O0_8 := hide (show Own w8 _ _ _ by rw [← hw8]; exact ((((((O0_7.out).setCell ⟨W.heap.size + 2, 0, none⟩ (.slice a0 pl.length q0) (fun hh => by have h1 := hh.1; have h2 := hh.2; simp only at h1 h2; omega)).setCell ⟨W.heap.size + 2, 1, none⟩ (.slice a1 tl.length q1) (fun hh => by have h1 := hh.1; have h2 := hh.2; simp only at h1 h2; omega)).setCell ⟨W.heap.size + 2, 2, none⟩ (.bool dz) (fun hh => by have h1 := hh.1; have h2 := hh.2; simp only at h1 h2; omega)).setCell ⟨W.heap.size + 2, 3, none⟩ (.bool oz) (fun hh => by have h1 := hh.1; have h2 := hh.2; simp only at h1 h2; omega)).setCell ⟨W.heap.size + 2, 4, none⟩ (.slice (some ⟨w4.heap.size, 0, none⟩) 0 0) (fun hh => by have h1 := hh.1; have h2 := hh.2; simp only at h1 h2; omega)).setCell ⟨W.heap.size + 2, 5, none⟩ (.int .i64 400) (fun hh => by have h1 := hh.1; have h2 := hh.2; simp only at h1 h2; omega))
    have O1_8 := hide (show Own w8 _ _ _ by rw [← hw8]; exact ((((((O1_7.out).setCell ⟨W.heap.size + 2, 0, none⟩ (.slice a0 pl.length q0) (fun hh => by have h1 := hh.1; have h2 := hh.2; simp only at h1 h2; omega)).setCell ⟨W.heap.size + 2, 1, none⟩ (.slice a1 tl.length q1) (fun hh => by have h1 := hh.1; have h2 := hh.2; simp only at h1 h2; omega)).setCell ⟨W.heap.size + 2, 2, none⟩ (.bool dz) (fun hh => by have h1 := hh.1; have h2 := hh.2; simp only at h1 h2; omega)).setCell ⟨W.heap.size + 2, 3, none⟩ (.bool oz) (fun hh => by have h1 := hh.1; have h2 := hh.2; simp only at h1 h2; omega)).setCell ⟨W.heap.size + 2, 4, none⟩ (.slice (some ⟨w4.heap.size, 0, none⟩) 0 0) (fun hh => by have h1 := hh.1; have h2 := hh.2; simp only at h1 h2; omega)).setCell ⟨W.heap.size + 2, 5, none⟩ (.int .i64 400) (fun hh => by have h1 := hh.1; have h2 := hh.2; simp only at h1 h2; omega))
    have A_8 := hide (show BoxV w8 (w1.heap.size) _ by rw [← hw8]; exact ((((((A_7.out).other ⟨W.heap.size + 2, 0, none⟩ (.slice a0 pl.length q0) (by dsimp only; omega)).other ⟨W.heap.size + 2, 1, none⟩ (.slice a1 tl.length q1) (by dsimp only; omega)).other ⟨W.heap.size + 2, 2, none⟩ (.bool dz) (by dsimp only; omega)).other ⟨W.heap.size + 2, 3, none⟩ (.bool oz) (by dsimp only; omega)).other ⟨W.heap.size + 2, 4, none⟩ (.slice (some ⟨w4.heap.size, 0, none⟩) 0 0) (by dsimp only; omega)).other ⟨W.heap.size + 2, 5, none⟩ (.int .i64 400) (by dsimp only; omega))
    have OT_8 := hide (show Own w8 _ _ _ by rw [← hw8]; exact ((((((OT_7.out).setCell ⟨W.heap.size + 2, 0, none⟩ (.slice a0 pl.length q0) (fun hh => by have h1 := hh.1; have h2 := hh.2; simp only at h1 h2; omega)).setCell ⟨W.heap.size + 2, 1, none⟩ (.slice a1 tl.length q1) (fun hh => by have h1 := hh.1; have h2 := hh.2; simp only at h1 h2; omega)).setCell ⟨W.heap.size + 2, 2, none⟩ (.bool dz) (fun hh => by have h1 := hh.1; have h2 := hh.2; simp only at h1 h2; omega)).setCell ⟨W.heap.size + 2, 3, none⟩ (.bool oz) (fun hh => by have h1 := hh.1; have h2 := hh.2; simp only at h1 h2; omega)).setCell ⟨W.heap.size + 2, 4, none⟩ (.slice (some ⟨w4.heap.size, 0, none⟩) 0 0) (fun hh => by have h1 := hh.1; have h2 := hh.2; simp only at h1 h2; omega)).setCell ⟨W.heap.size + 2, 5, none⟩ (.int .i64 400) (fun hh => by have h1 := hh.1; have h2 := hh.2; simp only at h1 h2; omega))
    clear S_7 X_7 Z_7 O0_7 O1_7 A_7 OT_7
    have cZ0_8 := (Z_8.out.2 0 _ rfl).1
    have cZ1_8 := (Z_8.out.2 1 _ rfl).1
    have cZ2_8 := (Z_8.out.2 2 _ rfl).1
    have cZ3_8 := (Z_8.out.2 3 _ rfl).1
    have cZ4_8 := (Z_8.out.2 4 _ rfl).1
    have cZ5_8 := (Z_8.out.2 5 _ rfl).1
    go_wp2
    refine bodyPost_ret (v := .agg #[.slice a0 pl.length q0, .slice a1 tl.length q1, .bool dz, .bool oz, .slice (some ⟨w4.heap.size, 0, none⟩) 0 0, .int .i64 400]) (by simp [results, Tryz.results9, go_sem, cZ0_8, cZ1_8, cZ2_8, cZ3_8, cZ4_8, cZ5_8]) rfl ⟨⟨_, _, _, rfl, ?_⟩, K8.out⟩
    try rw [if_neg hfo]
    exact ⟨l0, z0, l1, z1, (w4.heap.size), (w4.heap.size + 1), O0_8.out, O1_8.out, OT_8.out, by omega⟩
  by_cases h5 : c = 501
  · have hfo := hcf.1 (.inr h5)
    subst h5
    clear hcf h4
    have cX0_0 := (X_0.out.2 0 _ rfl).1
    have cX1_0 := (X_0.out.2 1 _ rfl).1
    have cX2_0 := (X_0.out.2 2 _ rfl).1
    have cX3_0 := (X_0.out.2 3 _ rfl).1
    go_enter Tryz.func9, Tryz.ntmps9
    go_wp2_with fail
    refine (HR.out _ K0.out).mono ?_
    rintro e w1 ⟨⟨v0, v1, v4, rfl, l0, z0, l1, z1, l4, z4, ho⟩, b1⟩
    clear cX0_0 cX1_0 cX2_0 cX3_0 hw0
    have K1 := hide (K0.out.trans (b1.mono K0.out.size))
    have y1 := b1.size
    have S_1 := hide (S_0.out.next b1)
    have X_1 := hide (X_0.out.next b1)
    have Z_1 := hide (Z_0.out.next b1)
    clear S_0 X_0 Z_0
    obtain ⟨a0, q0, rfl, _⟩ := ho.o0.rows 1 (fun _ => rfl)
    obtain ⟨a1, q1, rfl, _⟩ := ho.o1.rows 1 (fun _ => rfl)
    obtain ⟨a4, q4, rfl, _⟩ := ho.o4.rows 1 (fun _ => rfl)
    have O0_1 := hide ho.o0
    have O1_1 := hide ho.o1
    have O4_1 := hide ho.o4
    obtain ⟨i1, i2, i3, i4, i5, i6, i7, i8, i9⟩ := ho.b
    clear ho
    clear b1
    obtain ⟨w2, hw2⟩ : ∃ w', w1.alloc (Obj.cells #[.slice none 0 0, .slice none 0 0, .bool false, .bool false, .slice none 0 0, .int .i64 0] 34) = w' := ⟨_, rfl⟩
    have b2 : Below w1.heap.size w1 w2 := by rw [← hw2]; exact (Below.refl _ _).alloc (Nat.le_refl _) _
    have y2 : w2.heap.size = w1.heap.size + 1 := by rw [← hw2]; simp
    have hS : BoxV w2 w1.heap.size [.slice none 0 0, .slice none 0 0, .bool false, .bool false, .slice none 0 0, .int .i64 0] := by rw [← hw2]; exact BoxV.made _ _ _
    have K2 := hide (K1.out.trans (b2.mono K1.out.size))
    have S_2 := hide (S_1.out.next b2)
    have X_2 := hide (X_1.out.next b2)
    have Z_2 := hide (Z_1.out.next b2)
    have O0_2 := hide (O0_1.out.next b2)
    have O1_2 := hide (O1_1.out.next b2)
    have O4_2 := hide (O4_1.out.next b2)
    clear S_1 X_1 Z_1 O0_1 O1_1 O4_1
    have A_2 := hide hS
    clear hS b2
    obtain ⟨cA0_2, fA0_2⟩ := A_2.out.2 0 _ rfl
    obtain ⟨cA1_2, fA1_2⟩ := A_2.out.2 1 _ rfl
    obtain ⟨cA2_2, fA2_2⟩ := A_2.out.2 2 _ rfl
    obtain ⟨cA3_2, fA3_2⟩ := A_2.out.2 3 _ rfl
    obtain ⟨cA4_2, fA4_2⟩ := A_2.out.2 4 _ rfl
    obtain ⟨cA5_2, fA5_2⟩ := A_2.out.2 5 _ rfl
    obtain ⟨w3, hw3⟩ : ∃ w', ((((((w2.setCell ⟨w1.heap.size, 0, none⟩ (.slice a0 pl.length q0)).setCell ⟨w1.heap.size, 1, none⟩ (.slice a1 tl.length q1)).setCell ⟨w1.heap.size, 2, none⟩ (.bool dz)).setCell ⟨w1.heap.size, 3, none⟩ (.bool oz)).setCell ⟨w1.heap.size, 4, none⟩ (.slice a4 tk.length q4)).setCell ⟨w1.heap.size, 5, none⟩ (.int .i64 0)) = w' := ⟨_, rfl⟩
    have y3 : w3.heap.size = w2.heap.size := by rw [← hw3]; simp
    have K3 := hide (show Below W.heap.size W w3 by rw [← hw3]; exact ((((((K2.out).setCell (by dsimp only; omega) _).setCell (by dsimp only; omega) _).setCell (by dsimp only; omega) _).setCell (by dsimp only; omega) _).setCell (by dsimp only; omega) _).setCell (by dsimp only; omega) _)
    have S_3 := hide (show BoxV w3 (W.heap.size) _ by rw [← hw3]; exact ((((((S_2.out).other ⟨w1.heap.size, 0, none⟩ (.slice a0 pl.length q0) (by dsimp only; omega)).other ⟨w1.heap.size, 1, none⟩ (.slice a1 tl.length q1) (by dsimp only; omega)).other ⟨w1.heap.size, 2, none⟩ (.bool dz) (by dsimp only; omega)).other ⟨w1.heap.size, 3, none⟩ (.bool oz) (by dsimp only; omega)).other ⟨w1.heap.size, 4, none⟩ (.slice a4 tk.length q4) (by dsimp only; omega)).other ⟨w1.heap.size, 5, none⟩ (.int .i64 0) (by dsimp only; omega))
    have X_3 := hide (show BoxV w3 (W.heap.size + 1) _ by rw [← hw3]; exact ((((((X_2.out).other ⟨w1.heap.size, 0, none⟩ (.slice a0 pl.length q0) (by dsimp only; omega)).other ⟨w1.heap.size, 1, none⟩ (.slice a1 tl.length q1) (by dsimp only; omega)).other ⟨w1.heap.size, 2, none⟩ (.bool dz) (by dsimp only; omega)).other ⟨w1.heap.size, 3, none⟩ (.bool oz) (by dsimp only; omega)).other ⟨w1.heap.size, 4, none⟩ (.slice a4 tk.length q4) (by dsimp only; omega)).other ⟨w1.heap.size, 5, none⟩ (.int .i64 0) (by dsimp only; omega))
    have Z_3 := hide (show BoxV w3 (W.heap.size + 2) _ by rw [← hw3]; exact ((((((Z_2.out).other ⟨w1.heap.size, 0, none⟩ (.slice a0 pl.length q0) (by dsimp only; omega)).other ⟨w1.heap.size, 1, none⟩ (.slice a1 tl.length q1) (by dsimp only; omega)).other ⟨w1.heap.size, 2, none⟩ (.bool dz) (by dsimp only; omega)).other ⟨w1.heap.size, 3, none⟩ (.bool oz) (by dsimp only; omega)).other ⟨w1.heap.size, 4, none⟩ (.slice a4 tk.length q4) (by dsimp only; omega)).other ⟨w1.heap.size, 5, none⟩ (.int .i64 0) (by dsimp only; omega))
    have O0_3 := hide (show Own w3 _ _ _ by rw [← hw3]; exact ((((((O0_2.out).setCell ⟨w1.heap.size, 0, none⟩ (.slice a0 pl.length q0) (fun hh => by have h1 := hh.1; have h2 := hh.2; simp only at h1 h2; omega)).setCell ⟨w1.heap.size, 1, none⟩ (.slice a1 tl.length q1) (fun hh => by have h1 := hh.1; have h2 := hh.2; simp only at h1 h2; omega)).setCell ⟨w1.heap.size, 2, none⟩ (.bool dz) (fun hh => by have h1 := hh.1; have h2 := hh.2; simp only at h1 h2; omega)).setCell ⟨w1.heap.size, 3, none⟩ (.bool oz) (fun hh => by have h1 := hh.1; have h2 := hh.2; simp only at h1 h2; omega)).setCell ⟨w1.heap.size, 4, none⟩ (.slice a4 tk.length q4) (fun hh => by have h1 := hh.1; have h2 := hh.2; simp only at h1 h2; omega)).setCell ⟨w1.heap.size, 5, none⟩ (.int .i64 0) (fun hh => by have h1 := hh.1; have h2 := hh.2; simp only at h1 h2; omega))
    have O1_3 := hide (show Own w3 _ _ _ by rw [← hw3]; exact ((((((O1_2.out).setCell ⟨w1.heap.size, 0, none⟩ (.slice a0 pl.length q0) (fun hh => by have h1 := hh.1; have h2 := hh.2; simp only at h1 h2; omega)).setCell ⟨w1.heap.size, 1, none⟩ (.slice a1 tl.length q1) (fun hh => by have h1 := hh.1; have h2 := hh.2; simp only at h1 h2; omega)).setCell ⟨w1.heap.size, 2, none⟩ (.bool dz) (fun hh => by have h1 := hh.1; have h2 := hh.2; simp only at h1 h2; omega)).setCell ⟨w1.heap.size, 3, none⟩ (.bool oz) (fun hh => by have h1 := hh.1; have h2 := hh.2; simp only at h1 h2; omega)).setCell ⟨w1.heap.size, 4, none⟩ (.slice a4 tk.length q4) (fun hh => by have h1 := hh.1; have h2 := hh.2; simp only at h1 h2; omega)).setCell ⟨w1.heap.size, 5, none⟩ (.int .i64 0) (fun hh => by have h1 := hh.1; have h2 := hh.2; simp only at h1 h2; omega))
    have O4_3 := hide (show Own w3 _ _ _ by rw [← hw3]; exact ((((((O4_2.out).setCell ⟨w1.heap.size, 0, none⟩ (.slice a0 pl.length q0) (fun hh => by have h1 := hh.1; have h2 := hh.2; simp only at h1 h2; omega)).setCell ⟨w1.heap.size, 1, none⟩ (.slice a1 tl.length q1) (fun hh => by have h1 := hh.1; have h2 := hh.2; simp only at h1 h2; omega)).setCell ⟨w1.heap.size, 2, none⟩ (.bool dz) (fun hh => by have h1 := hh.1; have h2 := hh.2; simp only at h1 h2; omega)).setCell ⟨w1.heap.size, 3, none⟩ (.bool oz) (fun hh => by have h1 := hh.1; have h2 := hh.2; simp only at h1 h2; omega)).setCell ⟨w1.heap.size, 4, none⟩ (.slice a4 tk.length q4) (fun hh => by have h1 := hh.1; have h2 := hh.2; simp only at h1 h2; omega)).setCell ⟨w1.heap.size, 5, none⟩ (.int .i64 0) (fun hh => by have h1 := hh.1; have h2 := hh.2; simp only at h1 h2; omega))
    have A_3 := hide (show BoxV w3 (w1.heap.size) [.slice a0 pl.length q0, .slice a1 tl.length q1, .bool dz, .bool oz, .slice a4 tk.length q4, .int .i64 0] by rw [← hw3]; exact ((((((A_2.out).set 0 (by simp) (.slice a0 pl.length q0)).set 1 (by simp) (.slice a1 tl.length q1)).set 2 (by simp) (.bool dz)).set 3 (by simp) (.bool oz)).set 4 (by simp) (.slice a4 tk.length q4)).set 5 (by simp) (.int .i64 0))
    clear S_2 X_2 Z_2 O0_2 O1_2 O4_2 A_2
    have cA0_3 := (A_3.out.2 0 _ rfl).1
    have cA1_3 := (A_3.out.2 1 _ rfl).1
    have cA2_3 := (A_3.out.2 2 _ rfl).1
    have cA3_3 := (A_3.out.2 3 _ rfl).1
    have cA4_3 := (A_3.out.2 4 _ rfl).1
    have cA5_3 := (A_3.out.2 5 _ rfl).1
    have cS0_3 := (S_3.out.2 0 _ rfl).1
    have cS1_3 := (S_3.out.2 1 _ rfl).1
    have cS2_3 := (S_3.out.2 2 _ rfl).1
    have cS3_3 := (S_3.out.2 3 _ rfl).1
    have cS4_3 := (S_3.out.2 4 _ rfl).1
    have cS5_3 := (S_3.out.2 5 _ rfl).1
    have cX0_3 := (X_3.out.2 0 _ rfl).1
    have cX1_3 := (X_3.out.2 1 _ rfl).1
    have cX2_3 := (X_3.out.2 2 _ rfl).1
    have cX3_3 := (X_3.out.2 3 _ rfl).1
    go_wp2_with fail
    refine (HC.out _ K3.out _ _ _ (O0_3.out.vw (by omega)) (O1_3.out.vw (by omega)) (O4_3.out.vw (by omega))).mono ?_
    rintro e w4 ⟨rfl, b4⟩
    clear hw2 cA0_2 fA0_2 cA1_2 fA1_2 cA2_2 fA2_2 cA3_2 fA3_2 cA4_2 fA4_2 cA5_2 fA5_2 hw3 cA0_3 cA1_3 cA2_3 cA3_3 cA4_3 cA5_3 cS0_3 cS1_3 cS2_3 cS3_3 cS4_3 cS5_3 cX0_3 cX1_3 cX2_3 cX3_3
    have K4 := hide (K3.out.trans (b4.mono K3.out.size))
    have y4 := b4.size
    have S_4 := hide (S_3.out.next b4)
    have X_4 := hide (X_3.out.next b4)
    have Z_4 := hide (Z_3.out.next b4)
    have O0_4 := hide (O0_3.out.next b4)
    have O1_4 := hide (O1_3.out.next b4)
    have O4_4 := hide (O4_3.out.next b4)
    have A_4 := hide (A_3.out.next b4)
    clear S_3 X_3 Z_3 O0_3 O1_3 O4_3 A_3
    clear b4
    obtain ⟨cA5_4, fA5_4⟩ := A_4.out.2 5 _ rfl
    obtain ⟨w5, hw5⟩ : ∃ w', (w4.setCell ⟨w1.heap.size, 5, none⟩ (.int .i64 501)) = w' := ⟨_, rfl⟩
    have y5 : w5.heap.size = w4.heap.size := by rw [← hw5]; simp
    have K5 := hide (show Below W.heap.size W w5 by rw [← hw5]; exact (K4.out).setCell (by dsimp only; omega) _)
    have S_5 := hide (show BoxV w5 (W.heap.size) _ by rw [← hw5]; exact (S_4.out).other ⟨w1.heap.size, 5, none⟩ (.int .i64 501) (by dsimp only; omega))
    have X_5 := hide (show BoxV w5 (W.heap.size + 1) _ by rw [← hw5]; exact (X_4.out).other ⟨w1.heap.size, 5, none⟩ (.int .i64 501) (by dsimp only; omega))
    have Z_5 := hide (show BoxV w5 (W.heap.size + 2) _ by rw [← hw5]; exact (Z_4.out).other ⟨w1.heap.size, 5, none⟩ (.int .i64 501) (by dsimp only; omega))
    have O0_5 := hide (show Own w5 _ _ _ by rw [← hw5]; exact (O0_4.out).setCell ⟨w1.heap.size, 5, none⟩ (.int .i64 501) (fun hh => by have h1 := hh.1; have h2 := hh.2; simp only at h1 h2; omega))
    have O1_5 := hide (show Own w5 _ _ _ by rw [← hw5]; exact (O1_4.out).setCell ⟨w1.heap.size, 5, none⟩ (.int .i64 501) (fun hh => by have h1 := hh.1; have h2 := hh.2; simp only at h1 h2; omega))
    have O4_5 := hide (show Own w5 _ _ _ by rw [← hw5]; exact (O4_4.out).setCell ⟨w1.heap.size, 5, none⟩ (.int .i64 501) (fun hh => by have h1 := hh.1; have h2 := hh.2; simp only at h1 h2; omega))
    have A_5 := hide (show BoxV w5 (w1.heap.size) [.slice a0 pl.length q0, .slice a1 tl.length q1, .bool dz, .bool oz, .slice a4 tk.length q4, .int .i64 501] by rw [← hw5]; exact (A_4.out).set 5 (by simp) (.int .i64 501))
    clear S_4 X_4 Z_4 O0_4 O1_4 O4_4 A_4
    have cA5_5 := (A_5.out.2 5 _ rfl).1
    obtain ⟨w6, hw6⟩ : ∃ w', w5.alloc (Obj.cells #[] 3) = w' := ⟨_, rfl⟩
    have b6 : Below w5.heap.size w5 w6 := by rw [← hw6]; exact (Below.refl _ _).alloc (Nat.le_refl _) _
    have y6 : w6.heap.size = w5.heap.size + 1 := by rw [← hw6]; simp
    have hS : BoxV w6 (w4.heap.size) [] := by
      rw [← hw6]
      have h9 := BoxV.made w5 [] 3
      have e9 : w5.heap.size = w4.heap.size := by omega
      rwa [e9] at h9
    have K6 := hide (K5.out.trans (b6.mono K5.out.size))
    have S_6 := hide (S_5.out.next b6)
    have X_6 := hide (X_5.out.next b6)
    have Z_6 := hide (Z_5.out.next b6)
    have O0_6 := hide (O0_5.out.next b6)
    have O1_6 := hide (O1_5.out.next b6)
    have O4_6 := hide (O4_5.out.next b6)
    have A_6 := hide (A_5.out.next b6)
    clear S_5 X_5 Z_5 O0_5 O1_5 O4_5 A_5
    have T_6 := hide hS
    clear hS b6
    clear T_6
    have OT_6 := hide (show Own w6 (.slice (some ⟨w4.heap.size, 0, none⟩) 0 0) (.l (([] : List Int).map dI)) (IvG (w4.heap.size) (w4.heap.size + 1)) from OTL w6 (w4.heap.size) (by omega))
    clear O4_6
    obtain ⟨cA4_6, fA4_6⟩ := A_6.out.2 4 _ rfl
    obtain ⟨w7, hw7⟩ : ∃ w', (w6.setCell ⟨w1.heap.size, 4, none⟩ (.slice (some ⟨w4.heap.size, 0, none⟩) 0 0)) = w' := ⟨_, rfl⟩
    have y7 : w7.heap.size = w6.heap.size := by rw [← hw7]; simp
    have K7 := hide (show Below W.heap.size W w7 by rw [← hw7]; exact (K6.out).setCell (by dsimp only; omega) _)
    have S_7 := hide (show BoxV w7 (W.heap.size) _ by rw [← hw7]; exact (S_6.out).other ⟨w1.heap.size, 4, none⟩ (.slice (some ⟨w4.heap.size, 0, none⟩) 0 0) (by dsimp only; omega))
    have X_7 := hide (show BoxV w7 (W.heap.size + 1) _ by rw [← hw7]; exact (X_6.out).other ⟨w1.heap.size, 4, none⟩ (.slice (some ⟨w4.heap.size, 0, none⟩) 0 0) (by dsimp only; omega))
    have Z_7 := hide (show BoxV w7 (W.heap.size + 2) _ by rw [← hw7]; exact (Z_6.out).other ⟨w1.heap.size, 4, none⟩ (.slice (some ⟨w4.heap.size, 0, none⟩) 0 0) (by dsimp only; omega))
    have O0_7 := hide (show Own w7 _ _ _ by rw [← hw7]; exact (O0_6.out).setCell ⟨w1.heap.size, 4, none⟩ (.slice (some ⟨w4.heap.size, 0, none⟩) 0 0) (fun hh => by have h1 := hh.1; have h2 := hh.2; simp only at h1 h2; omega))
    have O1_7 := hide (show Own w7 _ _ _ by rw [← hw7]; exact (O1_6.out).setCell ⟨w1.heap.size, 4, none⟩ (.slice (some ⟨w4.heap.size, 0, none⟩) 0 0) (fun hh => by have h1 := hh.1; have h2 := hh.2; simp only at h1 h2; omega))
    have A_7 := hide (show BoxV w7 (w1.heap.size) [.slice a0 pl.length q0, .slice a1 tl.length q1, .bool dz, .bool oz, .slice (some ⟨w4.heap.size, 0, none⟩) 0 0, .int .i64 501] by rw [← hw7]; exact (A_6.out).set 4 (by simp) (.slice (some ⟨w4.heap.size, 0, none⟩) 0 0))
    have OT_7 := hide (show Own w7 _ _ _ by rw [← hw7]; exact (OT_6.out).setCell ⟨w1.heap.size, 4, none⟩ (.slice (some ⟨w4.heap.size, 0, none⟩) 0 0) (fun hh => by have h1 := hh.1; have h2 := hh.2; simp only at h1 h2; omega))
    clear S_6 X_6 Z_6 O0_6 O1_6 A_6 OT_6
    have cA0_7 := (A_7.out.2 0 _ rfl).1
    have cA1_7 := (A_7.out.2 1 _ rfl).1
    have cA2_7 := (A_7.out.2 2 _ rfl).1
    have cA3_7 := (A_7.out.2 3 _ rfl).1
    have cA4_7 := (A_7.out.2 4 _ rfl).1
    have cA5_7 := (A_7.out.2 5 _ rfl).1
    obtain ⟨cZ0_7, fZ0_7⟩ := Z_7.out.2 0 _ rfl
    obtain ⟨cZ1_7, fZ1_7⟩ := Z_7.out.2 1 _ rfl
    obtain ⟨cZ2_7, fZ2_7⟩ := Z_7.out.2 2 _ rfl
    obtain ⟨cZ3_7, fZ3_7⟩ := Z_7.out.2 3 _ rfl
    obtain ⟨cZ4_7, fZ4_7⟩ := Z_7.out.2 4 _ rfl
    obtain ⟨cZ5_7, fZ5_7⟩ := Z_7.out.2 5 _ rfl
    obtain ⟨w8, hw8⟩ : ∃ w', ((((((w7.setCell ⟨W.heap.size + 2, 0, none⟩ (.slice a0 pl.length q0)).setCell ⟨W.heap.size + 2, 1, none⟩ (.slice a1 tl.length q1)).setCell ⟨W.heap.size + 2, 2, none⟩ (.bool dz)).setCell ⟨W.heap.size + 2, 3, none⟩ (.bool oz)).setCell ⟨W.heap.size + 2, 4, none⟩ (.slice (some ⟨w4.heap.size, 0, none⟩) 0 0)).setCell ⟨W.heap.size + 2, 5, none⟩ (.int .i64 501)) = w' := ⟨_, rfl⟩
    have y8 : w8.heap.size = w7.heap.size := by rw [← hw8]; simp
    have K8 := hide (show Below W.heap.size W w8 by rw [← hw8]; exact ((((((K7.out).setCell (by dsimp only; omega) _).setCell (by dsimp only; omega) _).setCell (by dsimp only; omega) _).setCell (by dsimp only; omega) _).setCell (by dsimp only; omega) _).setCell (by dsimp only; omega) _)
    have S_8 := hide (show BoxV w8 (W.heap.size) _ by rw [← hw8]; exact ((((((S_7.out).other ⟨W.heap.size + 2, 0, none⟩ (.slice a0 pl.length q0) (by dsimp only; omega)).other ⟨W.heap.size + 2, 1, none⟩ (.slice a1 tl.length q1) (by dsimp only; omega)).other ⟨W.heap.size + 2, 2, none⟩ (.bool dz) (by dsimp only; omega)).other ⟨W.heap.size + 2, 3, none⟩ (.bool oz) (by dsimp only; omega)).other ⟨W.heap.size + 2, 4, none⟩ (.slice (some ⟨w4.heap.size, 0, none⟩) 0 0) (by dsimp only; omega)).other ⟨W.heap.size + 2, 5, none⟩ (.int .i64 501) (by dsimp only; omega))
    have X_8 := hide (show BoxV w8 (W.heap.size + 1) _ by rw [← hw8]; exact ((((((X_7.out).other ⟨W.heap.size + 2, 0, none⟩ (.slice a0 pl.length q0) (by dsimp only; omega)).other ⟨W.heap.size + 2, 1, none⟩ (.slice a1 tl.length q1) (by dsimp only; omega)).other ⟨W.heap.size + 2, 2, none⟩ (.bool dz) (by dsimp only; omega)).other ⟨W.heap.size + 2, 3, none⟩ (.bool oz) (by dsimp only; omega)).other ⟨W.heap.size + 2, 4, none⟩ (.slice (some ⟨w4.heap.size, 0, none⟩) 0 0) (by dsimp only; omega)).other ⟨W.heap.size + 2, 5, none⟩ (.int .i64 501) (by dsimp only; omega))
    have Z_8 := hide (show BoxV w8 (W.heap.size + 2) [.slice a0 pl.length q0, .slice a1 tl.length q1, .bool dz, .bool oz, .slice (some ⟨w4.heap.size, 0, none⟩) 0 0, .int .i64 501] by rw [← hw8]; exact ((((((Z_7.out).set 0 (by simp) (.slice a0 pl.length q0)).set 1 (by simp) (.slice a1 tl.length q1)).set 2 (by simp) (.bool dz)).set 3 (by simp) (.bool oz)).set 4 (by simp) (.slice (some ⟨w4.heap.size, 0, none⟩) 0 0)).set 5 (by simp) (.int .i64 501))
    have O0_8 := hide (show Own w8 _ _ _ by rw [← hw8]; exact ((((((O0_7.out).setCell ⟨W.heap.size + 2, 0, none⟩ (.slice a0 pl.length q0) (fun hh => by have h1 := hh.1; have h2 := hh.2; simp only at h1 h2; omega)).setCell ⟨W.heap.size + 2, 1, none⟩ (.slice a1 tl.length q1) (fun hh => by have h1 := hh.1; have h2 := hh.2; simp only at h1 h2; omega)).setCell ⟨W.heap.size + 2, 2, none⟩ (.bool dz) (fun hh => by have h1 := hh.1; have h2 := hh.2; simp only at h1 h2; omega)).setCell ⟨W.heap.size + 2, 3, none⟩ (.bool oz) (fun hh => by have h1 := hh.1; have h2 := hh.2; simp only at h1 h2; omega)).setCell ⟨W.heap.size + 2, 4, none⟩ (.slice (some ⟨w4.heap.size, 0, none⟩) 0 0) (fun hh => by have h1 := hh.1; have h2 := hh.2; simp only at h1 h2; omega)).setCell ⟨W.heap.size + 2, 5, none⟩ (.int .i64 501) (fun hh => by have h1 := hh.1; have h2 := hh.2; simp only at h1 h2; omega))
    have O1_8 := hide (show Own w8 _ _ _ by rw [← hw8]; exact ((((((O1_7.out).setCell ⟨W.heap.size + 2, 0, none⟩ (.slice a0 pl.length q0) (fun hh => by have h1 := hh.1; have h2 := hh.2; simp only at h1 h2; omega)).setCell ⟨W.heap.size + 2, 1, none⟩ (.slice a1 tl.length q1) (fun hh => by have h1 := hh.1; have h2 := hh.2; simp only at h1 h2; omega)).setCell ⟨W.heap.size + 2, 2, none⟩ (.bool dz) (fun hh => by have h1 := hh.1; have h2 := hh.2; simp only at h1 h2; omega)).setCell ⟨W.heap.size + 2, 3, none⟩ (.bool oz) (fun hh => by have h1 := hh.1; have h2 := hh.2; simp only at h1 h2; omega)).setCell ⟨W.heap.size + 2, 4, none⟩ (.slice (some ⟨w4.heap.size, 0, none⟩) 0 0) (fun hh => by have h1 := hh.1; have h2 := hh.2; simp only at h1 h2; omega)).setCell ⟨W.heap.size + 2, 5, none⟩ (.int .i64 501) (fun hh => by have h1 := hh.1; have h2 := hh.2; simp only at h1 h2; omega))
    have A_8 := hide (show BoxV w8 (w1.heap.size) _ by rw [← hw8]; exact ((((((A_7.out).other ⟨W.heap.size + 2, 0, none⟩ (.slice a0 pl.length q0) (by dsimp only; omega)).other ⟨W.heap.size + 2, 1, none⟩ (.slice a1 tl.length q1) (by dsimp only; omega)).other ⟨W.heap.size + 2, 2, none⟩ (.bool dz) (by dsimp only; omega)).other ⟨W.heap.size + 2, 3, none⟩ (.bool oz) (by dsimp only; omega)).other ⟨W.heap.size + 2, 4, none⟩ (.slice (some ⟨w4.heap.size, 0, none⟩) 0 0) (by dsimp only; omega)).other ⟨W.heap.size + 2, 5, none⟩ (.int .i64 501) (by dsimp only; omega))
    have OT_8 := hide (show Own w8 _ _ _ by rw [← hw8]; exact ((((((OT_7.out).setCell ⟨W.heap.size + 2, 0, none⟩ (.slice a0 pl.length q0) (fun hh => by have h1 := hh.1; have h2 := hh.2; simp only at h1 h2; omega)).setCell ⟨W.heap.size + 2, 1, none⟩ (.slice a1 tl.length q1) (fun hh => by have h1 := hh.1; have h2 := hh.2; simp only at h1 h2; omega)).setCell ⟨W.heap.size + 2, 2, none⟩ (.bool dz) (fun hh => by have h1 := hh.1; have h2 := hh.2; simp only at h1 h2; omega)).setCell ⟨W.heap.size + 2, 3, none⟩ (.bool oz) (fun hh => by have h1 := hh.1; have h2 := hh.2; simp only at h1 h2; omega)).setCell ⟨W.heap.size + 2, 4, none⟩ (.slice (some ⟨w4.heap.size, 0, none⟩) 0 0) (fun hh => by have h1 := hh.1; have h2 := hh.2; simp only at h1 h2; omega)).setCell ⟨W.heap.size + 2, 5, none⟩ (.int .i64 501) (fun hh => by have h1 := hh.1; have h2 := hh.2; simp only at h1 h2; omega))
    clear S_7 X_7 Z_7 O0_7 O1_7 A_7 OT_7
    have cZ0_8 := (Z_8.out.2 0 _ rfl).1
    have cZ1_8 := (Z_8.out.2 1 _ rfl).1
    have cZ2_8 := (Z_8.out.2 2 _ rfl).1
    have cZ3_8 := (Z_8.out.2 3 _ rfl).1
    have cZ4_8 := (Z_8.out.2 4 _ rfl).1
    have cZ5_8 := (Z_8.out.2 5 _ rfl).1
    go_wp2
    refine bodyPost_ret (v := .agg #[.slice a0 pl.length q0, .slice a1 tl.length q1, .bool dz, .bool oz, .slice (some ⟨w4.heap.size, 0, none⟩) 0 0, .int .i64 501]) (by simp [results, Tryz.results9, go_sem, cZ0_8, cZ1_8, cZ2_8, cZ3_8, cZ4_8, cZ5_8]) rfl ⟨⟨_, _, _, rfl, ?_⟩, K8.out⟩
    try rw [if_neg hfo]
    exact ⟨l0, z0, l1, z1, (w4.heap.size), (w4.heap.size + 1), O0_8.out, O1_8.out, OT_8.out, by omega⟩
  have hfo : fo = 0 := by
    by_cases e : fo = 0
    · exact e
    · rcases hcf.2 e with e | e
      · exact absurd e h4
      · exact absurd e h5
  have g4 : (c == 400) = false := beq_eq_false_iff_ne.2 h4
  have g5 : (c == 501) = false := beq_eq_false_iff_ne.2 h5
  clear hcf
  have cX0_0 := (X_0.out.2 0 _ rfl).1
  have cX1_0 := (X_0.out.2 1 _ rfl).1
  have cX2_0 := (X_0.out.2 2 _ rfl).1
  have cX3_0 := (X_0.out.2 3 _ rfl).1
  go_enter Tryz.func9, Tryz.ntmps9
  go_wp2_with fail
  refine (HR.out _ K0.out).mono ?_
  rintro e w1 ⟨⟨v0, v1, v4, rfl, l0, z0, l1, z1, l4, z4, ho⟩, b1⟩
  clear cX0_0 cX1_0 cX2_0 cX3_0 hw0
  have K1 := hide (K0.out.trans (b1.mono K0.out.size))
  have y1 := b1.size
  have S_1 := hide (S_0.out.next b1)
  have X_1 := hide (X_0.out.next b1)
  have Z_1 := hide (Z_0.out.next b1)
  clear S_0 X_0 Z_0
  obtain ⟨a0, q0, rfl, _⟩ := ho.o0.rows 1 (fun _ => rfl)
  obtain ⟨a1, q1, rfl, _⟩ := ho.o1.rows 1 (fun _ => rfl)
  obtain ⟨a4, q4, rfl, _⟩ := ho.o4.rows 1 (fun _ => rfl)
  have O0_1 := hide ho.o0
  have O1_1 := hide ho.o1
  have O4_1 := hide ho.o4
  obtain ⟨i1, i2, i3, i4, i5, i6, i7, i8, i9⟩ := ho.b
  clear ho
  clear b1
  obtain ⟨w2, hw2⟩ : ∃ w', w1.alloc (Obj.cells #[.slice none 0 0, .slice none 0 0, .bool false, .bool false, .slice none 0 0, .int .i64 0] 34) = w' := ⟨_, rfl⟩
  have b2 : Below w1.heap.size w1 w2 := by rw [← hw2]; exact (Below.refl _ _).alloc (Nat.le_refl _) _
  have y2 : w2.heap.size = w1.heap.size + 1 := by rw [← hw2]; simp
  have hS : BoxV w2 w1.heap.size [.slice none 0 0, .slice none 0 0, .bool false, .bool false, .slice none 0 0, .int .i64 0] := by rw [← hw2]; exact BoxV.made _ _ _
  have K2 := hide (K1.out.trans (b2.mono K1.out.size))
  have S_2 := hide (S_1.out.next b2)
  have X_2 := hide (X_1.out.next b2)
  have Z_2 := hide (Z_1.out.next b2)
  have O0_2 := hide (O0_1.out.next b2)
  have O1_2 := hide (O1_1.out.next b2)
  have O4_2 := hide (O4_1.out.next b2)
  clear S_1 X_1 Z_1 O0_1 O1_1 O4_1
  have A_2 := hide hS
  clear hS b2
  obtain ⟨cA0_2, fA0_2⟩ := A_2.out.2 0 _ rfl
  obtain ⟨cA1_2, fA1_2⟩ := A_2.out.2 1 _ rfl
  obtain ⟨cA2_2, fA2_2⟩ := A_2.out.2 2 _ rfl
  obtain ⟨cA3_2, fA3_2⟩ := A_2.out.2 3 _ rfl
  obtain ⟨cA4_2, fA4_2⟩ := A_2.out.2 4 _ rfl
  obtain ⟨cA5_2, fA5_2⟩ := A_2.out.2 5 _ rfl
  obtain ⟨w3, hw3⟩ : ∃ w', ((((((w2.setCell ⟨w1.heap.size, 0, none⟩ (.slice a0 pl.length q0)).setCell ⟨w1.heap.size, 1, none⟩ (.slice a1 tl.length q1)).setCell ⟨w1.heap.size, 2, none⟩ (.bool dz)).setCell ⟨w1.heap.size, 3, none⟩ (.bool oz)).setCell ⟨w1.heap.size, 4, none⟩ (.slice a4 tk.length q4)).setCell ⟨w1.heap.size, 5, none⟩ (.int .i64 0)) = w' := ⟨_, rfl⟩
  have y3 : w3.heap.size = w2.heap.size := by rw [← hw3]; simp
  have K3 := hide (show Below W.heap.size W w3 by rw [← hw3]; exact ((((((K2.out).setCell (by dsimp only; omega) _).setCell (by dsimp only; omega) _).setCell (by dsimp only; omega) _).setCell (by dsimp only; omega) _).setCell (by dsimp only; omega) _).setCell (by dsimp only; omega) _)
  have S_3 := hide (show BoxV w3 (W.heap.size) _ by rw [← hw3]; exact ((((((S_2.out).other ⟨w1.heap.size, 0, none⟩ (.slice a0 pl.length q0) (by dsimp only; omega)).other ⟨w1.heap.size, 1, none⟩ (.slice a1 tl.length q1) (by dsimp only; omega)).other ⟨w1.heap.size, 2, none⟩ (.bool dz) (by dsimp only; omega)).other ⟨w1.heap.size, 3, none⟩ (.bool oz) (by dsimp only; omega)).other ⟨w1.heap.size, 4, none⟩ (.slice a4 tk.length q4) (by dsimp only; omega)).other ⟨w1.heap.size, 5, none⟩ (.int .i64 0) (by dsimp only; omega))
  have X_3 := hide (show BoxV w3 (W.heap.size + 1) _ by rw [← hw3]; exact ((((((X_2.out).other ⟨w1.heap.size, 0, none⟩ (.slice a0 pl.length q0) (by dsimp only; omega)).other ⟨w1.heap.size, 1, none⟩ (.slice a1 tl.length q1) (by dsimp only; omega)).other ⟨w1.heap.size, 2, none⟩ (.bool dz) (by dsimp only; omega)).other ⟨w1.heap.size, 3, none⟩ (.bool oz) (by dsimp only; omega)).other ⟨w1.heap.size, 4, none⟩ (.slice a4 tk.length q4) (by dsimp only; omega)).other ⟨w1.heap.size, 5, none⟩ (.int .i64 0) (by dsimp only; omega))
  have Z_3 := hide (show BoxV w3 (W.heap.size + 2) _ by rw [← hw3]; exact ((((((Z_2.out).other ⟨w1.heap.size, 0, none⟩ (.slice a0 pl.length q0) (by dsimp only; omega)).other ⟨w1.heap.size, 1, none⟩ (.slice a1 tl.length q1) (by dsimp only; omega)).other ⟨w1.heap.size, 2, none⟩ (.bool dz) (by dsimp only; omega)).other ⟨w1.heap.size, 3, none⟩ (.bool oz) (by dsimp only; omega)).other ⟨w1.heap.size, 4, none⟩ (.slice a4 tk.length q4) (by dsimp only; omega)).other ⟨w1.heap.size, 5, none⟩ (.int .i64 0) (by dsimp only; omega))
  have O0_3 := hide (show Own w3 _ _ _ by rw [← hw3]; exact ((((((O0_2.out).setCell ⟨w1.heap.size, 0, none⟩ (.slice a0 pl.length q0) (fun hh => by have h1 := hh.1; have h2 := hh.2; simp only at h1 h2; omega)).setCell ⟨w1.heap.size, 1, none⟩ (.slice a1 tl.length q1) (fun hh => by have h1 := hh.1; have h2 := hh.2; simp only at h1 h2; omega)).setCell ⟨w1.heap.size, 2, none⟩ (.bool dz) (fun hh => by have h1 := hh.1; have h2 := hh.2; simp only at h1 h2; omega)).setCell ⟨w1.heap.size, 3, none⟩ (.bool oz) (fun hh => by have h1 := hh.1; have h2 := hh.2; simp only at h1 h2; omega)).setCell ⟨w1.heap.size, 4, none⟩ (.slice a4 tk.length q4) (fun hh => by have h1 := hh.1; have h2 := hh.2; simp only at h1 h2; omega)).setCell ⟨w1.heap.size, 5, none⟩ (.int .i64 0) (fun hh => by have h1 := hh.1; have h2 := hh.2; simp only at h1 h2; omega))
  have O1_3 := hide (show Own w3 _ _ _ by rw [← hw3]; exact ((((((O1_2.out).setCell ⟨w1.heap.size, 0, none⟩ (.slice a0 pl.length q0) (fun hh => by have h1 := hh.1; have h2 := hh.2; simp only at h1 h2; omega)).setCell ⟨w1.heap.size, 1, none⟩ (.slice a1 tl.length q1) (fun hh => by have h1 := hh.1; have h2 := hh.2; simp only at h1 h2; omega)).setCell ⟨w1.heap.size, 2, none⟩ (.bool dz) (fun hh => by have h1 := hh.1; have h2 := hh.2; simp only at h1 h2; omega)).setCell ⟨w1.heap.size, 3, none⟩ (.bool oz) (fun hh => by have h1 := hh.1; have h2 := hh.2; simp only at h1 h2; omega)).setCell ⟨w1.heap.size, 4, none⟩ (.slice a4 tk.length q4) (fun hh => by have h1 := hh.1; have h2 := hh.2; simp only at h1 h2; omega)).setCell ⟨w1.heap.size, 5, none⟩ (.int .i64 0) (fun hh => by have h1 := hh.1; have h2 := hh.2; simp only at h1 h2; omega))
  have O4_3 := hide (show Own w3 _ _ _ by rw [← hw3]; exact ((((((O4_2.out).setCell ⟨w1.heap.size, 0, none⟩ (.slice a0 pl.length q0) (fun hh => by have h1 := hh.1; have h2 := hh.2; simp only at h1 h2; omega)).setCell ⟨w1.heap.size, 1, none⟩ (.slice a1 tl.length q1) (fun hh => by have h1 := hh.1; have h2 := hh.2; simp only at h1 h2; omega)).setCell ⟨w1.heap.size, 2, none⟩ (.bool dz) (fun hh => by have h1 := hh.1; have h2 := hh.2; simp only at h1 h2; omega)).setCell ⟨w1.heap.size, 3, none⟩ (.bool oz) (fun hh => by have h1 := hh.1; have h2 := hh.2; simp only at h1 h2; omega)).setCell ⟨w1.heap.size, 4, none⟩ (.slice a4 tk.length q4) (fun hh => by have h1 := hh.1; have h2 := hh.2; simp only at h1 h2; omega)).setCell ⟨w1.heap.size, 5, none⟩ (.int .i64 0) (fun hh => by have h1 := hh.1; have h2 := hh.2; simp only at h1 h2; omega))
  have A_3 := hide (show BoxV w3 (w1.heap.size) [.slice a0 pl.length q0, .slice a1 tl.length q1, .bool dz, .bool oz, .slice a4 tk.length q4, .int .i64 0] by rw [← hw3]; exact ((((((A_2.out).set 0 (by simp) (.slice a0 pl.length q0)).set 1 (by simp) (.slice a1 tl.length q1)).set 2 (by simp) (.bool dz)).set 3 (by simp) (.bool oz)).set 4 (by simp) (.slice a4 tk.length q4)).set 5 (by simp) (.int .i64 0))
  clear S_2 X_2 Z_2 O0_2 O1_2 O4_2 A_2
  have cA0_3 := (A_3.out.2 0 _ rfl).1
  have cA1_3 := (A_3.out.2 1 _ rfl).1
  have cA2_3 := (A_3.out.2 2 _ rfl).1
  have cA3_3 := (A_3.out.2 3 _ rfl).1
  have cA4_3 := (A_3.out.2 4 _ rfl).1
  have cA5_3 := (A_3.out.2 5 _ rfl).1
  have cS0_3 := (S_3.out.2 0 _ rfl).1
  have cS1_3 := (S_3.out.2 1 _ rfl).1
  have cS2_3 := (S_3.out.2 2 _ rfl).1
  have cS3_3 := (S_3.out.2 3 _ rfl).1
  have cS4_3 := (S_3.out.2 4 _ rfl).1
  have cS5_3 := (S_3.out.2 5 _ rfl).1
  have cX0_3 := (X_3.out.2 0 _ rfl).1
  have cX1_3 := (X_3.out.2 1 _ rfl).1
  have cX2_3 := (X_3.out.2 2 _ rfl).1
  have cX3_3 := (X_3.out.2 3 _ rfl).1
  go_wp2_with fail
  refine (HC.out _ K3.out _ _ _ (O0_3.out.vw (by omega)) (O1_3.out.vw (by omega)) (O4_3.out.vw (by omega))).mono ?_
  rintro e w4 ⟨rfl, b4⟩
  clear hw2 cA0_2 fA0_2 cA1_2 fA1_2 cA2_2 fA2_2 cA3_2 fA3_2 cA4_2 fA4_2 cA5_2 fA5_2 hw3 cA0_3 cA1_3 cA2_3 cA3_3 cA4_3 cA5_3 cS0_3 cS1_3 cS2_3 cS3_3 cS4_3 cS5_3 cX0_3 cX1_3 cX2_3 cX3_3
  have K4 := hide (K3.out.trans (b4.mono K3.out.size))
  have y4 := b4.size
  have S_4 := hide (S_3.out.next b4)
  have X_4 := hide (X_3.out.next b4)
  have Z_4 := hide (Z_3.out.next b4)
  have O0_4 := hide (O0_3.out.next b4)
  have O1_4 := hide (O1_3.out.next b4)
  have O4_4 := hide (O4_3.out.next b4)
  have A_4 := hide (A_3.out.next b4)
  clear S_3 X_3 Z_3 O0_3 O1_3 O4_3 A_3
  clear b4
  obtain ⟨cA5_4, fA5_4⟩ := A_4.out.2 5 _ rfl
  obtain ⟨w5, hw5⟩ : ∃ w', (w4.setCell ⟨w1.heap.size, 5, none⟩ (.int .i64 c)) = w' := ⟨_, rfl⟩
  have y5 : w5.heap.size = w4.heap.size := by rw [← hw5]; simp
  have K5 := hide (show Below W.heap.size W w5 by rw [← hw5]; exact (K4.out).setCell (by dsimp only; omega) _)
  have S_5 := hide (show BoxV w5 (W.heap.size) _ by rw [← hw5]; exact (S_4.out).other ⟨w1.heap.size, 5, none⟩ (.int .i64 c) (by dsimp only; omega))
  have X_5 := hide (show BoxV w5 (W.heap.size + 1) _ by rw [← hw5]; exact (X_4.out).other ⟨w1.heap.size, 5, none⟩ (.int .i64 c) (by dsimp only; omega))
  have Z_5 := hide (show BoxV w5 (W.heap.size + 2) _ by rw [← hw5]; exact (Z_4.out).other ⟨w1.heap.size, 5, none⟩ (.int .i64 c) (by dsimp only; omega))
  have O0_5 := hide (show Own w5 _ _ _ by rw [← hw5]; exact (O0_4.out).setCell ⟨w1.heap.size, 5, none⟩ (.int .i64 c) (fun hh => by have h1 := hh.1; have h2 := hh.2; simp only at h1 h2; omega))
  have O1_5 := hide (show Own w5 _ _ _ by rw [← hw5]; exact (O1_4.out).setCell ⟨w1.heap.size, 5, none⟩ (.int .i64 c) (fun hh => by have h1 := hh.1; have h2 := hh.2; simp only at h1 h2; omega))
  have O4_5 := hide (show Own w5 _ _ _ by rw [← hw5]; exact (O4_4.out).setCell ⟨w1.heap.size, 5, none⟩ (.int .i64 c) (fun hh => by have h1 := hh.1; have h2 := hh.2; simp only at h1 h2; omega))
  have A_5 := hide (show BoxV w5 (w1.heap.size) [.slice a0 pl.length q0, .slice a1 tl.length q1, .bool dz, .bool oz, .slice a4 tk.length q4, .int .i64 c] by rw [← hw5]; exact (A_4.out).set 5 (by simp) (.int .i64 c))
  clear S_4 X_4 Z_4 O0_4 O1_4 O4_4 A_4
  have cA5_5 := (A_5.out.2 5 _ rfl).1
  have cA0_5 := (A_5.out.2 0 _ rfl).1
  have cA1_5 := (A_5.out.2 1 _ rfl).1
  have cA2_5 := (A_5.out.2 2 _ rfl).1
  have cA3_5 := (A_5.out.2 3 _ rfl).1
  have cA4_5 := (A_5.out.2 4 _ rfl).1
  obtain ⟨cZ0_5, fZ0_5⟩ := Z_5.out.2 0 _ rfl
  obtain ⟨cZ1_5, fZ1_5⟩ := Z_5.out.2 1 _ rfl
  obtain ⟨cZ2_5, fZ2_5⟩ := Z_5.out.2 2 _ rfl
  obtain ⟨cZ3_5, fZ3_5⟩ := Z_5.out.2 3 _ rfl
  obtain ⟨cZ4_5, fZ4_5⟩ := Z_5.out.2 4 _ rfl
  obtain ⟨cZ5_5, fZ5_5⟩ := Z_5.out.2 5 _ rfl
  obtain ⟨w6, hw6⟩ : ∃ w', ((((((w5.setCell ⟨W.heap.size + 2, 0, none⟩ (.slice a0 pl.length q0)).setCell ⟨W.heap.size + 2, 1, none⟩ (.slice a1 tl.length q1)).setCell ⟨W.heap.size + 2, 2, none⟩ (.bool dz)).setCell ⟨W.heap.size + 2, 3, none⟩ (.bool oz)).setCell ⟨W.heap.size + 2, 4, none⟩ (.slice a4 tk.length q4)).setCell ⟨W.heap.size + 2, 5, none⟩ (.int .i64 c)) = w' := ⟨_, rfl⟩
  have y6 : w6.heap.size = w5.heap.size := by rw [← hw6]; simp
  have K6 := hide (show Below W.heap.size W w6 by rw [← hw6]; exact ((((((K5.out).setCell (by dsimp only; omega) _).setCell (by dsimp only; omega) _).setCell (by dsimp only; omega) _).setCell (by dsimp only; omega) _).setCell (by dsimp only; omega) _).setCell (by dsimp only; omega) _)
  have S_6 := hide (show BoxV w6 (W.heap.size) _ by rw [← hw6]; exact ((((((S_5.out).other ⟨W.heap.size + 2, 0, none⟩ (.slice a0 pl.length q0) (by dsimp only; omega)).other ⟨W.heap.size + 2, 1, none⟩ (.slice a1 tl.length q1) (by dsimp only; omega)).other ⟨W.heap.size + 2, 2, none⟩ (.bool dz) (by dsimp only; omega)).other ⟨W.heap.size + 2, 3, none⟩ (.bool oz) (by dsimp only; omega)).other ⟨W.heap.size + 2, 4, none⟩ (.slice a4 tk.length q4) (by dsimp only; omega)).other ⟨W.heap.size + 2, 5, none⟩ (.int .i64 c) (by dsimp only; omega))
  have X_6 := hide (show BoxV w6 (W.heap.size + 1) _ by rw [← hw6]; exact ((((((X_5.out).other ⟨W.heap.size + 2, 0, none⟩ (.slice a0 pl.length q0) (by dsimp only; omega)).other ⟨W.heap.size + 2, 1, none⟩ (.slice a1 tl.length q1) (by dsimp only; omega)).other ⟨W.heap.size + 2, 2, none⟩ (.bool dz) (by dsimp only; omega)).other ⟨W.heap.size + 2, 3, none⟩ (.bool oz) (by dsimp only; omega)).other ⟨W.heap.size + 2, 4, none⟩ (.slice a4 tk.length q4) (by dsimp only; omega)).other ⟨W.heap.size + 2, 5, none⟩ (.int .i64 c) (by dsimp only; omega))
  have Z_6 := hide (show BoxV w6 (W.heap.size + 2) [.slice a0 pl.length q0, .slice a1 tl.length q1, .bool dz, .bool oz, .slice a4 tk.length q4, .int .i64 c] by rw [← hw6]; exact ((((((Z_5.out).set 0 (by simp) (.slice a0 pl.length q0)).set 1 (by simp) (.slice a1 tl.length q1)).set 2 (by simp) (.bool dz)).set 3 (by simp) (.bool oz)).set 4 (by simp) (.slice a4 tk.length q4)).set 5 (by simp) (.int .i64 c))
  have O0_6 := hide (show Own w6 _ _ _ by rw [← hw6]; exact ((((((O0_5.out).setCell ⟨W.heap.size + 2, 0, none⟩ (.slice a0 pl.length q0) (fun hh => by have h1 := hh.1; have h2 := hh.2; simp only at h1 h2; omega)).setCell ⟨W.heap.size + 2, 1, none⟩ (.slice a1 tl.length q1) (fun hh => by have h1 := hh.1; have h2 := hh.2; simp only at h1 h2; omega)).setCell ⟨W.heap.size + 2, 2, none⟩ (.bool dz) (fun hh => by have h1 := hh.1; have h2 := hh.2; simp only at h1 h2; omega)).setCell ⟨W.heap.size + 2, 3, none⟩ (.bool oz) (fun hh => by have h1 := hh.1; have h2 := hh.2; simp only at h1 h2; omega)).setCell ⟨W.heap.size + 2, 4, none⟩ (.slice a4 tk.length q4) (fun hh => by have h1 := hh.1; have h2 := hh.2; simp only at h1 h2; omega)).setCell ⟨W.heap.size + 2, 5, none⟩ (.int .i64 c) (fun hh => by have h1 := hh.1; have h2 := hh.2; simp only at h1 h2; omega))
  have O1_6 := hide (show Own w6 _ _ _ by rw [← hw6]; exact ((((((O1_5.out).setCell ⟨W.heap.size + 2, 0, none⟩ (.slice a0 pl.length q0) (fun hh => by have h1 := hh.1; have h2 := hh.2; simp only at h1 h2; omega)).setCell ⟨W.heap.size + 2, 1, none⟩ (.slice a1 tl.length q1) (fun hh => by have h1 := hh.1; have h2 := hh.2; simp only at h1 h2; omega)).setCell ⟨W.heap.size + 2, 2, none⟩ (.bool dz) (fun hh => by have h1 := hh.1; have h2 := hh.2; simp only at h1 h2; omega)).setCell ⟨W.heap.size + 2, 3, none⟩ (.bool oz) (fun hh => by have h1 := hh.1; have h2 := hh.2; simp only at h1 h2; omega)).setCell ⟨W.heap.size + 2, 4, none⟩ (.slice a4 tk.length q4) (fun hh => by have h1 := hh.1; have h2 := hh.2; simp only at h1 h2; omega)).setCell ⟨W.heap.size + 2, 5, none⟩ (.int .i64 c) (fun hh => by have h1 := hh.1; have h2 := hh.2; simp only at h1 h2; omega))
  have O4_6 := hide (show Own w6 _ _ _ by rw [← hw6]; exact ((((((O4_5.out).setCell ⟨W.heap.size + 2, 0, none⟩ (.slice a0 pl.length q0) (fun hh => by have h1 := hh.1; have h2 := hh.2; simp only at h1 h2; omega)).setCell ⟨W.heap.size + 2, 1, none⟩ (.slice a1 tl.length q1) (fun hh => by have h1 := hh.1; have h2 := hh.2; simp only at h1 h2; omega)).setCell ⟨W.heap.size + 2, 2, none⟩ (.bool dz) (fun hh => by have h1 := hh.1; have h2 := hh.2; simp only at h1 h2; omega)).setCell ⟨W.heap.size + 2, 3, none⟩ (.bool oz) (fun hh => by have h1 := hh.1; have h2 := hh.2; simp only at h1 h2; omega)).setCell ⟨W.heap.size + 2, 4, none⟩ (.slice a4 tk.length q4) (fun hh => by have h1 := hh.1; have h2 := hh.2; simp only at h1 h2; omega)).setCell ⟨W.heap.size + 2, 5, none⟩ (.int .i64 c) (fun hh => by have h1 := hh.1; have h2 := hh.2; simp only at h1 h2; omega))
  have A_6 := hide (show BoxV w6 (w1.heap.size) _ by rw [← hw6]; exact ((((((A_5.out).other ⟨W.heap.size + 2, 0, none⟩ (.slice a0 pl.length q0) (by dsimp only; omega)).other ⟨W.heap.size + 2, 1, none⟩ (.slice a1 tl.length q1) (by dsimp only; omega)).other ⟨W.heap.size + 2, 2, none⟩ (.bool dz) (by dsimp only; omega)).other ⟨W.heap.size + 2, 3, none⟩ (.bool oz) (by dsimp only; omega)).other ⟨W.heap.size + 2, 4, none⟩ (.slice a4 tk.length q4) (by dsimp only; omega)).other ⟨W.heap.size + 2, 5, none⟩ (.int .i64 c) (by dsimp only; omega))
  clear S_5 X_5 Z_5 O0_5 O1_5 O4_5 A_5
  have cZ0_6 := (Z_6.out.2 0 _ rfl).1
  have cZ1_6 := (Z_6.out.2 1 _ rfl).1
  have cZ2_6 := (Z_6.out.2 2 _ rfl).1
  have cZ3_6 := (Z_6.out.2 3 _ rfl).1
  have cZ4_6 := (Z_6.out.2 4 _ rfl).1
  have cZ5_6 := (Z_6.out.2 5 _ rfl).1
  go_wp2
  refine bodyPost_ret (v := .agg #[.slice a0 pl.length q0, .slice a1 tl.length q1, .bool dz, .bool oz, .slice a4 tk.length q4, .int .i64 c]) (by simp [results, Tryz.results9, go_sem, cZ0_6, cZ1_6, cZ2_6, cZ3_6, cZ4_6, cZ5_6]) rfl ⟨⟨_, _, _, rfl, ?_⟩, K6.out⟩
  try rw [if_pos hfo]
  exact ⟨l0, z0, l1, z1, l4, z4, O0_6.out, O1_6.out, O4_6.out, by omega⟩

theorem ask_gen (x : Sv) (r : Rq) (u0 u1 u4 u5 h : Value) (W : World) (hh : View W W.heap.size h (.l (r.hs.map dHd))) (hr : szR (dRq r) ≤ 1048576) (h0 : View W W.heap.size u0 (.l (x.t.map dRs))) (h1 : View W W.heap.size u1 (.l (x.l.map dLk))) (h4 : View W W.heap.size u4 (.l (x.dr.map dI))) (h5 : View W W.heap.size u5 (.l (x.us.map dI))) (hsz : szR (dSv x) ≤ 1048576) (ok : okR (dSv x)) (hp : PowTab W) :
    Calls Tryz.prog 9 #[.agg #[u0, u1, .int .i64 x.now, .int .i64 x.ver, u4, u5], .agg #[.string r.m, .string r.p, h, .string r.b]] W fun e w' => (∃ v0 v1 v4 : Value, ∃ l0 z0 l1 z1 l4 z4 : Nat, e = .returned (.agg #[v0, v1, .bool (askL x r).de, .bool (askL x r).ov, v4, .int .i64 (askL x r).co]) ∧ (Own w' v0 (.l ((askL x r).pa.map dS)) (IvG l0 z0) ∧ W.heap.size ≤ l0 ∧ z0 ≤ w'.heap.size) ∧ (Own w' v1 (.l ((askL x r).to.map dS)) (IvG l1 z1) ∧ W.heap.size ≤ l1 ∧ z1 ≤ w'.heap.size) ∧ (Own w' v4 (.l ((askL x r).tk.map dI)) (IvG l4 z4) ∧ W.heap.size ≤ l4 ∧ z4 ≤ w'.heap.size) ∧ (z0 ≤ l1 ∨ z1 ≤ l0) ∧ (z0 ≤ l4 ∨ z4 ≤ l0) ∧ (z1 ≤ l4 ∨ z4 ≤ l1)) ∧ Below W.heap.size W w' := by
  refine (ask_any x r u0 u1 u4 u5 h W hh hr h0 h1 h4 h5 hsz ok hp).mono ?_
  rintro e w1 ⟨⟨v0, v1, v4, rfl, l0, z0, l1, z1, l4, z4, ho⟩, hb⟩
  obtain ⟨i1, i2, i3, i4, i5, i6, i7, i8, i9⟩ := ho.b
  exact ⟨⟨v0, v1, v4, l0, z0, l1, z1, l4, z4, rfl, ⟨ho.o0, by omega, by omega⟩, ⟨ho.o1, by omega, by omega⟩, ⟨ho.o4, by omega, by omega⟩, by omega, by omega, by omega⟩, hb⟩
end Go.Proofs.YtfhcniifennfbaaGreatDoor
