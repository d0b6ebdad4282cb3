/-
  What spec.l14OneText and spec.IfText do.
-/
import Derived.Test.YtmgikfeknmbpbaaGreatDoorSpecSameIf
import Derived.Test.YtmgikfeknmbpbaaGreatDoorTurn
import Derived.Test.YtmgikfeknmbpbaaGreatDoorSpecParseIf
namespace Go.Proofs.YtmgikfeknmbpbaaGreatDoor
open Go.RowKit M
set_option linter.unusedVariables false

theorem ret_strI {a b : ByteArray} (h : a = b) : (Ending.returned (.string a) : Ending) = .returned (.string b) := by rw [h]

set_option maxRecDepth 100000 in
set_option maxHeartbeats 4000000 in
theorem oneText_any (c : Cn) (w : World) (htk : c.tk ≤ 9223372036854775807) (htg : c.tg.size ≤ 1048576) :
    Calls Tryz.prog 31 #[.agg #[.bool c.no, .int .i64 c.tk, .string c.tg]] w fun e w' => e = .returned (.string (bytesOf (oneT c))) ∧ Below w.heap.size w w' := by
  obtain ⟨no, tk, tg⟩ := c
  simp only at htk htg
  have hb0 := (Below.refl w.heap.size w).alloc (Nat.le_refl _) (Obj.cells #[.bool no, .int .i64 tk, .string tg] 57)
  have HQ := hide (specNumText_any tk (w.alloc (Obj.cells #[.bool no, .int .i64 tk, .string tg] 57)) htk)
  have HB := hide hb0
  have HE := hide (show oneT ⟨no, tk, tg⟩ = (if no = true then notL else []) ++ (if tk = 0 then 91 :: (tg.data.toList ++ [93]) else 60 :: (Lib.decDigits tk.toNat ++ [62])) from rfl)
  have hdl := dec_le tk htk
  have HDL := hide hdl
  generalize Lib.decDigits tk.toNat = d at *
  clear hb0 hdl
  show Calls Tryz.prog 31 #[.agg #[.bool no, .int .i64 tk, .string tg]] w _
  by_cases hz : tk = 0
  · rw [if_pos hz] at HE
    subst hz
    cases no
    · have HR := hide (show (⟨#[]⟩ : ByteArray) ++ ⟨#[91]⟩ ++ tg ++ ⟨#[93]⟩ = bytesOf (oneT ⟨false, 0, tg⟩) by rw [HE.out]; apply ByteArray.ext; simp [bytesOf])
      go_enter Tryz.func31, Tryz.ntmps31
      go_wp2
      go_ret
      exact ⟨ret_strI HR.out, HB.out⟩
    · have HR := hide (show (⟨#[78, 111, 116, 32]⟩ : ByteArray) ++ ⟨#[91]⟩ ++ tg ++ ⟨#[93]⟩ = bytesOf (oneT ⟨true, 0, tg⟩) by rw [HE.out]; apply ByteArray.ext; simp [bytesOf, notL])
      go_enter Tryz.func31, Tryz.ntmps31
      go_wp2
      go_ret
      exact ⟨ret_strI HR.out, HB.out⟩
  · rw [if_neg hz] at HE
    have hz1 : (tk == 0) = false := by simpa using hz
    have hz2 : (tk != 0) = true := by simpa using hz
    have hds : (⟨d.toArray⟩ : ByteArray).size ≤ 20 := HDL.out
    obtain ⟨D, hD⟩ : ∃ z : ByteArray, (⟨d.toArray⟩ : ByteArray) = z := ⟨_, rfl⟩
    have HD := hide (show D.data.toList = d by rw [← hD])
    rw [hD] at HQ hds
    clear hz hD
    cases no
    · have HR := hide (show (⟨#[]⟩ : ByteArray) ++ ⟨#[60]⟩ ++ D ++ ⟨#[62]⟩ = bytesOf (oneT ⟨false, tk, tg⟩) by rw [HE.out, ← HD.out]; apply ByteArray.ext; simp [bytesOf])
      go_enter Tryz.func31, Tryz.ntmps31
      go_wp2_with fail
      refine HQ.out.mono ?_
      rintro e w1 ⟨rfl, b1⟩
      have HC := hide (HB.out.trans (b1.mono HB.out.size))
      go_wp2
      go_ret
      exact ⟨ret_strI HR.out, HC.out⟩
    · have HR := hide (show (⟨#[78, 111, 116, 32]⟩ : ByteArray) ++ ⟨#[60]⟩ ++ D ++ ⟨#[62]⟩ = bytesOf (oneT ⟨true, tk, tg⟩) by rw [HE.out, ← HD.out]; apply ByteArray.ext; simp [bytesOf, notL])
      go_enter Tryz.func31, Tryz.ntmps31
      go_wp2_with fail
      refine HQ.out.mono ?_
      rintro e w1 ⟨rfl, b1⟩
      have HC := hide (HB.out.trans (b1.mono HB.out.size))
      go_wp2
      go_ret
      exact ⟨ret_strI HR.out, HC.out⟩

/-- What stands ahead of a list. -/
def preI (ls : List (List Cn)) (k : Nat) : List UInt8 := (if k = 0 then [] else oneI (ls.take k) ++ [32]) ++ [40]
theorem preI_end (ls : List (List Cn)) (k : Nat) (hk : k < ls.length) : preI ls k ++ joinT (ls[k].map oneT) ++ [41] = oneI (ls.take (k + 1)) := by
  rw [oneI_snoc ls k hk]
  unfold preI oneL
  split <;> simp
theorem preC_next (P : List UInt8) (cs : List Cn) (j : Nat) (hj : j < cs.length) : P ++ joinT ((cs.take (j + 1)).map oneT) = P ++ joinT ((cs.take j).map oneT) ++ ((if j = 0 then [] else [32]) ++ oneT cs[j]) := by
  rw [one_snoc cs j hj]
  split
  · rename_i h; subst h; simp [joinT_nil]
  · simp
/-- What is told: the text, or nothing. -/
def TxtIs (ls : List (List Cn)) (s : ByteArray) : Prop := (okIf ls → s = bytesOf (ifT ls)) ∧ (¬ okIf ls → s = ⟨#[]⟩)
theorem TxtIs.same {ls : List (List Cn)} {s t : ByteArray} (h : TxtIs ls s) (k : TxtIs ls t) : s = t := by
  by_cases e : okIf ls
  · rw [h.1 e, k.1 e]
  · rw [h.2 e, k.2 e]
theorem size_list (S : ByteArray) (l : List UInt8) (h : S = bytesOf l) : S.size = l.length := by rw [h, bytesOf_size]

set_option maxRecDepth 100000 in
set_option maxHeartbeats 16000000 in
theorem specIfText_any (ls : List (List Cn)) (a : Option Addr) (cap B : Nat) (w : World) (h : Cnss w B a ls) (hB : B ≤ w.heap.size) (hsz : szRs (ls.map dCs) ≤ 1048576) (hwf : ∀ cs ∈ ls, ∀ c ∈ cs, wfC c) :
    Calls Tryz.prog 13 #[.slice a ls.length cap] w fun e w' => (∃ s, e = .returned (.string s) ∧ TxtIs ls s) ∧ Below w.heap.size w w' := by
  have HH := hide h
  have HSZ := hide hsz
  have HWF := hide hwf
  have HSM := hide (cns_small hsz)
  have hln := (cns_small hsz).1
  clear h hsz hwf
  go_enter Tryz.func13, Tryz.ntmps13
  go_wp2
  go_loopw [3, 4] (fun v i wr => ∃ (k : Nat) (S : ByteArray), k ≤ ls.length ∧ i = .int .i64 k ∧ v = .string S ∧ S.size ≤ 30000000 ∧ Hid (S = bytesOf (oneI (ls.take k))) ∧ Below w.heap.size w wr) (fun _ i _ => ls.length - (intOf i).toNat)
  case atStart => exact ⟨0, ⟨#[]⟩, Nat.zero_le _, rfl, rfl, (by decide), (by show _ = _; rfl), Below.refl _ _⟩
  case round =>
    obtain ⟨k, S, hk, rfl, rfl, hSs, HS, hbe⟩ := hrel
    by_cases hlt : k < ls.length
    · obtain ⟨b, o, rfl, hb, hc⟩ := HH.out (by omega)
      obtain ⟨pa, pc, hc0, hin⟩ := hc k hlt
      have HEND := hide (preI_end ls k hlt)
      have hcl := (HSM.out.2 _ (List.getElem_mem hlt)).1
      have HTG := hide (fun c (hc : c ∈ ls[k]) => And.intro (HWF.out _ (List.getElem_mem hlt) c hc) ((HSM.out.2 _ (List.getElem_mem hlt)).2 c hc))
      have HCL := hide (show (∀ j, (joinT ((ls[k].take j).map oneT)).length ≤ 28311552) from fun j => by
        have h1 := oneL_len (cs := ls[k].take j) (fun c hc => HWF.out _ (List.getElem_mem hlt) c (List.mem_of_mem_take hc))
        have h2 := take_szC ls[k] j
        have h3 := szRs_mem _ _ (List.mem_map_of_mem (f := dCs) (List.getElem_mem hlt))
        rw [sz_dCs] at h3
        have := HSZ.out
        unfold oneL at h1
        rw [List.length_cons, List.length_append, List.length_singleton] at h1
        omega)
      have HTOT := hide (show (oneI (ls.take (k + 1))).length ≤ 28311552 from by
        have h1 := oneI_len (ls := ls.take (k + 1)) (fun cs hcs => HWF.out cs (List.mem_of_mem_take hcs))
        have := take_sz ls (k + 1)
        have := HSZ.out
        omega)
      obtain ⟨cs, hcs⟩ : ∃ cs, ls[k] = cs := ⟨_, rfl⟩
      rw [hcs] at HEND HTG HCL hcl hc0 hin
      have HIN := hide hin.ps
      have hbw : b < w.heap.size := by omega
      have HP0 := hide (show ∀ S1 : ByteArray, (k = 0 → S1 = S ++ ⟨#[40]⟩) → (¬ k = 0 → S1 = S ++ ⟨#[32]⟩ ++ ⟨#[40]⟩) → S1 = bytesOf (preI ls k) from fun S1 h1 h2 => by
        unfold preI
        by_cases e : k = 0
        · rw [h1 e, HS.out, if_pos e, e]; rfl
        · rw [h2 e, HS.out, if_neg e]; apply ByteArray.ext; simp [bytesOf])
      clear hcs hc hin
      by_cases hk0 : k = 0
      · have hk1 : ¬ ((0 : Int) < (k : Int)) := by omega
        have HK0 := hide hk0
        clear hk0
        have HPE := hide (show S ++ ⟨#[40]⟩ = bytesOf (preI ls k) from HP0.out _ (fun _ => rfl) (fun e => absurd HK0.out e))
        have hs1 : (S ++ ⟨#[40]⟩).size ≤ 30000002 := by
          have z40 : (⟨#[40]⟩ : ByteArray).size = 1 := rfl
          have z32 : (⟨#[32]⟩ : ByteArray).size = 1 := rfl
          simp only [ByteArray.size_append]
          omega
        obtain ⟨S1, hS1⟩ : ∃ z, S ++ ⟨#[40]⟩ = z := ⟨_, rfl⟩
        rw [hS1] at HPE hs1
        clear HP0 HS
        go_wp2
        go_loopw [3, 5] (fun v q wr => ∃ (j : Nat) (S2 : ByteArray), j ≤ cs.length ∧ q = .int .i64 j ∧ v = .string S2 ∧ S2.size ≤ 60000000 ∧ Hid (S2 = bytesOf (preI ls k ++ joinT ((cs.take j).map oneT))) ∧ Below w.heap.size w wr) (fun _ q _ => cs.length - (intOf q).toNat)
        case atStart => exact ⟨0, S1, Nat.zero_le _, rfl, by first | rfl | rw [hS1], by omega, (by show _ = _; rw [HPE.out]; simp [joinT_nil]), hbe⟩
        case round =>
          obtain ⟨j, S2, hj, rfl, rfl, hs2, HS2, hbs⟩ := hrel
          have e0 := (hbs.cell (p := ⟨b, o + k, none⟩) hbw).trans hc0
          by_cases hjl : j < cs.length
          · obtain ⟨b2, o2, rfl, hb2, hd⟩ := HIN.out (by omega)
            obtain ⟨d0, d1, d2⟩ := hd j hjl
            have hb2w : b2 < w.heap.size := by omega
            have q0 := (hbs.cell (p := ⟨b2, o2 + j * 3, none⟩) hb2w).trans d0
            have q1 := (hbs.cell (p := ⟨b2, o2 + j * 3 + 1, none⟩) hb2w).trans d1
            have q2 := (hbs.cell (p := ⟨b2, o2 + j * 3 + 2, none⟩) hb2w).trans d2
            have HT := hide (HTG.out _ (List.getElem_mem hjl))
            have HNX := hide (preC_next (preI ls k) cs j hjl)
            have HJL := hide (HCL.out (j + 1))
            obtain ⟨x, hx⟩ : ∃ x, cs[j] = x := ⟨_, rfl⟩
            rw [hx] at HT HNX q0 q1 q2
            clear hx hd d0 d1 d2
            have HQ := hide (fun W => oneText_any x W HT.out.1 HT.out.2)
            have hox : (bytesOf (oneT x)).size ≤ 1048602 := by rw [bytesOf_size]; have h1 := oneT_len HT.out.1; have h2 := HT.out.2; omega
            have HNW := hide (show ∀ S3 : ByteArray, (j = 0 → S3 = S2 ++ bytesOf (oneT x)) → (¬ j = 0 → S3 = S2 ++ ⟨#[32]⟩ ++ bytesOf (oneT x)) → S3 = bytesOf (preI ls k ++ joinT ((cs.take (j + 1)).map oneT)) ∧ S3.size ≤ 60000000 from fun S3 h1 h2 => by
              have e : S3 = bytesOf (preI ls k ++ joinT ((cs.take (j + 1)).map oneT)) := by
                rw [HNX.out]
                by_cases e : j = 0
                · rw [h1 e, HS2.out, if_pos e]; apply ByteArray.ext; simp [bytesOf]
                · rw [h2 e, HS2.out, if_neg e]; apply ByteArray.ext; simp [bytesOf]
              refine ⟨e, ?_⟩
              rw [size_list S3 _ e, List.length_append]
              have h3 := HJL.out
              have h4 := HTOT.out
              rw [← HEND.out, List.length_append, List.length_append] at h4
              omega)
            by_cases hj0 : j = 0
            · have HNA := hide (HNW.out _ (fun _ => rfl) (fun e => absurd hj0 e))
              have hj1 : ¬ ((0 : Int) < (j : Int)) := by omega
              clear HNW HNX HJL HT hj0
              go_wp2_with fail
              refine (HQ.out _).mono ?_
              rintro e w1 ⟨rfl, b1⟩
              have C1 := hide (hbs.trans (b1.mono hbs.size))
              clear b1 HQ e0 q0 q1 q2
              go_wp2
              go_roundw
              case rel => exact ⟨j + 1, _, by omega, by go_num, rfl, HNA.out.2, HNA.out.1, C1.out⟩
              case measure => simp [intOf]; omega
            · have HNA := hide (HNW.out _ (fun e => absurd e hj0) (fun _ => rfl))
              have hj1 : (0 : Int) < (j : Int) := by omega
              clear HNW HNX HJL HT hj0
              go_wp2_with fail
              refine (HQ.out _).mono ?_
              rintro e w1 ⟨rfl, b1⟩
              have C1 := hide (hbs.trans (b1.mono hbs.size))
              clear b1 HQ e0 q0 q1 q2
              go_wp2
              go_roundw
              case rel => exact ⟨j + 1, _, by omega, by go_num, rfl, HNA.out.2, HNA.out.1, C1.out⟩
              case measure => simp [intOf]; omega
          · have HE := hide (show S2 ++ ⟨#[41]⟩ = bytesOf (oneI (ls.take (k + 1))) by
              rw [HS2.out, show cs.take j = cs from List.take_of_length_le (by omega), ← HEND.out]
              apply ByteArray.ext
              simp [bytesOf])
            have HES := hide (show (S2 ++ ⟨#[41]⟩).size ≤ 30000000 by rw [size_list _ _ HE.out]; have := HTOT.out; omega)
            go_wp2
            go_roundw
            case rel => exact ⟨k + 1, _, by omega, by go_num, rfl, HES.out, HE.out, hbs⟩
            case measure => simp [intOf]; omega
      · have hk1 : (0 : Int) < (k : Int) := by omega
        have hk2 : 0 < k := by omega
        have HK0 := hide hk0
        clear hk0
        have HPE0 := hide (show S ++ ⟨#[32]⟩ ++ ⟨#[40]⟩ = bytesOf (preI ls k) from HP0.out _ (fun e => absurd e HK0.out) (fun _ => rfl))
        obtain ⟨Sb, hSb⟩ : ∃ z, S ++ ⟨#[32]⟩ = z := ⟨_, rfl⟩
        have hsb : Sb.size ≤ 30000001 := by
          have z32 : (⟨#[32]⟩ : ByteArray).size = 1 := rfl
          rw [← hSb, ByteArray.size_append]
          omega
        rw [hSb] at HPE0
        have HPE := hide HPE0.out
        have hs1 : (Sb ++ ⟨#[40]⟩).size ≤ 30000002 := by
          have z40 : (⟨#[40]⟩ : ByteArray).size = 1 := rfl
          rw [ByteArray.size_append]
          omega
        obtain ⟨S1, hS1⟩ : ∃ z, Sb ++ ⟨#[40]⟩ = z := ⟨_, rfl⟩
        rw [hS1] at HPE hs1
        clear HPE0
        clear HP0 HS
        go_wp2
        go_loopw [3, 5] (fun v q wr => ∃ (j : Nat) (S2 : ByteArray), j ≤ cs.length ∧ q = .int .i64 j ∧ v = .string S2 ∧ S2.size ≤ 60000000 ∧ Hid (S2 = bytesOf (preI ls k ++ joinT ((cs.take j).map oneT))) ∧ Below w.heap.size w wr) (fun _ q _ => cs.length - (intOf q).toNat)
        case atStart => exact ⟨0, S1, Nat.zero_le _, rfl, by first | rfl | rw [hS1], by omega, (by show _ = _; rw [HPE.out]; simp [joinT_nil]), hbe⟩
        case round =>
          obtain ⟨j, S2, hj, rfl, rfl, hs2, HS2, hbs⟩ := hrel
          have e0 := (hbs.cell (p := ⟨b, o + k, none⟩) hbw).trans hc0
          by_cases hjl : j < cs.length
          · obtain ⟨b2, o2, rfl, hb2, hd⟩ := HIN.out (by omega)
            obtain ⟨d0, d1, d2⟩ := hd j hjl
            have hb2w : b2 < w.heap.size := by omega
            have q0 := (hbs.cell (p := ⟨b2, o2 + j * 3, none⟩) hb2w).trans d0
            have q1 := (hbs.cell (p := ⟨b2, o2 + j * 3 + 1, none⟩) hb2w).trans d1
            have q2 := (hbs.cell (p := ⟨b2, o2 + j * 3 + 2, none⟩) hb2w).trans d2
            have HT := hide (HTG.out _ (List.getElem_mem hjl))
            have HNX := hide (preC_next (preI ls k) cs j hjl)
            have HJL := hide (HCL.out (j + 1))
            obtain ⟨x, hx⟩ : ∃ x, cs[j] = x := ⟨_, rfl⟩
            rw [hx] at HT HNX q0 q1 q2
            clear hx hd d0 d1 d2
            have HQ := hide (fun W => oneText_any x W HT.out.1 HT.out.2)
            have hox : (bytesOf (oneT x)).size ≤ 1048602 := by rw [bytesOf_size]; have h1 := oneT_len HT.out.1; have h2 := HT.out.2; omega
            have HNW := hide (show ∀ S3 : ByteArray, (j = 0 → S3 = S2 ++ bytesOf (oneT x)) → (¬ j = 0 → S3 = S2 ++ ⟨#[32]⟩ ++ bytesOf (oneT x)) → S3 = bytesOf (preI ls k ++ joinT ((cs.take (j + 1)).map oneT)) ∧ S3.size ≤ 60000000 from fun S3 h1 h2 => by
              have e : S3 = bytesOf (preI ls k ++ joinT ((cs.take (j + 1)).map oneT)) := by
                rw [HNX.out]
                by_cases e : j = 0
                · rw [h1 e, HS2.out, if_pos e]; apply ByteArray.ext; simp [bytesOf]
                · rw [h2 e, HS2.out, if_neg e]; apply ByteArray.ext; simp [bytesOf]
              refine ⟨e, ?_⟩
              rw [size_list S3 _ e, List.length_append]
              have h3 := HJL.out
              have h4 := HTOT.out
              rw [← HEND.out, List.length_append, List.length_append] at h4
              omega)
            by_cases hj0 : j = 0
            · have HNA := hide (HNW.out _ (fun _ => rfl) (fun e => absurd hj0 e))
              have hj1 : ¬ ((0 : Int) < (j : Int)) := by omega
              clear HNW HNX HJL HT hj0
              go_wp2_with fail
              refine (HQ.out _).mono ?_
              rintro e w1 ⟨rfl, b1⟩
              have C1 := hide (hbs.trans (b1.mono hbs.size))
              clear b1 HQ e0 q0 q1 q2
              go_wp2
              go_roundw
              case rel => exact ⟨j + 1, _, by omega, by go_num, rfl, HNA.out.2, HNA.out.1, C1.out⟩
              case measure => simp [intOf]; omega
            · have HNA := hide (HNW.out _ (fun e => absurd e hj0) (fun _ => rfl))
              have hj1 : (0 : Int) < (j : Int) := by omega
              clear HNW HNX HJL HT hj0
              go_wp2_with fail
              refine (HQ.out _).mono ?_
              rintro e w1 ⟨rfl, b1⟩
              have C1 := hide (hbs.trans (b1.mono hbs.size))
              clear b1 HQ e0 q0 q1 q2
              go_wp2
              go_roundw
              case rel => exact ⟨j + 1, _, by omega, by go_num, rfl, HNA.out.2, HNA.out.1, C1.out⟩
              case measure => simp [intOf]; omega
          · have HE := hide (show S2 ++ ⟨#[41]⟩ = bytesOf (oneI (ls.take (k + 1))) by
              rw [HS2.out, show cs.take j = cs from List.take_of_length_le (by omega), ← HEND.out]
              apply ByteArray.ext
              simp [bytesOf])
            have HES := hide (show (S2 ++ ⟨#[41]⟩).size ≤ 30000000 by rw [size_list _ _ HE.out]; have := HTOT.out; omega)
            go_wp2
            go_roundw
            case rel => exact ⟨k + 1, _, by omega, by go_num, rfl, HES.out, HE.out, hbs⟩
            case measure => simp [intOf]; omega
    · have HT := hide (show S = bytesOf (oneI ls) by rw [HS.out, show ls.take k = ls from List.take_of_length_le (by omega)])
      have HSL := hide (show S.data.toList = oneI ls by rw [HT.out]; rfl)
      have HQ := hide (specParseIf_any S wr (by omega))
      by_cases hok : okIf ls
      · have HIF := hide (show ifL S.data.toList = some ls by rw [HSL.out]; exact (back_iff ls).2 hok)
        have HR := hide (show TxtIs ls S from ⟨fun _ => by rw [HT.out, oneI_ok hok], fun e => absurd hok e⟩)
        clear hok HS
        go_wp2_with fail
        refine HQ.out.mono ?_
        rintro e w1 ⟨⟨r, rfl, ho⟩, b1⟩
        rw [HIF.out] at ho
        have hv : View w1 w1.heap.size r (.l (ls.map dCs)) := ho.vw (Nat.le_refl _)
        obtain ⟨ra, rc, rfl, _, _, _, hx⟩ := cnss_of_view hv
        have C1 := hide (hbe.trans (b1.mono hbe.size))
        have HSA := hide (l14Same_any ra a ls ls rc cap w1.heap.size B w1 hx (HH.out.below C1.out hB) hln hln (fun cs hcs => (HSM.out.2 cs hcs).1) (fun cs hcs => (HSM.out.2 cs hcs).1))
        rw [HIF.out]
        clear ho hv hx b1 HQ
        go_wp2_with fail
        refine HSA.out.mono ?_
        rintro e w2 ⟨⟨z, rfl, hz⟩, b2⟩
        have hz1 : z = true := hz.2 (by trivial)
        subst hz1
        have C2 := hide (C1.out.trans (b2.mono C1.out.size))
        clear hz b2
        go_wp2
        go_ret
        exact ⟨⟨_, rfl, HR.out⟩, C2.out⟩
      · have HR := hide (show TxtIs ls ⟨#[]⟩ from ⟨fun e => absurd e hok, fun _ => rfl⟩)
        have HNO := hide (show ∀ l2, ifL S.data.toList = some l2 → ¬ l2 = ls from fun l2 e1 e2 => hok ((back_iff ls).1 (by rw [← HSL.out, e1, e2])))
        clear hok HS
        go_wp2_with fail
        refine HQ.out.mono ?_
        rintro e w1 ⟨⟨r, rfl, ho⟩, b1⟩
        have C1 := hide (hbe.trans (b1.mono hbe.size))
        cases hif : ifL S.data.toList with
        | none =>
          clear ho b1 HQ
          go_wp2
          go_ret
          exact ⟨⟨_, rfl, HR.out⟩, C1.out⟩
        | some l2 =>
          rw [hif] at ho
          have hv : View w1 w1.heap.size r (.l (l2.map dCs)) := ho.vw (Nat.le_refl _)
          obtain ⟨ra, rc, rfl, _, _, _, hx⟩ := cnss_of_view hv
          have hok2 := ifL_ok hif
          have HSA := hide (l14Same_any ra a l2 ls rc cap w1.heap.size B w1 hx (HH.out.below C1.out hB) (by have := hok2.2.1; omega) hln (fun cs hcs => by have := (hok2.2.2 cs hcs).2.1; omega) (fun cs hcs => (HSM.out.2 cs hcs).1))
          have HNE := hide (HNO.out l2 hif)
          clear ho hv hx b1 HQ hok2 hif HNO
          go_wp2_with fail
          refine HSA.out.mono ?_
          rintro e w2 ⟨⟨z, rfl, hz⟩, b2⟩
          have hz1 : z = false := by cases z; rfl; exact absurd (hz.1 rfl) HNE.out
          subst hz1
          have C2 := hide (C1.out.trans (b2.mono C1.out.size))
          clear hz b2
          go_wp2
          go_ret
          exact ⟨⟨_, rfl, HR.out⟩, C2.out⟩
end Go.Proofs.YtmgikfeknmbpbaaGreatDoor
