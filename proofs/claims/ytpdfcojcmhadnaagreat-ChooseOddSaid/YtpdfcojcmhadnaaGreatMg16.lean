/- Key, Check, Point of the program and of the reference; num, small of the law. Conditions: as each theorem states. -/
import Derived.Deep.QuietTactic
import Derived.Test.YtpdfcojcmhadnaaGreatProg
import Derived.Test.YtpdfcojcmhadnaaGreatMg05
import Derived.Test.YtpdfcojcmhadnaaGreatMg15
import Derived.Test.YtpdfcojcmhadnaaGreatMg06
set_option maxRecDepth 100000
set_option maxHeartbeats 16000000
set_option linter.unusedVariables false
set_option linter.unusedSimpArgs false
namespace Go.Proofs.YtpdfcojcmhadnaaGreat
namespace S3
open Go.RowKit
def tailO : Option ByteArray → List Sp
 | none => []
 | some f => [(f, ⟨#[]⟩)]
def SetAt (P : ByteArray → Bool) (ms : List ByteArray) (k : Nat) (o : Option ByteArray) (acc : List Sp) : Prop := ∃ done, acc = done ++ tailO o ∧ done ++ buildL P o (ms.drop k) = buildL P none ms ∧ acc.length ≤ k
theorem setAt_drop {ms : List ByteArray} {k : Nat} {x : ByteArray} (hs : ms[k]? = some x) : ms.drop k = x :: ms.drop (k + 1) := by
 obtain ⟨h1, rfl⟩ := List.getElem?_eq_some_iff.1 hs
 exact List.drop_eq_getElem_cons h1
theorem setAt_zero (P : ByteArray → Bool) (ms : List ByteArray) : SetAt P ms 0 none [] := ⟨[], rfl, rfl, Nat.le_refl _⟩
theorem setAt_open {P : ByteArray → Bool} {ms : List ByteArray} {k : Nat} {acc : List Sp} {x : ByteArray} (h : SetAt P ms k none acc) (hs : ms[k]? = some x) (hp : P x = true) : SetAt P ms (k + 1) (some x) (acc ++ [(x, ⟨#[]⟩)]) := by
 obtain ⟨d, rfl, h2, h3⟩ := h
 rw [setAt_drop hs] at h2
 refine ⟨d, by simp [tailO], ?_, by simp [tailO] at h3 ⊢; omega⟩
 rw [buildL.eq_3, if_pos hp] at h2
 exact h2
theorem setAt_none {P : ByteArray → Bool} {ms : List ByteArray} {k : Nat} {acc : List Sp} {x : ByteArray} (h : SetAt P ms k none acc) (hs : ms[k]? = some x) (hp : P x = false) : SetAt P ms (k + 1) none acc := by
 obtain ⟨d, rfl, h2, h3⟩ := h
 rw [setAt_drop hs] at h2
 refine ⟨d, rfl, ?_, by omega⟩
 rw [buildL.eq_3, if_neg (by rw [hp]; simp)] at h2
 exact h2
theorem setAt_stay {P : ByteArray → Bool} {ms : List ByteArray} {k : Nat} {acc : List Sp} {x f : ByteArray} (h : SetAt P ms k (some f) acc) (hs : ms[k]? = some x) (hp : P x = true) : SetAt P ms (k + 1) (some f) acc := by
 obtain ⟨d, rfl, h2, h3⟩ := h
 rw [setAt_drop hs] at h2
 refine ⟨d, rfl, ?_, by omega⟩
 rw [buildL.eq_4, if_pos hp] at h2
 exact h2
theorem setAt_last {P : ByteArray → Bool} {ms : List ByteArray} {k : Nat} {acc : List Sp} {f : ByteArray} (h : SetAt P ms k (some f) acc) : ∃ d, acc = d ++ [(f, ⟨#[]⟩)] := by
 obtain ⟨d, h1, _⟩ := h
 exact ⟨d, h1⟩
theorem setAt_shut {P : ByteArray → Bool} {ms : List ByteArray} {k : Nat} {d : List Sp} {x f : ByteArray} (h : SetAt P ms k (some f) (d ++ [(f, ⟨#[]⟩)])) (hs : ms[k]? = some x) (hp : P x = false) : SetAt P ms (k + 1) none (d ++ [(f, x)]) := by
 obtain ⟨d', h1, h2, h3⟩ := h
 have e : d = d' := (List.append_inj' h1 rfl).1
 subst e
 rw [setAt_drop hs] at h2
 refine ⟨d ++ [(f, x)], by simp [tailO], ?_, by simp at h3 ⊢; omega⟩
 rw [buildL.eq_4, if_neg (by rw [hp]; simp)] at h2
 simpa using h2
theorem setAt_end {P : ByteArray → Bool} {ms : List ByteArray} {k : Nat} {o : Option ByteArray} {acc : List Sp} (h : SetAt P ms k o acc) (hk : ms.length ≤ k) : acc = buildL P none ms := by
 obtain ⟨d, rfl, h2, _⟩ := h
 rw [List.drop_eq_nil_of_le hk] at h2
 rw [← h2]
 cases o <;> rfl
theorem setAt_len {P : ByteArray → Bool} {ms : List ByteArray} {k : Nat} {o : Option ByteArray} {acc : List Sp} (h : SetAt P ms k o acc) : acc.length ≤ k := by
 obtain ⟨_, _, _, h⟩ := h
 exact h
theorem set0_any (va vb : Value) (a b : List Sp) (w : World) (hla : a.length ≤ 300000) (hlb : b.length ≤ 300000) (ha : Sl w va a) (hb : Sl w vb b) :
  Calls Tryz.prog 47 #[va, vb, .int .i64 0] w (RetO w (setL 0 a b)) := by
 obtain ⟨aa, ca, rfl⟩ := ha.form
 obtain ⟨ab, cb, rfl⟩ := hb.form
 have hlab : (a ++ b).length ≤ 600000 := by simp; omega
 replace hla : a.length ≤ 1000000 := by omega
 replace hlb : b.length ≤ 1000000 := by omega
 have HLAB := Lib.hid hlab
 have HA := Lib.hid ha
 have HB := Lib.hid hb
 have hla3 : ([] : List Sp).length + a.length ≤ 4000000 := by simp; omega
 have hlb3 : ([] ++ a : List Sp).length + b.length ≤ 4000000 := by simp; omega
 have HLA3 := Lib.hid hla3
 have HLB3 := Lib.hid hlb3
 clear ha hb hlab hla3 hlb3
 go_enter Tryz.func47, Tryz.ntmps47
 go_wp2_with (first
  | (at_builtin; refine append_sp rfl (.tmp 14) (.tmp 15) rfl w.heap.size _ [] rfl (own_empty w) _ a rfl (HA.out.later (blAlloc (Below.refl _ _) _)) HLA3.out (by simp) ?_; intro v1 w1 h1 h2; have H1 := Lib.hid h1; have HX1 := Lib.hid (grown_below (blAlloc (Below.refl _ _) _) (own_empty w) (Nat.le_refl _) (by simp) h2); clear h1 h2)
  | (at_builtin; refine append_sp rfl (.tmp 16) (.tmp 17) rfl w.heap.size _ ([] ++ a) rfl H1.out _ b rfl (HB.out.later HX1.out) HLB3.out HX1.out.size ?_; intro v2 w2 h1 h2; have H2 : Hid (OwnL w2 w.heap.size v2 (a ++ b)) := h1; have HX2 := Lib.hid (grown_below HX1.out H1.out (Nat.le_refl _) HX1.out.size h2); clear h1 h2))
 refine (marks_any _ (a ++ b) _ (by have := HLAB.out; omega) H2.out.sl).mono ?_
 rintro e w3 ⟨vm, rfl, hom, hbm⟩
 obtain ⟨am, cm, rfl⟩ := hom.form
 have HML : Hid ((marksL (a ++ b)).length ≤ 1200000) := Nat.le_trans (marksL_len _) (by have := HLAB.out; omega)
 have HM := Lib.hid hom.tl
 have HX3 := Lib.hid (HX2.out.trans (hbm.mono HX2.out.size))
 have HSET : Hid (buildL (fun k => wantB 0 (memL a k) (memL b k)) none (marksL (a ++ b)) = setL 0 a b) := rfl
 generalize marksL (a ++ b) = ms at *
 have hms := HML.out
 clear hom hbm HX1 HX2 H1 H2 HLA3 HLB3
 go_wp2
 go_loopw [8, 9, 10] (fun v op i wr => ∃ (k : Nat) (oo : Option ByteArray) (acc : List Sp), k ≤ ms.length ∧ i = .int .i64 k ∧ op = .bool oo.isSome ∧ SetAt (fun k => wantB 0 (memL a k) (memL b k)) ms k oo acc ∧ OwnL wr w3.heap.size v acc ∧ Below w3.heap.size w3 wr) (fun _ _ i _ => ms.length - (RowKit.intOf i).toNat)
 case atStart => exact ⟨0, none, [], Nat.zero_le _, rfl, rfl, setAt_zero _ _, OwnL.nil _ _, Below.refl _ _⟩
 case round =>
  obtain ⟨k, oo, acc, hk, rfl, rfl, hj, ho, hbl⟩ := hrel
  have HJ := Lib.hid hj
  have HO := Lib.hid ho
  have HBL := Lib.hid hbl
  have HBW := Lib.hid (HX3.out.trans (hbl.mono HX3.out.size))
  obtain ⟨av, cv, rfl⟩ := ho.form
  have hacc : acc.length ≤ 1200000 := Nat.le_trans (setAt_len hj) (Nat.le_trans hk HML.out)
  clear hj ho
  by_cases hlt : k < ms.length
  ·obtain ⟨z, hz⟩ := at_lt hlt
   obtain ⟨gz, oz, rfl, hgz, cz⟩ := HM.out.at hz
   replace cz := cell_in hbl hgz cz
   have hgzw := Nat.lt_of_lt_of_le hgz hbl.size
   have HZ := Lib.hid hz
   have hk0 : (0 : Int) ≤ (k : Int) := by omega
   have hk1 : (k : Int) < (ms.length : Int) := by omega
   clear hz hbl
   cases hx : memL a z <;> cases hy : memL b z
   ·have HA1 := Lib.hid hx
    have HA2 := Lib.hid hy
    have HP : Hid (wantB 0 (memL a z) (memL b z) = false) := by show wantB _ _ _ = _; rw [hx, hy]; rfl
    clear hx hy
    go_wp2_with fail
    refine region_aft (by kernel_rfl) (by kernel_rfl) ?_
    repeat (go_big_quiet_step (first
     | (go_at_call_of 71 (Value.slice aa a.length ca); exact aft_of ((refhas_any _ a z _ hla (HA.out.later (Below.trans HBW.out ((Aft.h _).mono HBW.out.size)))).mono fun e w' h => ⟨h.1.trans (by rw [HA1.out]), h.2⟩))
     | (go_at_call_of 71 (Value.slice ab b.length cb); exact aft_of ((refhas_any _ b z _ hlb (HB.out.later (Below.trans HBW.out ((Aft.h _).mono HBW.out.size)))).mono fun e w' h => ⟨h.1.trans (by rw [HA2.out]), h.2⟩))))
    refine wpQuiet_nil ?_
    rintro w4 ⟨y4, rfl⟩
    have hy4 := y4.h
    generalize y4.x = w4 at hy4 ⊢
    clear y4
    have HO4 := Lib.hid (HO.out.later hy4)
    have HB4 := Lib.hid (HBL.out.trans (hy4.mono HBL.out.size))
    have cz4 := cell_in hy4 hgzw cz
    have hgz4 := Nat.lt_of_lt_of_le hgzw hy4.size
    clear hy4 cz hgzw
    cases oo with
    | none =>
     go_wp2
     go_roundw
     case rel => exact ⟨k + 1, none, acc, hlt, by go_num, rfl, setAt_none HJ.out HZ.out HP.out, HO4.out, HB4.out⟩
     case measure => simp [RowKit.intOf]; omega
    | some f =>
     obtain ⟨d, rfl⟩ := setAt_last HJ.out
     obtain ⟨gr, cr, he, hgr, hgrw, hn, hcm, hrow, hfr⟩ := HO4.out.row (by simp)
     simp only [Value.slice.injEq, true_and] at he
     obtain ⟨rfl, rfl⟩ := he
     obtain ⟨m, hm⟩ : ∃ m, d.length = m := ⟨_, rfl⟩
     have hlm : (d ++ [(f, (⟨#[]⟩ : ByteArray))]).length = m + 1 := by simp [hm]
     have HOx : Hid (OwnL w4 w3.heap.size (.slice (some ⟨gr, 0, none⟩) (m + 1) cv) (d ++ [(f, ⟨#[]⟩)])) := by show OwnL _ _ _ _; rw [← hlm]; exact HO4.out
     clear HO4 HO
     rw [hlm] at hn hfr ⊢
     obtain ⟨r0, r1⟩ := hrow m (f, ⟨#[]⟩) (by simp [← hm])
     have f1 := hfr (m * 2 + 1) (by omega)
     rw [Nat.zero_add] at r0 r1
     have hm0 : (0 : Int) ≤ (m : Int) := by omega
     have hm1 : (m : Int) < (m : Int) + 1 := by omega
     have hmk : m + 1 ≤ k := by have := setAt_len HJ.out; omega
     have HMM := Lib.hid hm
     clear hlm hm hrow hfr hacc
     go_wp2
     go_roundw
     case rel => exact ⟨k + 1, none, d ++ [(f, z)], hlt, by go_num, rfl, setAt_shut HJ.out HZ.out HP.out, OwnL.setTo (cur := (f, ⟨#[]⟩)) HOx.out z HMM.out, blSet HB4.out (p := ⟨gr, m * 2 + 1, none⟩) hgr _⟩
     case measure => simp [RowKit.intOf]; omega
   ·have HA1 := Lib.hid hx
    have HA2 := Lib.hid hy
    have HP : Hid (wantB 0 (memL a z) (memL b z) = true) := by show wantB _ _ _ = _; rw [hx, hy]; rfl
    clear hx hy
    go_wp2_with fail
    refine region_aft (by kernel_rfl) (by kernel_rfl) ?_
    repeat (go_big_quiet_step (first
     | (go_at_call_of 71 (Value.slice aa a.length ca); exact aft_of ((refhas_any _ a z _ hla (HA.out.later (Below.trans HBW.out ((Aft.h _).mono HBW.out.size)))).mono fun e w' h => ⟨h.1.trans (by rw [HA1.out]), h.2⟩))
     | (go_at_call_of 71 (Value.slice ab b.length cb); exact aft_of ((refhas_any _ b z _ hlb (HB.out.later (Below.trans HBW.out ((Aft.h _).mono HBW.out.size)))).mono fun e w' h => ⟨h.1.trans (by rw [HA2.out]), h.2⟩))))
    refine wpQuiet_nil ?_
    rintro w4 ⟨y4, rfl⟩
    have hy4 := y4.h
    generalize y4.x = w4 at hy4 ⊢
    clear y4
    have HO4 := Lib.hid (HO.out.later hy4)
    have HB4 := Lib.hid (HBL.out.trans (hy4.mono HBL.out.size))
    have cz4 := cell_in hy4 hgzw cz
    have hgz4 := Nat.lt_of_lt_of_le hgzw hy4.size
    clear hy4 cz hgzw
    cases oo with
    | none =>
     go_wp2_with (at_builtin; refine append_sp rfl (.tmp 60) (.tmp 66) rfl w3.heap.size _ acc rfl (HO4.out.later (blAlloc (Below.refl _ _) _)) _ [(z, ⟨#[]⟩)] rfl (one_new _ (z, ⟨#[]⟩) _ (by simp)) (by simp only [List.length_cons, List.length_nil]; omega) (by have := HB4.out.size; simp; omega) ?_; intro v5 w5 h1 h2; have H5 := Lib.hid h1; have H6 := Lib.hid (grown_below (blAlloc HB4.out _) (HO4.out.later (blAlloc (Below.refl _ _) _)) (Nat.le_refl _) (by have := HB4.out.size; simp; omega) h2); clear h1 h2)
     go_roundw
     case rel => exact ⟨k + 1, some z, _, hlt, by go_num, rfl, setAt_open HJ.out HZ.out HP.out, H5.out, H6.out⟩
     case measure => simp [RowKit.intOf]; omega
    | some f =>
     go_wp2
     go_roundw
     case rel => exact ⟨k + 1, some f, acc, hlt, by go_num, rfl, setAt_stay HJ.out HZ.out HP.out, HO4.out, HB4.out⟩
     case measure => simp [RowKit.intOf]; omega
   ·have HA1 := Lib.hid hx
    have HA2 := Lib.hid hy
    have HP : Hid (wantB 0 (memL a z) (memL b z) = true) := by show wantB _ _ _ = _; rw [hx, hy]; rfl
    clear hx hy
    go_wp2_with fail
    refine region_aft (by kernel_rfl) (by kernel_rfl) ?_
    repeat (go_big_quiet_step (first
     | (go_at_call_of 71 (Value.slice aa a.length ca); exact aft_of ((refhas_any _ a z _ hla (HA.out.later (Below.trans HBW.out ((Aft.h _).mono HBW.out.size)))).mono fun e w' h => ⟨h.1.trans (by rw [HA1.out]), h.2⟩))
     | (go_at_call_of 71 (Value.slice ab b.length cb); exact aft_of ((refhas_any _ b z _ hlb (HB.out.later (Below.trans HBW.out ((Aft.h _).mono HBW.out.size)))).mono fun e w' h => ⟨h.1.trans (by rw [HA2.out]), h.2⟩))))
    refine wpQuiet_nil ?_
    rintro w4 ⟨y4, rfl⟩
    have hy4 := y4.h
    generalize y4.x = w4 at hy4 ⊢
    clear y4
    have HO4 := Lib.hid (HO.out.later hy4)
    have HB4 := Lib.hid (HBL.out.trans (hy4.mono HBL.out.size))
    have cz4 := cell_in hy4 hgzw cz
    have hgz4 := Nat.lt_of_lt_of_le hgzw hy4.size
    clear hy4 cz hgzw
    cases oo with
    | none =>
     go_wp2_with (at_builtin; refine append_sp rfl (.tmp 60) (.tmp 66) rfl w3.heap.size _ acc rfl (HO4.out.later (blAlloc (Below.refl _ _) _)) _ [(z, ⟨#[]⟩)] rfl (one_new _ (z, ⟨#[]⟩) _ (by simp)) (by simp only [List.length_cons, List.length_nil]; omega) (by have := HB4.out.size; simp; omega) ?_; intro v5 w5 h1 h2; have H5 := Lib.hid h1; have H6 := Lib.hid (grown_below (blAlloc HB4.out _) (HO4.out.later (blAlloc (Below.refl _ _) _)) (Nat.le_refl _) (by have := HB4.out.size; simp; omega) h2); clear h1 h2)
     go_roundw
     case rel => exact ⟨k + 1, some z, _, hlt, by go_num, rfl, setAt_open HJ.out HZ.out HP.out, H5.out, H6.out⟩
     case measure => simp [RowKit.intOf]; omega
    | some f =>
     go_wp2
     go_roundw
     case rel => exact ⟨k + 1, some f, acc, hlt, by go_num, rfl, setAt_stay HJ.out HZ.out HP.out, HO4.out, HB4.out⟩
     case measure => simp [RowKit.intOf]; omega
   ·have HA1 := Lib.hid hx
    have HA2 := Lib.hid hy
    have HP : Hid (wantB 0 (memL a z) (memL b z) = true) := by show wantB _ _ _ = _; rw [hx, hy]; rfl
    clear hx hy
    go_wp2_with fail
    refine region_aft (by kernel_rfl) (by kernel_rfl) ?_
    repeat (go_big_quiet_step (first
     | (go_at_call_of 71 (Value.slice aa a.length ca); exact aft_of ((refhas_any _ a z _ hla (HA.out.later (Below.trans HBW.out ((Aft.h _).mono HBW.out.size)))).mono fun e w' h => ⟨h.1.trans (by rw [HA1.out]), h.2⟩))
     | (go_at_call_of 71 (Value.slice ab b.length cb); exact aft_of ((refhas_any _ b z _ hlb (HB.out.later (Below.trans HBW.out ((Aft.h _).mono HBW.out.size)))).mono fun e w' h => ⟨h.1.trans (by rw [HA2.out]), h.2⟩))))
    refine wpQuiet_nil ?_
    rintro w4 ⟨y4, rfl⟩
    have hy4 := y4.h
    generalize y4.x = w4 at hy4 ⊢
    clear y4
    have HO4 := Lib.hid (HO.out.later hy4)
    have HB4 := Lib.hid (HBL.out.trans (hy4.mono HBL.out.size))
    have cz4 := cell_in hy4 hgzw cz
    have hgz4 := Nat.lt_of_lt_of_le hgzw hy4.size
    clear hy4 cz hgzw
    cases oo with
    | none =>
     go_wp2_with (at_builtin; refine append_sp rfl (.tmp 60) (.tmp 66) rfl w3.heap.size _ acc rfl (HO4.out.later (blAlloc (Below.refl _ _) _)) _ [(z, ⟨#[]⟩)] rfl (one_new _ (z, ⟨#[]⟩) _ (by simp)) (by simp only [List.length_cons, List.length_nil]; omega) (by have := HB4.out.size; simp; omega) ?_; intro v5 w5 h1 h2; have H5 := Lib.hid h1; have H6 := Lib.hid (grown_below (blAlloc HB4.out _) (HO4.out.later (blAlloc (Below.refl _ _) _)) (Nat.le_refl _) (by have := HB4.out.size; simp; omega) h2); clear h1 h2)
     go_roundw
     case rel => exact ⟨k + 1, some z, _, hlt, by go_num, rfl, setAt_open HJ.out HZ.out HP.out, H5.out, H6.out⟩
     case measure => simp [RowKit.intOf]; omega
    | some f =>
     go_wp2
     go_roundw
     case rel => exact ⟨k + 1, some f, acc, hlt, by go_num, rfl, setAt_stay HJ.out HZ.out HP.out, HO4.out, HB4.out⟩
     case measure => simp [RowKit.intOf]; omega
  ·have HF := Lib.hid (setAt_end HJ.out (by omega))
   clear hbl HJ hacc
   go_wp2
   go_ret
   exact ⟨_, rfl, by rw [← HSET.out, ← HF.out]; exact HO.out.mono HX3.out.size, HBW.out⟩
theorem set1_any (va vb : Value) (a b : List Sp) (w : World) (hla : a.length ≤ 300000) (hlb : b.length ≤ 300000) (ha : Sl w va a) (hb : Sl w vb b) :
  Calls Tryz.prog 47 #[va, vb, .int .i64 1] w (RetO w (setL 1 a b)) := by
 obtain ⟨aa, ca, rfl⟩ := ha.form
 obtain ⟨ab, cb, rfl⟩ := hb.form
 have hlab : (a ++ b).length ≤ 600000 := by simp; omega
 replace hla : a.length ≤ 1000000 := by omega
 replace hlb : b.length ≤ 1000000 := by omega
 have HLAB := Lib.hid hlab
 have HA := Lib.hid ha
 have HB := Lib.hid hb
 have hla3 : ([] : List Sp).length + a.length ≤ 4000000 := by simp; omega
 have hlb3 : ([] ++ a : List Sp).length + b.length ≤ 4000000 := by simp; omega
 have HLA3 := Lib.hid hla3
 have HLB3 := Lib.hid hlb3
 clear ha hb hlab hla3 hlb3
 go_enter Tryz.func47, Tryz.ntmps47
 go_wp2_with (first
  | (at_builtin; refine append_sp rfl (.tmp 14) (.tmp 15) rfl w.heap.size _ [] rfl (own_empty w) _ a rfl (HA.out.later (blAlloc (Below.refl _ _) _)) HLA3.out (by simp) ?_; intro v1 w1 h1 h2; have H1 := Lib.hid h1; have HX1 := Lib.hid (grown_below (blAlloc (Below.refl _ _) _) (own_empty w) (Nat.le_refl _) (by simp) h2); clear h1 h2)
  | (at_builtin; refine append_sp rfl (.tmp 16) (.tmp 17) rfl w.heap.size _ ([] ++ a) rfl H1.out _ b rfl (HB.out.later HX1.out) HLB3.out HX1.out.size ?_; intro v2 w2 h1 h2; have H2 : Hid (OwnL w2 w.heap.size v2 (a ++ b)) := h1; have HX2 := Lib.hid (grown_below HX1.out H1.out (Nat.le_refl _) HX1.out.size h2); clear h1 h2))
 refine (marks_any _ (a ++ b) _ (by have := HLAB.out; omega) H2.out.sl).mono ?_
 rintro e w3 ⟨vm, rfl, hom, hbm⟩
 obtain ⟨am, cm, rfl⟩ := hom.form
 have HML : Hid ((marksL (a ++ b)).length ≤ 1200000) := Nat.le_trans (marksL_len _) (by have := HLAB.out; omega)
 have HM := Lib.hid hom.tl
 have HX3 := Lib.hid (HX2.out.trans (hbm.mono HX2.out.size))
 have HSET : Hid (buildL (fun k => wantB 1 (memL a k) (memL b k)) none (marksL (a ++ b)) = setL 1 a b) := rfl
 generalize marksL (a ++ b) = ms at *
 have hms := HML.out
 clear hom hbm HX1 HX2 H1 H2 HLA3 HLB3
 go_wp2
 go_loopw [8, 9, 10] (fun v op i wr => ∃ (k : Nat) (oo : Option ByteArray) (acc : List Sp), k ≤ ms.length ∧ i = .int .i64 k ∧ op = .bool oo.isSome ∧ SetAt (fun k => wantB 1 (memL a k) (memL b k)) ms k oo acc ∧ OwnL wr w3.heap.size v acc ∧ Below w3.heap.size w3 wr) (fun _ _ i _ => ms.length - (RowKit.intOf i).toNat)
 case atStart => exact ⟨0, none, [], Nat.zero_le _, rfl, rfl, setAt_zero _ _, OwnL.nil _ _, Below.refl _ _⟩
 case round =>
  obtain ⟨k, oo, acc, hk, rfl, rfl, hj, ho, hbl⟩ := hrel
  have HJ := Lib.hid hj
  have HO := Lib.hid ho
  have HBL := Lib.hid hbl
  have HBW := Lib.hid (HX3.out.trans (hbl.mono HX3.out.size))
  obtain ⟨av, cv, rfl⟩ := ho.form
  have hacc : acc.length ≤ 1200000 := Nat.le_trans (setAt_len hj) (Nat.le_trans hk HML.out)
  clear hj ho
  by_cases hlt : k < ms.length
  ·obtain ⟨z, hz⟩ := at_lt hlt
   obtain ⟨gz, oz, rfl, hgz, cz⟩ := HM.out.at hz
   replace cz := cell_in hbl hgz cz
   have hgzw := Nat.lt_of_lt_of_le hgz hbl.size
   have HZ := Lib.hid hz
   have hk0 : (0 : Int) ≤ (k : Int) := by omega
   have hk1 : (k : Int) < (ms.length : Int) := by omega
   clear hz hbl
   cases hx : memL a z <;> cases hy : memL b z
   ·have HA1 := Lib.hid hx
    have HA2 := Lib.hid hy
    have HP : Hid (wantB 1 (memL a z) (memL b z) = false) := by show wantB _ _ _ = _; rw [hx, hy]; rfl
    clear hx hy
    go_wp2_with fail
    refine region_aft (by kernel_rfl) (by kernel_rfl) ?_
    repeat (go_big_quiet_step (first
     | (go_at_call_of 71 (Value.slice aa a.length ca); exact aft_of ((refhas_any _ a z _ hla (HA.out.later (Below.trans HBW.out ((Aft.h _).mono HBW.out.size)))).mono fun e w' h => ⟨h.1.trans (by rw [HA1.out]), h.2⟩))
     | (go_at_call_of 71 (Value.slice ab b.length cb); exact aft_of ((refhas_any _ b z _ hlb (HB.out.later (Below.trans HBW.out ((Aft.h _).mono HBW.out.size)))).mono fun e w' h => ⟨h.1.trans (by rw [HA2.out]), h.2⟩))))
    refine wpQuiet_nil ?_
    rintro w4 ⟨y4, rfl⟩
    have hy4 := y4.h
    generalize y4.x = w4 at hy4 ⊢
    clear y4
    have HO4 := Lib.hid (HO.out.later hy4)
    have HB4 := Lib.hid (HBL.out.trans (hy4.mono HBL.out.size))
    have cz4 := cell_in hy4 hgzw cz
    have hgz4 := Nat.lt_of_lt_of_le hgzw hy4.size
    clear hy4 cz hgzw
    cases oo with
    | none =>
     go_wp2
     go_roundw
     case rel => exact ⟨k + 1, none, acc, hlt, by go_num, rfl, setAt_none HJ.out HZ.out HP.out, HO4.out, HB4.out⟩
     case measure => simp [RowKit.intOf]; omega
    | some f =>
     obtain ⟨d, rfl⟩ := setAt_last HJ.out
     obtain ⟨gr, cr, he, hgr, hgrw, hn, hcm, hrow, hfr⟩ := HO4.out.row (by simp)
     simp only [Value.slice.injEq, true_and] at he
     obtain ⟨rfl, rfl⟩ := he
     obtain ⟨m, hm⟩ : ∃ m, d.length = m := ⟨_, rfl⟩
     have hlm : (d ++ [(f, (⟨#[]⟩ : ByteArray))]).length = m + 1 := by simp [hm]
     have HOx : Hid (OwnL w4 w3.heap.size (.slice (some ⟨gr, 0, none⟩) (m + 1) cv) (d ++ [(f, ⟨#[]⟩)])) := by show OwnL _ _ _ _; rw [← hlm]; exact HO4.out
     clear HO4 HO
     rw [hlm] at hn hfr ⊢
     obtain ⟨r0, r1⟩ := hrow m (f, ⟨#[]⟩) (by simp [← hm])
     have f1 := hfr (m * 2 + 1) (by omega)
     rw [Nat.zero_add] at r0 r1
     have hm0 : (0 : Int) ≤ (m : Int) := by omega
     have hm1 : (m : Int) < (m : Int) + 1 := by omega
     have hmk : m + 1 ≤ k := by have := setAt_len HJ.out; omega
     have HMM := Lib.hid hm
     clear hlm hm hrow hfr hacc
     go_wp2
     go_roundw
     case rel => exact ⟨k + 1, none, d ++ [(f, z)], hlt, by go_num, rfl, setAt_shut HJ.out HZ.out HP.out, OwnL.setTo (cur := (f, ⟨#[]⟩)) HOx.out z HMM.out, blSet HB4.out (p := ⟨gr, m * 2 + 1, none⟩) hgr _⟩
     case measure => simp [RowKit.intOf]; omega
   ·have HA1 := Lib.hid hx
    have HA2 := Lib.hid hy
    have HP : Hid (wantB 1 (memL a z) (memL b z) = false) := by show wantB _ _ _ = _; rw [hx, hy]; rfl
    clear hx hy
    go_wp2_with fail
    refine region_aft (by kernel_rfl) (by kernel_rfl) ?_
    repeat (go_big_quiet_step (first
     | (go_at_call_of 71 (Value.slice aa a.length ca); exact aft_of ((refhas_any _ a z _ hla (HA.out.later (Below.trans HBW.out ((Aft.h _).mono HBW.out.size)))).mono fun e w' h => ⟨h.1.trans (by rw [HA1.out]), h.2⟩))
     | (go_at_call_of 71 (Value.slice ab b.length cb); exact aft_of ((refhas_any _ b z _ hlb (HB.out.later (Below.trans HBW.out ((Aft.h _).mono HBW.out.size)))).mono fun e w' h => ⟨h.1.trans (by rw [HA2.out]), h.2⟩))))
    refine wpQuiet_nil ?_
    rintro w4 ⟨y4, rfl⟩
    have hy4 := y4.h
    generalize y4.x = w4 at hy4 ⊢
    clear y4
    have HO4 := Lib.hid (HO.out.later hy4)
    have HB4 := Lib.hid (HBL.out.trans (hy4.mono HBL.out.size))
    have cz4 := cell_in hy4 hgzw cz
    have hgz4 := Nat.lt_of_lt_of_le hgzw hy4.size
    clear hy4 cz hgzw
    cases oo with
    | none =>
     go_wp2
     go_roundw
     case rel => exact ⟨k + 1, none, acc, hlt, by go_num, rfl, setAt_none HJ.out HZ.out HP.out, HO4.out, HB4.out⟩
     case measure => simp [RowKit.intOf]; omega
    | some f =>
     obtain ⟨d, rfl⟩ := setAt_last HJ.out
     obtain ⟨gr, cr, he, hgr, hgrw, hn, hcm, hrow, hfr⟩ := HO4.out.row (by simp)
     simp only [Value.slice.injEq, true_and] at he
     obtain ⟨rfl, rfl⟩ := he
     obtain ⟨m, hm⟩ : ∃ m, d.length = m := ⟨_, rfl⟩
     have hlm : (d ++ [(f, (⟨#[]⟩ : ByteArray))]).length = m + 1 := by simp [hm]
     have HOx : Hid (OwnL w4 w3.heap.size (.slice (some ⟨gr, 0, none⟩) (m + 1) cv) (d ++ [(f, ⟨#[]⟩)])) := by show OwnL _ _ _ _; rw [← hlm]; exact HO4.out
     clear HO4 HO
     rw [hlm] at hn hfr ⊢
     obtain ⟨r0, r1⟩ := hrow m (f, ⟨#[]⟩) (by simp [← hm])
     have f1 := hfr (m * 2 + 1) (by omega)
     rw [Nat.zero_add] at r0 r1
     have hm0 : (0 : Int) ≤ (m : Int) := by omega
     have hm1 : (m : Int) < (m : Int) + 1 := by omega
     have hmk : m + 1 ≤ k := by have := setAt_len HJ.out; omega
     have HMM := Lib.hid hm
     clear hlm hm hrow hfr hacc
     go_wp2
     go_roundw
     case rel => exact ⟨k + 1, none, d ++ [(f, z)], hlt, by go_num, rfl, setAt_shut HJ.out HZ.out HP.out, OwnL.setTo (cur := (f, ⟨#[]⟩)) HOx.out z HMM.out, blSet HB4.out (p := ⟨gr, m * 2 + 1, none⟩) hgr _⟩
     case measure => simp [RowKit.intOf]; omega
   ·have HA1 := Lib.hid hx
    have HA2 := Lib.hid hy
    have HP : Hid (wantB 1 (memL a z) (memL b z) = false) := by show wantB _ _ _ = _; rw [hx, hy]; rfl
    clear hx hy
    go_wp2_with fail
    refine region_aft (by kernel_rfl) (by kernel_rfl) ?_
    repeat (go_big_quiet_step (first
     | (go_at_call_of 71 (Value.slice aa a.length ca); exact aft_of ((refhas_any _ a z _ hla (HA.out.later (Below.trans HBW.out ((Aft.h _).mono HBW.out.size)))).mono fun e w' h => ⟨h.1.trans (by rw [HA1.out]), h.2⟩))
     | (go_at_call_of 71 (Value.slice ab b.length cb); exact aft_of ((refhas_any _ b z _ hlb (HB.out.later (Below.trans HBW.out ((Aft.h _).mono HBW.out.size)))).mono fun e w' h => ⟨h.1.trans (by rw [HA2.out]), h.2⟩))))
    refine wpQuiet_nil ?_
    rintro w4 ⟨y4, rfl⟩
    have hy4 := y4.h
    generalize y4.x = w4 at hy4 ⊢
    clear y4
    have HO4 := Lib.hid (HO.out.later hy4)
    have HB4 := Lib.hid (HBL.out.trans (hy4.mono HBL.out.size))
    have cz4 := cell_in hy4 hgzw cz
    have hgz4 := Nat.lt_of_lt_of_le hgzw hy4.size
    clear hy4 cz hgzw
    cases oo with
    | none =>
     go_wp2
     go_roundw
     case rel => exact ⟨k + 1, none, acc, hlt, by go_num, rfl, setAt_none HJ.out HZ.out HP.out, HO4.out, HB4.out⟩
     case measure => simp [RowKit.intOf]; omega
    | some f =>
     obtain ⟨d, rfl⟩ := setAt_last HJ.out
     obtain ⟨gr, cr, he, hgr, hgrw, hn, hcm, hrow, hfr⟩ := HO4.out.row (by simp)
     simp only [Value.slice.injEq, true_and] at he
     obtain ⟨rfl, rfl⟩ := he
     obtain ⟨m, hm⟩ : ∃ m, d.length = m := ⟨_, rfl⟩
     have hlm : (d ++ [(f, (⟨#[]⟩ : ByteArray))]).length = m + 1 := by simp [hm]
     have HOx : Hid (OwnL w4 w3.heap.size (.slice (some ⟨gr, 0, none⟩) (m + 1) cv) (d ++ [(f, ⟨#[]⟩)])) := by show OwnL _ _ _ _; rw [← hlm]; exact HO4.out
     clear HO4 HO
     rw [hlm] at hn hfr ⊢
     obtain ⟨r0, r1⟩ := hrow m (f, ⟨#[]⟩) (by simp [← hm])
     have f1 := hfr (m * 2 + 1) (by omega)
     rw [Nat.zero_add] at r0 r1
     have hm0 : (0 : Int) ≤ (m : Int) := by omega
     have hm1 : (m : Int) < (m : Int) + 1 := by omega
     have hmk : m + 1 ≤ k := by have := setAt_len HJ.out; omega
     have HMM := Lib.hid hm
     clear hlm hm hrow hfr hacc
     go_wp2
     go_roundw
     case rel => exact ⟨k + 1, none, d ++ [(f, z)], hlt, by go_num, rfl, setAt_shut HJ.out HZ.out HP.out, OwnL.setTo (cur := (f, ⟨#[]⟩)) HOx.out z HMM.out, blSet HB4.out (p := ⟨gr, m * 2 + 1, none⟩) hgr _⟩
     case measure => simp [RowKit.intOf]; omega
   ·have HA1 := Lib.hid hx
    have HA2 := Lib.hid hy
    have HP : Hid (wantB 1 (memL a z) (memL b z) = true) := by show wantB _ _ _ = _; rw [hx, hy]; rfl
    clear hx hy
    go_wp2_with fail
    refine region_aft (by kernel_rfl) (by kernel_rfl) ?_
    repeat (go_big_quiet_step (first
     | (go_at_call_of 71 (Value.slice aa a.length ca); exact aft_of ((refhas_any _ a z _ hla (HA.out.later (Below.trans HBW.out ((Aft.h _).mono HBW.out.size)))).mono fun e w' h => ⟨h.1.trans (by rw [HA1.out]), h.2⟩))
     | (go_at_call_of 71 (Value.slice ab b.length cb); exact aft_of ((refhas_any _ b z _ hlb (HB.out.later (Below.trans HBW.out ((Aft.h _).mono HBW.out.size)))).mono fun e w' h => ⟨h.1.trans (by rw [HA2.out]), h.2⟩))))
    refine wpQuiet_nil ?_
    rintro w4 ⟨y4, rfl⟩
    have hy4 := y4.h
    generalize y4.x = w4 at hy4 ⊢
    clear y4
    have HO4 := Lib.hid (HO.out.later hy4)
    have HB4 := Lib.hid (HBL.out.trans (hy4.mono HBL.out.size))
    have cz4 := cell_in hy4 hgzw cz
    have hgz4 := Nat.lt_of_lt_of_le hgzw hy4.size
    clear hy4 cz hgzw
    cases oo with
    | none =>
     go_wp2_with (at_builtin; refine append_sp rfl (.tmp 60) (.tmp 66) rfl w3.heap.size _ acc rfl (HO4.out.later (blAlloc (Below.refl _ _) _)) _ [(z, ⟨#[]⟩)] rfl (one_new _ (z, ⟨#[]⟩) _ (by simp)) (by simp only [List.length_cons, List.length_nil]; omega) (by have := HB4.out.size; simp; omega) ?_; intro v5 w5 h1 h2; have H5 := Lib.hid h1; have H6 := Lib.hid (grown_below (blAlloc HB4.out _) (HO4.out.later (blAlloc (Below.refl _ _) _)) (Nat.le_refl _) (by have := HB4.out.size; simp; omega) h2); clear h1 h2)
     go_roundw
     case rel => exact ⟨k + 1, some z, _, hlt, by go_num, rfl, setAt_open HJ.out HZ.out HP.out, H5.out, H6.out⟩
     case measure => simp [RowKit.intOf]; omega
    | some f =>
     go_wp2
     go_roundw
     case rel => exact ⟨k + 1, some f, acc, hlt, by go_num, rfl, setAt_stay HJ.out HZ.out HP.out, HO4.out, HB4.out⟩
     case measure => simp [RowKit.intOf]; omega
  ·have HF := Lib.hid (setAt_end HJ.out (by omega))
   clear hbl HJ hacc
   go_wp2
   go_ret
   exact ⟨_, rfl, by rw [← HSET.out, ← HF.out]; exact HO.out.mono HX3.out.size, HBW.out⟩

theorem refunion_any (va : Value) (a : List Sp) (w : World) (hla : a.length ≤ 300000) (ha : Sl w va a) : Calls Tryz.prog 22 #[va] w (RetO w (uniL a)) := by
 obtain ⟨aa, ca, rfl⟩ := ha.form
 have HA := Lib.hid ha
 clear ha
 go_enter Tryz.func22, Tryz.ntmps22
 go_wp2_with fail
 refine (set0_any _ (.slice none 0 0) a [] w hla (by simp) HA.out ⟨none, 0, rfl, fun _ => rfl, fun h => absurd rfl h⟩).mono ?_
 rintro e w1 ⟨v, rfl, h1, h2⟩
 have H1 := Lib.hid h1
 have H2 := Lib.hid h2
 clear h1 h2
 go_wp2
 go_ret
 exact ⟨_, rfl, H1.out, H2.out⟩
theorem refcut_any (va vb : Value) (a b : List Sp) (w : World) (hla : a.length ≤ 300000) (hlb : b.length ≤ 300000) (ha : Sl w va a) (hb : Sl w vb b) : Calls Tryz.prog 21 #[va, vb] w (RetO w (setL 1 a b)) := by
 obtain ⟨aa, ca, rfl⟩ := ha.form
 obtain ⟨ab, cb, rfl⟩ := hb.form
 have HA := Lib.hid ha
 have HB := Lib.hid hb
 clear ha hb
 go_enter Tryz.func21, Tryz.ntmps21
 go_wp2_with fail
 refine (set1_any _ _ a b w hla hlb HA.out HB.out).mono ?_
 rintro e w1 ⟨v, rfl, h1, h2⟩
 have H1 := Lib.hid h1
 have H2 := Lib.hid h2
 clear h1 h2
 go_wp2
 go_ret
 exact ⟨_, rfl, H1.out, H2.out⟩
theorem setL_len (n : Int) (a b : List Sp) : (setL n a b).length ≤ 2 * (a.length + b.length) := by
 have h : ∀ (P : ByteArray → Bool) (m : List ByteArray) (o : Option ByteArray), (buildL P o m).length ≤ m.length + (if o.isSome then 1 else 0) := by
  intro P m
  induction m with
  | nil => intro o; cases o <;> simp [buildL]
  | cons x r ih =>
   intro o
   cases o with
   | none =>
    rw [buildL.eq_3]
    have h1 := ih (some x)
    have h2 := ih none
    split <;> simp at * <;> omega
   | some f =>
    rw [buildL.eq_4]
    have h1 := ih (some f)
    have h2 := ih none
    split <;> simp at * <;> omega
 have h1 := h (fun k => wantB n (memL a k) (memL b k)) (marksL (a ++ b)) none
 have h2 := marksL_len (a ++ b)
 simp at h1 h2
 unfold setL
 omega
theorem union_any (va : Value) (l : List Sp) (w : World) (hlen : l.length ≤ 1000000) (ha : Sl w va l) : Calls Tryz.prog 63 #[va] w (RetO w (uniL l)) :=
 (union_d va l w hlen ha).mono fun e w' ⟨u, hu, hr⟩ => by rw [← hu.is]; exact hr
theorem meet_any' (va vb : Value) (la lb : List Sp) (w : World) (hla : la.length ≤ 1000000) (hlb : lb.length ≤ 1000000) (ha : Sl w va la) (hb : Sl w vb lb) (sa : IsSet la) (sb : IsSet lb) :
  Calls Tryz.prog 61 #[va, vb] w fun e w' => e = .returned (.bool (!(setL 1 la lb).isEmpty)) ∧ Below w.heap.size w w' := by
 have h := meet_any va vb la lb w hla hlb ha hb
 rwa [cutL_is sa sb] at h

def keyB (k : ByteArray) : Bool := decide (1 ≤ k.size ∧ k.size ≤ 16)
theorem refkey_any (k : ByteArray) (w : World) : Calls Tryz.prog 43 #[.string k] w fun e w' => e = .returned (.bool (keyB k)) ∧ w = w' := by
 by_cases h1 : 1 ≤ k.size
 ·by_cases h2 : k.size ≤ 16
  ·have hv : keyB k = true := by simp [keyB]; omega
   have h1I : (1 : Int) ≤ (k.size : Int) := by omega
   have h2I : (k.size : Int) ≤ 16 := by omega
   have hd : decide ((1 : Int) ≤ (k.size : Int)) = true := by simpa using h1I
   have hd2 : decide ((k.size : Int) ≤ 16) = true := by simpa using h2I
   rw [hv]
   go_enter Tryz.func43, Tryz.ntmps43
   go_wp2
   go_ret
   exact ⟨rfl, rfl⟩
  ·have hv : keyB k = false := by simp [keyB]; omega
   have h1I : (1 : Int) ≤ (k.size : Int) := by omega
   have h2I : ¬ (k.size : Int) ≤ 16 := by omega
   have hd : decide ((1 : Int) ≤ (k.size : Int)) = true := by simpa using h1I
   have hd2 : decide ((k.size : Int) ≤ 16) = false := by simpa using h2I
   rw [hv]
   go_enter Tryz.func43, Tryz.ntmps43
   go_wp2
   go_ret
   exact ⟨rfl, rfl⟩
 ·have hv : keyB k = false := by simp [keyB]; omega
  have h1I : ¬ (1 : Int) ≤ (k.size : Int) := by omega
  have hd : decide ((1 : Int) ≤ (k.size : Int)) = false := by simpa using h1I
  rw [hv]
  go_enter Tryz.func43, Tryz.ntmps43
  go_wp2
  go_ret
  exact ⟨rfl, rfl⟩
theorem point_any (k : ByteArray) (w : World) (hk : k.size ≤ 1000000000) : Calls Tryz.prog 111 #[.string k] w fun e w' => e = .returned (.agg #[.string k, .string (k ++ ⟨#[0]⟩)]) ∧ Below w.heap.size w w' := by
 have hs : ((k.size + (⟨#[0]⟩ : ByteArray).size : Nat) : Int) ≤ IntKind.i64.max := by
  show ((k.size + 1 : Nat) : Int) ≤ 9223372036854775807
  omega
 go_enter Tryz.func111, Tryz.ntmps111
 go_wp2
 exact bodyPost_ret (v := .agg #[.string k, .string (k ++ ⟨#[0]⟩)]) (by simp [results, Tryz.results111, go_sem]) rfl ⟨rfl, blAlloc (Below.refl _ _) _⟩
def badS (s : Sp) : Bool := decide (17 < s.1.size) || decide (17 < s.2.size) || !fullS s
def checkN (l : List Sp) : Int := if 64 < l.length then 6 else if l.any badS then 30 else 0
theorem check_bad {l : List Sp} {k : Nat} {s : Sp} (hl : ¬ 64 < l.length) (hs : l[k]? = some s) (hb : badS s = true) : checkN l = 30 := by
 unfold checkN
 rw [if_neg hl, if_pos]
 exact List.any_eq_true.2 ⟨s, List.mem_of_getElem? hs, hb⟩
theorem check_good {l : List Sp} {k : Nat} (hl : ¬ 64 < l.length) (hk : l.length ≤ k) (h : (l.take k).any badS = false) : checkN l = 0 := by
 unfold checkN
 rw [List.take_of_length_le hk] at h
 rw [if_neg hl, h]
 rfl
end S3
end Go.Proofs.YtpdfcojcmhadnaaGreat
