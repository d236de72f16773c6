/- live of the law: two shards. Conditions: none. -/
import Derived.Deep.RegionWith
import Derived.Test.YtpdfcojcmhadnaaGreatMg04
import Derived.Test.YtpdfcojcmhadnaaGreatMg16
set_option maxRecDepth 100000
set_option maxHeartbeats 16000000
set_option linter.unusedVariables false
namespace Go.Proofs.YtpdfcojcmhadnaaGreat
open S3
namespace S4
open Go.RowKit
theorem set_one {s : Sp} (h : fullS s = true) : IsSet [s] := isSet_cons.2 ⟨h, fun t ht => (by cases ht), isSet_nil⟩
theorem sl_one (X : World) (s : Sp) (n : Nat) (h : X.heap.size = n) : Sl (X.alloc (.cells #[.string s.1, .string s.2] 57)) (.slice (some ⟨n, 0, none⟩) 1 1) [s] := one_new X s n h

def At (l : List Sh) (k : ByteArray) (i : Nat) : Prop := i < l.length ∧ ∀ (j : Nat) (s : Sh), l[j]? = some s → inS s.sp k = decide (j = i)

theorem len1 (s : Sp) : [s].length ≤ 1000000 := by simp
theorem len1' (s : Sp) : [s].length ≤ 300000 := by simp
theorem touch_step {l : List Sh} {X : List Sp} {k : Nat} {s : Sh} (hs : l[k]? = some s) : ofTo (shMeets l X) (k + 1) = ofTo (shMeets l X) k ++ if (!(setL 1 [s.sp] X).isEmpty) = true then [(k : Int)] else [] := by
 rw [ofTo_succ, shMeets_at hs]
theorem touch_any (a : Option Addr) (c : Nat) (l : List Sh) (va : Value) (X : List Sp) (w : World) (hlen : l.length ≤ 1000000) (hlx : X.length ≤ 1000000) (hf : ∀ s ∈ l, fullS s.sp = true) (hX : IsSet X) (ha : Hl w a l) (hx : Sl w va X) :
  Calls Tryz.prog 37 #[.slice a l.length c, va] w (RetI w (touchL l X)) := by
 obtain ⟨ax, cx, rfl⟩ := hx.form
 have HA := Lib.hid ha
 have HXX := Lib.hid hx
 have HF := Lib.hid hf
 clear ha hx hf
 go_enter Tryz.func37, Tryz.ntmps37
 go_wp2
 go_loopw [5, 10] (fun v i wr => ∃ k : Nat, k ≤ l.length ∧ i = .int .i64 k ∧ OwnI wr w.heap.size v (ofTo (shMeets l X) k) ∧ Below w.heap.size w wr) (fun _ i _ => l.length - (RowKit.intOf i).toNat)
 case atStart => exact ⟨0, Nat.zero_le _, rfl, OwnI.nil _ _, Below.refl _ _⟩
 case round =>
  obtain ⟨k, hk, rfl, ho, hb⟩ := hrel
  obtain ⟨av, cv, rfl⟩ := ho.form
  have HO := Lib.hid ho
  have HB := Lib.hid hb
  clear ho
  by_cases hlt : k < l.length
  ·obtain ⟨s, hs⟩ := at_lt hlt
   obtain ⟨g, o, rfl, hg, d0, d1, d2⟩ := HA.out.at hs
   have c0 := cell_in hb hg d0
   have c1 := cell_in hb hg d1
   have c2 := cell_in hb hg d2
   have hgw := Nat.lt_of_lt_of_le hg hb.size
   have hk0 : (0 : Int) ≤ (k : Int) := by omega
   have hk1 : (k : Int) < (l.length : Int) := by omega
   have hdk : decide ((k : Int) < (l.length : Int)) = true := decide_eq_true hk1
   have HFS := Lib.hid (set_one (HF.out s (List.mem_of_getElem? hs)))
   have HL := Lib.hid (ofTo_len (shMeets l X) k)
   have HT := Lib.hid (touch_step (X := X) hs)
   have ONLY := only_any s
   unfold shV at ONLY
   clear hs hb d0 d1 d2
   generalize hm : (!(setL 1 [s.sp] X).isEmpty) = b at *
   have HM := Lib.hid hm
   clear hm
   go_wp2_with (go_at_call 62; refine (ONLY _).mono ?_; rintro r w1 ⟨rfl, rfl⟩)
   refine (meet_any' _ _ [s.sp] X _ (len1 _) hlx (sl_one _ s.sp _ (by simp)) (HXX.out.later (blAlloc (blAlloc (blAlloc HB.out _) _) _)) HFS.out hX).mono ?_
   rintro r w1 ⟨rfl, hb1⟩
   rw [HM.out]
   have HB1 := Lib.hid ((blAlloc (blAlloc (blAlloc HB.out _) _) _).trans (hb1.mono (blAlloc (blAlloc (blAlloc HB.out _) _) _).size))
   have HO1 := Lib.hid ((HO.out.later (blAlloc (blAlloc (blAlloc (Below.refl _ _) _) _) _)).later hb1)
   clear hb1 c0 c1 c2
   cases b
   ·go_wp2
    go_roundw
    case rel => exact ⟨k + 1, hlt, by go_num, by rw [HT.out]; simp only [Bool.false_eq_true, if_false, List.append_nil]; exact HO1.out, HB1.out⟩
    case measure => simp [RowKit.intOf]; omega
   ·go_wp2_with (at_builtin; refine append_i rfl _ _ rfl w.heap.size _ (ofTo (shMeets l X) k) rfl (HO1.out.later (blAlloc (Below.refl _ _) _)) _ _ _ [(k : Int)] rfl rfl (one_newI _ _ _ rfl) (by have := HL.out; simp; omega) (by have := HB1.out.size; simp; omega) ?_; intro v1 w3 h1 h2; have H1 := Lib.hid h1; have H2 := Lib.hid (grown_belowI (blAlloc HB1.out _) (HO1.out.later (blAlloc (Below.refl _ _) _)) (Nat.le_refl _) (by have := HB1.out.size; simp; omega) h2); clear h1 h2)
    go_roundw
    case rel => exact ⟨k + 1, hlt, by go_num, by rw [HT.out]; exact H1.out, H2.out⟩
    case measure => simp [RowKit.intOf]; omega
  ·obtain rfl : k = l.length := by omega
   have hdk : decide ((l.length : Int) < (l.length : Int)) = false := by simp
   clear hb
   go_wp2
   go_ret
   exact ⟨_, rfl, HO.out, HB.out⟩
theorem reftouch_any (a : Option Addr) (c : Nat) (l : List Sh) (va : Value) (X : List Sp) (w : World) (hlen : l.length ≤ 1000000) (hlx : X.length ≤ 300000) (ha : Hl w a l) (hx : Sl w va X) :
  Calls Tryz.prog 8 #[.slice a l.length c, va] w (RetI w (touchL l X)) := by
 obtain ⟨ax, cx, rfl⟩ := hx.form
 have HA := Lib.hid ha
 have HXX := Lib.hid hx
 clear ha hx
 go_enter Tryz.func8, Tryz.ntmps8
 go_wp2
 go_loopw [5, 6] (fun v i wr => ∃ k : Nat, k ≤ l.length ∧ i = .int .i64 k ∧ OwnI wr w.heap.size v (ofTo (shMeets l X) k) ∧ Below w.heap.size w wr) (fun _ i _ => l.length - (RowKit.intOf i).toNat)
 case atStart => exact ⟨0, Nat.zero_le _, rfl, OwnI.nil _ _, Below.refl _ _⟩
 case round =>
  obtain ⟨k, hk, rfl, ho, hb⟩ := hrel
  obtain ⟨av, cv, rfl⟩ := ho.form
  have HO := Lib.hid ho
  have HB := Lib.hid hb
  clear ho
  by_cases hlt : k < l.length
  ·obtain ⟨s, hs⟩ := at_lt hlt
   obtain ⟨g, o, rfl, hg, d0, d1, d2⟩ := HA.out.at hs
   have c0 := cell_in hb hg d0
   have c1 := cell_in hb hg d1
   have c2 := cell_in hb hg d2
   have hgw := Nat.lt_of_lt_of_le hg hb.size
   have hk0 : (0 : Int) ≤ (k : Int) := by omega
   have hk1 : (k : Int) < (l.length : Int) := by omega
   have hdk : decide ((k : Int) < (l.length : Int)) = true := decide_eq_true hk1
   have HL := Lib.hid (ofTo_len (shMeets l X) k)
   have HT := Lib.hid (touch_step (X := X) hs)
   have HCL := Lib.hid (setL_len 1 [s.sp] X)
   clear hs hb d0 d1 d2
   go_wp2_with fail
   refine (refcut_any _ _ [s.sp] X _ (len1' _) hlx (sl_one _ s.sp _ rfl) (HXX.out.later (blAlloc HB.out _))).mono ?_
   rintro r w1 ⟨v, rfl, ho1, hb1⟩
   have HB1 := Lib.hid ((blAlloc HB.out _).trans (hb1.mono (blAlloc HB.out _).size))
   have HO1 := Lib.hid ((HO.out.later (blAlloc (Below.refl _ _) _)).later hb1)
   obtain ⟨ac, cc, rfl⟩ := ho1.form
   clear hb1 ho1 c0 c1 c2
   generalize setL 1 [s.sp] X = C at *
   cases C with
   | nil =>
    have HT2 : Hid (ofTo (shMeets l X) (k + 1) = ofTo (shMeets l X) k) := by show _ = _; rw [HT.out]; simp
    go_wp2
    go_roundw
    case rel => exact ⟨k + 1, hlt, by go_num, by rw [HT2.out]; exact HO1.out, HB1.out⟩
    case measure => simp [RowKit.intOf]; omega
   | cons x C =>
    have HT2 : Hid (ofTo (shMeets l X) (k + 1) = ofTo (shMeets l X) k ++ [(k : Int)]) := by show _ = _; rw [HT.out]; simp
    have hpos : (0 : Int) < ((x :: C).length : Int) := by simp
    have hdp : decide ((0 : Int) < ((x :: C).length : Int)) = true := decide_eq_true hpos
    generalize (x :: C).length = n at *
    go_wp2_with (at_builtin; refine append_i rfl _ _ rfl w.heap.size _ (ofTo (shMeets l X) k) rfl (HO1.out.later (blAlloc (Below.refl _ _) _)) _ _ _ [(k : Int)] rfl rfl (one_newI _ _ _ rfl) (by have := HL.out; simp; omega) (by have := HB1.out.size; simp; omega) ?_; intro v1 w3 h1 h2; have H1 := Lib.hid h1; have H2 := Lib.hid (grown_belowI (blAlloc HB1.out _) (HO1.out.later (blAlloc (Below.refl _ _) _)) (Nat.le_refl _) (by have := HB1.out.size; simp; omega) h2); clear h1 h2)
    go_roundw
    case rel => exact ⟨k + 1, hlt, by go_num, by rw [HT2.out]; exact H1.out, H2.out⟩
    case measure => simp [RowKit.intOf]; omega
  ·obtain rfl : k = l.length := by omega
   have hdk : decide ((l.length : Int) < (l.length : Int)) = false := by simp
   clear hb
   go_wp2
   go_ret
   exact ⟨_, rfl, HO.out, HB.out⟩

def spAt (l : List Sh) (i : Int) : Sp := match l[i.toNat]? with | some s => s.sp | none => (⟨#[]⟩, ⟨#[]⟩)
theorem map_take {l : List Sh} {Q : List Int} {q : Nat} {x : Int} (h : Q[q]? = some x) : (Q.take (q + 1)).map (spAt l) = (Q.take q).map (spAt l) ++ [spAt l x] := by
 rw [List.take_add_one, h, List.map_append]
 rfl

def tM : ByteArray := ⟨#[109]⟩
def twoL (A B : Nat) : List Sh := [⟨(⟨#[]⟩, tM), some ⟨A, 0, none⟩, 3, [1, 2, 3]⟩, ⟨(tM, ⟨#[]⟩), some ⟨B, 0, none⟩, 3, [3, 4, 5]⟩]
theorem two_at (A B : Nat) (k : ByteArray) (i : Nat) (hi : i < 2) (h0 : inS (⟨#[]⟩, tM) k = decide (0 = i)) (h1 : inS (tM, ⟨#[]⟩) k = decide (1 = i)) : At (twoL A B) k i := by
 refine ⟨hi, fun j s hs => ?_⟩
 match j, hs with
 | 0, hs =>
  simp only [twoL, List.getElem?_cons_zero, Option.some.injEq] at hs
  subst hs
  exact h0
 | 1, hs =>
  simp only [twoL, List.getElem?_cons_succ, List.getElem?_cons_zero, Option.some.injEq] at hs
  subst hs
  exact h1
 | j + 2, hs => simp [twoL] at hs
theorem topo_n5 {l : List Sh} (h : Topo l) : ∀ s ∈ l, s.nodes.length ≤ 1000000 := fun s hs => Nat.le_trans (h.few s hs).2 (by decide)
end S4
end Go.Proofs.YtpdfcojcmhadnaaGreat
