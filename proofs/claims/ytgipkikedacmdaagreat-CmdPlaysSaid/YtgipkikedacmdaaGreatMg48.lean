/- A value that came in. Conditions: none. -/
import Derived.BigQuiet
import Derived.Deep.RegionHeld3
import Derived.Deep.CutRange
import Derived.Deep.CutBlock
import Derived.WalkSpells
import Derived.Deep.QuietTactic
import Derived.SizedLaws
import Derived.Test.YtgipkikedacmdaaGreatMg47
import Derived.Test.YtgipkikedacmdaaGreatMg19
import Derived.Test.YtgipkikedacmdaaGreatMg35
import Derived.Test.YtgipkikedacmdaaGreatMg33
import Derived.Test.YtgipkikedacmdaaGreatMg20
import Derived.Test.YtgipkikedacmdaaGreatMg17
import Derived.Test.YtgipkikedacmdaaGreatMg21
import Derived.Test.YtgipkikedacmdaaGreatMg18
import Derived.Test.YtgipkikedacmdaaGreatMg13
import Derived.Test.YtgipkikedacmdaaGreatMg12
import Derived.Test.YtgipkikedacmdaaGreatMg30
import Derived.Test.YtgipkikedacmdaaGreatMg15
import Derived.Test.YtgipkikedacmdaaGreatMg22
import Derived.Test.YtgipkikedacmdaaGreatMg00
import Derived.Test.YtgipkikedacmdaaGreatMg03
import Derived.Test.YtgipkikedacmdaaGreatMg40
import Derived.Test.YtgipkikedacmdaaGreatMg11
import Derived.Test.YtgipkikedacmdaaGreatMg08
import Derived.Test.YtgipkikedacmdaaGreatMg43
import Derived.Test.YtgipkikedacmdaaGreatMg39
import Derived.Test.YtgipkikedacmdaaGreatMg36
set_option maxRecDepth 100000
set_option maxHeartbeats 16000000
set_option linter.unusedVariables false
set_option linter.unusedSimpArgs false
namespace Go.Proofs.YtgipkikedacmdaaGreat
open Go.Lib renaming hid → hI
open S3 SN SP
namespace SC
open Go.ChangeShapes Go.WideShapes Go.ChangeAt Go.RowKit Go.Joins Go.Deep
def FewV (d : SD.Dd) : Prop := d.length ≤ 20000 ∧ SD.idsN d ≤ 100000
theorem few_v {F : List SD.Dp} {d : SD.Dd} (h : SD.toD F = d) (hf : FewV d) : SD.FewD F ∧ SD.idsN (SD.toD F) ≤ 1000000 := by
 subst h
 obtain ⟨h1, h2⟩ := hf
 have hl : (SD.toD F).length = F.length := by simp [SD.toD]
 refine ⟨⟨by omega, fun s hs => ?_⟩, by omega⟩
 have := SD.idsN_mem (d := SD.toD F) (x := s.d) (List.mem_map.2 ⟨s, hs, rfl⟩)
 have e : s.d.2.length = s.ids.length := rfl
 omega
def vlV (v : Vlu) (vd : Value) : Value := .agg #[.bool v.1, .int .i64 v.2.1.1, .int .i64 v.2.1.2, vd]
theorem fitDeps_any (vd : Value) (d : SD.Dd) (W : World) (hd : DlV W vd d) (hf : FewV d) : Calls Tryz.prog 135 #[vd] W fun e w' => e = .returned (.bool (decide (SD.checkD d = 0))) ∧ Below W.heap.size W w' := by
 obtain ⟨a, cp, F, rfl, hD, hT, hn⟩ := hd
 have HF := hI (few_v hT hf)
 have HD := hI hD
 have HT := hI hT
 clear hD hT hf hn
 by_cases hk : SD.checkD d = 0
 ·rw [decide_eq_true hk]
  go_enter Tryz.func135, Tryz.ntmps135
  go_wp2_with (first | (go_at_call 186; go_must (refine (SD.pcheck_any a cp F _ HF.out.1 HF.out.2 (HD.out.later (Below.refl _ _))).mono ?_; rintro e w2 ⟨rfl, h7⟩; rw [HT.out, hk]; have HB2 : Hid (Below W.heap.size W w2) := hI h7; clear h7)))
  go_ret
  exact ⟨rfl, HB2.out⟩
 ·rw [decide_eq_false hk]
  have hk2 : (SD.checkD d == 0) = false := by simpa using hk
  go_enter Tryz.func135, Tryz.ntmps135
  go_wp2_with (first | (go_at_call 186; go_must (refine (SD.pcheck_any a cp F _ HF.out.1 HF.out.2 (HD.out.later (Below.refl _ _))).mono ?_; rintro e w2 ⟨rfl, h7⟩; rw [HT.out]; have HB2 : Hid (Below W.heap.size W w2) := hI h7; clear h7)))
  go_ret
  exact ⟨rfl, HB2.out⟩
theorem isValue_any (v : Vlu) (vd : Value) (W : World) (hd : DlV W vd v.2.2) (hf : FewV v.2.2) : Calls Tryz.prog 138 #[vlV v vd] W fun e w' => e = .returned (.bool (valueB v)) ∧ Below W.heap.size W w' := by
 obtain ⟨gone, ⟨x, y⟩, d⟩ := v
 obtain ⟨a, cp, F, rfl, hD, hT, hn⟩ := hd
 simp only at hT hf
 have hln : F.length = d.length := by rw [← hT]; simp [SD.toD]
 have HLN := hI hln
 have HDE := hI (fun (Y : World) (hY : Below W.heap.size W Y) => fitDeps_any (.slice a F.length cp) d Y ⟨a, cp, F, rfl, hD.later hY, hT, hn⟩ hf)
 clear hD hT hf hn hln
 unfold vlV
 simp only
 have HC := hI (cell_box W #[.bool gone, .int .i64 x, .int .i64 y, .slice a F.length cp] 27)
 generalize F.length = nF at *
 cases gone
 ·cases hs : S1.isS (x, y)
  ·have hv : valueB (false, (x, y), d) = false := by unfold valueB; simp [hs]
   rw [hv]
   go_enter Tryz.func138, Tryz.ntmps138
   go_wp2_with (first | (go_at_call 50; go_must (refine (fitStamp_any (x, y) _).mono ?_; rw [hs]; rintro e w1 ⟨rfl, h5⟩; have c3 := HC.out _ h5 3 _ rfl; have hw1 := h5.size; simp only [World.size_alloc] at hw1; have HB1 : Hid (Below W.heap.size W w1) := hI (blThen (blAlloc (Below.refl _ _) _) h5); clear h5)))
   go_ret
   exact ⟨rfl, HB1.out⟩
  ·cases hk : decide (SD.checkD d = 0)
   ·have hk0 := of_decide_eq_false hk
    have hv : valueB (false, (x, y), d) = false := by unfold valueB; simp [hs, hk0]
    clear hk0
    rw [hv]
    go_enter Tryz.func138, Tryz.ntmps138
    go_wp2_with (first | (go_at_call 50; go_must (refine (fitStamp_any (x, y) _).mono ?_; rw [hs]; rintro e w1 ⟨rfl, h5⟩; have c3 := HC.out _ h5 3 _ rfl; have hw1 := h5.size; simp only [World.size_alloc] at hw1; have HB1 : Hid (Below W.heap.size W w1) := hI (blThen (blAlloc (Below.refl _ _) _) h5); clear h5)) | (go_at_call 135; go_must (refine (HDE.out _ HB1.out).mono ?_; rw [hk]; rintro e w2 ⟨rfl, h7⟩; have HB2 : Hid (Below W.heap.size W w2) := hI (blThen HB1.out h7); clear h7)))
    go_ret
    exact ⟨rfl, HB2.out⟩
   ·have hk0 := of_decide_eq_true hk
    have hv : valueB (false, (x, y), d) = true := by unfold valueB; simp [hs, hk0]
    clear hk0
    rw [hv]
    go_enter Tryz.func138, Tryz.ntmps138
    go_wp2_with (first | (go_at_call 50; go_must (refine (fitStamp_any (x, y) _).mono ?_; rw [hs]; rintro e w1 ⟨rfl, h5⟩; have c3 := HC.out _ h5 3 _ rfl; have hw1 := h5.size; simp only [World.size_alloc] at hw1; have HB1 : Hid (Below W.heap.size W w1) := hI (blThen (blAlloc (Below.refl _ _) _) h5); clear h5)) | (go_at_call 135; go_must (refine (HDE.out _ HB1.out).mono ?_; rw [hk]; rintro e w2 ⟨rfl, h7⟩; have HB2 : Hid (Below W.heap.size W w2) := hI (blThen HB1.out h7); clear h7)))
    go_ret
    exact ⟨rfl, HB2.out⟩
 ·by_cases h1 : x = 0
  ·by_cases h2 : y = 0
   ·subst h1
    subst h2
    have hz : decide (((0 : Int), (0 : Int)) = z2) = true := rfl
    by_cases hd0 : d = []
    ·have hv : valueB (true, (0, 0), d) = true := by unfold valueB; simp [hz, hd0]
     rw [hv]
     have hl0 : nF = 0 := by rw [HLN.out, hd0]; rfl
     subst hl0
     go_enter Tryz.func138, Tryz.ntmps138
     go_wp2
     go_ret
     exact ⟨rfl, blAlloc (Below.refl _ _) _⟩
    ·have hv : valueB (true, (0, 0), d) = false := by unfold valueB; simp [hz, hd0]
     rw [hv]
     have hl0 : ¬ nF = 0 := by rw [HLN.out]; exact fun e => hd0 (List.eq_nil_of_length_eq_zero e)
     have hl1 : ((nF : Int) == 0) = false := by simpa using hl0
     have hl2 : ¬ (nF : Int) = 0 := by omega
     go_enter Tryz.func138, Tryz.ntmps138
     go_wp2
     go_ret
     exact ⟨rfl, blAlloc (Below.refl _ _) _⟩
   ·subst h1
    have e2 : (y == 0) = false := by simpa using h2
    have hz : decide (((0 : Int), y) = z2) = false := decide_eq_false (fun e => h2 (congrArg Prod.snd e))
    have hv : valueB (true, (0, y), d) = false := by unfold valueB; simp [hz]
    rw [hv]
    go_enter Tryz.func138, Tryz.ntmps138
    go_wp2
    go_ret
    exact ⟨rfl, blAlloc (Below.refl _ _) _⟩
  ·have e1 : (x == 0) = false := by simpa using h1
   have hz : decide ((x, y) = z2) = false := decide_eq_false (fun e => h1 (congrArg Prod.fst e))
   have hv : valueB (true, (x, y), d) = false := by unfold valueB; simp [hz]
   rw [hv]
   go_enter Tryz.func138, Tryz.ntmps138
   go_wp2
   go_ret
   exact ⟨rfl, blAlloc (Below.refl _ _) _⟩

theorem refcheck8w_any (va : Value) (l : List Opr) (w : World) (hlen : l.length ≤ 9223372036854775807) (h : SlG eO w va l) (hn64 : ∀ o ∈ l, o.2.2.2 < 18446744073709551616) : Calls Tryz.prog 56 #[va] w fun e w' => e = .returned (.int .i64 (checkP l)) ∧ Below w.heap.size w w' := by
 by_cases h8 : 8 < l.length
 ·obtain ⟨a, cap, rfl⟩ := h.form
  clear h hn64
  have HV : Hid (checkP l = 6) := by unfold checkP; exact if_pos h8
  have h8I : (8 : Int) < (l.length : Int) := by omega
  go_enter Tryz.func56, Tryz.ntmps56
  go_wp2
  go_ret
  exact ⟨by rw [HV.out]; rfl, Below.refl _ _⟩
 ·exact refcheck8_any va l w (by omega) h hn64
theorem idsN_le9 {d : SD.Dd} {m : Nat} (h : ∀ x ∈ d, x.2.length ≤ m) (k : Nat) : SD.idsN (d.take k) ≤ d.length * m := by
 refine Nat.le_trans (SD.idsN_le8 (fun x hx => h x (List.mem_of_mem_take hx))) (Nat.mul_le_mul_right m ?_)
 rw [List.length_take]
 omega
theorem refcheckw_any (a : Option Addr) (c : Nat) (l : List SD.Dp) (w : World) (hlen : l.length ≤ 9223372036854775807) (hid : ∀ s ∈ l, s.ids.length ≤ 140737488355328) (hl : SD.Dl w a l) :
  Calls Tryz.prog 58 #[.slice a l.length c] w fun e w' => e = .returned (.int .i64 (SD.checkD (SD.toD l))) ∧ Below w.heap.size w w' := by
 by_cases hsm : l.length ≤ 8 ∧ SD.idsN (SD.toD l) ≤ 512
 ·refine SD.refcheck_any a c l w ⟨by omega, fun s hs => ?_⟩ (by omega) hl
  have := SD.idsN_le hs
  omega
 have HLE : Hid ((SD.toD l).length = l.length) := SD.toD_length l
 have HC : Hid (SD.checkD (SD.toD l) = 6) := hI (SD.check_many (by rw [HLE.out]; omega))
 have HL := hI hl
 have HID := hI hid
 clear hl hid
 by_cases h8 : 8 < l.length
 ·have h8I : (8 : Int) < (l.length : Int) := by omega
  have hd1 : decide ((8 : Int) < (l.length : Int)) = true := decide_eq_true h8I
  go_enter Tryz.func58, Tryz.ntmps58
  go_wp2
  go_loopw [3, 4] (fun v i wr => ∃ (k : Nat) (m : Int), k ≤ l.length ∧ v = .int .i64 m ∧ i = .int .i64 k ∧ Below w.heap.size w wr) (fun _ i _ => l.length - (RowKit.intOf i).toNat)
  case atStart => exact ⟨0, 0, Nat.zero_le _, rfl, rfl, Below.refl _ _⟩
  case round =>
   obtain ⟨k, m, hk, rfl, rfl, hb⟩ := hrel
   have HB := hI hb
   clear hb
   by_cases hlt : k < l.length
   ·obtain ⟨s, hs⟩ := SD.at_ltD hlt
    obtain ⟨b, o, rfl, hbg, hx, hy, hi⟩ := (HL.out.later HB.out).at hs
    have hk1 : (k : Int) < (l.length : Int) := by omega
    have hk0 : (0 : Int) ≤ (k : Int) := by omega
    have hdk : decide ((k : Int) < (l.length : Int)) = true := decide_eq_true hk1
    unfold SD.ilD at hy
    clear hs hi
    go_wp2
    go_roundw
    case rel => exact ⟨k + 1, _, hlt, rfl, by go_num, HB.out⟩
    case measure => simp [RowKit.intOf]; omega
   ·have hge : ¬ (k : Int) < (l.length : Int) := by omega
    have hdk : decide ((k : Int) < (l.length : Int)) = false := decide_eq_false hge
    go_wp2
    go_ret
    exact ⟨by rw [HC.out]; rfl, HB.out⟩
 ·have hd1 : decide ((8 : Int) < (l.length : Int)) = false := decide_eq_false (by omega)
  have HNK : Hid (∀ k, SD.idsN ((SD.toD l).take k) ≤ 1125899906842624) := hI (fun k => by
   have := idsN_le9 (d := SD.toD l) (m := 140737488355328) (fun x hx => by obtain ⟨s, hs, rfl⟩ := List.mem_map.1 hx; exact HID.out s hs) k
   have := HLE.out
   have : (SD.toD l).length * 140737488355328 ≤ 8 * 140737488355328 := Nat.mul_le_mul_right _ (by omega)
   omega)
  go_enter Tryz.func58, Tryz.ntmps58
  go_wp2
  go_loopw [3, 4] (fun v i wr => ∃ k : Nat, k ≤ l.length ∧ v = .int .i64 (SD.idsN ((SD.toD l).take k) : Nat) ∧ i = .int .i64 k ∧ Below w.heap.size w wr) (fun _ i _ => l.length - (RowKit.intOf i).toNat)
  case atStart => exact ⟨0, Nat.zero_le _, rfl, rfl, Below.refl _ _⟩
  case round =>
   obtain ⟨k, hk, rfl, rfl, hb⟩ := hrel
   have HB := hI hb
   clear hb
   by_cases hlt : k < l.length
   ·obtain ⟨s, hs⟩ := SD.at_ltD hlt
    obtain ⟨b, o, rfl, hbg, hx, hy, hi⟩ := (HL.out.later HB.out).at hs
    have hk1 : (k : Int) < (l.length : Int) := by omega
    have hk0 : (0 : Int) ≤ (k : Int) := by omega
    have hdk : decide ((k : Int) < (l.length : Int)) = true := decide_eq_true hk1
    have HFT := hI (SD.idsN_take (SD.toD_at hs))
    have hsl : s.ids.length ≤ 140737488355328 := HID.out s (List.mem_of_getElem? hs)
    have hnk : SD.idsN ((SD.toD l).take k) ≤ 1125899906842624 := HNK.out k
    unfold SD.ilD at hy
    clear hs hi
    generalize hG : SD.idsN ((SD.toD l).take k) = G at *
    clear hG
    go_wp2
    go_roundw
    case rel => exact ⟨k + 1, hlt, by rw [HFT.out]; go_num, by go_num, HB.out⟩
    case measure => simp [RowKit.intOf]; omega
   ·have hge : ¬ (k : Int) < (l.length : Int) := by omega
    have hdk : decide ((k : Int) < (l.length : Int)) = false := decide_eq_false hge
    have HTK : Hid (SD.idsN ((SD.toD l).take k) = SD.idsN (SD.toD l)) := by
     show _ = _
     rw [List.take_of_length_le (by rw [SD.toD_length]; omega)]
    have hG5 : 512 < SD.idsN ((SD.toD l).take k) := by
     rw [HTK.out]
     omega
    have hGn := HNK.out k
    generalize SD.idsN ((SD.toD l).take k) = G at *
    have hd2 : decide ((512 : Int) < (G : Int)) = true := decide_eq_true (by omega)
    clear HTK hsm
    go_wp2
    go_ret
    exact ⟨by rw [HC.out]; rfl, HB.out⟩

def lastW (l : List Wrt) : Option ByteArray := l.getLast?.map Prod.fst
def wOk (x : Wrt) : Bool := keyB x.1 && decide (SN.rtN x.2.1 = x.2.1) && (!x.2.2 || decide (x.2.1 = 0))
theorem writesB_cons (o : Option ByteArray) (x : Wrt) (l : List Wrt) : writesB o (x :: l) = (wOk x && aheadB o x.1 && writesB (some x.1) l) := by
 show (_ && _ && _ && _ && _) = _
 unfold wOk
 rfl
theorem writesB_nil (o : Option ByteArray) : writesB o [] = true := rfl
theorem writesB_snoc : ∀ (l : List Wrt) (o : Option ByteArray) (p : Wrt), writesB o (l ++ [p]) = (writesB o l && (wOk p && aheadB (if l = [] then o else lastW l) p.1))
 | [], o, p => by rw [List.nil_append, writesB_cons, writesB_nil, writesB_nil, if_pos rfl, Bool.and_true, Bool.true_and]
 | q :: l, o, p => by
  rw [List.cons_append, writesB_cons, writesB_snoc l, writesB_cons]
  have e : (if l = [] then some q.1 else lastW l) = (if q :: l = [] then o else lastW (q :: l)) := by
   rw [if_neg (by simp : ¬ q :: l = [])]
   cases l with
   | nil => simp [lastW]
   | cons r l => rw [if_neg (by simp : ¬ r :: l = [])]; simp [lastW]
  rw [e]
  simp only [Bool.and_assoc]
theorem writesB_front {l : List Wrt} (k : Nat) (o : Option ByteArray) (h : writesB o l = true) : writesB o (l.take k) = true := by
 induction l generalizing k o with
 | nil => simpa using h
 | cons q l ih =>
  cases k with
  | zero => exact writesB_nil _
  | succ k =>
   rw [List.take_succ_cons, writesB_cons, Bool.and_eq_true]
   rw [writesB_cons, Bool.and_eq_true] at h
   exact ⟨h.1, ih k _ h.2⟩
theorem writesB_step {l : List Wrt} {k : Nat} {p : Wrt} (hp : l[k]? = some p) (h : writesB none (l.take k) = true) : writesB none (l.take (k + 1)) = (wOk p && aheadB (if l.take k = [] then none else lastW (l.take k)) p.1) := by
 rw [List.take_add_one, hp]
 show writesB none (l.take k ++ [p]) = _
 rw [writesB_snoc, h, Bool.true_and]
theorem lastW_take {l : List Wrt} {k : Nat} {q : Wrt} (hq : l[k]? = some q) : lastW (l.take (k + 1)) = some q.1 := by
 unfold lastW
 rw [List.take_add_one, hq]
 simp
theorem writesB_bad {l : List Wrt} (k : Nat) (h : writesB none (l.take k) = false) : writesB none l = false := by
 cases h2 : writesB none l
 ·rfl
 ·rw [writesB_front k none h2] at h
  cases h
theorem isZeroValue_any (v : Vlu) (vd : Value) (W : World) (hd : DlV W vd v.2.2) : Calls Tryz.prog 137 #[vlV v vd] W fun e w' => e = .returned (.bool (decide (v = val0))) ∧ Below W.heap.size W w' := by
 obtain ⟨gone, ⟨x, y⟩, d⟩ := v
 obtain ⟨a, cp, F, rfl, hD, hT, hn⟩ := hd
 simp only at hT
 have hln : F.length = d.length := by rw [← hT]; simp [SD.toD]
 have HLN := hI hln
 clear hD hT hn hln
 unfold vlV
 simp only
 have HC := hI (cell_box W #[.bool gone, .int .i64 x, .int .i64 y, .slice a F.length cp] 27)
 generalize F.length = nF at *
 cases gone
 ·by_cases h1 : x = 0
  ·by_cases h2 : y = 0
   ·subst h1
    subst h2
    have hz : decide (((0 : Int), (0 : Int)) = z2) = true := rfl
    by_cases hd0 : d = []
    ·have hv : decide ((false, ((0 : Int), (0 : Int)), d) = val0) = true := by rw [hd0]; rfl
     rw [hv]
     have hl0 : nF = 0 := by rw [HLN.out, hd0]; rfl
     subst hl0
     go_enter Tryz.func137, Tryz.ntmps137
     go_wp2_with (first | (first | go_skip | refine load9 _ rfl rfl _ rfl KL6.out rfl ?_ | refine load9 _ rfl rfl _ rfl KL5.out rfl ?_ | refine load9 _ rfl rfl _ rfl KL4.out rfl ?_ | refine load9 _ rfl rfl _ rfl KL3.out rfl ?_ | refine load9 _ rfl rfl _ rfl KL2.out rfl ?_ | refine load9 _ rfl rfl _ rfl KL1.out rfl ?_ | refine load9 _ rfl rfl _ rfl KL0.out rfl ?_))
     go_ret
     exact ⟨rfl, (blAlloc (Below.refl _ _) _)⟩
    ·have hv : decide ((false, ((0 : Int), (0 : Int)), d) = val0) = false := by simp [val0, hd0]
     rw [hv]
     have hl0 : ¬ nF = 0 := by rw [HLN.out]; exact fun e => hd0 (List.eq_nil_of_length_eq_zero e)
     have hl1 : ((nF : Int) == 0) = false := by simpa using hl0
     have hl2 : ¬ (nF : Int) = 0 := by omega
     go_enter Tryz.func137, Tryz.ntmps137
     go_wp2_with (first | (first | go_skip | refine load9 _ rfl rfl _ rfl KL6.out rfl ?_ | refine load9 _ rfl rfl _ rfl KL5.out rfl ?_ | refine load9 _ rfl rfl _ rfl KL4.out rfl ?_ | refine load9 _ rfl rfl _ rfl KL3.out rfl ?_ | refine load9 _ rfl rfl _ rfl KL2.out rfl ?_ | refine load9 _ rfl rfl _ rfl KL1.out rfl ?_ | refine load9 _ rfl rfl _ rfl KL0.out rfl ?_))
     go_ret
     exact ⟨rfl, (blAlloc (Below.refl _ _) _)⟩
   ·subst h1
    have e2 : (y == 0) = false := by simpa using h2
    have hz : decide (((0 : Int), y) = z2) = false := decide_eq_false (fun e => h2 (congrArg Prod.snd e))
    have hv : decide ((false, (0, y), d) = val0) = false := by have := of_decide_eq_false hz; simp [val0, this]
    rw [hv]
    go_enter Tryz.func137, Tryz.ntmps137
    go_wp2_with (first | (first | go_skip | refine load9 _ rfl rfl _ rfl KL6.out rfl ?_ | refine load9 _ rfl rfl _ rfl KL5.out rfl ?_ | refine load9 _ rfl rfl _ rfl KL4.out rfl ?_ | refine load9 _ rfl rfl _ rfl KL3.out rfl ?_ | refine load9 _ rfl rfl _ rfl KL2.out rfl ?_ | refine load9 _ rfl rfl _ rfl KL1.out rfl ?_ | refine load9 _ rfl rfl _ rfl KL0.out rfl ?_))
    go_ret
    exact ⟨rfl, (blAlloc (Below.refl _ _) _)⟩
  ·have e1 : (x == 0) = false := by simpa using h1
   have hz : decide ((x, y) = z2) = false := decide_eq_false (fun e => h1 (congrArg Prod.fst e))
   have hv : decide ((false, (x, y), d) = val0) = false := by have := of_decide_eq_false hz; simp [val0, this]
   rw [hv]
   go_enter Tryz.func137, Tryz.ntmps137
   go_wp2_with (first | (first | go_skip | refine load9 _ rfl rfl _ rfl KL6.out rfl ?_ | refine load9 _ rfl rfl _ rfl KL5.out rfl ?_ | refine load9 _ rfl rfl _ rfl KL4.out rfl ?_ | refine load9 _ rfl rfl _ rfl KL3.out rfl ?_ | refine load9 _ rfl rfl _ rfl KL2.out rfl ?_ | refine load9 _ rfl rfl _ rfl KL1.out rfl ?_ | refine load9 _ rfl rfl _ rfl KL0.out rfl ?_))
   go_ret
   exact ⟨rfl, (blAlloc (Below.refl _ _) _)⟩
 ·have hv : decide ((true, (x, y), d) = val0) = false := by simp [val0]
  rw [hv]
  go_enter Tryz.func137, Tryz.ntmps137
  go_wp2_with (first | (first | go_skip | refine load9 _ rfl rfl _ rfl KL6.out rfl ?_ | refine load9 _ rfl rfl _ rfl KL5.out rfl ?_ | refine load9 _ rfl rfl _ rfl KL4.out rfl ?_ | refine load9 _ rfl rfl _ rfl KL3.out rfl ?_ | refine load9 _ rfl rfl _ rfl KL2.out rfl ?_ | refine load9 _ rfl rfl _ rfl KL1.out rfl ?_ | refine load9 _ rfl rfl _ rfl KL0.out rfl ?_))
  go_ret
  exact ⟨rfl, (blAlloc (Below.refl _ _) _)⟩
theorem isPair_any (k : ByteArray) (n : Nat) (W : World) : Calls Tryz.prog 187 #[.string k, .int .u64 (n : Int)] W fun e w' => e = .returned (.bool (keyB k && decide (SN.rtN n = n))) ∧ W = w' := by
 cases hk : keyB k
 ·rw [Bool.false_and]
  go_enter Tryz.func187, Tryz.ntmps187
  go_wp2_with (first | (first | go_skip | refine load9 _ rfl rfl _ rfl KL6.out rfl ?_ | refine load9 _ rfl rfl _ rfl KL5.out rfl ?_ | refine load9 _ rfl rfl _ rfl KL4.out rfl ?_ | refine load9 _ rfl rfl _ rfl KL3.out rfl ?_ | refine load9 _ rfl rfl _ rfl KL2.out rfl ?_ | refine load9 _ rfl rfl _ rfl KL1.out rfl ?_ | refine load9 _ rfl rfl _ rfl KL0.out rfl ?_) | (go_at_call 205; go_must (refine (S3.key_any k _).mono ?_; rw [hk]; rintro e w1 ⟨rfl, rfl⟩)))
  go_ret
  exact ⟨rfl, rfl⟩
 ·by_cases hn : SN.rtN n = n
  ·have hc : SN.chN n = 0 := by unfold SN.chN; rw [if_pos hn]
   rw [decide_eq_true hn, Bool.and_true]
   go_enter Tryz.func187, Tryz.ntmps187
   go_wp2_with (first | (first | go_skip | refine load9 _ rfl rfl _ rfl KL6.out rfl ?_ | refine load9 _ rfl rfl _ rfl KL5.out rfl ?_ | refine load9 _ rfl rfl _ rfl KL4.out rfl ?_ | refine load9 _ rfl rfl _ rfl KL3.out rfl ?_ | refine load9 _ rfl rfl _ rfl KL2.out rfl ?_ | refine load9 _ rfl rfl _ rfl KL1.out rfl ?_ | refine load9 _ rfl rfl _ rfl KL0.out rfl ?_) | (go_at_call 205; go_must (refine (S3.key_any k _).mono ?_; rw [hk]; rintro e w1 ⟨rfl, rfl⟩)) | (go_at_call 184; go_must (refine (SN.check_any n _).mono ?_; rw [hc]; rintro e w2 ⟨rfl, rfl⟩)))
   go_ret
   exact ⟨rfl, rfl⟩
  ·have hc : SN.chN n = 70 := by unfold SN.chN; rw [if_neg hn]
   rw [decide_eq_false hn, Bool.and_false]
   go_enter Tryz.func187, Tryz.ntmps187
   go_wp2_with (first | (first | go_skip | refine load9 _ rfl rfl _ rfl KL6.out rfl ?_ | refine load9 _ rfl rfl _ rfl KL5.out rfl ?_ | refine load9 _ rfl rfl _ rfl KL4.out rfl ?_ | refine load9 _ rfl rfl _ rfl KL3.out rfl ?_ | refine load9 _ rfl rfl _ rfl KL2.out rfl ?_ | refine load9 _ rfl rfl _ rfl KL1.out rfl ?_ | refine load9 _ rfl rfl _ rfl KL0.out rfl ?_) | (go_at_call 205; go_must (refine (S3.key_any k _).mono ?_; rw [hk]; rintro e w1 ⟨rfl, rfl⟩)) | (go_at_call 184; go_must (refine (SN.check_any n _).mono ?_; rw [hc]; rintro e w2 ⟨rfl, rfl⟩)))
   go_ret
   exact ⟨rfl, rfl⟩

theorem sbool_any {w : World} {s b g : Nat} {c : Cur} (he : EyeS w s b g c) : Calls Tryz.prog 125 #[.pointer (some ⟨b, 0, none⟩)] w (SeeS cB (fun x => .bool x) w s b g c) :=
 (S2.eyeBool_any w b g c.1 c.2.1 he.2.1).mono fun e w' h => ⟨h.1, he.next h.2.1 rfl (cB_ok.len c) h.2.2, h.2.2⟩
def stV (x : Int × Int) : Value := .agg #[.int .i64 x.1, .int .i64 x.2]
theorem sstamp_any {w : World} {s b g : Nat} {c : Cur} (he : EyeS w s b g c) : Calls Tryz.prog 123 #[.pointer (some ⟨b, 0, none⟩)] w (SeeS cS stV w s b g c) :=
 (S2.eyeStamp_any w b g c.1 c.2.1 he.2.1).mono fun e w' h => ⟨h.1, he.next h.2.1 rfl (cS_ok.len c) h.2.2, h.2.2⟩
theorem wr_block {w : World} {x y z : Value} {k : Nat} {T : TypeId} (h : w.heap[k]? = some (.cells #[x, y, z] T (0, 0))) (u0 u1 u2 : Value) :
  (((w.setCell ⟨k, 0, none⟩ u0).setCell ⟨k, 1, none⟩ u1).setCell ⟨k, 2, none⟩ u2).heap[k]? = some (.cells #[u0, u1, u2] T (0, 0)) ∧ w.grownBy (((w.setCell ⟨k, 0, none⟩ u0).setCell ⟨k, 1, none⟩ u1).setCell ⟨k, 2, none⟩ u2) (some k) := by
 have hk := lt_of_block h
 refine ⟨?_, rfl, rfl, rfl, by simp [World.setCell], fun j hj hne => ?_⟩
 ·simp only [World.setCell]
  rw [Array.getElem?_modify, if_pos rfl, Array.getElem?_modify, if_pos rfl, Array.getElem?_modify, if_pos rfl, h]
  rfl
 ·have e : j ≠ k := fun e => hne (by rw [e])
  rw [Go.Deep.blk_setCell_other _ _ _ _ e, Go.Deep.blk_setCell_other _ _ _ _ e, Go.Deep.blk_setCell_other _ _ _ _ e]
theorem pr_block {w : World} {x y : Value} {k : Nat} {T : TypeId} (h : w.heap[k]? = some (.cells #[x, y] T (0, 0))) (u0 u1 : Value) :
  ((w.setCell ⟨k, 0, none⟩ u0).setCell ⟨k, 1, none⟩ u1).heap[k]? = some (.cells #[u0, u1] T (0, 0)) ∧ w.grownBy ((w.setCell ⟨k, 0, none⟩ u0).setCell ⟨k, 1, none⟩ u1) (some k) := by
 have hk := lt_of_block h
 refine ⟨?_, rfl, rfl, rfl, by simp [World.setCell], fun j hj hne => ?_⟩
 ·simp only [World.setCell]
  rw [Array.getElem?_modify, if_pos rfl, Array.getElem?_modify, if_pos rfl, h]
  rfl
 ·have e : j ≠ k := fun e => hne (by rw [e])
  rw [Go.Deep.blk_setCell_other _ _ _ _ e, Go.Deep.blk_setCell_other _ _ _ _ e]
theorem frozen_row {Y : World} {k : Nat} {c : Array Value} {T : TypeId} (h : Y.heap[k]? = some (.cells c T (0, 0))) (i : Nat) : Y.frozen? ⟨k, i, none⟩ = false := by
 simp only [World.frozen?, h]
 rfl
theorem cell_row {Y : World} {k : Nat} {c : Array Value} {T : TypeId} (h : Y.heap[k]? = some (.cells c T (0, 0))) (i : Nat) (v : Value) (hi : c[i]? = some v) : Y.cell? ⟨k, i, none⟩ = some v := by
 simp only [World.cell?, h]
 exact hi
theorem swr_any {w : World} {s b g : Nat} {c : Cur} (he : EyeS w s b g c) : Calls Tryz.prog 179 #[.pointer (some ⟨s, 0, none⟩)] w (SeeS cW wrV w s b g c) := by
 have HE := hI he
 have HLT := hI he.lt
 have HAB : Hid ((w.alloc (.cells #[.string ⟨#[]⟩, .int .u64 0, .bool false] 84)).heap[w.heap.size]? = some (.cells #[.string ⟨#[]⟩, .int .u64 0, .bool false] 84 (0, 0))) := new_blockC w _ _
 have HK0 : Hid (S2.Keeps (S2.Only b) w (w.alloc (.cells #[.string ⟨#[]⟩, .int .u64 0, .bool false] 84))) := S2.kAlloc (S2.Keeps.refl _ _) _
 have HE0 : Hid (EyeS (w.alloc (.cells #[.string ⟨#[]⟩, .int .u64 0, .bool false] 84)) s b g c) := he.before (S2.kAlloc (S2.Keeps.refl _ _) _)
 have HNB : Hid (¬ S2.Only b w.heap.size) := fun e => by have e2 : w.heap.size = b := e; have := he.lt; omega
 have p0 := HE0.out.ptr
 clear he
 have HV : Hid (cW.val c = (cT.val c, cN.val (cT.fin c), cB.val (cN.fin (cT.fin c)))) := rfl
 have HF : Hid (cW.fin c = cB.fin (cN.fin (cT.fin c))) := rfl
 have HLN : Hid ((cW.fin c).1.length ≤ c.1.length) := cW_ok.len c
 unfold SeeS wrV
 rw [HV.out]
 simp only
 go_enter Tryz.func179, Tryz.ntmps179
 go_wp2_with (first
  | (have htok := HE2; clear htok; go_at_call 125; go_must (refine (sbool_any HE2.out).mono ?_; rintro e w4 ⟨rfl, h1, h2⟩; have HE3 := hI h1; have p3 := h1.ptr; have HK3 := hI (HK2.out.then h2); have hb4 := (HK3.out.block w.heap.size HSZ.out HNB.out).trans HAB.out; have HAB5 := hI hb4; have f0 := frozen_row hb4 0; have a0 := cell_row hb4 0 _ rfl; have f1 := frozen_row hb4 1; have a1 := cell_row hb4 1 _ rfl; have f2 := frozen_row hb4 2; have a2 := cell_row hb4 2 _ rfl; have hrs := lt_of_block hb4; clear h1 h2 hb4))
  | (have htok := HE1; clear htok; go_at_call 202; go_must (refine (snum_any HE1.out).mono ?_; rintro e w3 ⟨rfl, h1, h2⟩; have HE2 := hI h1; have p2 := h1.ptr; have HK2 := hI (HK1.out.then h2); clear h1 h2))
  | (go_at_call 201; go_must (refine (stext_any HE0.out).mono ?_; rintro e w2 ⟨rfl, h1, h2⟩; have HE1 := hI h1; have p1 := h1.ptr; have HK1 := hI h2; have HSZ : Hid (w.heap.size < (w.alloc (.cells #[.string ⟨#[]⟩, .int .u64 0, .bool false] 84)).heap.size) := (by show _ < _; simp); clear h1 h2)))
 have hE := wr_block HAB5.out (.string (cT.val c)) (.int .u64 ((cN.val (cT.fin c) : Nat) : Int)) (.bool (cB.val (cN.fin (cT.fin c))))
 have z0 := cell_row hE.1 0 _ rfl
 have z1 := cell_row hE.1 1 _ rfl
 have z2 := cell_row hE.1 2 _ rfl
 have HK5 := hI (keeps_after (HK0.out.then HK3.out) hE.2 (Nat.le_refl _))
 have HE5 := hI (HE3.out.grown hE.2 (fun k hk => by
  have e2 := Option.some.inj hk
  have h1 := HLT.out.1
  have h2 := HLT.out.2.1
  refine .inr ⟨by omega, by omega, fun hne e => ?_⟩
  have := HLT.out.2.2 (fun e3 => hne (List.eq_nil_of_length_eq_zero (by have h5 := HLN.out; rw [HF.out, e3] at h5; simpa using h5)))
  omega))
 clear hE
 generalize (((w4.setCell ⟨w.heap.size, 0, none⟩ (.string (cT.val c))).setCell ⟨w.heap.size, 1, none⟩ (.int .u64 ((cN.val (cT.fin c) : Nat) : Int))).setCell ⟨w.heap.size, 2, none⟩ (.bool (cB.val (cN.fin (cT.fin c))))) = w6 at *
 refine bodyPost_ret (v := .agg #[.string (cT.val c), .int .u64 ((cN.val (cT.fin c) : Nat) : Int), .bool (cB.val (cN.fin (cT.fin c)))]) (by simp [results, Tryz.results179, go_sem, z0, z1, z2]) rfl ?_
 exact ⟨rfl, HE5.out, HK5.out⟩
theorem spr_any {w : World} {s b g : Nat} {c : Cur} (he : EyeS w s b g c) : Calls Tryz.prog 181 #[.pointer (some ⟨s, 0, none⟩)] w (SeeS cP prV w s b g c) := by
 have HE := hI he
 have HLT := hI he.lt
 have HAB : Hid ((w.alloc (.cells #[.string ⟨#[]⟩, .int .u64 0] 86)).heap[w.heap.size]? = some (.cells #[.string ⟨#[]⟩, .int .u64 0] 86 (0, 0))) := new_blockC w _ _
 have HK0 : Hid (S2.Keeps (S2.Only b) w (w.alloc (.cells #[.string ⟨#[]⟩, .int .u64 0] 86))) := S2.kAlloc (S2.Keeps.refl _ _) _
 have HE0 : Hid (EyeS (w.alloc (.cells #[.string ⟨#[]⟩, .int .u64 0] 86)) s b g c) := he.before (S2.kAlloc (S2.Keeps.refl _ _) _)
 have HNB : Hid (¬ S2.Only b w.heap.size) := fun e => by have e2 : w.heap.size = b := e; have := he.lt; omega
 have p0 := HE0.out.ptr
 clear he
 have HV : Hid (cP.val c = (cT.val c, cN.val (cT.fin c))) := rfl
 have HF : Hid (cP.fin c = cN.fin (cT.fin c)) := rfl
 have HLN : Hid ((cP.fin c).1.length ≤ c.1.length) := cP_ok.len c
 unfold SeeS prV
 rw [HV.out]
 simp only
 go_enter Tryz.func181, Tryz.ntmps181
 go_wp2_with (first
  | (have htok := HE1; clear htok; go_at_call 202; go_must (refine (snum_any HE1.out).mono ?_; rintro e w3 ⟨rfl, h1, h2⟩; have HE2 := hI h1; have p2 := h1.ptr; have HK2 := hI (HK1.out.then h2); have hb4 := (HK2.out.block w.heap.size HSZ.out HNB.out).trans HAB.out; have HAB5 := hI hb4; have f0 := frozen_row hb4 0; have a0 := cell_row hb4 0 _ rfl; have f1 := frozen_row hb4 1; have a1 := cell_row hb4 1 _ rfl; have hrs := lt_of_block hb4; clear h1 h2 hb4))
  | (go_at_call 201; go_must (refine (stext_any HE0.out).mono ?_; rintro e w2 ⟨rfl, h1, h2⟩; have HE1 := hI h1; have p1 := h1.ptr; have HK1 := hI h2; have HSZ : Hid (w.heap.size < (w.alloc (.cells #[.string ⟨#[]⟩, .int .u64 0] 86)).heap.size) := (by show _ < _; simp); clear h1 h2)))
 have hE := pr_block HAB5.out (.string (cT.val c)) (.int .u64 ((cN.val (cT.fin c) : Nat) : Int))
 have z0 := cell_row hE.1 0 _ rfl
 have z1 := cell_row hE.1 1 _ rfl
 have HK5 := hI (keeps_after (HK0.out.then HK2.out) hE.2 (Nat.le_refl _))
 have HE5 := hI (HE2.out.grown hE.2 (fun k hk => by
  have e2 := Option.some.inj hk
  have h1 := HLT.out.1
  have h2 := HLT.out.2.1
  refine .inr ⟨by omega, by omega, fun hne e => ?_⟩
  have := HLT.out.2.2 (fun e3 => hne (List.eq_nil_of_length_eq_zero (by have h5 := HLN.out; rw [HF.out, e3] at h5; simpa using h5)))
  omega))
 clear hE
 generalize ((w3.setCell ⟨w.heap.size, 0, none⟩ (.string (cT.val c))).setCell ⟨w.heap.size, 1, none⟩ (.int .u64 ((cN.val (cT.fin c) : Nat) : Int))) = w6 at *
 refine bodyPost_ret (v := .agg #[.string (cT.val c), .int .u64 ((cN.val (cT.fin c) : Nat) : Int)]) (by simp [results, Tryz.results181, go_sem, z0, z1]) rfl ?_
 exact ⟨rfl, HE5.out, HK5.out⟩
theorem slistW_any {w : World} {s b g : Nat} {c : Cur} (he : EyeS w s b g c) (hlen : c.1.length ≤ 1000000) :
  Calls Tryz.prog 178 #[.pointer (some ⟨s, 0, none⟩), .func (.func 179) #[] #[]] w (SeeL eW 84 cW.list w s b g c) := by
 have HE := hI he
 have HLC := hI hlen
 have p0 := he.ptr
 have HLT0 := hI he.lt
 clear he hlen
 generalize hN : cI.val c = N
 have HLV : Hid (cW.list.val c = (many cW N.toNat (said c)).1) := by rw [← hN]; exact hI rfl
 have HLF : Hid (cW.list.fin c = (many cW N.toNat (said c)).2) := by rw [← hN]; exact hI rfl
 have HSD : Hid (said c = ((cI.fin c).1, (cI.fin c).2.1, c.2.2 || decide (N < 0))) := by rw [← hN]; exact hI rfl
 have HI : Hid (Calls Tryz.prog 103 #[.pointer (some ⟨b, 0, none⟩)] w fun e w' => e = .returned (.int .i64 N) ∧ EyeS w' s b g (cI.fin c) ∧ S2.Keeps (S2.Only b) w w') := by
  rw [← hN]
  exact hI (sint_any HE.out)
 clear hN
 go_enter Tryz.func178, Tryz.ntmps178
 by_cases h0 : N < 0
 ·have hd0 : decide (N < 0) = true := decide_eq_true h0
  have hd1 : decide ((0 : Int) < N) = false := decide_eq_false (by omega)
  rw [hd0, Bool.or_true] at HSD
  go_wp2_with (go_at_call 103; go_must (refine HI.out.mono ?_; rintro e w1 ⟨rfl, h1, h2⟩; have HE1 := hI h1; have HK1 := hI (both_of (s := s) h2); have p1 := h1.ptr; have l1 := h1.lie; have fz := frozen_of_row w1 s 1 _ _ h1.1; clear h1 h2))
  have HE2 : Hid (EyeS (w1.setCell ⟨s, 1, none⟩ (.bool true)) s b g (said c)) := by
   rw [HSD.out]
   exact hI HE1.out.lieSet
  have HK2 : Hid (S2.Keeps (Both s b) w (w1.setCell ⟨s, 1, none⟩ (.bool true))) := hI (S2.kSet (p := ⟨s, 1, none⟩) HK1.out (Or.inl (show Both s b s from .inl rfl)) _)
  generalize w1.setCell ⟨s, 1, none⟩ (.bool true) = w2 at *
  have HG2 : Hid (c.1 ≠ [] → g < w2.heap.size) := fun h => Nat.lt_of_lt_of_le (HLT0.out.2.2 h) HK2.out.size
  have HSB : Hid (s < w2.heap.size ∧ b < w2.heap.size ∧ True) := hI ⟨Nat.lt_of_lt_of_le HLT0.out.1 HK2.out.size, Nat.lt_of_lt_of_le HLT0.out.2.1 HK2.out.size, trivial⟩
  go_loopw [6, 20] (fun v i wr => ∃ (F : List Wrt) (cc : Cur), F.length ≤ N.toNat ∧ i = .int .i64 F.length ∧ OwnG eW 84 wr w2.heap.size v F ∧ EyeS wr s b g cc ∧ F ++ (many cW (N.toNat - F.length) cc).1 = cW.list.val c ∧ (many cW (N.toNat - F.length) cc).2 = cW.list.fin c ∧ F.length + cc.1.length ≤ c.1.length ∧ w2.heap.size ≤ wr.heap.size ∧ S2.Keeps (Both s b) w wr) (fun _ i _ => N.toNat - (RowKit.intOf i).toNat)
  case atStart => exact ⟨[], said c, Nat.zero_le _, rfl, OwnG.nil _ _, HE2.out, HLV.out.symm, HLF.out.symm, by rw [List.length_nil, Nat.zero_add]; exact said_len c, Nat.le_refl _, HK2.out⟩
  case round =>
   obtain ⟨F, cc, hk, rfl, ho, he, hv, hf, hln, hs, hkp⟩ := hrel
   have HO := hI ho
   have HE := hI he
   have HV := hI hv
   have HF := hI hf
   have HLN := hI hln
   have HS := hI hs
   have HKP := hI hkp
   have pr := he.ptr
   obtain ⟨av, cv, rfl⟩ := ho.form
   clear ho he hv hf hln hs hkp
   by_cases hlt : F.length < N.toNat
   ·exact absurd hlt (by omega)
   ·have hge : ¬ ((F.length : Nat) : Int) < N := by omega
    have hdk : decide (((F.length : Nat) : Int) < N) = false := decide_eq_false hge
    have h0m : N.toNat - F.length = 0 := by omega
    go_wp2
    go_ret
    have hv : cW.list.val c = F := by have h := HV.out; rw [h0m] at h; simpa [many] using h.symm
    have hf : cW.list.fin c = cc := by have h := HF.out; rw [h0m] at h; exact h.symm
    exact ⟨_, rfl, by rw [hv]; exact HO.out.mono HK2.out.size, by rw [hf]; exact HE.out, HKP.out⟩
 ·have hd0 : decide (N < 0) = false := decide_eq_false h0
  rw [hd0, Bool.or_false] at HSD
  go_wp2_with (go_at_call 103; go_must (refine HI.out.mono ?_; rintro e w1 ⟨rfl, h1, h2⟩; have HE1 := hI h1; have HK1 := hI (both_of (s := s) h2); have p1 := h1.ptr; have l1 := h1.lie; have fz := frozen_of_row w1 s 1 _ _ h1.1; clear h1 h2))
  have HE2 : Hid (EyeS w1 s b g (said c)) := by
   rw [HSD.out]
   exact hI HE1.out
  have HK2 := HK1
  have HG2 : Hid (c.1 ≠ [] → g < w1.heap.size) := fun h => Nat.lt_of_lt_of_le (HLT0.out.2.2 h) HK2.out.size
  have HSB : Hid (s < w1.heap.size ∧ b < w1.heap.size ∧ True) := hI ⟨Nat.lt_of_lt_of_le HLT0.out.1 HK2.out.size, Nat.lt_of_lt_of_le HLT0.out.2.1 HK2.out.size, trivial⟩
  generalize w1 = w2 at *
  go_loopw [6, 20] (fun v i wr => ∃ (F : List Wrt) (cc : Cur), F.length ≤ N.toNat ∧ i = .int .i64 F.length ∧ OwnG eW 84 wr w2.heap.size v F ∧ EyeS wr s b g cc ∧ F ++ (many cW (N.toNat - F.length) cc).1 = cW.list.val c ∧ (many cW (N.toNat - F.length) cc).2 = cW.list.fin c ∧ F.length + cc.1.length ≤ c.1.length ∧ w2.heap.size ≤ wr.heap.size ∧ S2.Keeps (Both s b) w wr) (fun _ i _ => N.toNat - (RowKit.intOf i).toNat)
  case atStart => exact ⟨[], said c, Nat.zero_le _, rfl, OwnG.nil _ _, HE2.out, HLV.out.symm, HLF.out.symm, by rw [List.length_nil, Nat.zero_add]; exact said_len c, Nat.le_refl _, HK2.out⟩
  case round =>
   obtain ⟨F, cc, hk, rfl, ho, he, hv, hf, hln, hs, hkp⟩ := hrel
   have HO := hI ho
   have HE := hI he
   have HV := hI hv
   have HF := hI hf
   have HLN := hI hln
   have HS := hI hs
   have HKP := hI hkp
   have pr := he.ptr
   obtain ⟨av, cv, rfl⟩ := ho.form
   clear ho he hv hf hln hs hkp
   by_cases hlt : F.length < N.toNat
   ·have hk1 : ((F.length : Nat) : Int) < N := by omega
    have hk0 : (0 : Int) ≤ ((F.length : Nat) : Int) := by omega
    have hdk : decide (((F.length : Nat) : Int) < N) = true := decide_eq_true hk1
    obtain ⟨m, hm⟩ : ∃ m, N.toNat - F.length = m + 1 := ⟨N.toNat - F.length - 1, by omega⟩
    have HM : Hid (many cW (N.toNat - F.length) cc = if (cW.fin cc).1.length = cc.1.length then ([], cW.fin cc) else (cW.val cc :: (many cW m (cW.fin cc)).1, (many cW m (cW.fin cc)).2)) := by
     show _ = _
     rw [hm]
     rfl
    have HMM := hI hm
    have HFL := hI (cW_ok.len cc)
    have HLT : Hid (cc.1.length ≤ 1000000 ∧ F.length ≤ 1000000) := by
     have := HLN.out
     have := HLC.out
     exact ⟨by omega, by omega⟩
    have hF6 : F.length ≤ 1000000 := HLT.out.2
    have HSP : Hid (Calls Tryz.prog 179 #[.pointer (some ⟨s, 0, none⟩)] wr fun e w' => e = .returned (wrV (cW.val cc)) ∧ EyeS w' s b g (cW.fin cc) ∧ S2.Keeps (S2.Only b) wr w') := hI (swr_any HE.out)
    have HGG : Hid (cc.1 ≠ [] → g < w2.heap.size) := fun h => HG2.out (fun e => h (List.eq_nil_of_length_eq_zero (by have h1 := HLN.out; have h2 : c.1.length = 0 := (by rw [e]; rfl); omega)))
    clear hm
    by_cases hq : (cW.fin cc).1.length = cc.1.length
    ·rw [if_pos hq] at HM
     have hqd : ((((cW.fin cc).1.length : Nat) : Int) == ((cc.1.length : Nat) : Int)) = true := by simp [hq]
     clear hq
     generalize cW.val cc = x at *
     generalize hcf : cW.fin cc = cf at *
     clear hcf
     go_wp2_with (first
      | (have htok := HE5; clear htok; go_at_call 102; go_must (refine (S2.left_any _ b g cf.1 cf.2.1 (HE5.out.before (S2.kAlloc (S2.Keeps.refl _ _) _)).2.1).mono ?_; rintro e w6 ⟨rfl, rfl⟩))
      | (go_at_call 179; go_must (refine HSP.out.mono ?_; rintro e w5 ⟨rfl, h1, h2⟩; have HE5 := hI h1; have HK5 := hI h2; have HO5 := hI (ownG_keep HO.out HSB.out.2.1 h2); have p5 := S2.alloc_cell h1.ptr (.cells #[.string x.1, .int .u64 (x.2.1 : Int), .bool x.2.2] 84); clear h1 h2; unfold wrV))
      | (go_at_call 102; go_must (refine (S2.left_any wr b g cc.1 cc.2.1 HE.out.2.1).mono ?_; rintro e w4 ⟨rfl, rfl⟩)))
     go_ret
     have hv : cW.list.val c = F := by have h := HV.out; rw [HM.out] at h; simpa using h.symm
     have hf : cW.list.fin c = cf := by have h := HF.out; rw [HM.out] at h; exact h.symm
     exact ⟨_, rfl, by rw [hv]; exact (HO5.out.later (blAlloc (Below.refl _ _) _)).mono HK2.out.size, by rw [hf]; exact HE5.out.before (S2.kAlloc (S2.Keeps.refl _ _) _), S2.kAlloc (HKP.out.then (both_of HK5.out)) _⟩
    ·rw [if_neg hq] at HM
     have HQ := hI hq
     have hqd : ((((cW.fin cc).1.length : Nat) : Int) == ((cc.1.length : Nat) : Int)) = false := by simpa using (fun e => hq (by omega))
     clear hq
     generalize cW.val cc = x at *
     generalize hcf : cW.fin cc = cf at *
     clear hcf
     go_wp2_with (first
      | (have htok := HE5; clear htok; go_at_call 102; go_must (refine (S2.left_any _ b g cf.1 cf.2.1 (HE5.out.before (S2.kAlloc (S2.Keeps.refl _ _) _)).2.1).mono ?_; rintro e w6 ⟨rfl, rfl⟩))
      | (go_at_call 179; go_must (refine HSP.out.mono ?_; rintro e w5 ⟨rfl, h1, h2⟩; have HE5 := hI h1; have HK5 := hI h2; have HO5 := hI (ownG_keep HO.out HSB.out.2.1 h2); have p5 := S2.alloc_cell h1.ptr (.cells #[.string x.1, .int .u64 (x.2.1 : Int), .bool x.2.2] 84); clear h1 h2; unfold wrV))
      | (go_at_call 102; go_must (refine (S2.left_any wr b g cc.1 cc.2.1 HE.out.2.1).mono ?_; rintro e w4 ⟨rfl, rfl⟩))
      | (at_builtin; go_must (refine append_G 28 _ 32 info_wr Tryz.underlying28 rfl (by decide) rfl _ _ rfl w2.heap.size _ F rfl (HO5.out.later (blAlloc (blAlloc (Below.refl _ _) _) _)) _ [x] rfl (one_G eW _ _ x _ _ rfl (World.size_alloc _ _)) (by have := HLT.out; simp only [List.length_cons, List.length_nil]; omega) (Nat.le_trans HS.out (Nat.le_trans HK5.out.size (blAlloc (blAlloc (Below.refl w5.heap.size w5) _) _).size)) ?_; intro v7 w7 h1 h2; have HO7 := hI h1; have HG7 := hI h2; clear h1 h2)))
     have HOB := hI (HO5.out.later (blAlloc (blAlloc (Below.refl _ _) (.cells #[.string x.1, .int .u64 (x.2.1 : Int), .bool x.2.2] 84)) (.cells #[.string x.1, .int .u64 (x.2.1 : Int), .bool x.2.2] 84)))
     have HE7 : Hid (EyeS w7 s b g cf) := hI ((HE5.out.before (S2.kAlloc (S2.kAlloc (S2.Keeps.refl _ _) _) _)).grown HG7.out (fun k hk => by
      have h1 := (HOB.out.block k hk).1
      have h2 := HSB.out
      refine .inr ⟨by omega, by omega, fun hne => ?_⟩
      have h3 := HGG.out (fun e => hne (List.eq_nil_of_length_eq_zero (by have h4 := HFL.out; rw [e] at h4; simpa using h4)))
      omega))
     have HK7 : Hid (S2.Keeps (Both s b) w w7) := hI (keeps_afterO (S2.kAlloc (S2.kAlloc (HKP.out.then (both_of HK5.out)) _) _) HG7.out (fun k hk => Nat.le_trans HK2.out.size (HOB.out.block k hk).1))
     have HS7 : Hid (w2.heap.size ≤ w7.heap.size) := hI (Nat.le_trans HS.out (Nat.le_trans HK5.out.size (Nat.le_trans (blAlloc (blAlloc (Below.refl w5.heap.size w5) (.cells #[.string x.1, .int .u64 (x.2.1 : Int), .bool x.2.2] 84)) (.cells #[.string x.1, .int .u64 (x.2.1 : Int), .bool x.2.2] 84)).size HG7.out.size)))
     have hm2 : N.toNat - (F ++ [x]).length = m := by have := HMM.out; rw [List.length_append, List.length_singleton]; omega
     clear HOB HG7
     go_roundw
     case rel =>
      refine ⟨F ++ [x], cf, by rw [List.length_append, List.length_singleton]; omega, by rw [List.length_append, List.length_singleton]; go_num, HO7.out, HE7.out, ?_, ?_, ?_, HS7.out, HK7.out⟩
      ·rw [hm2, List.append_assoc]
       have h := HV.out
       rw [HM.out] at h
       exact h
      ·rw [hm2]
       have h := HF.out
       rw [HM.out] at h
       exact h
      ·have h1 := HLN.out
       have h2 := HFL.out
       have h3 := HQ.out
       rw [List.length_append, List.length_singleton]
       omega
     case measure => simp [RowKit.intOf]; omega
   ·have hge : ¬ ((F.length : Nat) : Int) < N := by omega
    have hdk : decide (((F.length : Nat) : Int) < N) = false := decide_eq_false hge
    have h0m : N.toNat - F.length = 0 := by omega
    go_wp2
    go_ret
    have hv : cW.list.val c = F := by have h := HV.out; rw [h0m] at h; simpa [many] using h.symm
    have hf : cW.list.fin c = cc := by have h := HF.out; rw [h0m] at h; exact h.symm
    exact ⟨_, rfl, by rw [hv]; exact HO.out.mono HK2.out.size, by rw [hf]; exact HE.out, HKP.out⟩
theorem slistP_any {w : World} {s b g : Nat} {c : Cur} (he : EyeS w s b g c) (hlen : c.1.length ≤ 1000000) :
  Calls Tryz.prog 180 #[.pointer (some ⟨s, 0, none⟩), .func (.func 181) #[] #[]] w (SeeL eP 86 cP.list w s b g c) := by
 have HE := hI he
 have HLC := hI hlen
 have p0 := he.ptr
 have HLT0 := hI he.lt
 clear he hlen
 generalize hN : cI.val c = N
 have HLV : Hid (cP.list.val c = (many cP N.toNat (said c)).1) := by rw [← hN]; exact hI rfl
 have HLF : Hid (cP.list.fin c = (many cP N.toNat (said c)).2) := by rw [← hN]; exact hI rfl
 have HSD : Hid (said c = ((cI.fin c).1, (cI.fin c).2.1, c.2.2 || decide (N < 0))) := by rw [← hN]; exact hI rfl
 have HI : Hid (Calls Tryz.prog 103 #[.pointer (some ⟨b, 0, none⟩)] w fun e w' => e = .returned (.int .i64 N) ∧ EyeS w' s b g (cI.fin c) ∧ S2.Keeps (S2.Only b) w w') := by
  rw [← hN]
  exact hI (sint_any HE.out)
 clear hN
 go_enter Tryz.func180, Tryz.ntmps180
 by_cases h0 : N < 0
 ·have hd0 : decide (N < 0) = true := decide_eq_true h0
  have hd1 : decide ((0 : Int) < N) = false := decide_eq_false (by omega)
  rw [hd0, Bool.or_true] at HSD
  go_wp2_with (go_at_call 103; go_must (refine HI.out.mono ?_; rintro e w1 ⟨rfl, h1, h2⟩; have HE1 := hI h1; have HK1 := hI (both_of (s := s) h2); have p1 := h1.ptr; have l1 := h1.lie; have fz := frozen_of_row w1 s 1 _ _ h1.1; clear h1 h2))
  have HE2 : Hid (EyeS (w1.setCell ⟨s, 1, none⟩ (.bool true)) s b g (said c)) := by
   rw [HSD.out]
   exact hI HE1.out.lieSet
  have HK2 : Hid (S2.Keeps (Both s b) w (w1.setCell ⟨s, 1, none⟩ (.bool true))) := hI (S2.kSet (p := ⟨s, 1, none⟩) HK1.out (Or.inl (show Both s b s from .inl rfl)) _)
  generalize w1.setCell ⟨s, 1, none⟩ (.bool true) = w2 at *
  have HG2 : Hid (c.1 ≠ [] → g < w2.heap.size) := fun h => Nat.lt_of_lt_of_le (HLT0.out.2.2 h) HK2.out.size
  have HSB : Hid (s < w2.heap.size ∧ b < w2.heap.size ∧ True) := hI ⟨Nat.lt_of_lt_of_le HLT0.out.1 HK2.out.size, Nat.lt_of_lt_of_le HLT0.out.2.1 HK2.out.size, trivial⟩
  go_loopw [6, 20] (fun v i wr => ∃ (F : List (ByteArray × Nat)) (cc : Cur), F.length ≤ N.toNat ∧ i = .int .i64 F.length ∧ OwnG eP 86 wr w2.heap.size v F ∧ EyeS wr s b g cc ∧ F ++ (many cP (N.toNat - F.length) cc).1 = cP.list.val c ∧ (many cP (N.toNat - F.length) cc).2 = cP.list.fin c ∧ F.length + cc.1.length ≤ c.1.length ∧ w2.heap.size ≤ wr.heap.size ∧ S2.Keeps (Both s b) w wr) (fun _ i _ => N.toNat - (RowKit.intOf i).toNat)
  case atStart => exact ⟨[], said c, Nat.zero_le _, rfl, OwnG.nil _ _, HE2.out, HLV.out.symm, HLF.out.symm, by rw [List.length_nil, Nat.zero_add]; exact said_len c, Nat.le_refl _, HK2.out⟩
  case round =>
   obtain ⟨F, cc, hk, rfl, ho, he, hv, hf, hln, hs, hkp⟩ := hrel
   have HO := hI ho
   have HE := hI he
   have HV := hI hv
   have HF := hI hf
   have HLN := hI hln
   have HS := hI hs
   have HKP := hI hkp
   have pr := he.ptr
   obtain ⟨av, cv, rfl⟩ := ho.form
   clear ho he hv hf hln hs hkp
   by_cases hlt : F.length < N.toNat
   ·exact absurd hlt (by omega)
   ·have hge : ¬ ((F.length : Nat) : Int) < N := by omega
    have hdk : decide (((F.length : Nat) : Int) < N) = false := decide_eq_false hge
    have h0m : N.toNat - F.length = 0 := by omega
    go_wp2
    go_ret
    have hv : cP.list.val c = F := by have h := HV.out; rw [h0m] at h; simpa [many] using h.symm
    have hf : cP.list.fin c = cc := by have h := HF.out; rw [h0m] at h; exact h.symm
    exact ⟨_, rfl, by rw [hv]; exact HO.out.mono HK2.out.size, by rw [hf]; exact HE.out, HKP.out⟩
 ·have hd0 : decide (N < 0) = false := decide_eq_false h0
  rw [hd0, Bool.or_false] at HSD
  go_wp2_with (go_at_call 103; go_must (refine HI.out.mono ?_; rintro e w1 ⟨rfl, h1, h2⟩; have HE1 := hI h1; have HK1 := hI (both_of (s := s) h2); have p1 := h1.ptr; have l1 := h1.lie; have fz := frozen_of_row w1 s 1 _ _ h1.1; clear h1 h2))
  have HE2 : Hid (EyeS w1 s b g (said c)) := by
   rw [HSD.out]
   exact hI HE1.out
  have HK2 := HK1
  have HG2 : Hid (c.1 ≠ [] → g < w1.heap.size) := fun h => Nat.lt_of_lt_of_le (HLT0.out.2.2 h) HK2.out.size
  have HSB : Hid (s < w1.heap.size ∧ b < w1.heap.size ∧ True) := hI ⟨Nat.lt_of_lt_of_le HLT0.out.1 HK2.out.size, Nat.lt_of_lt_of_le HLT0.out.2.1 HK2.out.size, trivial⟩
  generalize w1 = w2 at *
  go_loopw [6, 20] (fun v i wr => ∃ (F : List (ByteArray × Nat)) (cc : Cur), F.length ≤ N.toNat ∧ i = .int .i64 F.length ∧ OwnG eP 86 wr w2.heap.size v F ∧ EyeS wr s b g cc ∧ F ++ (many cP (N.toNat - F.length) cc).1 = cP.list.val c ∧ (many cP (N.toNat - F.length) cc).2 = cP.list.fin c ∧ F.length + cc.1.length ≤ c.1.length ∧ w2.heap.size ≤ wr.heap.size ∧ S2.Keeps (Both s b) w wr) (fun _ i _ => N.toNat - (RowKit.intOf i).toNat)
  case atStart => exact ⟨[], said c, Nat.zero_le _, rfl, OwnG.nil _ _, HE2.out, HLV.out.symm, HLF.out.symm, by rw [List.length_nil, Nat.zero_add]; exact said_len c, Nat.le_refl _, HK2.out⟩
  case round =>
   obtain ⟨F, cc, hk, rfl, ho, he, hv, hf, hln, hs, hkp⟩ := hrel
   have HO := hI ho
   have HE := hI he
   have HV := hI hv
   have HF := hI hf
   have HLN := hI hln
   have HS := hI hs
   have HKP := hI hkp
   have pr := he.ptr
   obtain ⟨av, cv, rfl⟩ := ho.form
   clear ho he hv hf hln hs hkp
   by_cases hlt : F.length < N.toNat
   ·have hk1 : ((F.length : Nat) : Int) < N := by omega
    have hk0 : (0 : Int) ≤ ((F.length : Nat) : Int) := by omega
    have hdk : decide (((F.length : Nat) : Int) < N) = true := decide_eq_true hk1
    obtain ⟨m, hm⟩ : ∃ m, N.toNat - F.length = m + 1 := ⟨N.toNat - F.length - 1, by omega⟩
    have HM : Hid (many cP (N.toNat - F.length) cc = if (cP.fin cc).1.length = cc.1.length then ([], cP.fin cc) else (cP.val cc :: (many cP m (cP.fin cc)).1, (many cP m (cP.fin cc)).2)) := by
     show _ = _
     rw [hm]
     rfl
    have HMM := hI hm
    have HFL := hI (cP_ok.len cc)
    have HLT : Hid (cc.1.length ≤ 1000000 ∧ F.length ≤ 1000000) := by
     have := HLN.out
     have := HLC.out
     exact ⟨by omega, by omega⟩
    have hF6 : F.length ≤ 1000000 := HLT.out.2
    have HSP : Hid (Calls Tryz.prog 181 #[.pointer (some ⟨s, 0, none⟩)] wr fun e w' => e = .returned (prV (cP.val cc)) ∧ EyeS w' s b g (cP.fin cc) ∧ S2.Keeps (S2.Only b) wr w') := hI (spr_any HE.out)
    have HGG : Hid (cc.1 ≠ [] → g < w2.heap.size) := fun h => HG2.out (fun e => h (List.eq_nil_of_length_eq_zero (by have h1 := HLN.out; have h2 : c.1.length = 0 := (by rw [e]; rfl); omega)))
    clear hm
    by_cases hq : (cP.fin cc).1.length = cc.1.length
    ·rw [if_pos hq] at HM
     have hqd : ((((cP.fin cc).1.length : Nat) : Int) == ((cc.1.length : Nat) : Int)) = true := by simp [hq]
     clear hq
     generalize cP.val cc = x at *
     generalize hcf : cP.fin cc = cf at *
     clear hcf
     go_wp2_with (first
      | (have htok := HE5; clear htok; go_at_call 102; go_must (refine (S2.left_any _ b g cf.1 cf.2.1 (HE5.out.before (S2.kAlloc (S2.Keeps.refl _ _) _)).2.1).mono ?_; rintro e w6 ⟨rfl, rfl⟩))
      | (go_at_call 181; go_must (refine HSP.out.mono ?_; rintro e w5 ⟨rfl, h1, h2⟩; have HE5 := hI h1; have HK5 := hI h2; have HO5 := hI (ownG_keep HO.out HSB.out.2.1 h2); have p5 := S2.alloc_cell h1.ptr (.cells #[.string x.1, .int .u64 (x.2 : Int)] 86); clear h1 h2; unfold prV))
      | (go_at_call 102; go_must (refine (S2.left_any wr b g cc.1 cc.2.1 HE.out.2.1).mono ?_; rintro e w4 ⟨rfl, rfl⟩)))
     go_ret
     have hv : cP.list.val c = F := by have h := HV.out; rw [HM.out] at h; simpa using h.symm
     have hf : cP.list.fin c = cf := by have h := HF.out; rw [HM.out] at h; exact h.symm
     exact ⟨_, rfl, by rw [hv]; exact (HO5.out.later (blAlloc (Below.refl _ _) _)).mono HK2.out.size, by rw [hf]; exact HE5.out.before (S2.kAlloc (S2.Keeps.refl _ _) _), S2.kAlloc (HKP.out.then (both_of HK5.out)) _⟩
    ·rw [if_neg hq] at HM
     have HQ := hI hq
     have hqd : ((((cP.fin cc).1.length : Nat) : Int) == ((cc.1.length : Nat) : Int)) = false := by simpa using (fun e => hq (by omega))
     clear hq
     generalize cP.val cc = x at *
     generalize hcf : cP.fin cc = cf at *
     clear hcf
     go_wp2_with (first
      | (have htok := HE5; clear htok; go_at_call 102; go_must (refine (S2.left_any _ b g cf.1 cf.2.1 (HE5.out.before (S2.kAlloc (S2.Keeps.refl _ _) _)).2.1).mono ?_; rintro e w6 ⟨rfl, rfl⟩))
      | (go_at_call 181; go_must (refine HSP.out.mono ?_; rintro e w5 ⟨rfl, h1, h2⟩; have HE5 := hI h1; have HK5 := hI h2; have HO5 := hI (ownG_keep HO.out HSB.out.2.1 h2); have p5 := S2.alloc_cell h1.ptr (.cells #[.string x.1, .int .u64 (x.2 : Int)] 86); clear h1 h2; unfold prV))
      | (go_at_call 102; go_must (refine (S2.left_any wr b g cc.1 cc.2.1 HE.out.2.1).mono ?_; rintro e w4 ⟨rfl, rfl⟩))
      | (at_builtin; go_must (refine append_G 29 _ 24 info_pr Tryz.underlying29 rfl (by decide) rfl _ _ rfl w2.heap.size _ F rfl (HO5.out.later (blAlloc (blAlloc (Below.refl _ _) _) _)) _ [x] rfl (one_G eP _ _ x _ _ rfl (World.size_alloc _ _)) (by have := HLT.out; simp only [List.length_cons, List.length_nil]; omega) (Nat.le_trans HS.out (Nat.le_trans HK5.out.size (blAlloc (blAlloc (Below.refl w5.heap.size w5) _) _).size)) ?_; intro v7 w7 h1 h2; have HO7 := hI h1; have HG7 := hI h2; clear h1 h2)))
     have HOB := hI (HO5.out.later (blAlloc (blAlloc (Below.refl _ _) (.cells #[.string x.1, .int .u64 (x.2 : Int)] 86)) (.cells #[.string x.1, .int .u64 (x.2 : Int)] 86)))
     have HE7 : Hid (EyeS w7 s b g cf) := hI ((HE5.out.before (S2.kAlloc (S2.kAlloc (S2.Keeps.refl _ _) _) _)).grown HG7.out (fun k hk => by
      have h1 := (HOB.out.block k hk).1
      have h2 := HSB.out
      refine .inr ⟨by omega, by omega, fun hne => ?_⟩
      have h3 := HGG.out (fun e => hne (List.eq_nil_of_length_eq_zero (by have h4 := HFL.out; rw [e] at h4; simpa using h4)))
      omega))
     have HK7 : Hid (S2.Keeps (Both s b) w w7) := hI (keeps_afterO (S2.kAlloc (S2.kAlloc (HKP.out.then (both_of HK5.out)) _) _) HG7.out (fun k hk => Nat.le_trans HK2.out.size (HOB.out.block k hk).1))
     have HS7 : Hid (w2.heap.size ≤ w7.heap.size) := hI (Nat.le_trans HS.out (Nat.le_trans HK5.out.size (Nat.le_trans (blAlloc (blAlloc (Below.refl w5.heap.size w5) (.cells #[.string x.1, .int .u64 (x.2 : Int)] 86)) (.cells #[.string x.1, .int .u64 (x.2 : Int)] 86)).size HG7.out.size)))
     have hm2 : N.toNat - (F ++ [x]).length = m := by have := HMM.out; rw [List.length_append, List.length_singleton]; omega
     clear HOB HG7
     go_roundw
     case rel =>
      refine ⟨F ++ [x], cf, by rw [List.length_append, List.length_singleton]; omega, by rw [List.length_append, List.length_singleton]; go_num, HO7.out, HE7.out, ?_, ?_, ?_, HS7.out, HK7.out⟩
      ·rw [hm2, List.append_assoc]
       have h := HV.out
       rw [HM.out] at h
       exact h
      ·rw [hm2]
       have h := HF.out
       rw [HM.out] at h
       exact h
      ·have h1 := HLN.out
       have h2 := HFL.out
       have h3 := HQ.out
       rw [List.length_append, List.length_singleton]
       omega
     case measure => simp [RowKit.intOf]; omega
   ·have hge : ¬ ((F.length : Nat) : Int) < N := by omega
    have hdk : decide (((F.length : Nat) : Int) < N) = false := decide_eq_false hge
    have h0m : N.toNat - F.length = 0 := by omega
    go_wp2
    go_ret
    have hv : cP.list.val c = F := by have h := HV.out; rw [h0m] at h; simpa [many] using h.symm
    have hf : cP.list.fin c = cc := by have h := HF.out; rw [h0m] at h; exact h.symm
    exact ⟨_, rfl, by rw [hv]; exact HO.out.mono HK2.out.size, by rw [hf]; exact HE.out, HKP.out⟩
theorem sWs_any {w : World} {s b g : Nat} {c : Cur} (he : EyeS w s b g c) (hlen : c.1.length ≤ 1000000) :
  Calls Tryz.prog 128 #[.pointer (some ⟨s, 0, none⟩)] w (SeeL eW 84 cW.list w s b g c) := by
 have HI := hI (slistW_any he hlen)
 clear he hlen
 go_enter Tryz.func128, Tryz.ntmps128
 go_wp2_with (go_at_call 178; go_must (refine HI.out.mono ?_; rintro e w1 ⟨v, rfl, h1, h2, h3⟩; have H1 := hI h1; have H2 := hI h2; have H3 := hI h3; clear h1 h2 h3))
 go_ret
 exact ⟨v, rfl, H1.out, H2.out, H3.out⟩
theorem sPs_any {w : World} {s b g : Nat} {c : Cur} (he : EyeS w s b g c) (hlen : c.1.length ≤ 1000000) :
  Calls Tryz.prog 129 #[.pointer (some ⟨s, 0, none⟩)] w (SeeL eP 86 cP.list w s b g c) := by
 have HI := hI (slistP_any he hlen)
 clear he hlen
 go_enter Tryz.func129, Tryz.ntmps129
 go_wp2_with (go_at_call 180; go_must (refine HI.out.mono ?_; rintro e w1 ⟨v, rfl, h1, h2, h3⟩; have H1 := hI h1; have H2 := hI h2; have H3 := hI h3; clear h1 h2 h3))
 go_ret
 exact ⟨v, rfl, H1.out, H2.out, H3.out⟩

theorem cloneW_any (va : Value) (l : List Wrt) (w : World) (hlen : l.length ≤ 1000000) (ha : SlG eW w va l) :
  Calls Tryz.prog 155 #[va] w fun e w' => ∃ v, e = .returned v ∧ OwnG eW 84 w' w.heap.size v l ∧ Below w.heap.size w w' := by
 have HA := hI ha
 obtain ⟨a, cap, rfl, hn, hr⟩ := ha
 cases a with
 | none =>
  obtain rfl : cap = 0 := hn rfl
  obtain rfl : l = [] := by
   apply Classical.byContradiction
   intro hne
   obtain ⟨_, _, h, _⟩ := hr hne
   cases h
  clear HA hn hr hlen
  show Calls Tryz.prog 155 #[.slice none 0 0] w _
  have hq := fun w : World => Lib.run_eql_slice_nil (P := Tryz.prog) w 28 84 none 0 0 0 0 Tryz.underlying28
  go_enter Tryz.func155, Tryz.ntmps155
  go_wp2
  go_ret
  exact ⟨_, rfl, OwnG.nil _ _, Below.refl _ _⟩
 | some ad =>
  clear hn hr
  have HL := hI hlen
  clear hlen
  have hq := fun w : World => Lib.run_eql_slice_nil (P := Tryz.prog) w 28 84 (some ad) l.length cap 0 0 Tryz.underlying28
  go_enter Tryz.func155, Tryz.ntmps155
  go_wp2_with (at_builtin; go_must (refine append_G 28 (.agg #[.string ⟨#[]⟩, .int .u64 0, .bool false]) 32 info_wr Tryz.underlying28 rfl (by decide) rfl _ _ rfl w.heap.size _ [] rfl (own_emptyG w 84 _ _ rfl (Nat.le_refl _)) _ l rfl (HA.out.later (blAlloc (Below.refl _ _) _)) (by have := HL.out; simp only [List.length_nil]; omega) (by simp) ?_; intro v' w' h1 h2; rw [List.nil_append] at h1; have HO := hI h1; have HB : Hid (Below w.heap.size w w') := ((Below.refl _ _).alloc (Nat.le_refl _) _).grown h2 (by simp) (fun k hk => ((own_emptyG (E := eW) w 84 _ w.heap.size rfl (Nat.le_refl _)).block k hk).1); clear h1 h2))
  go_ret
  exact ⟨v', rfl, HO.out, HB.out⟩
theorem cloneP_any (va : Value) (l : List (ByteArray × Nat)) (w : World) (hlen : l.length ≤ 1000000) (ha : SlG eP w va l) :
  Calls Tryz.prog 156 #[va] w fun e w' => ∃ v, e = .returned v ∧ OwnG eP 86 w' w.heap.size v l ∧ Below w.heap.size w w' := by
 have HA := hI ha
 obtain ⟨a, cap, rfl, hn, hr⟩ := ha
 cases a with
 | none =>
  obtain rfl : cap = 0 := hn rfl
  obtain rfl : l = [] := by
   apply Classical.byContradiction
   intro hne
   obtain ⟨_, _, h, _⟩ := hr hne
   cases h
  clear HA hn hr hlen
  show Calls Tryz.prog 156 #[.slice none 0 0] w _
  have hq := fun w : World => Lib.run_eql_slice_nil (P := Tryz.prog) w 29 86 none 0 0 0 0 Tryz.underlying29
  go_enter Tryz.func156, Tryz.ntmps156
  go_wp2
  go_ret
  exact ⟨_, rfl, OwnG.nil _ _, Below.refl _ _⟩
 | some ad =>
  clear hn hr
  have HL := hI hlen
  clear hlen
  have hq := fun w : World => Lib.run_eql_slice_nil (P := Tryz.prog) w 29 86 (some ad) l.length cap 0 0 Tryz.underlying29
  go_enter Tryz.func156, Tryz.ntmps156
  go_wp2_with (at_builtin; go_must (refine append_G 29 (.agg #[.string ⟨#[]⟩, .int .u64 0]) 24 info_pr Tryz.underlying29 rfl (by decide) rfl _ _ rfl w.heap.size _ [] rfl (own_emptyG w 86 _ _ rfl (Nat.le_refl _)) _ l rfl (HA.out.later (blAlloc (Below.refl _ _) _)) (by have := HL.out; simp only [List.length_nil]; omega) (by simp) ?_; intro v' w' h1 h2; rw [List.nil_append] at h1; have HO := hI h1; have HB : Hid (Below w.heap.size w w') := ((Below.refl _ _).alloc (Nat.le_refl _) _).grown h2 (by simp) (fun k hk => ((own_emptyG (E := eP) w 86 _ w.heap.size rfl (Nat.le_refl _)).block k hk).1); clear h1 h2))
  go_ret
  exact ⟨v', rfl, HO.out, HB.out⟩

theorem one_newTL (w : World) (x : ByteArray) (b : Nat) (hb : b = w.heap.size) (W : World) (hW : W.heap = (w.alloc (.cells #[.string x] 9)).heap) : S2.TL W b (some ⟨b, 0, none⟩) [x] := by
 subst hb
 intro _
 refine ⟨0, rfl, fun j z hj => ?_⟩
 have hb : W.heap[w.heap.size]? = some (.cells #[.string x] 9 (0, 0)) := by
  rw [hW]
  show (w.heap.push _)[w.heap.size]? = _
  rw [Array.getElem?_push_size]
 simp only [World.cell?, hb]
 match j, hj with
 | 0, hj => simp only [List.getElem?_cons_zero, Option.some.injEq] at hj; subst hj; rfl
 | n + 1, hj => simp at hj
theorem tx_one (x : ByteArray) : [x].flatMap S2.tx = S2.tx x := by simp
theorem bool_len (b : Bool) : (S2.tb b).length = 1 := by cases b <;> rfl
theorem box_three (w : World) (a b c : Value) (T : TypeId) : (w.alloc (.cells #[a, b, c] T)).cell? ⟨w.heap.size, 0, none⟩ = some a ∧ (w.alloc (.cells #[a, b, c] T)).cell? ⟨w.heap.size, 1, none⟩ = some b ∧ (w.alloc (.cells #[a, b, c] T)).cell? ⟨w.heap.size, 2, none⟩ = some c := by
 have hb : (w.alloc (.cells #[a, b, c] T)).heap[w.heap.size]? = some (.cells #[a, b, c] T (0, 0)) := new_blockC w _ T
 simp only [World.cell?, hb]
 exact ⟨rfl, rfl, rfl⟩
theorem cW_len (x : Wrt) : (cW.lay x).length = 13 + x.1.size := by
 show (S2.tx _ ++ (S2.i8 _ ++ S2.tb _)).length = _
 simp only [List.length_append, S2.tx_length, S2.i8_length, bool_len]
 omega
theorem cW_len_le : ∀ (l : List Wrt), (∀ o ∈ l, o.1.size ≤ 1000) → (l.flatMap cW.lay).length ≤ 1013 * l.length
 | [], _ => by simp
 | o :: l, h => by
  have h1 := cW_len_le l (fun x hx => h x (by simp [hx]))
  have h2 := h o (by simp)
  rw [List.flatMap_cons, List.length_append, cW_len, List.length_cons]
  omega
theorem cW_take {l : List Wrt} {k : Nat} {o : Wrt} (h : l[k]? = some o) : (l.take (k + 1)).flatMap cW.lay = (l.take k).flatMap cW.lay ++ cW.lay o := by
 rw [List.take_add_one, h, List.flatMap_append]
 simp
theorem pW_any (b : Nat) (r : Option Nat) (B : List UInt8) (va : Value) (l : List Wrt) (w0 w : World) (hp : S2.PenAt w b r B) (hlen : B.length ≤ 100000000) (hl : l.length ≤ 100000) (hk : ∀ o ∈ l, o.1.size ≤ 1000) (ha : SlG eW w0 va l) (hbel : Below w0.heap.size w0 w) (hb0 : w0.heap.size ≤ b) (hr0 : ∀ k, r = some k → w0.heap.size ≤ k) :
  Calls Tryz.prog 72 #[.pointer (some ⟨b, 0, none⟩), va] w (S2.Laid w b r (B ++ cW.list.lay l)) := by
 obtain ⟨aS, cS, rfl⟩ := ha.form
 have HS := hI ha
 have HK := hI hk
 have HLL := hI hl
 have HLB := hI hlen
 have HP0 := hI hp
 have HB0 := hI hbel
 have HBB := hI hb0
 have HR0 := hI hr0
 clear ha hk hl hp hlen hbel hb0 hr0
 go_enter Tryz.func72, Tryz.ntmps72
 go_wp2_with (go_at_call 68; go_must (refine (S2.int_any _ b r B w.heap.size _ 1 [(l.length : Int)] (HP0.out.before (S2.kAlloc (S2.Keeps.refl _ _) _)) (S2.one_new w _ _ rfl _ rfl) (HP0.out.apart (Nat.le_refl _)) (by have := HLB.out; simp only [List.length_cons, List.length_nil]; omega)).mono ?_; rw [i8_oneP]; rintro e w1 ⟨rfl, r1, hp1, hs1⟩; have HP1 := hI hp1; have HS1 := hI (hs1.before (w := w) (S2.kAlloc (S2.Keeps.refl _ _) _)); clear hp1 hs1))
 go_loopw [15] (fun i wr => ∃ (k : Nat) (r' : Option Nat), k ≤ l.length ∧ i = .int .i64 k ∧ S2.PenAt wr b r' (B ++ S2.i8 l.length ++ (l.take k).flatMap cW.lay) ∧ S2.PenStep b r r' w wr) (fun i _ => l.length - (RowKit.intOf i).toNat)
 case atStart => exact ⟨0, r1, Nat.zero_le _, rfl, by simpa using HP1.out, HS1.out⟩
 case round =>
  clear HP1 HS1 HP0
  obtain ⟨k, r', hk, rfl, hp, hst⟩ := hrel
  have HP := hI hp
  have HST := hI hst
  have hpb := pen_belowP (B := w0.heap.size) hst HB0.out.size HBB.out HR0.out
  have HB : Hid (Below w0.heap.size w0 wr) := HB0.out.trans hpb.1
  have HR := hI hpb.2
  have hll := HLL.out
  have HGL : Hid ((B ++ S2.i8 l.length ++ (l.take k).flatMap cW.lay).length ≤ 400000000) := by
   show _ ≤ _
   have h1 := cW_len_le (l.take k) (fun o ho => HK.out o (List.mem_of_mem_take ho))
   have := HLB.out
   rw [List.length_take] at h1
   rw [List.length_append, List.length_append, S2.i8_length]
   omega
  clear hp hst hpb
  by_cases hlt : k < l.length
  ·obtain ⟨⟨key, nm, gn⟩, hx⟩ := at_lt hlt
   obtain ⟨g, o, hA, hg, d0, d1, d2⟩ := wrs_at HS.out hx
   simp only at d0 d1 d2
   have c0 := cell_in HB.out hg d0
   have c1 := cell_in HB.out hg d1
   have c2 := cell_in HB.out hg d2
   have hk1 : (k : Int) < (l.length : Int) := by omega
   have hk0 : (0 : Int) ≤ (k : Int) := by omega
   have hdk : decide ((k : Int) < (l.length : Int)) = true := decide_eq_true hk1
   have hdn : decide (k < l.length) = true := decide_eq_true hlt
   have HFT := hI (cW_take hx)
   have HKx := hI (HK.out _ (List.mem_of_getElem? hx))
   simp only [Hid] at HKx
   have HKx := hI HKx
   clear hx d0 d1 d2
   subst hA
   generalize hG : B ++ S2.i8 l.length ++ (l.take k).flatMap cW.lay = G at *
   have HGE := hI hG
   clear hG
   have HOB := hI (box_three wr (.string key) (.int .u64 (nm : Int)) (.bool gn) 84)
   have HPA : Hid (S2.PenAt (wr.alloc (.cells #[.string key, .int .u64 (nm : Int), .bool gn] 84)) b r' G) := hI (HP.out.before (S2.kAlloc (S2.Keeps.refl (fun _ => False) wr) _))
   have HPX : Hid (¬ S2.PenS b r' wr.heap.size) := HP.out.apart (Nat.le_refl _)
   have HSA : Hid (S2.PenStep b r r' w (wr.alloc (.cells #[.string key, .int .u64 (nm : Int), .bool gn] 84))) := stepAlloc HST.out _
   go_wp2_with fail
   go_region_held3 (fun Y => Y.cell? ⟨wr.heap.size, 0, none⟩ = some (.string key))
    (first | exact b0 | exact HOB.out.1 | exact S2.alloc_cell HOB.out.1 _)
    (first | (go_at_call 145; go_must (refine (S2.text_any _ b r' G (wr.heap.size + 1) _ 1 [key] (HPA.out.before (S2.kDrew (S2.kAlloc (S2.Keeps.refl _ _) _))) (one_newTL (wr.alloc (.cells #[.string key, .int .u64 (nm : Int), .bool gn] 84)) key _ (by simp) _ rfl) (HPA.out.apart (by simp)) (fun j s hs => by have := HKx.out; match j, hs with | 0, hs => simp at hs; subst hs; omega | n + 1, hs => simp at hs) (by simp) (by have := HGL.out; have := HKx.out; simp only [S2.txSum]; omega)).mono ?_; rw [tx_one]; rintro e w5 ⟨rfl, r5, hp5, hs5⟩; have HP5 := hI hp5; have hs6 := hs5.before (w := (wr.alloc (.cells #[.string key, .int .u64 (nm : Int), .bool gn] 84))) (S2.kDrew (S2.kAlloc (S2.Keeps.refl _ _) _)); have HS5 := hI (HSA.out.trans hs6); have b0 := hs6.keeps.cell HPX.out HOB.out.1; have b1 := hs6.keeps.cell HPX.out HOB.out.2.1; have b2 := hs6.keeps.cell HPX.out HOB.out.2.2; have HPY := hI (hs6.free HPX.out (by simp)); have HZ5 : wr.heap.size < w5.heap.size := Nat.lt_of_lt_of_le (by simp) hs6.keeps.size; clear hp5 hs5 hs6)))
   go_wp2_with (first | (go_at_call 146; go_must (refine (pnum_any w5 b r5 (G ++ S2.tx key) nm HP5.out (by have := HGL.out; have := HKx.out; rw [List.length_append, S2.tx_length]; omega)).mono ?_; rintro e w7 ⟨rfl, r7, hp7, hs7⟩; have HP7 := hI hp7; have HS7 := hI (HS5.out.trans hs7); have e2 := hs7.keeps.cell HPY.out b2; have HPZ := hI (hs7.free HPY.out HZ5); clear hp7 hs7)))
   go_region_held3 (fun Y => Y.cell? ⟨wr.heap.size, 2, none⟩ = some (.bool gn)) (first | exact e3 | exact e2) (first | (go_at_call 69; go_must (refine (S2.bool_any _ b r7 (G ++ S2.tx key ++ S2.i8 (wrap64 (nm : Int))) gn (HP7.out.before (S2.kDrew (S2.Keeps.refl _ _))) (by have := HGL.out; have := HKx.out; rw [List.length_append, List.length_append, S2.tx_length, S2.i8_length]; omega)).mono ?_; rintro e w9 ⟨rfl, r9, hp9, hs9⟩; have HP9 := hI hp9; have hs8 := hs9.before (w := w7) (S2.kDrew (S2.Keeps.refl _ _)); have HS9 := hI (HS7.out.trans hs8); have e3 := hs8.keeps.cell HPZ.out e2; clear hp9 hs9 hs8)))
   go_wp2
   go_roundw
   case rel =>
    refine ⟨k + 1, r9, hlt, by go_num, ?_, HS9.out⟩
    have h9 := HP9.out
    have e : G ++ S2.tx key ++ S2.i8 (wrap64 (nm : Int)) ++ S2.tb gn = B ++ S2.i8 l.length ++ (l.take (k + 1)).flatMap cW.lay := by
     rw [HFT.out, ← HGE.out]
     show _ = B ++ S2.i8 l.length ++ ((l.take k).flatMap cW.lay ++ (S2.tx key ++ (S2.i8 (wrap64 (nm : Int)) ++ S2.tb gn)))
     simp [List.append_assoc]
    rw [← e]
    exact h9
   case measure => simp [RowKit.intOf]; omega
  ·have hge : ¬ (k : Int) < (l.length : Int) := by omega
   have hdk : decide ((k : Int) < (l.length : Int)) = false := decide_eq_false hge
   have hdn : decide (k < l.length) = false := decide_eq_false hlt
   have HT : Hid (B ++ S2.i8 l.length ++ (l.take k).flatMap cW.lay = B ++ cW.list.lay l) := by
    show _ = _
    rw [List.take_of_length_le (by omega), List.append_assoc]
    rfl
   rw [HT.out] at HP HGL
   go_wp2
   go_end0
   exact ⟨rfl, r', HP.out, HST.out⟩
theorem cP_len (x : (ByteArray × Nat)) : (cP.lay x).length = 12 + x.1.size := by
 show (S2.tx _ ++ S2.i8 _).length = _
 simp only [List.length_append, S2.tx_length, S2.i8_length]
 omega
theorem cP_len_le : ∀ (l : List (ByteArray × Nat)), (∀ o ∈ l, o.1.size ≤ 1000) → (l.flatMap cP.lay).length ≤ 1013 * l.length
 | [], _ => by simp
 | o :: l, h => by
  have h1 := cP_len_le l (fun x hx => h x (by simp [hx]))
  have h2 := h o (by simp)
  rw [List.flatMap_cons, List.length_append, cP_len, List.length_cons]
  omega
theorem cP_take {l : List (ByteArray × Nat)} {k : Nat} {o : (ByteArray × Nat)} (h : l[k]? = some o) : (l.take (k + 1)).flatMap cP.lay = (l.take k).flatMap cP.lay ++ cP.lay o := by
 rw [List.take_add_one, h, List.flatMap_append]
 simp
theorem pP_any (b : Nat) (r : Option Nat) (B : List UInt8) (va : Value) (l : List (ByteArray × Nat)) (w0 w : World) (hp : S2.PenAt w b r B) (hlen : B.length ≤ 100000000) (hl : l.length ≤ 100000) (hk : ∀ o ∈ l, o.1.size ≤ 1000) (ha : SlG eP w0 va l) (hbel : Below w0.heap.size w0 w) (hb0 : w0.heap.size ≤ b) (hr0 : ∀ k, r = some k → w0.heap.size ≤ k) :
  Calls Tryz.prog 73 #[.pointer (some ⟨b, 0, none⟩), va] w (S2.Laid w b r (B ++ cP.list.lay l)) := by
 obtain ⟨aS, cS, rfl⟩ := ha.form
 have HS := hI ha
 have HK := hI hk
 have HLL := hI hl
 have HLB := hI hlen
 have HP0 := hI hp
 have HB0 := hI hbel
 have HBB := hI hb0
 have HR0 := hI hr0
 clear ha hk hl hp hlen hbel hb0 hr0
 go_enter Tryz.func73, Tryz.ntmps73
 go_wp2_with (go_at_call 68; go_must (refine (S2.int_any _ b r B w.heap.size _ 1 [(l.length : Int)] (HP0.out.before (S2.kAlloc (S2.Keeps.refl _ _) _)) (S2.one_new w _ _ rfl _ rfl) (HP0.out.apart (Nat.le_refl _)) (by have := HLB.out; simp only [List.length_cons, List.length_nil]; omega)).mono ?_; rw [i8_oneP]; rintro e w1 ⟨rfl, r1, hp1, hs1⟩; have HP1 := hI hp1; have HS1 := hI (hs1.before (w := w) (S2.kAlloc (S2.Keeps.refl _ _) _)); clear hp1 hs1))
 go_loopw [15] (fun i wr => ∃ (k : Nat) (r' : Option Nat), k ≤ l.length ∧ i = .int .i64 k ∧ S2.PenAt wr b r' (B ++ S2.i8 l.length ++ (l.take k).flatMap cP.lay) ∧ S2.PenStep b r r' w wr) (fun i _ => l.length - (RowKit.intOf i).toNat)
 case atStart => exact ⟨0, r1, Nat.zero_le _, rfl, by simpa using HP1.out, HS1.out⟩
 case round =>
  clear HP1 HS1 HP0
  obtain ⟨k, r', hk, rfl, hp, hst⟩ := hrel
  have HP := hI hp
  have HST := hI hst
  have hpb := pen_belowP (B := w0.heap.size) hst HB0.out.size HBB.out HR0.out
  have HB : Hid (Below w0.heap.size w0 wr) := HB0.out.trans hpb.1
  have HR := hI hpb.2
  have hll := HLL.out
  have HGL : Hid ((B ++ S2.i8 l.length ++ (l.take k).flatMap cP.lay).length ≤ 400000000) := by
   show _ ≤ _
   have h1 := cP_len_le (l.take k) (fun o ho => HK.out o (List.mem_of_mem_take ho))
   have := HLB.out
   rw [List.length_take] at h1
   rw [List.length_append, List.length_append, S2.i8_length]
   omega
  clear hp hst hpb
  by_cases hlt : k < l.length
  ·obtain ⟨⟨key, nm⟩, hx⟩ := at_lt hlt
   obtain ⟨g, o, hA, hg, d0, d1⟩ := prs_at HS.out hx
   simp only at d0 d1
   have c0 := cell_in HB.out hg d0
   have c1 := cell_in HB.out hg d1
   have hk1 : (k : Int) < (l.length : Int) := by omega
   have hk0 : (0 : Int) ≤ (k : Int) := by omega
   have hdk : decide ((k : Int) < (l.length : Int)) = true := decide_eq_true hk1
   have hdn : decide (k < l.length) = true := decide_eq_true hlt
   have HFT := hI (cP_take hx)
   have HKx := hI (HK.out _ (List.mem_of_getElem? hx))
   simp only [Hid] at HKx
   have HKx := hI HKx
   clear hx d0 d1
   subst hA
   generalize hG : B ++ S2.i8 l.length ++ (l.take k).flatMap cP.lay = G at *
   have HGE := hI hG
   clear hG
   have HOB := hI (box_two wr (.string key) (.int .u64 (nm : Int)) 86 _ (Below.refl _ _))
   have HPA : Hid (S2.PenAt (wr.alloc (.cells #[.string key, .int .u64 (nm : Int)] 86)) b r' G) := hI (HP.out.before (S2.kAlloc (S2.Keeps.refl (fun _ => False) wr) _))
   have HPX : Hid (¬ S2.PenS b r' wr.heap.size) := HP.out.apart (Nat.le_refl _)
   have HSA : Hid (S2.PenStep b r r' w (wr.alloc (.cells #[.string key, .int .u64 (nm : Int)] 86))) := stepAlloc HST.out _
   go_wp2_with fail
   go_region_held3 (fun Y => Y.cell? ⟨wr.heap.size, 0, none⟩ = some (.string key))
    (first | exact b0 | exact HOB.out.1 | exact S2.alloc_cell HOB.out.1 _)
    (first | (go_at_call 145; go_must (refine (S2.text_any _ b r' G (wr.heap.size + 1) _ 1 [key] (HPA.out.before (S2.kDrew (S2.kAlloc (S2.Keeps.refl _ _) _))) (one_newTL (wr.alloc (.cells #[.string key, .int .u64 (nm : Int)] 86)) key _ (by simp) _ rfl) (HPA.out.apart (by simp)) (fun j s hs => by have := HKx.out; match j, hs with | 0, hs => simp at hs; subst hs; omega | n + 1, hs => simp at hs) (by simp) (by have := HGL.out; have := HKx.out; simp only [S2.txSum]; omega)).mono ?_; rw [tx_one]; rintro e w5 ⟨rfl, r5, hp5, hs5⟩; have HP5 := hI hp5; have hs6 := hs5.before (w := (wr.alloc (.cells #[.string key, .int .u64 (nm : Int)] 86))) (S2.kDrew (S2.kAlloc (S2.Keeps.refl _ _) _)); have HS5 := hI (HSA.out.trans hs6); have b0 := hs6.keeps.cell HPX.out HOB.out.1; have b1 := hs6.keeps.cell HPX.out HOB.out.2; clear hp5 hs5 hs6)))
   go_wp2_with (first | (go_at_call 146; go_must (refine (pnum_any w5 b r5 (G ++ S2.tx key) nm HP5.out (by have := HGL.out; have := HKx.out; rw [List.length_append, S2.tx_length]; omega)).mono ?_; rintro e w7 ⟨rfl, r7, hp7, hs7⟩; have HP7 := hI hp7; have HS7 := hI (HS5.out.trans hs7); clear hp7 hs7)))
   go_roundw
   case rel =>
    refine ⟨k + 1, r7, hlt, by go_num, ?_, HS7.out⟩
    have h9 := HP7.out
    have e : G ++ S2.tx key ++ S2.i8 (wrap64 (nm : Int)) = B ++ S2.i8 l.length ++ (l.take (k + 1)).flatMap cP.lay := by
     rw [HFT.out, ← HGE.out]
     show _ = B ++ S2.i8 l.length ++ ((l.take k).flatMap cP.lay ++ (S2.tx key ++ S2.i8 (wrap64 (nm : Int))))
     simp [List.append_assoc]
    rw [← e]
    exact h9
   case measure => simp [RowKit.intOf]; omega
  ·have hge : ¬ (k : Int) < (l.length : Int) := by omega
   have hdk : decide ((k : Int) < (l.length : Int)) = false := decide_eq_false hge
   have hdn : decide (k < l.length) = false := decide_eq_false hlt
   have HT : Hid (B ++ S2.i8 l.length ++ (l.take k).flatMap cP.lay = B ++ cP.list.lay l) := by
    show _ = _
    rw [List.take_of_length_le (by omega), List.append_assoc]
    rfl
   rw [HT.out] at HP HGL
   go_wp2
   go_end0
   exact ⟨rfl, r', HP.out, HST.out⟩

theorem areData_any (va : Value) (l : List (ByteArray × Nat)) (w : World) (hl : l.length ≤ 1000000) (ha : SlG eP w va l) :
  Calls Tryz.prog 140 #[va] w fun e w' => e = .returned (.bool (dataB none l)) ∧ Below w.heap.size w w' := by
 obtain ⟨aa, ca, rfl⟩ := ha.form
 have HA := hI ha
 clear ha
 generalize hv : dataB none l = v
 have HV := hI hv
 clear hv
 go_enter Tryz.func140, Tryz.ntmps140
 go_wp2
 go_loopw [7] (fun i wr => ∃ k : Nat, k ≤ l.length ∧ i = .int .i64 k ∧ dataB none (l.take k) = true ∧ Below w.heap.size w wr) (fun i _ => l.length - (RowKit.intOf i).toNat)
 case atStart => exact ⟨0, Nat.zero_le _, rfl, by first | rfl | trivial, Below.refl _ _⟩
 case round =>
  obtain ⟨k, hk, rfl, hno, hb⟩ := hrel
  have HNO := hI hno
  have HBW := hI hb
  by_cases hlt : k < l.length
  ·obtain ⟨⟨key, nm⟩, hp⟩ := at_lt hlt
   have HAr := hI (HA.out.later hb)
   have HST := hI (dataB_step hp hno)
   have HQ : Hid (0 < k → ∃ q, l[k - 1]? = some q ∧ lastK (l.take k) = some q.1 ∧ ∃ g o, aa = some ⟨g, o, none⟩ ∧ wr.cell? ⟨g, o + (k - 1) * 2, none⟩ = some (.string q.1)) := by
    intro h0
    obtain ⟨q, hq⟩ := at_lt (l := l) (k := k - 1) (by omega)
    obtain ⟨g, o, h1, _, h2, _⟩ := prs_at HAr.out hq
    refine ⟨q, hq, ?_, g, o, h1, h2⟩
    have := lastK_take hq
    rwa [show k - 1 + 1 = k by omega] at this
   obtain ⟨g, o, rfl, hg, c0, c1⟩ := prs_at HAr.out hp
   simp only at c0 c1
   have hk0 : (0 : Int) ≤ (k : Int) := by omega
   have hkl : (k : Int) < (l.length : Int) := by omega
   have hdkl : decide ((k : Int) < (l.length : Int)) = true := decide_eq_true hkl
   clear hp hno hb HAr
   cases hpk : (keyB key && decide (SN.rtN nm = nm))
   ·have HK1 := hI (fun W : World => (isPair_any key nm W))
    rw [hpk] at HK1
    have HF : Hid (dataB none l = false) := dataB_bad (k + 1) (by rw [HST.out]; simp only; rw [hpk]; simp)
    clear HQ
    go_wp2_with fail
    go_quiet (first | (go_at_call 187; exact Calls.quiet_of_same ((HK1.out _).mono (fun e wq kk => ⟨kk.1, kk.2.symm⟩))))
    go_wp2
    go_ret
    exact ⟨ret_bool (HF.out.symm.trans HV.out), (blAlloc HBW.out _).trans ⟨rfl, rfl, rfl, Nat.le_refl _, fun _ _ => rfl⟩⟩
   ·have HK1 := hI (fun W : World => (isPair_any key nm W))
    rw [hpk] at HK1
    have HOK : Hid ((keyB key && decide (SN.rtN nm = nm)) = true) := hpk
    by_cases h0 : 0 < k
    ·obtain ⟨⟨qk, qr⟩, hq, hlast, g2, o2, e2, cq⟩ := HQ.out h0
     cases e2
     simp only at cq hlast
     have h0I : (0 : Int) < (k : Int) := by omega
     have h0d : decide ((0 : Int) < (k : Int)) = true := decide_eq_true h0I
     have hm1 : wrap64 ((k : Int) - 1) = ((k - 1 : Nat) : Int) := by unfold wrap64; omega
     have hm0 : IntKind.i64.wrap ((k : Int) - 1) = ((k - 1 : Nat) : Int) := by rw [IntKind.wrap_i64]; omega
     have hm2 : (0 : Int) ≤ ((k - 1 : Nat) : Int) := by omega
     have hm3 : ((k - 1 : Nat) : Int) < (l.length : Int) := by omega
     have hA : Hid (aheadB (if l.take k = [] then none else lastK (l.take k)) key = ltT qk key) := by
      show _ = _
      rw [hlast, if_neg]
      ·rfl
      ·intro e
       have := congrArg List.length e
       rw [List.length_take, List.length_nil] at this
       omega
     clear HQ hlast hq
     cases hL : ltT qk key
     ·have HF : Hid (dataB none l = false) := dataB_bad (k + 1) (by rw [HST.out]; simp only; rw [hA.out, hL, Bool.and_false])
      cases hM : ltT key qk
      ·have t4 : Op.bytesLess key.toList qk.toList = false := hM
       have t5 : (key.toList == qk.toList) = true := by rw [lt_total hM hL]; exact beq_self_eq_true _
       go_wp2_with fail
       go_quiet (first | (go_at_call 187; exact Calls.quiet_of_same ((HK1.out _).mono (fun e wq kk => ⟨kk.1, kk.2.symm⟩))))
       go_wp2
       go_ret
       exact ⟨ret_bool (HF.out.symm.trans HV.out), (blAlloc HBW.out _).trans ⟨rfl, rfl, rfl, Nat.le_refl _, fun _ _ => rfl⟩⟩
      ·have t4 : Op.bytesLess key.toList qk.toList = true := hM
       go_wp2_with fail
       go_quiet (first | (go_at_call 187; exact Calls.quiet_of_same ((HK1.out _).mono (fun e wq kk => ⟨kk.1, kk.2.symm⟩))))
       go_wp2
       go_ret
       exact ⟨ret_bool (HF.out.symm.trans HV.out), (blAlloc HBW.out _).trans ⟨rfl, rfl, rfl, Nat.le_refl _, fun _ _ => rfl⟩⟩
     ·have t4 : Op.bytesLess key.toList qk.toList = false := lt_asymm hL
      have t5 : (key.toList == qk.toList) = false := by
       rw [beq_eq_false_iff_ne]
       intro e
       exact lt_ne hL (text_ext e).symm
      have HT : Hid (dataB none (l.take (k + 1)) = true) := by
       show _ = _
       rw [HST.out]
       simp only
       rw [hA.out, hL, HOK.out]
       rfl
      go_wp2_with fail
      go_quiet (first | (go_at_call 187; exact Calls.quiet_of_same ((HK1.out _).mono (fun e wq kk => ⟨kk.1, kk.2.symm⟩))))
      go_wp2
      go_roundw
      case rel => exact ⟨k + 1, hlt, by go_num, HT.out, (blAlloc HBW.out _).trans ⟨rfl, rfl, rfl, Nat.le_refl _, fun _ _ => rfl⟩⟩
      case measure => simp [RowKit.intOf]; omega
    ·have h0I : ¬ (0 : Int) < (k : Int) := by omega
     have h0d : decide ((0 : Int) < (k : Int)) = false := decide_eq_false h0I
     obtain rfl : k = 0 := by omega
     have HT : Hid (dataB none (l.take (0 + 1)) = true) := by
      show _ = _
      rw [HST.out, List.take_zero, if_pos rfl, HOK.out]
      rfl
     clear HQ
     simp only [Nat.zero_mul, Nat.add_zero] at c0 c1
     go_wp2_with fail
     go_quiet (first | (go_at_call 187; exact Calls.quiet_of_same ((HK1.out _).mono (fun e wq kk => ⟨kk.1, kk.2.symm⟩))))
     go_wp2
     go_roundw
     case rel => exact ⟨0 + 1, hlt, by go_num, HT.out, (blAlloc HBW.out _).trans ⟨rfl, rfl, rfl, Nat.le_refl _, fun _ _ => rfl⟩⟩
     case measure => simp [RowKit.intOf]; omega
  ·have HF : Hid (dataB none l = true) := by
    have h := HNO.out
    rw [List.take_of_length_le (by omega)] at h
    exact h
   have hge : ¬ (k : Int) < (l.length : Int) := by omega
   have hdkl : decide ((k : Int) < (l.length : Int)) = false := decide_eq_false hge
   have hdn : decide (k < l.length) = false := decide_eq_false hlt
   clear hno hb
   go_wp2
   go_ret
   exact ⟨ret_bool (HF.out.symm.trans HV.out), HBW.out⟩
theorem areWrites_any (va : Value) (l : List Wrt) (w : World) (hl : l.length ≤ 1000000) (ha : SlG eW w va l) :
  Calls Tryz.prog 139 #[va] w fun e w' => e = .returned (.bool (writesB none l)) ∧ Below w.heap.size w w' := by
 obtain ⟨aa, ca, rfl⟩ := ha.form
 have HA := hI ha
 clear ha
 generalize hv : writesB none l = v
 have HV := hI hv
 clear hv
 go_enter Tryz.func139, Tryz.ntmps139
 go_wp2
 go_loopw [7] (fun i wr => ∃ k : Nat, k ≤ l.length ∧ i = .int .i64 k ∧ writesB none (l.take k) = true ∧ Below w.heap.size w wr) (fun i _ => l.length - (RowKit.intOf i).toNat)
 case atStart => exact ⟨0, Nat.zero_le _, rfl, by first | rfl | trivial, Below.refl _ _⟩
 case round =>
  obtain ⟨k, hk, rfl, hno, hb⟩ := hrel
  have HNO := hI hno
  have HBW := hI hb
  by_cases hlt : k < l.length
  ·obtain ⟨⟨key, nm, gn⟩, hp⟩ := at_lt hlt
   have HAr := hI (HA.out.later hb)
   have HST := hI (writesB_step hp hno)
   have HQ : Hid (0 < k → ∃ q, l[k - 1]? = some q ∧ lastW (l.take k) = some q.1 ∧ ∃ g o, aa = some ⟨g, o, none⟩ ∧ wr.cell? ⟨g, o + (k - 1) * 3, none⟩ = some (.string q.1)) := by
    intro h0
    obtain ⟨q, hq⟩ := at_lt (l := l) (k := k - 1) (by omega)
    obtain ⟨g, o, h1, _, h2, _⟩ := wrs_at HAr.out hq
    refine ⟨q, hq, ?_, g, o, h1, h2⟩
    have := lastW_take hq
    rwa [show k - 1 + 1 = k by omega] at this
   obtain ⟨g, o, rfl, hg, c0, c1, c2⟩ := wrs_at HAr.out hp
   simp only at c0 c1 c2
   have hk0 : (0 : Int) ≤ (k : Int) := by omega
   have hkl : (k : Int) < (l.length : Int) := by omega
   have hdkl : decide ((k : Int) < (l.length : Int)) = true := decide_eq_true hkl
   clear hp hno hb HAr
   cases hpk : (keyB key && decide (SN.rtN nm = nm))
   ·have HK1 := hI (fun W : World => (isPair_any key nm W))
    rw [hpk] at HK1
    have HF : Hid (writesB none l = false) := writesB_bad (k + 1) (by rw [HST.out]; unfold wOk; simp only; rw [hpk]; simp)
    clear HQ
    go_wp2_with fail
    go_quiet (first | (go_at_call 187; exact Calls.quiet_of_same ((HK1.out _).mono (fun e wq kk => ⟨kk.1, kk.2.symm⟩))))
    go_wp2
    go_ret
    exact ⟨ret_bool (HF.out.symm.trans HV.out), (blAlloc HBW.out _).trans ⟨rfl, rfl, rfl, Nat.le_refl _, fun _ _ => rfl⟩⟩
   ·have HK1 := hI (fun W : World => (isPair_any key nm W))
    rw [hpk] at HK1
    cases gn
    ·have HOK : Hid (wOk (key, nm, false) = true) := by show _ = _; unfold wOk; simp only; rw [hpk]; rfl
     by_cases h0 : 0 < k
     ·obtain ⟨⟨qk, qr⟩, hq, hlast, g2, o2, e2, cq⟩ := HQ.out h0
      cases e2
      simp only at cq hlast
      have h0I : (0 : Int) < (k : Int) := by omega
      have h0d : decide ((0 : Int) < (k : Int)) = true := decide_eq_true h0I
      have hm1 : wrap64 ((k : Int) - 1) = ((k - 1 : Nat) : Int) := by unfold wrap64; omega
      have hm0 : IntKind.i64.wrap ((k : Int) - 1) = ((k - 1 : Nat) : Int) := by rw [IntKind.wrap_i64]; omega
      have hm2 : (0 : Int) ≤ ((k - 1 : Nat) : Int) := by omega
      have hm3 : ((k - 1 : Nat) : Int) < (l.length : Int) := by omega
      have hA : Hid (aheadB (if l.take k = [] then none else lastW (l.take k)) key = ltT qk key) := by
       show _ = _
       rw [hlast, if_neg]
       ·rfl
       ·intro e
        have := congrArg List.length e
        rw [List.length_take, List.length_nil] at this
        omega
      clear HQ hlast hq
      cases hL : ltT qk key
      ·have HF : Hid (writesB none l = false) := writesB_bad (k + 1) (by rw [HST.out]; simp only; rw [hA.out, hL, Bool.and_false])
       cases hM : ltT key qk
       ·have t4 : Op.bytesLess key.toList qk.toList = false := hM
        have t5 : (key.toList == qk.toList) = true := by rw [lt_total hM hL]; exact beq_self_eq_true _
        go_wp2_with fail
        go_quiet (first | (go_at_call 187; exact Calls.quiet_of_same ((HK1.out _).mono (fun e wq kk => ⟨kk.1, kk.2.symm⟩))))
        go_wp2
        go_ret
        exact ⟨ret_bool (HF.out.symm.trans HV.out), (blAlloc HBW.out _).trans ⟨rfl, rfl, rfl, Nat.le_refl _, fun _ _ => rfl⟩⟩
       ·have t4 : Op.bytesLess key.toList qk.toList = true := hM
        go_wp2_with fail
        go_quiet (first | (go_at_call 187; exact Calls.quiet_of_same ((HK1.out _).mono (fun e wq kk => ⟨kk.1, kk.2.symm⟩))))
        go_wp2
        go_ret
        exact ⟨ret_bool (HF.out.symm.trans HV.out), (blAlloc HBW.out _).trans ⟨rfl, rfl, rfl, Nat.le_refl _, fun _ _ => rfl⟩⟩
      ·have t4 : Op.bytesLess key.toList qk.toList = false := lt_asymm hL
       have t5 : (key.toList == qk.toList) = false := by
        rw [beq_eq_false_iff_ne]
        intro e
        exact lt_ne hL (text_ext e).symm
       have HT : Hid (writesB none (l.take (k + 1)) = true) := by
        show _ = _
        rw [HST.out]
        simp only
        rw [hA.out, hL, HOK.out]
        rfl
       go_wp2_with fail
       go_quiet (first | (go_at_call 187; exact Calls.quiet_of_same ((HK1.out _).mono (fun e wq kk => ⟨kk.1, kk.2.symm⟩))))
       go_wp2
       go_roundw
       case rel => exact ⟨k + 1, hlt, by go_num, HT.out, (blAlloc HBW.out _).trans ⟨rfl, rfl, rfl, Nat.le_refl _, fun _ _ => rfl⟩⟩
       case measure => simp [RowKit.intOf]; omega
     ·have h0I : ¬ (0 : Int) < (k : Int) := by omega
      have h0d : decide ((0 : Int) < (k : Int)) = false := decide_eq_false h0I
      obtain rfl : k = 0 := by omega
      have HT : Hid (writesB none (l.take (0 + 1)) = true) := by
       show _ = _
       rw [HST.out, List.take_zero, if_pos rfl, HOK.out]
       rfl
      clear HQ
      simp only [Nat.zero_mul, Nat.add_zero] at c0 c1 c2
      go_wp2_with fail
      go_quiet (first | (go_at_call 187; exact Calls.quiet_of_same ((HK1.out _).mono (fun e wq kk => ⟨kk.1, kk.2.symm⟩))))
      go_wp2
      go_roundw
      case rel => exact ⟨0 + 1, hlt, by go_num, HT.out, (blAlloc HBW.out _).trans ⟨rfl, rfl, rfl, Nat.le_refl _, fun _ _ => rfl⟩⟩
      case measure => simp [RowKit.intOf]; omega
    ·by_cases hz : nm = 0
     ·subst hz
      have HOK : Hid (wOk (key, 0, true) = true) := by show _ = _; unfold wOk; simp only; rw [hpk]; rfl
      by_cases h0 : 0 < k
      ·obtain ⟨⟨qk, qr⟩, hq, hlast, g2, o2, e2, cq⟩ := HQ.out h0
       cases e2
       simp only at cq hlast
       have h0I : (0 : Int) < (k : Int) := by omega
       have h0d : decide ((0 : Int) < (k : Int)) = true := decide_eq_true h0I
       have hm1 : wrap64 ((k : Int) - 1) = ((k - 1 : Nat) : Int) := by unfold wrap64; omega
       have hm0 : IntKind.i64.wrap ((k : Int) - 1) = ((k - 1 : Nat) : Int) := by rw [IntKind.wrap_i64]; omega
       have hm2 : (0 : Int) ≤ ((k - 1 : Nat) : Int) := by omega
       have hm3 : ((k - 1 : Nat) : Int) < (l.length : Int) := by omega
       have hA : Hid (aheadB (if l.take k = [] then none else lastW (l.take k)) key = ltT qk key) := by
        show _ = _
        rw [hlast, if_neg]
        ·rfl
        ·intro e
         have := congrArg List.length e
         rw [List.length_take, List.length_nil] at this
         omega
       clear HQ hlast hq
       cases hL : ltT qk key
       ·have HF : Hid (writesB none l = false) := writesB_bad (k + 1) (by rw [HST.out]; simp only; rw [hA.out, hL, Bool.and_false])
        cases hM : ltT key qk
        ·have t4 : Op.bytesLess key.toList qk.toList = false := hM
         have t5 : (key.toList == qk.toList) = true := by rw [lt_total hM hL]; exact beq_self_eq_true _
         go_wp2_with fail
         go_quiet (first | (go_at_call 187; exact Calls.quiet_of_same ((HK1.out _).mono (fun e wq kk => ⟨kk.1, kk.2.symm⟩))))
         go_wp2
         go_ret
         exact ⟨ret_bool (HF.out.symm.trans HV.out), (blAlloc HBW.out _).trans ⟨rfl, rfl, rfl, Nat.le_refl _, fun _ _ => rfl⟩⟩
        ·have t4 : Op.bytesLess key.toList qk.toList = true := hM
         go_wp2_with fail
         go_quiet (first | (go_at_call 187; exact Calls.quiet_of_same ((HK1.out _).mono (fun e wq kk => ⟨kk.1, kk.2.symm⟩))))
         go_wp2
         go_ret
         exact ⟨ret_bool (HF.out.symm.trans HV.out), (blAlloc HBW.out _).trans ⟨rfl, rfl, rfl, Nat.le_refl _, fun _ _ => rfl⟩⟩
       ·have t4 : Op.bytesLess key.toList qk.toList = false := lt_asymm hL
        have t5 : (key.toList == qk.toList) = false := by
         rw [beq_eq_false_iff_ne]
         intro e
         exact lt_ne hL (text_ext e).symm
        have HT : Hid (writesB none (l.take (k + 1)) = true) := by
         show _ = _
         rw [HST.out]
         simp only
         rw [hA.out, hL, HOK.out]
         rfl
        go_wp2_with fail
        go_quiet (first | (go_at_call 187; exact Calls.quiet_of_same ((HK1.out _).mono (fun e wq kk => ⟨kk.1, kk.2.symm⟩))))
        go_wp2
        go_roundw
        case rel => exact ⟨k + 1, hlt, by go_num, HT.out, (blAlloc HBW.out _).trans ⟨rfl, rfl, rfl, Nat.le_refl _, fun _ _ => rfl⟩⟩
        case measure => simp [RowKit.intOf]; omega
      ·have h0I : ¬ (0 : Int) < (k : Int) := by omega
       have h0d : decide ((0 : Int) < (k : Int)) = false := decide_eq_false h0I
       obtain rfl : k = 0 := by omega
       have HT : Hid (writesB none (l.take (0 + 1)) = true) := by
        show _ = _
        rw [HST.out, List.take_zero, if_pos rfl, HOK.out]
        rfl
       clear HQ
       simp only [Nat.zero_mul, Nat.add_zero] at c0 c1 c2
       go_wp2_with fail
       go_quiet (first | (go_at_call 187; exact Calls.quiet_of_same ((HK1.out _).mono (fun e wq kk => ⟨kk.1, kk.2.symm⟩))))
       go_wp2
       go_roundw
       case rel => exact ⟨0 + 1, hlt, by go_num, HT.out, (blAlloc HBW.out _).trans ⟨rfl, rfl, rfl, Nat.le_refl _, fun _ _ => rfl⟩⟩
       case measure => simp [RowKit.intOf]; omega
     ·have hzI : ((nm : Int) == 0) = false := by simpa using hz
      have hzN : ((nm : Int) != 0) = true := by simpa using hz
      have hz2 : ¬ (nm : Int) = 0 := by omega
      have HF : Hid (writesB none l = false) := writesB_bad (k + 1) (by rw [HST.out]; unfold wOk; simp [hz])
      clear HQ
      go_wp2_with fail
      go_quiet (first | (go_at_call 187; exact Calls.quiet_of_same ((HK1.out _).mono (fun e wq kk => ⟨kk.1, kk.2.symm⟩))))
      go_wp2
      go_ret
      exact ⟨ret_bool (HF.out.symm.trans HV.out), (blAlloc HBW.out _).trans ⟨rfl, rfl, rfl, Nat.le_refl _, fun _ _ => rfl⟩⟩
  ·have HF : Hid (writesB none l = true) := by
    have h := HNO.out
    rw [List.take_of_length_le (by omega)] at h
    exact h
   have hge : ¬ (k : Int) < (l.length : Int) := by omega
   have hdkl : decide ((k : Int) < (l.length : Int)) = false := decide_eq_false hge
   have hdn : decide (k < l.length) = false := decide_eq_false hlt
   clear hno hb
   go_wp2
   go_ret
   exact ⟨ret_bool (HF.out.symm.trans HV.out), HBW.out⟩

theorem rdataw_any (va : Value) (l : List (ByteArray × Nat)) (w : World) (hl : l.length ≤ 9223372036854775807) (hn64 : ∀ p ∈ l, p.2 < 18446744073709551616) (ha : SlG eP w va l) :
  Calls Tryz.prog 62 #[va] w fun e w' => e = .returned (.bool (dataB none l)) ∧ Below w.heap.size w w' := by
 obtain ⟨aa, ca, rfl⟩ := ha.form
 have HA := hI ha
 clear ha
 have HN := hI hn64
 clear hn64
 generalize hv : dataB none l = v
 have HV := hI hv
 clear hv
 go_enter Tryz.func62, Tryz.ntmps62
 go_wp2
 go_loopw [3] (fun i wr => ∃ k : Nat, k ≤ l.length ∧ i = .int .i64 k ∧ dataB none (l.take k) = true ∧ Below w.heap.size w wr) (fun i _ => l.length - (RowKit.intOf i).toNat)
 case atStart => exact ⟨0, Nat.zero_le _, rfl, by first | rfl | trivial, Below.refl _ _⟩
 case round =>
  obtain ⟨k, hk, rfl, hno, hb⟩ := hrel
  have HNO := hI hno
  have HBW := hI hb
  by_cases hlt : k < l.length
  ·obtain ⟨⟨key, nm⟩, hp⟩ := at_lt hlt
   have hn64 : nm < 18446744073709551616 := HN.out _ (List.mem_of_getElem? hp)
   have HN64 := hI hn64
   clear hn64
   have HAr := hI (HA.out.later hb)
   have HST := hI (dataB_step hp hno)
   have HQ : Hid (0 < k → ∃ q, l[k - 1]? = some q ∧ lastK (l.take k) = some q.1 ∧ ∃ g o, aa = some ⟨g, o, none⟩ ∧ wr.cell? ⟨g, o + (k - 1) * 2, none⟩ = some (.string q.1)) := by
    intro h0
    obtain ⟨q, hq⟩ := at_lt (l := l) (k := k - 1) (by omega)
    obtain ⟨g, o, h1, _, h2, _⟩ := prs_at HAr.out hq
    refine ⟨q, hq, ?_, g, o, h1, h2⟩
    have := lastK_take hq
    rwa [show k - 1 + 1 = k by omega] at this
   obtain ⟨g, o, rfl, hg, c0, c1⟩ := prs_at HAr.out hp
   simp only at c0 c1
   have hk0 : (0 : Int) ≤ (k : Int) := by omega
   have hkl : (k : Int) < (l.length : Int) := by omega
   have hdkl : decide ((k : Int) < (l.length : Int)) = true := decide_eq_true hkl
   clear hp hno hb HAr
   cases hk1 : keyB key
   ·have HK1 := hI (fun W : World => (S3.refkey_any key W))
    rw [hk1] at HK1
    have HF : Hid (dataB none l = false) := dataB_bad (k + 1) (by rw [HST.out]; simp [hk1])
    clear HQ
    go_wp2_with fail
    go_quiet (first | (go_at_call 141; exact Calls.quiet_of_same ((HK1.out _).mono (fun e wq kk => ⟨kk.1, kk.2.symm⟩))))
    go_wp2
    go_ret
    exact ⟨ret_bool (HF.out.symm.trans HV.out), HBW.out.trans ⟨rfl, rfl, rfl, Nat.le_refl _, fun _ _ => rfl⟩⟩
   ·have HK1 := hI (fun W : World => (S3.refkey_any key W))
    rw [hk1] at HK1
    by_cases hr : SN.rtN nm = nm
    rotate_left
    ·have hn : decide (SN.chN nm = 0) = false := by unfold SN.chN; rw [if_neg hr]; rfl
     have HK2 := hI (fun W : World => (SN.ris_any nm HN64.out W))
     rw [hn] at HK2
     clear hn
     have HF : Hid (dataB none l = false) := dataB_bad (k + 1) (by rw [HST.out]; simp [hr])
     clear HQ
     go_wp2_with fail
     go_quiet (first | (go_at_call 141; exact Calls.quiet_of_same ((HK1.out _).mono (fun e wq kk => ⟨kk.1, kk.2.symm⟩))) | (go_at_call 142; exact Calls.quiet_of_same ((HK2.out _).mono (fun e wq kk => ⟨kk.1, kk.2.symm⟩))))
     go_wp2
     go_ret
     exact ⟨ret_bool (HF.out.symm.trans HV.out), HBW.out.trans ⟨rfl, rfl, rfl, Nat.le_refl _, fun _ _ => rfl⟩⟩
    ·have hn : decide (SN.chN nm = 0) = true := by unfold SN.chN; rw [if_pos hr]; rfl
     have HK2 := hI (fun W : World => (SN.ris_any nm HN64.out W))
     rw [hn] at HK2
     clear hn
     have HOK : Hid ((keyB key && decide (SN.rtN nm = nm)) = true) := by show _ = _; rw [hk1, decide_eq_true hr]; rfl
     by_cases h0 : 0 < k
     ·obtain ⟨⟨qk, qr⟩, hq, hlast, g2, o2, e2, cq⟩ := HQ.out h0
      cases e2
      simp only at cq hlast
      have h0I : (0 : Int) < (k : Int) := by omega
      have h0d : decide ((0 : Int) < (k : Int)) = true := decide_eq_true h0I
      have hm1 : wrap64 ((k : Int) - 1) = ((k - 1 : Nat) : Int) := by unfold wrap64; omega
      have hm0 : IntKind.i64.wrap ((k : Int) - 1) = ((k - 1 : Nat) : Int) := by rw [IntKind.wrap_i64]; omega
      have hm2 : (0 : Int) ≤ ((k - 1 : Nat) : Int) := by omega
      have hm3 : ((k - 1 : Nat) : Int) < (l.length : Int) := by omega
      have hA : Hid (aheadB (if l.take k = [] then none else lastK (l.take k)) key = ltT qk key) := by
       show _ = _
       rw [hlast, if_neg]
       ·rfl
       ·intro e
        have := congrArg List.length e
        rw [List.length_take, List.length_nil] at this
        omega
      clear HQ hlast hq
      cases hL : ltT qk key
      ·have HF : Hid (dataB none l = false) := dataB_bad (k + 1) (by rw [HST.out]; simp only; rw [hA.out, hL, Bool.and_false])
       cases hM : ltT key qk
       ·have t4 : Op.bytesLess key.toList qk.toList = false := hM
        have t5 : (key.toList == qk.toList) = true := by rw [lt_total hM hL]; exact beq_self_eq_true _
        go_wp2_with fail
        go_quiet (first | (go_at_call 141; exact Calls.quiet_of_same ((HK1.out _).mono (fun e wq kk => ⟨kk.1, kk.2.symm⟩))) | (go_at_call 142; exact Calls.quiet_of_same ((HK2.out _).mono (fun e wq kk => ⟨kk.1, kk.2.symm⟩))))
        go_wp2
        go_ret
        exact ⟨ret_bool (HF.out.symm.trans HV.out), HBW.out.trans ⟨rfl, rfl, rfl, Nat.le_refl _, fun _ _ => rfl⟩⟩
       ·have t4 : Op.bytesLess key.toList qk.toList = true := hM
        go_wp2_with fail
        go_quiet (first | (go_at_call 141; exact Calls.quiet_of_same ((HK1.out _).mono (fun e wq kk => ⟨kk.1, kk.2.symm⟩))) | (go_at_call 142; exact Calls.quiet_of_same ((HK2.out _).mono (fun e wq kk => ⟨kk.1, kk.2.symm⟩))))
        go_wp2
        go_ret
        exact ⟨ret_bool (HF.out.symm.trans HV.out), HBW.out.trans ⟨rfl, rfl, rfl, Nat.le_refl _, fun _ _ => rfl⟩⟩
      ·have t4 : Op.bytesLess key.toList qk.toList = false := lt_asymm hL
       have t5 : (key.toList == qk.toList) = false := by
        rw [beq_eq_false_iff_ne]
        intro e
        exact lt_ne hL (text_ext e).symm
       have HT : Hid (dataB none (l.take (k + 1)) = true) := by
        show _ = _
        rw [HST.out]
        simp only
        rw [hA.out, hL, HOK.out]
        rfl
       go_wp2_with fail
       go_quiet (first | (go_at_call 141; exact Calls.quiet_of_same ((HK1.out _).mono (fun e wq kk => ⟨kk.1, kk.2.symm⟩))) | (go_at_call 142; exact Calls.quiet_of_same ((HK2.out _).mono (fun e wq kk => ⟨kk.1, kk.2.symm⟩))))
       go_wp2
       go_roundw
       case rel => exact ⟨k + 1, hlt, by go_num, HT.out, HBW.out.trans ⟨rfl, rfl, rfl, Nat.le_refl _, fun _ _ => rfl⟩⟩
       case measure => simp [RowKit.intOf]; omega
     ·have h0I : ¬ (0 : Int) < (k : Int) := by omega
      have h0d : decide ((0 : Int) < (k : Int)) = false := decide_eq_false h0I
      obtain rfl : k = 0 := by omega
      have HT : Hid (dataB none (l.take (0 + 1)) = true) := by
       show _ = _
       rw [HST.out, List.take_zero, if_pos rfl, HOK.out]
       rfl
      clear HQ
      simp only [Nat.zero_mul, Nat.add_zero] at c0 c1
      go_wp2_with fail
      go_quiet (first | (go_at_call 141; exact Calls.quiet_of_same ((HK1.out _).mono (fun e wq kk => ⟨kk.1, kk.2.symm⟩))) | (go_at_call 142; exact Calls.quiet_of_same ((HK2.out _).mono (fun e wq kk => ⟨kk.1, kk.2.symm⟩))))
      go_wp2
      go_roundw
      case rel => exact ⟨0 + 1, hlt, by go_num, HT.out, HBW.out.trans ⟨rfl, rfl, rfl, Nat.le_refl _, fun _ _ => rfl⟩⟩
      case measure => simp [RowKit.intOf]; omega
  ·have HF : Hid (dataB none l = true) := by
    have h := HNO.out
    rw [List.take_of_length_le (by omega)] at h
    exact h
   have hge : ¬ (k : Int) < (l.length : Int) := by omega
   have hdkl : decide ((k : Int) < (l.length : Int)) = false := decide_eq_false hge
   have hdn : decide (k < l.length) = false := decide_eq_false hlt
   clear hno hb
   go_wp2
   go_ret
   exact ⟨ret_bool (HF.out.symm.trans HV.out), HBW.out⟩
theorem rwritesw_any (va : Value) (l : List Wrt) (w : World) (hl : l.length ≤ 9223372036854775807) (hn64 : ∀ p ∈ l, p.2.1 < 18446744073709551616) (ha : SlG eW w va l) :
  Calls Tryz.prog 61 #[va] w fun e w' => e = .returned (.bool (writesB none l)) ∧ Below w.heap.size w w' := by
 obtain ⟨aa, ca, rfl⟩ := ha.form
 have HA := hI ha
 clear ha
 have HN := hI hn64
 clear hn64
 generalize hv : writesB none l = v
 have HV := hI hv
 clear hv
 go_enter Tryz.func61, Tryz.ntmps61
 go_wp2
 go_loopw [3] (fun i wr => ∃ k : Nat, k ≤ l.length ∧ i = .int .i64 k ∧ writesB none (l.take k) = true ∧ Below w.heap.size w wr) (fun i _ => l.length - (RowKit.intOf i).toNat)
 case atStart => exact ⟨0, Nat.zero_le _, rfl, by first | rfl | trivial, Below.refl _ _⟩
 case round =>
  obtain ⟨k, hk, rfl, hno, hb⟩ := hrel
  have HNO := hI hno
  have HBW := hI hb
  by_cases hlt : k < l.length
  ·obtain ⟨⟨key, nm, gn⟩, hp⟩ := at_lt hlt
   have hn64 : nm < 18446744073709551616 := HN.out _ (List.mem_of_getElem? hp)
   have HN64 := hI hn64
   clear hn64
   have HAr := hI (HA.out.later hb)
   have HST := hI (writesB_step hp hno)
   have HQ : Hid (0 < k → ∃ q, l[k - 1]? = some q ∧ lastW (l.take k) = some q.1 ∧ ∃ g o, aa = some ⟨g, o, none⟩ ∧ wr.cell? ⟨g, o + (k - 1) * 3, none⟩ = some (.string q.1)) := by
    intro h0
    obtain ⟨q, hq⟩ := at_lt (l := l) (k := k - 1) (by omega)
    obtain ⟨g, o, h1, _, h2, _⟩ := wrs_at HAr.out hq
    refine ⟨q, hq, ?_, g, o, h1, h2⟩
    have := lastW_take hq
    rwa [show k - 1 + 1 = k by omega] at this
   obtain ⟨g, o, rfl, hg, c0, c1, c2⟩ := wrs_at HAr.out hp
   simp only at c0 c1 c2
   have hk0 : (0 : Int) ≤ (k : Int) := by omega
   have hkl : (k : Int) < (l.length : Int) := by omega
   have hdkl : decide ((k : Int) < (l.length : Int)) = true := decide_eq_true hkl
   clear hp hno hb HAr
   cases hk1 : keyB key
   ·have HK1 := hI (fun W : World => (S3.refkey_any key W))
    rw [hk1] at HK1
    have HF : Hid (writesB none l = false) := writesB_bad (k + 1) (by rw [HST.out]; unfold wOk; simp [hk1])
    clear HQ
    go_wp2_with fail
    go_quiet (first | (go_at_call 141; exact Calls.quiet_of_same ((HK1.out _).mono (fun e wq kk => ⟨kk.1, kk.2.symm⟩))))
    go_wp2
    go_ret
    exact ⟨ret_bool (HF.out.symm.trans HV.out), HBW.out.trans ⟨rfl, rfl, rfl, Nat.le_refl _, fun _ _ => rfl⟩⟩
   ·have HK1 := hI (fun W : World => (S3.refkey_any key W))
    rw [hk1] at HK1
    by_cases hr : SN.rtN nm = nm
    rotate_left
    ·have hn : decide (SN.chN nm = 0) = false := by unfold SN.chN; rw [if_neg hr]; rfl
     have HK2 := hI (fun W : World => (SN.ris_any nm HN64.out W))
     rw [hn] at HK2
     clear hn
     have HF : Hid (writesB none l = false) := writesB_bad (k + 1) (by rw [HST.out]; unfold wOk; simp [hr])
     clear HQ
     go_wp2_with fail
     go_quiet (first | (go_at_call 141; exact Calls.quiet_of_same ((HK1.out _).mono (fun e wq kk => ⟨kk.1, kk.2.symm⟩))) | (go_at_call 142; exact Calls.quiet_of_same ((HK2.out _).mono (fun e wq kk => ⟨kk.1, kk.2.symm⟩))))
     go_wp2
     go_ret
     exact ⟨ret_bool (HF.out.symm.trans HV.out), HBW.out.trans ⟨rfl, rfl, rfl, Nat.le_refl _, fun _ _ => rfl⟩⟩
    ·have hn : decide (SN.chN nm = 0) = true := by unfold SN.chN; rw [if_pos hr]; rfl
     have HK2 := hI (fun W : World => (SN.ris_any nm HN64.out W))
     rw [hn] at HK2
     clear hn
     cases gn
     ·have HOK : Hid (wOk (key, nm, false) = true) := by show _ = _; unfold wOk; simp [hk1, hr]
      by_cases h0 : 0 < k
      ·obtain ⟨⟨qk, qr⟩, hq, hlast, g2, o2, e2, cq⟩ := HQ.out h0
       cases e2
       simp only at cq hlast
       have h0I : (0 : Int) < (k : Int) := by omega
       have h0d : decide ((0 : Int) < (k : Int)) = true := decide_eq_true h0I
       have hm1 : wrap64 ((k : Int) - 1) = ((k - 1 : Nat) : Int) := by unfold wrap64; omega
       have hm0 : IntKind.i64.wrap ((k : Int) - 1) = ((k - 1 : Nat) : Int) := by rw [IntKind.wrap_i64]; omega
       have hm2 : (0 : Int) ≤ ((k - 1 : Nat) : Int) := by omega
       have hm3 : ((k - 1 : Nat) : Int) < (l.length : Int) := by omega
       have hA : Hid (aheadB (if l.take k = [] then none else lastW (l.take k)) key = ltT qk key) := by
        show _ = _
        rw [hlast, if_neg]
        ·rfl
        ·intro e
         have := congrArg List.length e
         rw [List.length_take, List.length_nil] at this
         omega
       clear HQ hlast hq
       cases hL : ltT qk key
       ·have HF : Hid (writesB none l = false) := writesB_bad (k + 1) (by rw [HST.out]; simp only; rw [hA.out, hL, Bool.and_false])
        cases hM : ltT key qk
        ·have t4 : Op.bytesLess key.toList qk.toList = false := hM
         have t5 : (key.toList == qk.toList) = true := by rw [lt_total hM hL]; exact beq_self_eq_true _
         go_wp2_with fail
         go_quiet (first | (go_at_call 141; exact Calls.quiet_of_same ((HK1.out _).mono (fun e wq kk => ⟨kk.1, kk.2.symm⟩))) | (go_at_call 142; exact Calls.quiet_of_same ((HK2.out _).mono (fun e wq kk => ⟨kk.1, kk.2.symm⟩))))
         go_wp2
         go_ret
         exact ⟨ret_bool (HF.out.symm.trans HV.out), HBW.out.trans ⟨rfl, rfl, rfl, Nat.le_refl _, fun _ _ => rfl⟩⟩
        ·have t4 : Op.bytesLess key.toList qk.toList = true := hM
         go_wp2_with fail
         go_quiet (first | (go_at_call 141; exact Calls.quiet_of_same ((HK1.out _).mono (fun e wq kk => ⟨kk.1, kk.2.symm⟩))) | (go_at_call 142; exact Calls.quiet_of_same ((HK2.out _).mono (fun e wq kk => ⟨kk.1, kk.2.symm⟩))))
         go_wp2
         go_ret
         exact ⟨ret_bool (HF.out.symm.trans HV.out), HBW.out.trans ⟨rfl, rfl, rfl, Nat.le_refl _, fun _ _ => rfl⟩⟩
       ·have t4 : Op.bytesLess key.toList qk.toList = false := lt_asymm hL
        have t5 : (key.toList == qk.toList) = false := by
         rw [beq_eq_false_iff_ne]
         intro e
         exact lt_ne hL (text_ext e).symm
        have HT : Hid (writesB none (l.take (k + 1)) = true) := by
         show _ = _
         rw [HST.out]
         simp only
         rw [hA.out, hL, HOK.out]
         rfl
        go_wp2_with fail
        go_quiet (first | (go_at_call 141; exact Calls.quiet_of_same ((HK1.out _).mono (fun e wq kk => ⟨kk.1, kk.2.symm⟩))) | (go_at_call 142; exact Calls.quiet_of_same ((HK2.out _).mono (fun e wq kk => ⟨kk.1, kk.2.symm⟩))))
        go_wp2
        go_roundw
        case rel => exact ⟨k + 1, hlt, by go_num, HT.out, HBW.out.trans ⟨rfl, rfl, rfl, Nat.le_refl _, fun _ _ => rfl⟩⟩
        case measure => simp [RowKit.intOf]; omega
      ·have h0I : ¬ (0 : Int) < (k : Int) := by omega
       have h0d : decide ((0 : Int) < (k : Int)) = false := decide_eq_false h0I
       obtain rfl : k = 0 := by omega
       have HT : Hid (writesB none (l.take (0 + 1)) = true) := by
        show _ = _
        rw [HST.out, List.take_zero, if_pos rfl, HOK.out]
        rfl
       clear HQ
       simp only [Nat.zero_mul, Nat.add_zero] at c0 c1 c2
       go_wp2_with fail
       go_quiet (first | (go_at_call 141; exact Calls.quiet_of_same ((HK1.out _).mono (fun e wq kk => ⟨kk.1, kk.2.symm⟩))) | (go_at_call 142; exact Calls.quiet_of_same ((HK2.out _).mono (fun e wq kk => ⟨kk.1, kk.2.symm⟩))))
       go_wp2
       go_roundw
       case rel => exact ⟨0 + 1, hlt, by go_num, HT.out, HBW.out.trans ⟨rfl, rfl, rfl, Nat.le_refl _, fun _ _ => rfl⟩⟩
       case measure => simp [RowKit.intOf]; omega
     ·by_cases hz : nm = 0
      ·subst hz
       have HOK : Hid (wOk (key, 0, true) = true) := by show _ = _; unfold wOk; simp [hk1, hr]
       by_cases h0 : 0 < k
       ·obtain ⟨⟨qk, qr⟩, hq, hlast, g2, o2, e2, cq⟩ := HQ.out h0
        cases e2
        simp only at cq hlast
        have h0I : (0 : Int) < (k : Int) := by omega
        have h0d : decide ((0 : Int) < (k : Int)) = true := decide_eq_true h0I
        have hm1 : wrap64 ((k : Int) - 1) = ((k - 1 : Nat) : Int) := by unfold wrap64; omega
        have hm0 : IntKind.i64.wrap ((k : Int) - 1) = ((k - 1 : Nat) : Int) := by rw [IntKind.wrap_i64]; omega
        have hm2 : (0 : Int) ≤ ((k - 1 : Nat) : Int) := by omega
        have hm3 : ((k - 1 : Nat) : Int) < (l.length : Int) := by omega
        have hA : Hid (aheadB (if l.take k = [] then none else lastW (l.take k)) key = ltT qk key) := by
         show _ = _
         rw [hlast, if_neg]
         ·rfl
         ·intro e
          have := congrArg List.length e
          rw [List.length_take, List.length_nil] at this
          omega
        clear HQ hlast hq
        cases hL : ltT qk key
        ·have HF : Hid (writesB none l = false) := writesB_bad (k + 1) (by rw [HST.out]; simp only; rw [hA.out, hL, Bool.and_false])
         cases hM : ltT key qk
         ·have t4 : Op.bytesLess key.toList qk.toList = false := hM
          have t5 : (key.toList == qk.toList) = true := by rw [lt_total hM hL]; exact beq_self_eq_true _
          go_wp2_with fail
          go_quiet (first | (go_at_call 141; exact Calls.quiet_of_same ((HK1.out _).mono (fun e wq kk => ⟨kk.1, kk.2.symm⟩))) | (go_at_call 142; exact Calls.quiet_of_same ((HK2.out _).mono (fun e wq kk => ⟨kk.1, kk.2.symm⟩))))
          go_wp2
          go_ret
          exact ⟨ret_bool (HF.out.symm.trans HV.out), HBW.out.trans ⟨rfl, rfl, rfl, Nat.le_refl _, fun _ _ => rfl⟩⟩
         ·have t4 : Op.bytesLess key.toList qk.toList = true := hM
          go_wp2_with fail
          go_quiet (first | (go_at_call 141; exact Calls.quiet_of_same ((HK1.out _).mono (fun e wq kk => ⟨kk.1, kk.2.symm⟩))) | (go_at_call 142; exact Calls.quiet_of_same ((HK2.out _).mono (fun e wq kk => ⟨kk.1, kk.2.symm⟩))))
          go_wp2
          go_ret
          exact ⟨ret_bool (HF.out.symm.trans HV.out), HBW.out.trans ⟨rfl, rfl, rfl, Nat.le_refl _, fun _ _ => rfl⟩⟩
        ·have t4 : Op.bytesLess key.toList qk.toList = false := lt_asymm hL
         have t5 : (key.toList == qk.toList) = false := by
          rw [beq_eq_false_iff_ne]
          intro e
          exact lt_ne hL (text_ext e).symm
         have HT : Hid (writesB none (l.take (k + 1)) = true) := by
          show _ = _
          rw [HST.out]
          simp only
          rw [hA.out, hL, HOK.out]
          rfl
         go_wp2_with fail
         go_quiet (first | (go_at_call 141; exact Calls.quiet_of_same ((HK1.out _).mono (fun e wq kk => ⟨kk.1, kk.2.symm⟩))) | (go_at_call 142; exact Calls.quiet_of_same ((HK2.out _).mono (fun e wq kk => ⟨kk.1, kk.2.symm⟩))))
         go_wp2
         go_roundw
         case rel => exact ⟨k + 1, hlt, by go_num, HT.out, HBW.out.trans ⟨rfl, rfl, rfl, Nat.le_refl _, fun _ _ => rfl⟩⟩
         case measure => simp [RowKit.intOf]; omega
       ·have h0I : ¬ (0 : Int) < (k : Int) := by omega
        have h0d : decide ((0 : Int) < (k : Int)) = false := decide_eq_false h0I
        obtain rfl : k = 0 := by omega
        have HT : Hid (writesB none (l.take (0 + 1)) = true) := by
         show _ = _
         rw [HST.out, List.take_zero, if_pos rfl, HOK.out]
         rfl
        clear HQ
        simp only [Nat.zero_mul, Nat.add_zero] at c0 c1 c2
        go_wp2_with fail
        go_quiet (first | (go_at_call 141; exact Calls.quiet_of_same ((HK1.out _).mono (fun e wq kk => ⟨kk.1, kk.2.symm⟩))) | (go_at_call 142; exact Calls.quiet_of_same ((HK2.out _).mono (fun e wq kk => ⟨kk.1, kk.2.symm⟩))))
        go_wp2
        go_roundw
        case rel => exact ⟨0 + 1, hlt, by go_num, HT.out, HBW.out.trans ⟨rfl, rfl, rfl, Nat.le_refl _, fun _ _ => rfl⟩⟩
        case measure => simp [RowKit.intOf]; omega
      ·have hzI : ((nm : Int) == 0) = false := by simpa using hz
       have hzN : ((nm : Int) != 0) = true := by simpa using hz
       have hz2 : ¬ (nm : Int) = 0 := by omega
       have HF : Hid (writesB none l = false) := writesB_bad (k + 1) (by rw [HST.out]; unfold wOk; simp [hz])
       clear HQ
       go_wp2_with fail
       go_quiet (first | (go_at_call 141; exact Calls.quiet_of_same ((HK1.out _).mono (fun e wq kk => ⟨kk.1, kk.2.symm⟩))) | (go_at_call 142; exact Calls.quiet_of_same ((HK2.out _).mono (fun e wq kk => ⟨kk.1, kk.2.symm⟩))))
       go_wp2
       go_ret
       exact ⟨ret_bool (HF.out.symm.trans HV.out), HBW.out.trans ⟨rfl, rfl, rfl, Nat.le_refl _, fun _ _ => rfl⟩⟩
  ·have HF : Hid (writesB none l = true) := by
    have h := HNO.out
    rw [List.take_of_length_le (by omega)] at h
    exact h
   have hge : ¬ (k : Int) < (l.length : Int) := by omega
   have hdkl : decide ((k : Int) < (l.length : Int)) = false := decide_eq_false hge
   have hdn : decide (k < l.length) = false := decide_eq_false hlt
   clear hno hb
   go_wp2
   go_ret
   exact ⟨ret_bool (HF.out.symm.trans HV.out), HBW.out⟩
theorem rvalue9w_any (v : Vlu) (a : Option Addr) (cp : Nat) (F : List SD.Dp) (W : World) (hlen : F.length ≤ 9223372036854775807) (hid : ∀ s ∈ F, s.ids.length ≤ 140737488355328) (hD : SD.Dl W a F) (hT : SD.toD F = v.2.2) : Calls Tryz.prog 60 #[vlV v (.slice a F.length cp)] W fun e w' => e = .returned (.bool (valueB v)) ∧ Below W.heap.size W w' := by
 obtain ⟨gone, ⟨x, y⟩, d⟩ := v
 simp only at hT
 have HF := hI (And.intro hlen hid)
 have HD := hI hD
 have HT := hI hT
 have hln : F.length = d.length := by rw [← hT]; simp [SD.toD]
 have HLN := hI hln
 clear hD hT hlen hid hln
 unfold vlV
 simp only
 have HC := hI (cell_box W #[.bool gone, .int .i64 x, .int .i64 y, .slice a F.length cp] 27)
 cases gone
 ·cases hs : S1.isS (x, y)
  ·have hv : valueB (false, (x, y), d) = false := by unfold valueB; simp [hs]
   rw [hv]
   go_enter Tryz.func60, Tryz.ntmps60
   go_wp2_with (first | (go_at_call 24; go_must (refine (S1.is_any x y _).mono ?_; rw [hs]; rintro e w1 ⟨rfl, h6⟩; have h5 := below_grow (Below.refl _ _) h6; have c3 := HC.out _ h5 3 _ rfl; have hw1 := h5.size; simp only [World.size_alloc] at hw1; have HB1 : Hid (Below W.heap.size W w1) := hI (blThen (blAlloc (Below.refl _ _) _) h5); clear h5 h6)))
   go_ret
   exact ⟨rfl, HB1.out⟩
  ·by_cases hk : SD.checkD d = 0
   ·have hv : valueB (false, (x, y), d) = true := by unfold valueB; simp [hs, hk]
    rw [hv]
    go_enter Tryz.func60, Tryz.ntmps60
    go_wp2_with (first | (go_at_call 24; go_must (refine (S1.is_any x y _).mono ?_; rw [hs]; rintro e w1 ⟨rfl, h6⟩; have h5 := below_grow (Below.refl _ _) h6; have c3 := HC.out _ h5 3 _ rfl; have hw1 := h5.size; simp only [World.size_alloc] at hw1; have HB1 : Hid (Below W.heap.size W w1) := hI (blThen (blAlloc (Below.refl _ _) _) h5); clear h5 h6)) | (go_at_call 58; go_must (refine (refcheckw_any a cp F _ HF.out.1 HF.out.2 (HD.out.later HB1.out)).mono ?_; rintro e w2 ⟨rfl, h7⟩; rw [HT.out, hk]; have HB2 : Hid (Below W.heap.size W w2) := hI (blThen HB1.out h7); clear h7)))
    go_ret
    exact ⟨rfl, HB2.out⟩
   ·have hv : valueB (false, (x, y), d) = false := by unfold valueB; simp [hs, hk]
    have hk2 : (SD.checkD d == 0) = false := by simpa using hk
    rw [hv]
    go_enter Tryz.func60, Tryz.ntmps60
    go_wp2_with (first | (go_at_call 24; go_must (refine (S1.is_any x y _).mono ?_; rw [hs]; rintro e w1 ⟨rfl, h6⟩; have h5 := below_grow (Below.refl _ _) h6; have c3 := HC.out _ h5 3 _ rfl; have hw1 := h5.size; simp only [World.size_alloc] at hw1; have HB1 : Hid (Below W.heap.size W w1) := hI (blThen (blAlloc (Below.refl _ _) _) h5); clear h5 h6)) | (go_at_call 58; go_must (refine (refcheckw_any a cp F _ HF.out.1 HF.out.2 (HD.out.later HB1.out)).mono ?_; rintro e w2 ⟨rfl, h7⟩; rw [HT.out]; have HB2 : Hid (Below W.heap.size W w2) := hI (blThen HB1.out h7); clear h7)))
    go_ret
    exact ⟨rfl, HB2.out⟩
 ·cases hz : decide ((x, y) = z2)
  ·have hv : valueB (true, (x, y), d) = false := by unfold valueB; simp [hz]
   rw [hv]
   go_enter Tryz.func60, Tryz.ntmps60
   go_wp2_with (first | (go_at_call 57; go_must (refine (rzero_any (x, y) _).mono ?_; rw [hz]; rintro e w1 ⟨rfl, h5⟩; have c3 := HC.out _ h5 3 _ rfl; have hw1 := h5.size; simp only [World.size_alloc] at hw1; have HB1 : Hid (Below W.heap.size W w1) := hI (blThen (blAlloc (Below.refl _ _) _) h5); clear h5)))
   go_ret
   exact ⟨rfl, HB1.out⟩
  ·by_cases hd0 : d = []
   ·have hv : valueB (true, (x, y), d) = true := by unfold valueB; simp [hz, hd0]
    rw [hv]
    have hl0 : F.length = 0 := by rw [HLN.out, hd0]; rfl
    rw [hl0]
    rw [hl0] at HC
    clear hl0
    go_enter Tryz.func60, Tryz.ntmps60
    go_wp2_with (first | (go_at_call 57; go_must (refine (rzero_any (x, y) _).mono ?_; rw [hz]; rintro e w1 ⟨rfl, h5⟩; have c3 := HC.out _ h5 3 _ rfl; have hw1 := h5.size; simp only [World.size_alloc] at hw1; have HB1 : Hid (Below W.heap.size W w1) := hI (blThen (blAlloc (Below.refl _ _) _) h5); clear h5)))
    go_ret
    exact ⟨rfl, HB1.out⟩
   ·have hv : valueB (true, (x, y), d) = false := by unfold valueB; simp [hz, hd0]
    rw [hv]
    have hl0 : ¬ F.length = 0 := by rw [HLN.out]; exact fun e => hd0 (List.eq_nil_of_length_eq_zero e)
    have hl1 : ((F.length : Int) == 0) = false := by simpa using hl0
    have hl2 : ¬ (F.length : Int) = 0 := by omega
    generalize F.length = nF at *
    go_enter Tryz.func60, Tryz.ntmps60
    go_wp2_with (first | (go_at_call 57; go_must (refine (rzero_any (x, y) _).mono ?_; rw [hz]; rintro e w1 ⟨rfl, h5⟩; have c3 := HC.out _ h5 3 _ rfl; have hw1 := h5.size; simp only [World.size_alloc] at hw1; have HB1 : Hid (Below W.heap.size W w1) := hI (blThen (blAlloc (Below.refl _ _) _) h5); clear h5)))
    go_ret
    exact ⟨rfl, HB1.out⟩

theorem cellsVl9 : Tryz.prog.cellsOf 27 = 4 := by kernel_rfl
theorem cellsSt9 : Tryz.prog.cellsOf 23 = 2 := by kernel_rfl
theorem cellsB9 : Tryz.prog.cellsOf 4 = 1 := by kernel_rfl
theorem cellsI9 : Tryz.prog.cellsOf 3 = 1 := by kernel_rfl
theorem cellsL9 : Tryz.prog.cellsOf 2 = 1 := by kernel_rfl
theorem cellsD9 : Tryz.prog.cellsOf 25 = 1 := by kernel_rfl
section
variable {H : Type} {enc : TypeId × Value → H}
theorem stamp_cells9 {w : World} {c0 c1 : Value} {fuel : Nat} {x : DataW H × List MemPlace} (hf : DataW.trod enc Tryz.prog w 0 (fun _ => true) true fuel 23 [c0, c1] = some x) :
  ∃ t n : Int, c0 = .int .i64 t ∧ c1 = .int .i64 n ∧ (Lit.int .i64 t).wf = true ∧ (Lit.int .i64 n).wf = true := by
 obtain ⟨y0, y1, k, hfs, _, h0, h1⟩ := trod_struct2 Tryz.underlying23 hf
 have e0 : DataW.trod enc Tryz.prog w 0 (fun _ => true) true k 2 [c0] = some y0 := by simpa [cellsL9] using h0
 have e1 : DataW.trod enc Tryz.prog w 0 (fun _ => true) true k 3 [c1] = some y1 := by simpa [cellsI9] using h1
 obtain ⟨t, ht, _, wt⟩ := DataW.trod_int Tryz.underlying2 e0
 obtain ⟨n, hn, _, wn⟩ := DataW.trod_int Tryz.underlying3 e1
 simp only [List.cons.injEq, and_true] at ht hn
 exact ⟨t, n, ht, hn, wt, wn⟩
theorem value_cells9 {w : World} {c0 c1 c2 c3 : Value} {fuel : Nat} {x : DataW H × List MemPlace} (hf : DataW.trod enc Tryz.prog w 0 (fun _ => true) true fuel 27 [c0, c1, c2, c3] = some x) :
  ∃ (g : Bool) (t n : Int) (a : Option Addr) (F : List SD.Dp) (cap : Nat), c0 = .bool g ∧ c1 = .int .i64 t ∧ c2 = .int .i64 n ∧ c3 = .slice a F.length cap ∧ SD.Dl w a F ∧ F.length ≤ 9223372036854775807 ∧ (a = none → cap = 0) ∧ SD.WfD F ∧ (Lit.int .i64 t).wf = true ∧ (Lit.int .i64 n).wf = true ∧ ∀ s ∈ F, s.ids.length = 0 ∨ ∃ n ∈ x.1.weights Tryz.prog 27, s.ids.length ≤ n := by
 obtain ⟨y0, y1, y2, k, hfs, _, h0, h1, h2⟩ := trod_struct3 Tryz.underlying27 hf
 have e0 : DataW.trod enc Tryz.prog w 0 (fun _ => true) true k 4 [c0] = some y0 := by simpa [cellsB9] using h0
 have e1 : DataW.trod enc Tryz.prog w 0 (fun _ => true) true k 23 [c1, c2] = some y1 := by simpa [cellsSt9] using h1
 have e2 : DataW.trod enc Tryz.prog w 0 (fun _ => true) true k 25 [c3] = some y2 := by simpa [cellsD9] using h2
 obtain ⟨g, hg, _⟩ := DataW.trod_bool Tryz.underlying4 e0
 obtain ⟨t, n, ht, hn, wt, wn⟩ := stamp_cells9 e1
 obtain ⟨a, F, cap, hc, hd, hl, hz, _, hw, _, hr⟩ := SD.deps_cells e2
 simp only [List.cons.injEq, and_true] at hg hc
 refine ⟨g, t, n, a, F, cap, hg, ht, hn, hc, hd, hl, hz, hw, wt, wn, fun s hs => ?_⟩
 rcases hr s hs with h | ⟨m, hm, h⟩
 ·exact .inl h
 ·refine .inr ⟨m, ?_, h⟩
  have hD : x.1 = .agg [y0.1, y1.1, y2.1] := congrArg Prod.fst hfs
  rw [hD]
  simp only [DataW.weights, Tryz.underlying27]
  exact List.mem_append_right _ (List.mem_append_right _ (List.mem_append_left _ hm))
end
end SC
end Go.Proofs.YtgipkikedacmdaaGreat
